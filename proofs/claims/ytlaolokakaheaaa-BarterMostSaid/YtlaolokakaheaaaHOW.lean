/-
  holds of package barter: does a price hold for an exchange? The land and the exchange must lie in memory as told.
-/
import Derived.Test.YtlaolokakaheaaaALW
import Derived.BigQuiet
namespace Go.Proofs.Ytlaolokakaheaaa
open Go.RowKit
attribute [local go_sem] Oper.semAt_some


/-- What holds asks of a stretch that is free. -/
def holdB (L : List St) (W : Nat) (P : List Nat) (p q : Nat) (i : Nat) : Bool := !((decide ((at' L i).s * q < (at' L i).n * p) && decide (pt P i < W)) || (decide ((at' L i).n * p < (at' L i).s * q) && decide (0 < pt P i)))
theorem holds_free (L : List St) (W : Nat) (P : List Nat) (p q : Nat) : holdsF L W P p q = ((freeF L).all (holdB L W P p q) && allowsF L W P) := rfl
theorem blk_four {w : World} {g : Nat} {a b c d : Value} {T : TypeId} (h : w.heap[g]? = some (.cells #[a, b, c, d] T (0, 0))) : w.cell? ⟨g, 0, none⟩ = some a ∧ w.cell? ⟨g, 1, none⟩ = some b ∧ w.cell? ⟨g, 2, none⟩ = some c ∧ w.cell? ⟨g, 3, none⟩ = some d :=
  ⟨cell_at h 0, cell_at h 1, cell_at h 2, cell_at h 3⟩

set_option maxRecDepth 100000 in
set_option maxHeartbeats 4000000 in
theorem holds_any (x : Ld) (W pn ps : Nat) (a : Option Addr) (c : Nat) (l : List Nat) (w : World) (h : StL w x.s) (hb : Wb x.s.l) (hp : IsSl 1 num w ⟨a, c, l⟩) (hl : l.length = x.s.l.length) (hW : W ≤ 2000) (hle : ∀ i, i < l.length → pt l i ≤ W) (hpn : pn ≤ 2000) (hps : ps ≤ 2000) :
    Calls Try.prog 35 #[x.val, .agg #[.int .i64 (W : Int), .slice a l.length c], .agg #[.int .i64 (pn : Int), .int .i64 (ps : Int)]] w fun e w' => e = .returned (.bool (holdsF x.s.l W l pn ps)) ∧ Ext w w' := by
  have HFr := Lib.hid (fun (V : World) => free_any x V)
  have HAl := Lib.hid (fun (V : World) (k : Ext w V) => allows_any x W a c l V (h.ext k) (hp.ext k) hl hW hle)
  have HGi := Lib.hid (fun (V : World) (pb ib : Nat) (M : Nat → Prop) (k : Ext w V) (hw : IsWhich V x (.func (.func 65) #[x.val] #[]) pb ib) (hd : InB M x.s) (hM : M ib) => free_gives hw (h.ext k) hd hM)
  have HAw := Lib.hid (holds_free x.s.l W l pn ps)
  have HIn : Hid (InB (fun k => k < w.heap.size) x.s) := fun g off ha h0 => by
    obtain ⟨b, off', hb, c0, -⟩ := h.cells h0
    rw [ha] at hb; cases hb; exact lt_of_cell c0
  have HS := Lib.hid h
  have HP := Lib.hid hp
  have HLn := Lib.hid hl
  have HB := Lib.hid hb
  clear h hp hle hl hb
  obtain ⟨⟨sa, sc, L⟩, ⟨va, vc, vl⟩⟩ := x
  dsimp only at HFr HAl HGi HAw HIn HS HLn HB ⊢
  rw [HAw.out]
  clear HAw
  generalize allowsF L W l = al at *
  refine callsIn_wide.1 (callsIn_of_wp_marks (n := 3) Try.func35 rfl trivial ?_ rfl)
  simp only [Try.ntmps35, List.size_toArray, List.length_cons, List.length_nil, Nat.reduceAdd, Nat.reduceSub, Array.replicate_succ, Array.replicate_zero, List.push_toArray, List.append_toArray, List.nil_append, List.cons_append]
  refine wpIn_wide.2 ?_
  have HX0 : Hid (Ext w ((((w.alloc (.cells #[.slice sa L.length sc, .slice va vl.length vc] 26)).alloc (.cells #[.int .i64 (W : Int), .slice a l.length c] 31)).alloc (.cells #[.int .i64 (pn : Int), .int .i64 (ps : Int)] 68)).alloc (.cells #[.bool false] 4))) := ((((Ext.refl w).alloc _).alloc _).alloc _).alloc _
  have HL0 : Hid (((((w.alloc (.cells #[.slice sa L.length sc, .slice va vl.length vc] 26)).alloc (.cells #[.int .i64 (W : Int), .slice a l.length c] 31)).alloc (.cells #[.int .i64 (pn : Int), .int .i64 (ps : Int)] 68)).alloc (.cells #[.bool false] 4)).heap[w.heap.size]? = some (.cells #[.slice sa L.length sc, .slice va vl.length vc] 26 (0, 0))) := by
    refine (alloc_old ?_).trans ((alloc_old ?_).trans ((alloc_old ?_).trans (alloc_new ?_))) <;> simp only [World.size_alloc] <;> omega
  have HE0 : Hid (((((w.alloc (.cells #[.slice sa L.length sc, .slice va vl.length vc] 26)).alloc (.cells #[.int .i64 (W : Int), .slice a l.length c] 31)).alloc (.cells #[.int .i64 (pn : Int), .int .i64 (ps : Int)] 68)).alloc (.cells #[.bool false] 4)).heap[w.heap.size + 1]? = some (.cells #[.int .i64 (W : Int), .slice a l.length c] 31 (0, 0))) := by
    refine (alloc_old ?_).trans ((alloc_old ?_).trans (alloc_new ?_)) <;> simp only [World.size_alloc] <;> omega
  have HQ0 : Hid (((((w.alloc (.cells #[.slice sa L.length sc, .slice va vl.length vc] 26)).alloc (.cells #[.int .i64 (W : Int), .slice a l.length c] 31)).alloc (.cells #[.int .i64 (pn : Int), .int .i64 (ps : Int)] 68)).alloc (.cells #[.bool false] 4)).heap[w.heap.size + 1 + 1]? = some (.cells #[.int .i64 (pn : Int), .int .i64 (ps : Int)] 68 (0, 0))) := by
    refine (alloc_old ?_).trans (alloc_new ?_) <;> simp only [World.size_alloc] <;> omega
  have HR0 : Hid (BBox ((((w.alloc (.cells #[.slice sa L.length sc, .slice va vl.length vc] 26)).alloc (.cells #[.int .i64 (W : Int), .slice a l.length c] 31)).alloc (.cells #[.int .i64 (pn : Int), .int .i64 (ps : Int)] 68)).alloc (.cells #[.bool false] 4)) (w.heap.size + 1 + 1 + 1) false) := alloc_new (by simp only [World.size_alloc])
  go_wp2_with fail
  generalize ((((w.alloc (.cells #[.slice sa L.length sc, .slice va vl.length vc] 26)).alloc (.cells #[.int .i64 (W : Int), .slice a l.length c] 31)).alloc (.cells #[.int .i64 (pn : Int), .int .i64 (ps : Int)] 68)).alloc (.cells #[.bool false] 4)) = V0 at *
  refine (HFr.out _).mono ?_
  rintro e w2 ⟨pb, ib, rfl, hpb, hib, hx2, hI⟩
  have HX2 : Hid (Ext w w2) := HX0.out.trans hx2
  have HE2 := Lib.hid (hx2.block HE0.out)
  have HL2 := Lib.hid (hx2.block HL0.out)
  have HQ2 := Lib.hid (hx2.block HQ0.out)
  have HR2 : Hid (BBox w2 (w.heap.size + 1 + 1 + 1) false) := HR0.out.ext hx2
  have hsr : w.heap.size + 1 + 1 + 1 < V0.heap.size := (Array.getElem?_eq_some_iff.1 HR0.out).1
  have HS2 : Hid (w.heap.size + 1 + 1 + 1 < w2.heap.size) := (Array.getElem?_eq_some_iff.1 HR2.out).1
  have HG := Lib.hid (HGi.out w2 pb ib (fun k => k ≠ w.heap.size + 1 + 1 + 1) HX2.out hI (fun g off ha h0 => by have : g < w.heap.size := HIn.out g off ha h0; omega) (by omega))
  clear hx2 hI hpb hib hsr HX0 HE0 HL0 HR0 HQ0 HGi HFr
  go_wp2_with fail
  refine (wpIn_wide (n := 3)).1 ?_
  refine wp_rangeFuncT (a₁ := ?a1) rfl enters_71 HG.out rfl
    (fun hi pre V => pre.all (holdB L W l pn ps) = true ∧ Keep (fun k => k < w2.heap.size) w2 V)
    (fun hi cd pre V => cd = .ret ∧ pre.all (holdB L W l pn ps) = false ∧ Keep (fun k => k < w2.heap.size ∧ k ≠ w.heap.size + 1 + 1 + 1) w2 V ∧ BBox V (w.heap.size + 1 + 1 + 1) false)
    ?_ ?_ ?_ ?assign ?body ?done ?stop
  case assign =>
    intro l s W K hK
    gi_wp2
    exact hK
  · intro hi s A B' hh h hk
    exact ⟨h.1, h.2.trans (hk.mono (fun k _ h => .inl h))⟩
  · intro cd hi s A B' hh h hk
    have := HS2.out
    exact ⟨h.1, h.2.1, h.2.2.1.trans (hk.mono (fun k _ h => .inl h.1)), hk.heap h.2.2.2 (.inl (by omega))⟩
  · intro hi hh
    exact ⟨by simp, Keep.refl _ _⟩
  case body =>
    rintro ly hi pre q V hh hhV ⟨hA, hKp⟩ hpre
    have hS2 := HS2.out
    have hq : q < L.length := (whichF_mem.1 (hpre.subset (List.mem_append_right _ (List.mem_singleton.2 rfl)))).1
    have hq2 : q < l.length := by have := HLn.out; omega
    have hXV : Ext w V := ext_keep HX2.out hKp (fun i hi => by have := HX2.out.size; omega)
    have HA := Lib.hid hA
    have HAl' : Hid (Ext V (V.alloc (.cells #[.int .i64 ((at' L q).o : Int), .int .i64 ((at' L q).n : Int), .int .i64 ((at' L q).s : Int), .int .i64 (at' L q).w] 41))) := (Ext.refl V).alloc _
    have HKp := Lib.hid (hKp.ext HAl'.out)
    have HKy : Hid (Keep (fun k => k ≠ w.heap.size + 1 + 1 + 1) V (V.alloc (.cells #[.int .i64 ((at' L q).o : Int), .int .i64 ((at' L q).n : Int), .int .i64 ((at' L q).s : Int), .int .i64 (at' L q).w] 41))) := Keep.of_ext HAl'.out
    have HXV : Hid (Ext w (V.alloc (.cells #[.int .i64 ((at' L q).o : Int), .int .i64 ((at' L q).n : Int), .int .i64 ((at' L q).s : Int), .int .i64 (at' L q).w] 41))) := hXV.trans HAl'.out
    have HNw : Hid ((V.alloc (.cells #[.int .i64 ((at' L q).o : Int), .int .i64 ((at' L q).n : Int), .int .i64 ((at' L q).s : Int), .int .i64 (at' L q).w] 41)).heap[V.heap.size]? = some (.cells #[.int .i64 ((at' L q).o : Int), .int .i64 ((at' L q).n : Int), .int .i64 ((at' L q).s : Int), .int .i64 (at' L q).w] 41 (0, 0))) := alloc_new rfl
    have HVs : Hid (w2.heap.size ≤ V.heap.size) := hKp.size
    obtain ⟨b, off, hba, c0, c1, c2, c3⟩ := (HS.out.ext hXV).cells hq
    dsimp only at hba c0 c1 c2 c3
    subst hba
    obtain ⟨l0, -, -, -⟩ := blk_two (hKp.heap HL2.out (by omega))
    have j1 : (0 : Int) ≤ (q : Int) := by omega
    have j2 : (q : Int) < (l.length : Int) := by omega
    have j3 : (q : Int) < (L.length : Int) := by omega
    have j4 := HS.out.le.1
    have j5 := HS.out.le.2
    dsimp only at j4 j5
    clear hA hKp hpre hXV
    gi_wp2_with fail
    clear c0 c1 c2 c3 l0
    generalize V.alloc (.cells #[.int .i64 ((at' L q).o : Int), .int .i64 ((at' L q).n : Int), .int .i64 ((at' L q).s : Int), .int .i64 (at' L q).w] 41) = V2 at *
    obtain ⟨y0, y1, y2, y3⟩ := blk_four HNw.out
    obtain ⟨pbk, po, rfl, cp⟩ := part_cell (HP.out.ext HXV.out) hq2
    obtain ⟨e0, e1, -, -⟩ := blk_two (HKp.out.heap HE2.out (by omega))
    obtain ⟨f0, f1, -, -⟩ := blk_two (HKp.out.heap HQ2.out (by omega))
    have hR2 : BBox V2 (w.heap.size + 1 + 1 + 1) false := HKp.out.heap HR2.out (by omega)
    have fr := hR2.frozen 0
    have cr := hR2.cell
    have HR2' := Lib.hid hR2
    have hn1 := HB.out.n q hq
    have hs1 := HB.out.s q hq
    have HKb : Hid (holdB L W l pn ps q = !((decide ((at' L q).s * ps < (at' L q).n * pn) && decide (pt l q < W)) || (decide ((at' L q).n * pn < (at' L q).s * ps) && decide (0 < pt l q)))) := rfl
    have hm1 : ((at' L q).n : Int) * (pn : Int) = (((at' L q).n * pn : Nat) : Int) := (Int.natCast_mul _ _).symm
    have hm2 : ((at' L q).s : Int) * (ps : Int) = (((at' L q).s * ps : Nat) : Int) := (Int.natCast_mul _ _).symm
    have hm3 : (at' L q).n * pn ≤ 2000000 := Nat.mul_le_mul hn1 hpn
    have hm4 : (at' L q).s * ps ≤ 2000000 := Nat.mul_le_mul hs1 hps
    have hw1 : IntKind.i64.wrap (((at' L q).n * pn : Nat) : Int) = (((at' L q).n * pn : Nat) : Int) := IntWalk.i64_in _ (by omega)
    have hw2 : IntKind.i64.wrap (((at' L q).s * ps : Nat) : Int) = (((at' L q).s * ps : Nat) : Int) := IntWalk.i64_in _ (by omega)
    clear hR2
    generalize (at' L q).n * pn = np at *
    generalize (at' L q).s * ps = sq at *
    generalize pt l q = p at *
    refine round_quiet (by kernel_rfl) (by kernel_rfl) (by kernel_rfl) ?_
    repeat (quiet_step (fail))
    refine wpQuiet_nil ?_
    intro _ hw'
    obtain ⟨nq, hw2'⟩ := hw'
    subst hw2'
    by_cases k1 : sq < np
    · by_cases k2 : p < W
      · -- more should be the North's
        have d1 : decide ((sq : Int) < (np : Int)) = true := decide_eq_true (by omega)
        have d2 : decide ((p : Int) < (W : Int)) = true := decide_eq_true (by omega)
        have dB : Hid ((pre ++ [q]).all (holdB L W l pn ps) = false) := by show _ = _; rw [List.all_append, HA.out]; simp only [List.all_cons, List.all_nil, Bool.and_true, Bool.true_and]; rw [HKb.out]; simp; omega
        gi_wp2_with fail
        refine round_quiet (by kernel_rfl) (by kernel_rfl) (by kernel_rfl) ?_
        repeat (go_big_quiet_step (fail))
        refine wpQuiet_nil ?_
        intro _ hw3
        obtain ⟨nq2, hw3⟩ := hw3
        subst hw3
        gi_wp2_with fail
        have hbb : BBox (V2.drewN (nq + nq2)) (w.heap.size + 1 + 1 + 1) false := HR2'.out.ext ((Ext.refl V2).drewN (nq + nq2))
        refine ⟨(Keep.of_ext (HAl'.out.drewN (nq + nq2))).setCell _ _ (fun _ h => ?_), rfl, dB.out, (Keep.mono (D' := fun k => k < w2.heap.size ∧ k ≠ w.heap.size + 1 + 1 + 1) (HKp.out.ext ((Ext.refl V2).drewN (nq + nq2))) (fun k _ h => h.1)).setCell _ _ (fun _ h => h.2 rfl), hbb.set false⟩
        rcases h with h | h
        · exact h.2 rfl
        · have := h.1; simp only at this; omega
      · -- all is the North's
        have d1 : decide ((sq : Int) < (np : Int)) = true := decide_eq_true (by omega)
        have d2 : decide ((p : Int) < (W : Int)) = false := decide_eq_false (by omega)
        have d3 : decide ((np : Int) < (sq : Int)) = false := decide_eq_false (by omega)
        have d5 : ¬ np < sq := by omega
        have d6 : ¬ ((np : Int) < (sq : Int)) := by omega
        have dB : Hid ((pre ++ [q]).all (holdB L W l pn ps) = true) := by show _ = _; rw [List.all_append, HA.out]; simp only [List.all_cons, List.all_nil, Bool.and_true, Bool.true_and]; rw [HKb.out]; simp; omega
        gi_wp2_with fail
        refine round_quiet (by kernel_rfl) (by kernel_rfl) (by kernel_rfl) ?_
        repeat (go_big_quiet_step (fail))
        refine wpQuiet_nil ?_
        intro _ hw3
        obtain ⟨nq2, hw3⟩ := hw3
        subst hw3
        gi_wp2_with fail
        exact ⟨Keep.of_ext ((HAl'.out.drewN nq).drewN nq2), dB.out, HKp.out.ext (((Ext.refl V2).drewN nq).drewN nq2)⟩
    · by_cases k3 : np < sq
      · by_cases k4 : 0 < p
        · -- something is the North's
          have d1 : decide ((sq : Int) < (np : Int)) = false := decide_eq_false (by omega)
          have d3 : decide ((np : Int) < (sq : Int)) = true := decide_eq_true (by omega)
          have d4 : decide ((0 : Int) < (p : Int)) = true := decide_eq_true (by omega)
          have dB : Hid ((pre ++ [q]).all (holdB L W l pn ps) = false) := by show _ = _; rw [List.all_append, HA.out]; simp only [List.all_cons, List.all_nil, Bool.and_true, Bool.true_and]; rw [HKb.out]; simp; omega
          gi_wp2_with fail
          refine round_quiet (by kernel_rfl) (by kernel_rfl) (by kernel_rfl) ?_
          repeat (go_big_quiet_step (fail))
          refine wpQuiet_nil ?_
          intro _ hw3
          obtain ⟨nq2, hw3⟩ := hw3
          subst hw3
          gi_wp2_with fail
          have hbb : BBox (V2.drewN (nq + nq2)) (w.heap.size + 1 + 1 + 1) false := HR2'.out.ext ((Ext.refl V2).drewN (nq + nq2))
          refine ⟨(Keep.of_ext (HAl'.out.drewN (nq + nq2))).setCell _ _ (fun _ h => ?_), rfl, dB.out, (Keep.mono (D' := fun k => k < w2.heap.size ∧ k ≠ w.heap.size + 1 + 1 + 1) (HKp.out.ext ((Ext.refl V2).drewN (nq + nq2))) (fun k _ h => h.1)).setCell _ _ (fun _ h => h.2 rfl), hbb.set false⟩
          rcases h with h | h
          · exact h.2 rfl
          · have := h.1; simp only at this; omega
        · -- nothing is
          have d1 : decide ((sq : Int) < (np : Int)) = false := decide_eq_false (by omega)
          have d3 : decide ((np : Int) < (sq : Int)) = true := decide_eq_true (by omega)
          have d4 : decide ((0 : Int) < (p : Int)) = false := decide_eq_false (by omega)
          have dB : Hid ((pre ++ [q]).all (holdB L W l pn ps) = true) := by show _ = _; rw [List.all_append, HA.out]; simp only [List.all_cons, List.all_nil, Bool.and_true, Bool.true_and]; rw [HKb.out]; simp; omega
          gi_wp2_with fail
          refine round_quiet (by kernel_rfl) (by kernel_rfl) (by kernel_rfl) ?_
          repeat (go_big_quiet_step (fail))
          refine wpQuiet_nil ?_
          intro _ hw3
          obtain ⟨nq2, hw3⟩ := hw3
          subst hw3
          gi_wp2_with fail
          exact ⟨Keep.of_ext ((HAl'.out.drewN nq).drewN nq2), dB.out, HKp.out.ext (((Ext.refl V2).drewN nq).drewN nq2)⟩
      · -- they are the same
        have d1 : decide ((sq : Int) < (np : Int)) = false := decide_eq_false (by omega)
        have d3 : decide ((np : Int) < (sq : Int)) = false := decide_eq_false (by omega)
        have dB : Hid ((pre ++ [q]).all (holdB L W l pn ps) = true) := by show _ = _; rw [List.all_append, HA.out]; simp only [List.all_cons, List.all_nil, Bool.and_true, Bool.true_and]; rw [HKb.out]; simp; omega
        gi_wp2_with fail
        refine round_quiet (by kernel_rfl) (by kernel_rfl) (by kernel_rfl) ?_
        repeat (go_big_quiet_step (fail))
        refine wpQuiet_nil ?_
        intro _ hw3
        obtain ⟨nq2, hw3⟩ := hw3
        subst hw3
        gi_wp2_with fail
        exact ⟨Keep.of_ext ((HAl'.out.drewN nq).drewN nq2), dB.out, HKp.out.ext (((Ext.refl V2).drewN nq).drewN nq2)⟩
  case done =>
    rintro hi V hh ⟨hA, hKp⟩ hD
    have hS2 := HS2.out
    have hXV : Ext w V := ext_keep HX2.out hKp (fun i hi => by have := HX2.out.size; omega)
    have HXV := Lib.hid hXV
    have HRV : Hid (BBox V (w.heap.size + 1 + 1 + 1) false) := hKp.heap HR2.out (by omega)
    have HA := Lib.hid hA
    obtain ⟨l0, l1, -, -⟩ := blk_two (hKp.heap HL2.out (by omega))
    obtain ⟨e0, e1, -, -⟩ := blk_two (hKp.heap HE2.out (by omega))
    have HD := Lib.hid hD
    have HVs : Hid (w2.heap.size ≤ V.heap.size) := hKp.size
    clear hA hKp hD hXV
    simp only [Exit.inBlock, Exit.then]
    go_wp2_with fail
    refine (HAl.out V HXV.out).mono ?_
    rintro e w5 ⟨rfl, hx5⟩
    have hR5 : BBox w5 (w.heap.size + 1 + 1 + 1) false := HRV.out.ext hx5
    have HR5 := Lib.hid hR5
    have HX5 : Hid (Ext w w5) := HXV.out.trans hx5
    have cr := hR5.cell
    have fr := hR5.frozen 0
    have HCV : Hid (Coll w.heap.size w5.heap.size [{ target := .collected w2.heap.size, args := #[] }] (w5.setCell ⟨w.heap.size + 1 + 1 + 1, 0, none⟩ (.bool al))) :=
      Coll.cons trivial (by omega) (by have := (Array.getElem?_eq_some_iff.1 HD.out).1; have := hx5.size; omega) ((Below.heap_setCell _ _ _ _ (show w2.heap.size ≠ w.heap.size + 1 + 1 + 1 by omega)).trans (hx5.block HD.out))
    clear hx5 hR5 l0 l1 e0 e1
    go_wp2_with fail
    simp only [bodyPostM]
    refine leaves_coll (hi := w5.heap.size) (lo := w.heap.size) HCV.out fun w' hs => ?_
    refine ⟨_, results_bool rfl _ _ (w.heap.size + 1 + 1 + 1) al rfl (hs.cells (HR5.out.set al)), ?_, hs.ext (HX5.out.setCell (by show w.heap.size ≤ w.heap.size + 1 + 1 + 1; omega) _) (Nat.le_refl _)⟩
    rw [HA.out, Bool.true_and]
  case stop =>
    rintro hi cd pre V hh hp ⟨rfl, hA, hKp, hB⟩ hD
    have hS2 := HS2.out
    have hXV : Ext w V := ext_keep HX2.out hKp (fun i hi => ⟨by have := HX2.out.size; omega, by omega⟩)
    have hall : ((freeF L).all (holdB L W l pn ps)) = false := by
      rw [List.all_eq_false] at hA ⊢
      obtain ⟨q, hq, hq2⟩ := hA
      exact ⟨q, hp.subset hq, hq2⟩
    apply wpIn_ret
    simp only [Exit.inBlock, Exit.then]
    refine leaves_coll (hi := V.heap.size) (lo := w.heap.size) (Coll.cons trivial (by omega) (Array.getElem?_eq_some_iff.1 hD).1 hD) fun w' hs => ?_
    refine ⟨_, results_bool rfl _ _ (w.heap.size + 1 + 1 + 1) false rfl (hs.cells hB), ?_, hs.ext hXV (Nat.le_refl _)⟩
    rw [hall, Bool.false_and]
end Go.Proofs.Ytlaolokakaheaaa
