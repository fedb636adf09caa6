/-
  allows of package barter: does an exchange leave what is bound as it is? The land and the exchange must lie in memory as told.
-/
import Derived.Test.YtlaolokakaheaaaWH
import Derived.Test.YtlaolokakaheaaaGW
import Derived.Test.YtlaolokakaheaaaL
namespace Go.Proofs.Ytlaolokakaheaaa
open Go.RowKit
attribute [local go_sem] Oper.semAt_some

/-- A truth in a box. -/
def BBox (w : World) (b : Nat) (x : Bool) : Prop := w.heap[b]? = some (.cells #[.bool x] 4 (0, 0))
theorem BBox.cell {w : World} {b : Nat} {x : Bool} (h : BBox w b x) : w.cell? ⟨b, 0, none⟩ = some (.bool x) := (cell_at h 0).trans rfl
theorem BBox.frozen {w : World} {b : Nat} {x : Bool} (h : BBox w b x) (i : Nat) : w.frozen? ⟨b, i, none⟩ = false := by simp [World.frozen?, show w.heap[b]? = _ from h]
theorem BBox.ext {w w' : World} {b : Nat} {x : Bool} (h : BBox w b x) (k : Ext w w') : BBox w' b x := k.block h
theorem BBox.set {w : World} {b : Nat} {x : Bool} (h : BBox w b x) (y : Bool) : BBox (w.setCell ⟨b, 0, none⟩ (.bool y)) b y := heap_setCell_same h _
theorem results_bool {fn : Func} {p : Tmp} (h : fn.results = #[.cell p 4]) (tmps : Array Value) (w : World) (g : Nat) (x : Bool) (hp : tmps.getD p undef = .pointer (some ⟨g, 0, none⟩)) (hc : BBox w g x) :
    (results fn tmps).run Try.prog w = .ok (.bool x) w := by
  have hp' : tmps[p]?.getD undef = .pointer (some ⟨g, 0, none⟩) := by simpa using hp
  have hl : (loadVar 4 ⟨g, 0, none⟩).run Try.prog w = .ok (.bool x) w := by
    simp [loadVar, Sem.run_bind, Result.andThen, go_sem, hc.cell]
  simp [results, h, hp', asAddr, hl]

/-- What allows asks of a stretch that is bound. -/
def keepB (L : List St) (W : Nat) (P : List Nat) (q : Nat) : Bool := decide (pt P q = W * nowF (at' L q))
theorem now_le1 (x : St) : nowF x ≤ 1 := by unfold nowF; split <;> omega
theorem allows_which (L : List St) (W : Nat) (P : List Nat) : allowsF L W P = (whichF (fun i => !(at' L i).free) L.length).all (keepB L W P) := by
  unfold allowsF whichF
  rw [List.all_filter]
  refine List.all_congr rfl fun i => ?_
  unfold keepB
  cases (at' L i).free <;> simp

set_option maxRecDepth 100000 in
set_option maxHeartbeats 4000000 in
theorem allows_any (x : Ld) (W : Nat) (a : Option Addr) (c : Nat) (l : List Nat) (w : World) (h : StL w x.s) (hp : IsSl 1 num w ⟨a, c, l⟩) (hl : l.length = x.s.l.length) (hW : W ≤ 2000) (hle : ∀ i, i < l.length → pt l i ≤ W) :
    Calls Try.prog 31 #[x.val, .agg #[.int .i64 (W : Int), .slice a l.length c]] w fun e w' => e = .returned (.bool (allowsF x.s.l W l)) ∧ Ext w w' := by
  have HNow := Lib.hid (fun (V : World) (k : Ext w V) => now_any x V (h.ext k))
  have HWh := Lib.hid (fun (V : World) => which_ans x 60 #[x.val] V)
  have HGi := Lib.hid (fun (V : World) (pb ib : Nat) (M : Nat → Prop) (k : Ext w V) (hw : IsWhich V x (.func (.func 60) #[x.val] #[]) pb ib) (hd : InB M x.s) (hM : M ib) => bound_gives hw (h.ext k) hd hM)
  have HAw := Lib.hid (allows_which x.s.l W l)
  have HIn : Hid (InB (fun k => k < w.heap.size) x.s) := fun g off ha h0 => by
    obtain ⟨b, off', hb, c0, -⟩ := h.cells h0
    rw [ha] at hb; cases hb; exact lt_of_cell c0
  have HS := Lib.hid h
  have HP := Lib.hid hp
  have HLe := Lib.hid hle
  have HLn := Lib.hid hl
  clear h hp hle hl
  obtain ⟨⟨sa, sc, L⟩, ⟨va, vc, vl⟩⟩ := x
  dsimp only at HNow HWh HGi HAw HIn HS HLn ⊢
  rw [HAw.out]
  clear HAw
  refine callsIn_wide.1 (callsIn_of_wp_marks (n := 3) Try.func31 rfl trivial ?_ rfl)
  simp only [Try.ntmps31, List.size_toArray, List.length_cons, List.length_nil, Nat.reduceAdd, Nat.reduceSub, Array.replicate_succ, Array.replicate_zero, List.push_toArray, List.append_toArray, List.nil_append, List.cons_append]
  refine wpIn_wide.2 ?_
  have HX0 : Hid (Ext w (((w.alloc (.cells #[.slice sa L.length sc, .slice va vl.length vc] 26)).alloc (.cells #[.int .i64 (W : Int), .slice a l.length c] 31)).alloc (.cells #[.bool false] 4))) := (((Ext.refl w).alloc _).alloc _).alloc _
  have HE0 : Hid ((((w.alloc (.cells #[.slice sa L.length sc, .slice va vl.length vc] 26)).alloc (.cells #[.int .i64 (W : Int), .slice a l.length c] 31)).alloc (.cells #[.bool false] 4)).heap[w.heap.size + 1]? = some (.cells #[.int .i64 (W : Int), .slice a l.length c] 31 (0, 0))) := by
    refine (alloc_old ?_).trans (alloc_new ?_) <;> simp only [World.size_alloc] <;> omega
  have HL0 : Hid ((((w.alloc (.cells #[.slice sa L.length sc, .slice va vl.length vc] 26)).alloc (.cells #[.int .i64 (W : Int), .slice a l.length c] 31)).alloc (.cells #[.bool false] 4)).heap[w.heap.size]? = some (.cells #[.slice sa L.length sc, .slice va vl.length vc] 26 (0, 0))) := by
    refine (alloc_old ?_).trans ((alloc_old ?_).trans (alloc_new ?_)) <;> simp only [World.size_alloc] <;> omega
  have HR0 : Hid (BBox (((w.alloc (.cells #[.slice sa L.length sc, .slice va vl.length vc] 26)).alloc (.cells #[.int .i64 (W : Int), .slice a l.length c] 31)).alloc (.cells #[.bool false] 4)) (w.heap.size + 1 + 1) false) := alloc_new (by simp only [World.size_alloc])
  go_wp2_with fail
  generalize ((w.alloc (.cells #[.slice sa L.length sc, .slice va vl.length vc] 26)).alloc (.cells #[.int .i64 (W : Int), .slice a l.length c] 31)).alloc (.cells #[.bool false] 4) = V0 at *
  refine (HNow.out _ HX0.out).mono ?_
  rintro e w1 ⟨g, rfl, hr, hg, hx1⟩
  have HX1 : Hid (Ext w (w1.alloc (.cells #[.int .i64 1, .slice (some ⟨g, 0, none⟩) L.length L.length] 31))) := (HX0.out.trans hx1).alloc _
  have HE1 : Hid ((w1.alloc (.cells #[.int .i64 1, .slice (some ⟨g, 0, none⟩) L.length L.length] 31)).heap[w.heap.size + 1]? = _) := ((Ext.refl w1).alloc _).block (hx1.block HE0.out)
  have HL1 : Hid ((w1.alloc (.cells #[.int .i64 1, .slice (some ⟨g, 0, none⟩) L.length L.length] 31)).heap[w.heap.size]? = _) := ((Ext.refl w1).alloc _).block (hx1.block HL0.out)
  have HR1 : Hid (BBox (w1.alloc (.cells #[.int .i64 1, .slice (some ⟨g, 0, none⟩) L.length L.length] 31)) (w.heap.size + 1 + 1) false) := ((Ext.refl w1).alloc _).block (hx1.block HR0.out)
  have HN1 : Hid ((w1.alloc (.cells #[.int .i64 1, .slice (some ⟨g, 0, none⟩) L.length L.length] 31)).heap[w1.heap.size]? = some (.cells #[.int .i64 1, .slice (some ⟨g, 0, none⟩) L.length L.length] 31 (0, 0))) := alloc_new rfl
  have HG1 : Hid (Row (w1.alloc (.cells #[.int .i64 1, .slice (some ⟨g, 0, none⟩) L.length L.length] 31)) g (nowL L) L.length) := hr.ext ((Ext.refl w1).alloc _)
  have HSz : Hid (w.heap.size + 1 + 1 < w1.heap.size) := (Array.getElem?_eq_some_iff.1 (hx1.block HR0.out)).1
  clear hr hg hx1 HX0 HE0 HL0 HR0
  obtain ⟨l0, l1, -, -⟩ := blk_two HL1.out
  go_wp2_with fail
  refine (HWh.out _).mono ?_
  rintro e w2 ⟨pb, ib, rfl, hpb, hib, hx2, hI⟩
  have HX2 : Hid (Ext w w2) := HX1.out.trans hx2
  have HE2 := Lib.hid (hx2.block HE1.out)
  have HN2 := Lib.hid (hx2.block HN1.out)
  have HR2 : Hid (BBox w2 (w.heap.size + 1 + 1) false) := HR1.out.ext hx2
  have HG2 := Lib.hid (HG1.out.ext hx2)
  have HS2 : Hid (w1.heap.size < w2.heap.size) := by have h1 := hx2.size; simp only [World.size_alloc] at h1; show _ < _; omega
  have hib' : w1.heap.size < ib := by simp only [World.size_alloc] at hib; omega
  have HG := Lib.hid (HGi.out w2 pb ib (fun k => k ≠ w.heap.size + 1 + 1) HX2.out hI (fun g off ha h0 => by have : g < w.heap.size := HIn.out g off ha h0; omega) (by have := HSz.out; omega))
  clear hx2 hI hpb hib hib' HX1 HE1 HL1 HR1 HN1 HG1 l0 l1 HGi HWh HNow
  go_wp2_with fail
  refine (wpIn_wide (n := 3)).1 ?_
  refine wp_rangeFuncT (a₁ := ?a1) rfl enters_71 HG.out rfl
    (fun hi pre V => pre.all (keepB L W l) = true ∧ Keep (fun k => k < w2.heap.size) w2 V)
    (fun hi cd pre V => cd = .ret ∧ pre.all (keepB L W l) = false ∧ Keep (fun k => k < w2.heap.size ∧ k ≠ w.heap.size + 1 + 1) w2 V ∧ BBox V (w.heap.size + 1 + 1) false)
    ?_ ?_ ?_ ?assign ?body ?done ?stop
  case assign =>
    intro l s W K hK
    gi_wp2
    exact hK
  · intro hi s A B' hh h hk
    exact ⟨h.1, h.2.trans (hk.mono (fun k _ h => .inl h))⟩
  · intro cd hi s A B' hh h hk
    have := HS2.out
    have := HSz.out
    exact ⟨h.1, h.2.1, h.2.2.1.trans (hk.mono (fun k _ h => .inl h.1)), hk.heap h.2.2.2 (.inl (by omega))⟩
  · intro hi hh
    exact ⟨by simp, Keep.refl _ _⟩
  case body =>
    rintro ly hi pre q V hh hhV ⟨hA, hKp⟩ hpre
    have hS2 := HS2.out
    have hSz := HSz.out
    have hq : q < L.length := (whichF_mem.1 (hpre.subset (List.mem_append_right _ (List.mem_singleton.2 rfl)))).1
    have hq2 : q < l.length := by have := HLn.out; omega
    have hXV : Ext w V := ext_keep HX2.out hKp (fun i hi => by have := HX2.out.size; omega)
    have hGV : Row V g (nowL L) L.length := by
      obtain ⟨cur, r1, r2⟩ := HG2.out
      exact ⟨cur, hKp.heap r1 (Array.getElem?_eq_some_iff.1 r1).1, r2⟩
    have cw := hGV.cell q (by rw [nowL_len]; exact hq)
    have ew : (nowL L)[q]'(by rw [nowL_len]; exact hq) = nowF (at' L q) := by
      have := nowL_pt L q hq
      rw [← this]; unfold pt; rw [List.getElem?_eq_getElem (by rw [nowL_len]; exact hq)]; rfl
    rw [ew] at cw
    obtain ⟨pbk, po, rfl, cp⟩ := part_cell (HP.out.ext hXV) hq2
    obtain ⟨e0, e1, -, -⟩ := blk_two (hKp.heap HE2.out (by omega))
    obtain ⟨n0, n1, -, -⟩ := blk_two (hKp.heap HN2.out hS2)
    have hR2 : BBox V (w.heap.size + 1 + 1) false := hKp.heap HR2.out (by omega)
    have fr := hR2.frozen 0
    have cr := hR2.cell
    have HR2' := Lib.hid hR2
    have HA := Lib.hid hA
    have HKp := Lib.hid hKp
    have hn1 := now_le1 (at' L q)
    have hp1 := HLe.out q hq2
    have HKb : Hid (keepB L W l q = decide (pt l q = W * nowF (at' L q))) := rfl
    have hm1 : (W : Int) * (nowF (at' L q) : Int) = ((W * nowF (at' L q) : Nat) : Int) := (Int.natCast_mul _ _).symm
    have hm2 : W * nowF (at' L q) ≤ 2000 := Nat.mul_le_mul hW hn1
    have j1 : (0 : Int) ≤ (q : Int) := by omega
    have j2 : (q : Int) < (l.length : Int) := by omega
    have j3 : (q : Int) < (L.length : Int) := by omega
    clear hA hKp hR2 hpre hXV hGV ew
    generalize W * nowF (at' L q) = v at *
    generalize nowF (at' L q) = nq0 at *
    generalize pt l q = p at *
    have hwr : IntKind.i64.wrap (v : Int) = (v : Int) := IntWalk.i64_in _ (by omega)
    by_cases hgt : p = v
    · have dg : ((p : Int) != (v : Int)) = false := by rw [hgt]; simp
      have dg2 : ((p : Int) == (v : Int)) = true := by rw [hgt]; simp
      have dB : Hid ((pre ++ [q]).all (keepB L W l) = true) := by show _ = _; rw [List.all_append, HA.out]; simp [HKb.out, hgt]
      clear hgt
      gi_wp2_with fail
      refine round_quiet (by kernel_rfl) (by kernel_rfl) (by kernel_rfl) ?_
      repeat (quiet_step (fail))
      refine wpQuiet_nil ?_
      intro _ hw'
      obtain ⟨nq, hw2⟩ := hw'
      subst hw2
      gi_wp2_with fail
      exact ⟨Keep.of_ext ((Ext.refl V).drewN nq), dB.out, HKp.out.ext ((Ext.refl V).drewN nq)⟩
    · have dg : ((p : Int) != (v : Int)) = true := by simp; omega
      have dg2 : ((p : Int) == (v : Int)) = false := by simp; omega
      have dB : Hid ((pre ++ [q]).all (keepB L W l) = false) := by show _ = _; rw [List.all_append]; simp [HKb.out, hgt]
      clear hgt
      gi_wp2_with fail
      refine round_quiet (by kernel_rfl) (by kernel_rfl) (by kernel_rfl) ?_
      repeat (quiet_step (fail))
      refine wpQuiet_nil ?_
      intro _ hw'
      obtain ⟨nq, hw2⟩ := hw'
      subst hw2
      gi_wp2_with fail
      have hbb : BBox (V.drewN nq) (w.heap.size + 1 + 1) false := HR2'.out.ext ((Ext.refl V).drewN nq)
      refine ⟨(Keep.of_ext ((Ext.refl V).drewN nq)).setCell _ _ (fun _ h => ?_), rfl, dB.out, ((HKp.out.ext ((Ext.refl V).drewN nq)).mono (fun k _ h => h.1)).setCell _ _ (fun _ h => h.2 rfl), hbb.set false⟩
      rcases h with h | h
      · exact h.2 rfl
      · have := h.1; simp only at this; omega
  case done =>
    rintro hi V hh ⟨hA, hKp⟩ hD
    have hS2 := HS2.out
    have hSz := HSz.out
    have hXV : Ext w V := ext_keep HX2.out hKp (fun i hi => by have := HX2.out.size; omega)
    have HXV := Lib.hid hXV
    have HRV : Hid (BBox V (w.heap.size + 1 + 1) false) := hKp.heap HR2.out (by omega)
    have HA := Lib.hid hA
    have cr := HRV.out.cell
    have fr := HRV.out.frozen 0
    have HCV : Hid (Coll w.heap.size V.heap.size [{ target := .collected w2.heap.size, args := #[] }] (V.setCell ⟨w.heap.size + 1 + 1, 0, none⟩ (.bool true))) :=
      Coll.cons trivial (by omega) (by have := (Array.getElem?_eq_some_iff.1 hD).1; omega) ((Below.heap_setCell _ _ _ _ (show w2.heap.size ≠ w.heap.size + 1 + 1 by omega)).trans hD)
    clear hA hKp hD hXV
    simp only [Exit.inBlock, Exit.then]
    go_wp2_with fail
    simp only [bodyPostM]
    refine leaves_coll (hi := V.heap.size) (lo := w.heap.size) HCV.out fun w' hs => ?_
    refine ⟨_, results_bool rfl _ _ (w.heap.size + 1 + 1) true rfl (hs.cells (HRV.out.set true)), ?_, hs.ext (HXV.out.setCell (by show w.heap.size ≤ w.heap.size + 1 + 1; omega) _) (Nat.le_refl _)⟩
    rw [HA.out]
  case stop =>
    rintro hi cd pre V hh hp ⟨rfl, hA, hKp, hB⟩ hD
    have hS2 := HS2.out
    have hSz := HSz.out
    have hXV : Ext w V := ext_keep HX2.out hKp (fun i hi => ⟨by have := HX2.out.size; omega, by omega⟩)
    have hall : ((whichF (fun i => !(at' L i).free) L.length).all (keepB L W l)) = false := by
      rw [List.all_eq_false] at hA ⊢
      obtain ⟨q, hq, hq2⟩ := hA
      exact ⟨q, hp.subset hq, hq2⟩
    apply wpIn_ret
    simp only [Exit.inBlock, Exit.then]
    refine leaves_coll (hi := V.heap.size) (lo := w.heap.size) (Coll.cons trivial (by omega) (Array.getElem?_eq_some_iff.1 hD).1 hD) fun w' hs => ?_
    refine ⟨_, results_bool rfl _ _ (w.heap.size + 1 + 1) false rfl (hs.cells hB), ?_, hs.ext hXV (Nat.le_refl _)⟩
    rw [hall]
end Go.Proofs.Ytlaolokakaheaaa
