/-
  given of package barter's byOrder: what an owner has of the free stretches, by what counts. The land at work must lie in memory as told.
-/
import Derived.Test.YtlaolokakaheaaaQT
import Derived.Test.YtlaolokakaheaaaUN
import Derived.Test.YtlaolokakaheaaaWA
import Derived.Test.YtlaolokakaheaaaHOW
import Derived.Test.YtlaolokakaheaaaBG
namespace Go.Proofs.Ytlaolokakaheaaa
open Go.RowKit
attribute [local go_sem] Oper.semAt_some

/-- What counts, in all. -/
def ownK (L : List St) (b : Bool) (own : Nat) (pre : List Nat) : Nat := ((pre.filter fun i => decide ((at' L i).o = own)).map fun i => cntF b (at' L i)).sum
theorem ownK_nil (L : List St) (b : Bool) (own : Nat) : ownK L b own [] = 0 := rfl
theorem ownK_snoc (L : List St) (b : Bool) (own : Nat) (pre : List Nat) (q : Nat) : ownK L b own (pre ++ [q]) = ownK L b own pre + if (at' L q).o = own then cntF b (at' L q) else 0 := by
  unfold ownK
  rw [List.filter_append, List.map_append, List.sum_append]
  by_cases h : (at' L q).o = own <;> simp [h]
theorem ownK_le (L : List St) (b : Bool) (own : Nat) (h : ∀ i, i < L.length → cntF b (at' L i) ≤ 2000) : ∀ pre : List Nat, (∀ i ∈ pre, i < L.length) → ownK L b own pre ≤ pre.length * 2000 := by
  intro pre
  induction pre with
  | nil => intro _; simp [ownK]
  | cons x r ih =>
    intro hr
    have h1 := ih fun i hi => hr i (List.mem_cons_of_mem _ hi)
    have h2 := h x (hr x (List.mem_cons_self ..))
    have e : ownK L b own (x :: r) = (if (at' L x).o = own then cntF b (at' L x) else 0) + ownK L b own r := by
      unfold ownK
      by_cases k : (at' L x).o = own <;> simp [k]
    rw [e, List.length_cons, Nat.succ_mul]
    split <;> omega
theorem ownK_all (L : List St) (b : Bool) (own : Nat) : ownK L b own (freeF L) = ownF L b own := rfl

set_option maxRecDepth 100000 in
set_option maxHeartbeats 4000000 in
theorem given_true (own : Nat) (x : Ld) (PW WB : Nat) (w : World) (hpw : w.heap[PW]? = some (.cells #[.pointer (some ⟨WB, 0, none⟩)] 60 (0, 0))) (hw : IsWk w WB x true) (h : StL w x.s) (hk : OkS x.s.l) (hl16 : x.s.l.length ≤ 16) :
    Calls Try.prog 49 #[.int .i64 (own : Int), .pointer (some ⟨PW, 0, none⟩)] w fun e w' => e = .returned (.int .i64 (ownF x.s.l true own : Int)) ∧ Ext w w' := by
  have HCt : Hid (∀ (V : World) (i : Nat), i < x.s.l.length → Calls Try.prog 48 #[.agg #[.int .i64 ((at' x.s.l i).o : Int), .int .i64 ((at' x.s.l i).n : Int), .int .i64 ((at' x.s.l i).s : Int), .int .i64 (at' x.s.l i).w]] V fun e w' => e = .returned (.int .i64 ((cntF true (at' x.s.l i) : Nat) : Int)) ∧ Ext V w') := fun V i _hi => worthBoth_any (at' x.s.l i) V (hk.wr _hi).n2 (hk.wr _hi).s2
  have HFr := Lib.hid (fun (V : World) => free_any x V)
  have HGi := Lib.hid (fun (V : World) (pb ib : Nat) (M : Nat → Prop) (k : Ext w V) (hw : IsWhich V x (.func (.func 65) #[x.val] #[]) pb ib) (hd : InB M x.s) (hM : M ib) => free_gives hw (h.ext k) hd hM)
  have HIn : Hid (InB (fun k => k < w.heap.size) x.s) := h.lt
  have HS := Lib.hid h
  have HW := Lib.hid hw
  have HPw := Lib.hid hpw
  have HWl : Hid (WB < w.heap.size ∧ PW < w.heap.size) := ⟨(Array.getElem?_eq_some_iff.1 hw).1, (Array.getElem?_eq_some_iff.1 hpw).1⟩
  have HCl : Hid (∀ i, i < x.s.l.length → cntF true (at' x.s.l i) ≤ 2000) := fun i hi => by
    have := hk.wr hi
    have h1 := this.n2
    have h2 := this.s2
    show (at' x.s.l i).n + (at' x.s.l i).s ≤ 2000
    omega
  have HLe := Lib.hid (ownK_le x.s.l true own HCl.out)
  clear h hw hpw hk
  obtain ⟨⟨sa, sc, L⟩, ⟨va, vc, vl⟩⟩ := x
  dsimp only at *
  have HM0 : Hid (Mm w [] [(w.heap.size, .cells #[.int .i64 (own : Int)] 3), (w.heap.size + 1, .cells #[.int .i64 0] 3)] ((w.alloc (.cells #[.int .i64 (own : Int)] 3)).alloc (.cells #[.int .i64 0] 3))) := by
    have h := ((Mm.start (w0 := w)).new (.cells #[.int .i64 (own : Int)] 3)).new (.cells #[.int .i64 0] 3)
    simp only [World.size_alloc] at h
    exact h
  refine callsIn_wide.1 (callsIn_of_wp_marks (n := 3) Try.func49 rfl trivial ?_ rfl)
  simp only [Try.ntmps49, List.size_toArray, List.length_cons, List.length_nil, Nat.reduceAdd, Nat.reduceSub, Array.replicate_succ, Array.replicate_zero, List.push_toArray, List.append_toArray, List.nil_append, List.cons_append]
  refine wpIn_wide.2 ?_
  go_upto_region 2 with (fail)
  generalize (w.alloc (.cells #[.int .i64 (own : Int)] 3)).alloc (.cells #[.int .i64 0] 3) = V0 at *
  have HNe : Hid (w.heap.size < w.heap.size + 1 ∧ w.heap.size + 1 < V0.heap.size) := by have := HM0.out.blt (i := 1) rfl; dsimp only at this; show _ ∧ _; omega
  generalize w.heap.size + 1 = AB at *
  generalize hOB : w.heap.size = OB at HM0 HNe ⊢
  have HOB := Lib.hid hOB
  clear hOB
  obtain ⟨w0, w1, w2⟩ := (IsWk.ext HW.out HM0.out.to_ext).cells
  dsimp only at w0 w1 w2
  have p0 := (cell_at (HM0.out.to_ext.block HPw.out) 0)
  dsimp at p0
  go_wp2_with fail
  refine (HFr.out _).mono ?_
  rintro e V2 ⟨pb, ib, rfl, hpb, hib, hx2, hI⟩
  have HM2 := Lib.hid (HM0.out.ext hx2)
  have HS2 : Hid (AB < V2.heap.size ∧ OB < V2.heap.size) := by have := hx2.size; have := HNe.out; show _ ∧ _; omega
  have HG := Lib.hid (HGi.out V2 pb ib (fun k => k ≠ AB) HM2.out.to_ext hI (fun g' off ha h0 => by have : g' < w.heap.size := HIn.out g' off ha h0; have := HOB.out; have := HNe.out; omega) (by have := HNe.out; omega))
  clear hx2 hI hpb hib w0 w1 w2 p0 HM0
  go_wp2_with fail
  refine (wpIn_wide (n := 3)).1 ?_
  refine wp_rangeFuncT (a₁ := ?a1) rfl enters_71 HG.out rfl
    (fun hi pre V => NBox V AB (ownK L true own pre) ∧ Keep (fun k => k < V2.heap.size ∧ k ≠ AB) V2 V)
    (fun _ _ _ _ => False) ?_ (fun _ _ _ _ _ _ h _ => h) ?_ ?assign ?body ?done ?stop
  case assign =>
    intro ly s V K hK
    gi_wp2
    exact hK
  · intro hi s A B' hh h hk
    have := HS2.out
    exact ⟨hk.heap h.1 (.inl (by omega)), h.2.trans (hk.mono (fun k _ h => .inl h.1))⟩
  · intro hi hh
    exact ⟨HM2.out.heap 1 rfl, Keep.refl _ _⟩
  case body =>
    rintro ly hi pre q V hh hhV ⟨hA, hKp⟩ hpre
    have hS2 := HS2.out
    have hq : q < L.length := (mem_free.1 (hpre.subset (List.mem_append_right _ (List.mem_singleton.2 rfl)))).1
    have hbd := HLe.out pre (fun i hi => (mem_free.1 (hpre.subset (List.mem_append_left _ hi))).1)
    have hpl : pre.length ≤ 16 := by
      have h1 := hpre.length_le
      have h2 := List.length_filter_le (fun i => (at' L i).free) (List.range L.length)
      rw [List.length_range] at h2
      simp only [List.length_append, List.length_cons, List.length_nil] at h1
      have h3 : (freeF L).length ≤ L.length := h2
      omega
    have hbd2 : ownK L true own pre ≤ 32000 := by omega
    have HSn := Lib.hid (ownK_snoc L true own pre q)
    have hcl := HCl.out q hq
    have HXV : Hid (Ext w V) := ext_keep HM2.out.to_ext hKp (fun i hi => by have := HOB.out; have := HNe.out; omega)
    have HKp0 := Lib.hid hKp
    have HA := Lib.hid hA
    obtain ⟨w0, w1, w2⟩ := (IsWk.ext HW.out HXV.out).cells
    dsimp only at w0 w1 w2
    have p0 := (cell_at (HXV.out.block HPw.out) 0)
    dsimp at p0
    obtain ⟨bs, off, ha, c0, c1, c2, c3⟩ := (HS.out.ext HXV.out).cells hq
    dsimp only at ha c0 c1 c2 c3
    subst ha
    have k3 : (0 : Int) ≤ (q : Int) := by omega
    have k4 : (q : Int) < (L.length : Int) := by omega
    have HCi := Lib.hid (fun V => HCt.out V q hq)
    have HAl : Hid (Ext V (V.alloc (.cells #[.int .i64 ((at' L q).o : Int), .int .i64 ((at' L q).n : Int), .int .i64 ((at' L q).s : Int), .int .i64 (at' L q).w] 41))) := (Ext.refl V).alloc _
    have HNw : Hid ((V.alloc (.cells #[.int .i64 ((at' L q).o : Int), .int .i64 ((at' L q).n : Int), .int .i64 ((at' L q).s : Int), .int .i64 (at' L q).w] 41)).heap[V.heap.size]? = some (.cells #[.int .i64 ((at' L q).o : Int), .int .i64 ((at' L q).n : Int), .int .i64 ((at' L q).s : Int), .int .i64 (at' L q).w] 41 (0, 0))) := alloc_new rfl
    have o0 : V.cell? ⟨OB, 0, none⟩ = some (.int .i64 (own : Int)) := (cell_at (hKp.heap (HM2.out.heap 0 rfl) (by have := HNe.out; omega)) 0).trans rfl
    have o1 := HAl.out.cell o0
    have HKb := Lib.hid (hKp.ext HAl.out)
    have HAb : Hid (NBox (V.alloc (.cells #[.int .i64 ((at' L q).o : Int), .int .i64 ((at' L q).n : Int), .int .i64 ((at' L q).s : Int), .int .i64 (at' L q).w] 41)) AB (ownK L true own pre)) := HAl.out.block HA.out
    clear hA hKp hpre hh
    generalize (at' L q).o = oo at *
    by_cases ho : oo = own
    · have HSt : Hid (ownK L true own (pre ++ [q]) = ownK L true own pre + cntF true (at' L q)) := by show _ = _; rw [HSn.out, if_pos ho]
      subst ho
      gi_wp2_with fail
      clear c0 c1 c2 c3 o0 o1 w0 w1 w2 p0 k3 k4
      have HVs : Hid (V2.heap.size ≤ V.heap.size) := HKp0.out.size
      generalize V.alloc (.cells #[.int .i64 (oo : Int), .int .i64 ((at' L q).n : Int), .int .i64 ((at' L q).s : Int), .int .i64 (at' L q).w] 41) = V3 at *
      generalize V.heap.size = SB at *
      have HX3 : Hid (Ext w V3) := HXV.out.trans HAl.out
      obtain ⟨t0, t1, t2, t3⟩ := blk_four HNw.out
      obtain ⟨-, -, w2⟩ := (IsWk.ext HW.out HX3.out).cells
      have p0 := (cell_at (HX3.out.block HPw.out) 0)
      dsimp at p0
      have ca := HAb.out.cell
      have e0 : ∀ E : YW V3, E.w.cell? ⟨AB, 0, none⟩ = _ := fun E => E.cell ca
      have e1 : ∀ E : YW V3, E.w.cell? ⟨PW, 0, none⟩ = _ := fun E => E.cell p0
      have e2 : ∀ E : YW V3, E.w.cell? ⟨WB, 2, none⟩ = some (.func (.func 48) #[] #[]) := fun E => E.cell w2
      have e3 : ∀ E : YW V3, E.w.cell? ⟨SB, 0, none⟩ = _ := fun E => E.cell t0
      have e4 : ∀ E : YW V3, E.w.cell? ⟨SB, 1, none⟩ = _ := fun E => E.cell t1
      have e5 : ∀ E : YW V3, E.w.cell? ⟨SB, 2, none⟩ = _ := fun E => E.cell t2
      have e6 : ∀ E : YW V3, E.w.cell? ⟨SB, 3, none⟩ = _ := fun E => E.cell t3
      have hsum : (ownK L true oo pre : Int) + (cntF true (at' L q) : Int) = ((ownK L true oo pre + cntF true (at' L q) : Nat) : Int) := (Int.natCast_add _ _).symm
      have hwr : IntKind.i64.wrap ((ownK L true oo pre + cntF true (at' L q) : Nat) : Int) = ((ownK L true oo pre + cntF true (at' L q) : Nat) : Int) := IntWalk.i64_in _ (by omega)
      clear t0 t1 t2 t3 w2 p0 ca
      generalize cntF true (at' L q) = cv at *
      generalize ownK L true oo pre = ak at *
      generalize hsm : ak + cv = sm at *
      refine round_quietY_tail 8 (by kernel_rfl) (by kernel_rfl) (by kernel_rfl) ?_
      simp only [List.take_succ_cons, List.take_zero, List.drop_succ_cons, List.drop_zero]
      repeat (go_big_quiet_step ((go_at_call 48; exact Calls.quietY (HCi.out _))))
      refine wpQuiet_nil ?_
      rintro _ ⟨E, rfl⟩
      have HE := Lib.hid E.x
      clear e0 e1 e2 e3 e4 e5 e6
      generalize E.w = V6 at HE ⊢
      have h6 : NBox V6 AB ak := HE.out.block HAb.out
      have c6 := h6.cell
      have f6 := h6.frozen 0
      gi_wp2_with fail
      refine ⟨(Keep.of_ext (HAl.out.trans HE.out)).setCell _ _ (fun _ h => ?_), by show NBox _ _ _; rw [HSt.out]; exact heap_setCell_same h6 _, (HKb.out.ext HE.out).setCell _ _ (fun _ h => h.2 rfl)⟩
      rcases h with h | h
      · exact h.2 rfl
      · have := h.1; simp only at this; omega
    · have ho2 : ¬ (oo : Int) = (own : Int) := by omega
      have HSt : Hid (ownK L true own (pre ++ [q]) = ownK L true own pre) := by show _ = _; rw [HSn.out, if_neg ho, Nat.add_zero]
      have deq : ((oo : Int) == (own : Int)) = false := by simp; omega
      clear ho
      gi_wp2_with fail
      exact ⟨Keep.of_ext HAl.out, by show NBox _ _ _; rw [HSt.out]; exact HAb.out, HKb.out⟩
  case stop =>
    rintro hi c pre W hh hp h
    exact h.elim
  case done =>
    rintro hi V hh ⟨hA, hKp⟩ hD
    have hS2 := HS2.out
    rw [ownK_all] at hA
    have HXV : Hid (Ext w V) := ext_keep HM2.out.to_ext hKp (fun i hi => by have := HOB.out; have := HNe.out; omega)
    have HCV : Hid (Coll w.heap.size V.heap.size [{ target := .collected V2.heap.size, args := #[] }] V) := Coll.cons trivial (by have := HOB.out; have := HNe.out; omega) (Array.getElem?_eq_some_iff.1 hD).1 hD
    have c0 := NBox.cell hA
    clear hA hKp hD hh
    simp only [Exit.inBlock, Exit.then]
    go_wp2_with fail
    simp only [bodyPostM]
    refine leaves_coll (hi := V.heap.size) (lo := w.heap.size) HCV.out fun w' hs => ?_
    exact ⟨_, results_tmp rfl _ _ _, rfl, hs.ext HXV.out (Nat.le_refl _)⟩
set_option maxRecDepth 100000 in
set_option maxHeartbeats 4000000 in
theorem given_false (own : Nat) (x : Ld) (PW WB : Nat) (w : World) (hpw : w.heap[PW]? = some (.cells #[.pointer (some ⟨WB, 0, none⟩)] 60 (0, 0))) (hw : IsWk w WB x false) (h : StL w x.s) (hk : OkS x.s.l) (hl16 : x.s.l.length ≤ 16) :
    Calls Try.prog 49 #[.int .i64 (own : Int), .pointer (some ⟨PW, 0, none⟩)] w fun e w' => e = .returned (.int .i64 (ownF x.s.l false own : Int)) ∧ Ext w w' := by
  have HCt : Hid (∀ (V : World) (i : Nat), i < x.s.l.length → Calls Try.prog 63 #[.agg #[.int .i64 ((at' x.s.l i).o : Int), .int .i64 ((at' x.s.l i).n : Int), .int .i64 ((at' x.s.l i).s : Int), .int .i64 (at' x.s.l i).w]] V fun e w' => e = .returned (.int .i64 ((cntF false (at' x.s.l i) : Nat) : Int)) ∧ Ext V w') := fun V i _hi => worthNorth_any (at' x.s.l i) V
  have HFr := Lib.hid (fun (V : World) => free_any x V)
  have HGi := Lib.hid (fun (V : World) (pb ib : Nat) (M : Nat → Prop) (k : Ext w V) (hw : IsWhich V x (.func (.func 65) #[x.val] #[]) pb ib) (hd : InB M x.s) (hM : M ib) => free_gives hw (h.ext k) hd hM)
  have HIn : Hid (InB (fun k => k < w.heap.size) x.s) := h.lt
  have HS := Lib.hid h
  have HW := Lib.hid hw
  have HPw := Lib.hid hpw
  have HWl : Hid (WB < w.heap.size ∧ PW < w.heap.size) := ⟨(Array.getElem?_eq_some_iff.1 hw).1, (Array.getElem?_eq_some_iff.1 hpw).1⟩
  have HCl : Hid (∀ i, i < x.s.l.length → cntF false (at' x.s.l i) ≤ 2000) := fun i hi => by
    have := hk.wr hi
    have h1 := this.n2
    have h2 := this.s2
    show (at' x.s.l i).n ≤ 2000
    omega
  have HLe := Lib.hid (ownK_le x.s.l false own HCl.out)
  clear h hw hpw hk
  obtain ⟨⟨sa, sc, L⟩, ⟨va, vc, vl⟩⟩ := x
  dsimp only at *
  have HM0 : Hid (Mm w [] [(w.heap.size, .cells #[.int .i64 (own : Int)] 3), (w.heap.size + 1, .cells #[.int .i64 0] 3)] ((w.alloc (.cells #[.int .i64 (own : Int)] 3)).alloc (.cells #[.int .i64 0] 3))) := by
    have h := ((Mm.start (w0 := w)).new (.cells #[.int .i64 (own : Int)] 3)).new (.cells #[.int .i64 0] 3)
    simp only [World.size_alloc] at h
    exact h
  refine callsIn_wide.1 (callsIn_of_wp_marks (n := 3) Try.func49 rfl trivial ?_ rfl)
  simp only [Try.ntmps49, List.size_toArray, List.length_cons, List.length_nil, Nat.reduceAdd, Nat.reduceSub, Array.replicate_succ, Array.replicate_zero, List.push_toArray, List.append_toArray, List.nil_append, List.cons_append]
  refine wpIn_wide.2 ?_
  go_upto_region 2 with (fail)
  generalize (w.alloc (.cells #[.int .i64 (own : Int)] 3)).alloc (.cells #[.int .i64 0] 3) = V0 at *
  have HNe : Hid (w.heap.size < w.heap.size + 1 ∧ w.heap.size + 1 < V0.heap.size) := by have := HM0.out.blt (i := 1) rfl; dsimp only at this; show _ ∧ _; omega
  generalize w.heap.size + 1 = AB at *
  generalize hOB : w.heap.size = OB at HM0 HNe ⊢
  have HOB := Lib.hid hOB
  clear hOB
  obtain ⟨w0, w1, w2⟩ := (IsWk.ext HW.out HM0.out.to_ext).cells
  dsimp only at w0 w1 w2
  have p0 := (cell_at (HM0.out.to_ext.block HPw.out) 0)
  dsimp at p0
  go_wp2_with fail
  refine (HFr.out _).mono ?_
  rintro e V2 ⟨pb, ib, rfl, hpb, hib, hx2, hI⟩
  have HM2 := Lib.hid (HM0.out.ext hx2)
  have HS2 : Hid (AB < V2.heap.size ∧ OB < V2.heap.size) := by have := hx2.size; have := HNe.out; show _ ∧ _; omega
  have HG := Lib.hid (HGi.out V2 pb ib (fun k => k ≠ AB) HM2.out.to_ext hI (fun g' off ha h0 => by have : g' < w.heap.size := HIn.out g' off ha h0; have := HOB.out; have := HNe.out; omega) (by have := HNe.out; omega))
  clear hx2 hI hpb hib w0 w1 w2 p0 HM0
  go_wp2_with fail
  refine (wpIn_wide (n := 3)).1 ?_
  refine wp_rangeFuncT (a₁ := ?a1) rfl enters_71 HG.out rfl
    (fun hi pre V => NBox V AB (ownK L false own pre) ∧ Keep (fun k => k < V2.heap.size ∧ k ≠ AB) V2 V)
    (fun _ _ _ _ => False) ?_ (fun _ _ _ _ _ _ h _ => h) ?_ ?assign ?body ?done ?stop
  case assign =>
    intro ly s V K hK
    gi_wp2
    exact hK
  · intro hi s A B' hh h hk
    have := HS2.out
    exact ⟨hk.heap h.1 (.inl (by omega)), h.2.trans (hk.mono (fun k _ h => .inl h.1))⟩
  · intro hi hh
    exact ⟨HM2.out.heap 1 rfl, Keep.refl _ _⟩
  case body =>
    rintro ly hi pre q V hh hhV ⟨hA, hKp⟩ hpre
    have hS2 := HS2.out
    have hq : q < L.length := (mem_free.1 (hpre.subset (List.mem_append_right _ (List.mem_singleton.2 rfl)))).1
    have hbd := HLe.out pre (fun i hi => (mem_free.1 (hpre.subset (List.mem_append_left _ hi))).1)
    have hpl : pre.length ≤ 16 := by
      have h1 := hpre.length_le
      have h2 := List.length_filter_le (fun i => (at' L i).free) (List.range L.length)
      rw [List.length_range] at h2
      simp only [List.length_append, List.length_cons, List.length_nil] at h1
      have h3 : (freeF L).length ≤ L.length := h2
      omega
    have hbd2 : ownK L false own pre ≤ 32000 := by omega
    have HSn := Lib.hid (ownK_snoc L false own pre q)
    have hcl := HCl.out q hq
    have HXV : Hid (Ext w V) := ext_keep HM2.out.to_ext hKp (fun i hi => by have := HOB.out; have := HNe.out; omega)
    have HKp0 := Lib.hid hKp
    have HA := Lib.hid hA
    obtain ⟨w0, w1, w2⟩ := (IsWk.ext HW.out HXV.out).cells
    dsimp only at w0 w1 w2
    have p0 := (cell_at (HXV.out.block HPw.out) 0)
    dsimp at p0
    obtain ⟨bs, off, ha, c0, c1, c2, c3⟩ := (HS.out.ext HXV.out).cells hq
    dsimp only at ha c0 c1 c2 c3
    subst ha
    have k3 : (0 : Int) ≤ (q : Int) := by omega
    have k4 : (q : Int) < (L.length : Int) := by omega
    have HCi := Lib.hid (fun V => HCt.out V q hq)
    have HAl : Hid (Ext V (V.alloc (.cells #[.int .i64 ((at' L q).o : Int), .int .i64 ((at' L q).n : Int), .int .i64 ((at' L q).s : Int), .int .i64 (at' L q).w] 41))) := (Ext.refl V).alloc _
    have HNw : Hid ((V.alloc (.cells #[.int .i64 ((at' L q).o : Int), .int .i64 ((at' L q).n : Int), .int .i64 ((at' L q).s : Int), .int .i64 (at' L q).w] 41)).heap[V.heap.size]? = some (.cells #[.int .i64 ((at' L q).o : Int), .int .i64 ((at' L q).n : Int), .int .i64 ((at' L q).s : Int), .int .i64 (at' L q).w] 41 (0, 0))) := alloc_new rfl
    have o0 : V.cell? ⟨OB, 0, none⟩ = some (.int .i64 (own : Int)) := (cell_at (hKp.heap (HM2.out.heap 0 rfl) (by have := HNe.out; omega)) 0).trans rfl
    have o1 := HAl.out.cell o0
    have HKb := Lib.hid (hKp.ext HAl.out)
    have HAb : Hid (NBox (V.alloc (.cells #[.int .i64 ((at' L q).o : Int), .int .i64 ((at' L q).n : Int), .int .i64 ((at' L q).s : Int), .int .i64 (at' L q).w] 41)) AB (ownK L false own pre)) := HAl.out.block HA.out
    clear hA hKp hpre hh
    generalize (at' L q).o = oo at *
    by_cases ho : oo = own
    · have HSt : Hid (ownK L false own (pre ++ [q]) = ownK L false own pre + cntF false (at' L q)) := by show _ = _; rw [HSn.out, if_pos ho]
      subst ho
      gi_wp2_with fail
      clear c0 c1 c2 c3 o0 o1 w0 w1 w2 p0 k3 k4
      have HVs : Hid (V2.heap.size ≤ V.heap.size) := HKp0.out.size
      generalize V.alloc (.cells #[.int .i64 (oo : Int), .int .i64 ((at' L q).n : Int), .int .i64 ((at' L q).s : Int), .int .i64 (at' L q).w] 41) = V3 at *
      generalize V.heap.size = SB at *
      have HX3 : Hid (Ext w V3) := HXV.out.trans HAl.out
      obtain ⟨t0, t1, t2, t3⟩ := blk_four HNw.out
      obtain ⟨-, -, w2⟩ := (IsWk.ext HW.out HX3.out).cells
      have p0 := (cell_at (HX3.out.block HPw.out) 0)
      dsimp at p0
      have ca := HAb.out.cell
      have e0 : ∀ E : YW V3, E.w.cell? ⟨AB, 0, none⟩ = _ := fun E => E.cell ca
      have e1 : ∀ E : YW V3, E.w.cell? ⟨PW, 0, none⟩ = _ := fun E => E.cell p0
      have e2 : ∀ E : YW V3, E.w.cell? ⟨WB, 2, none⟩ = some (.func (.func 63) #[] #[]) := fun E => E.cell w2
      have e3 : ∀ E : YW V3, E.w.cell? ⟨SB, 0, none⟩ = _ := fun E => E.cell t0
      have e4 : ∀ E : YW V3, E.w.cell? ⟨SB, 1, none⟩ = _ := fun E => E.cell t1
      have e5 : ∀ E : YW V3, E.w.cell? ⟨SB, 2, none⟩ = _ := fun E => E.cell t2
      have e6 : ∀ E : YW V3, E.w.cell? ⟨SB, 3, none⟩ = _ := fun E => E.cell t3
      have hsum : (ownK L false oo pre : Int) + (cntF false (at' L q) : Int) = ((ownK L false oo pre + cntF false (at' L q) : Nat) : Int) := (Int.natCast_add _ _).symm
      have hwr : IntKind.i64.wrap ((ownK L false oo pre + cntF false (at' L q) : Nat) : Int) = ((ownK L false oo pre + cntF false (at' L q) : Nat) : Int) := IntWalk.i64_in _ (by omega)
      clear t0 t1 t2 t3 w2 p0 ca
      generalize cntF false (at' L q) = cv at *
      generalize ownK L false oo pre = ak at *
      generalize hsm : ak + cv = sm at *
      refine round_quietY_tail 8 (by kernel_rfl) (by kernel_rfl) (by kernel_rfl) ?_
      simp only [List.take_succ_cons, List.take_zero, List.drop_succ_cons, List.drop_zero]
      repeat (go_big_quiet_step ((go_at_call 63; exact Calls.quietY (HCi.out _))))
      refine wpQuiet_nil ?_
      rintro _ ⟨E, rfl⟩
      have HE := Lib.hid E.x
      clear e0 e1 e2 e3 e4 e5 e6
      generalize E.w = V6 at HE ⊢
      have h6 : NBox V6 AB ak := HE.out.block HAb.out
      have c6 := h6.cell
      have f6 := h6.frozen 0
      gi_wp2_with fail
      refine ⟨(Keep.of_ext (HAl.out.trans HE.out)).setCell _ _ (fun _ h => ?_), by show NBox _ _ _; rw [HSt.out]; exact heap_setCell_same h6 _, (HKb.out.ext HE.out).setCell _ _ (fun _ h => h.2 rfl)⟩
      rcases h with h | h
      · exact h.2 rfl
      · have := h.1; simp only at this; omega
    · have ho2 : ¬ (oo : Int) = (own : Int) := by omega
      have HSt : Hid (ownK L false own (pre ++ [q]) = ownK L false own pre) := by show _ = _; rw [HSn.out, if_neg ho, Nat.add_zero]
      have deq : ((oo : Int) == (own : Int)) = false := by simp; omega
      clear ho
      gi_wp2_with fail
      exact ⟨Keep.of_ext HAl.out, by show NBox _ _ _; rw [HSt.out]; exact HAb.out, HKb.out⟩
  case stop =>
    rintro hi c pre W hh hp h
    exact h.elim
  case done =>
    rintro hi V hh ⟨hA, hKp⟩ hD
    have hS2 := HS2.out
    rw [ownK_all] at hA
    have HXV : Hid (Ext w V) := ext_keep HM2.out.to_ext hKp (fun i hi => by have := HOB.out; have := HNe.out; omega)
    have HCV : Hid (Coll w.heap.size V.heap.size [{ target := .collected V2.heap.size, args := #[] }] V) := Coll.cons trivial (by have := HOB.out; have := HNe.out; omega) (Array.getElem?_eq_some_iff.1 hD).1 hD
    have c0 := NBox.cell hA
    clear hA hKp hD hh
    simp only [Exit.inBlock, Exit.then]
    go_wp2_with fail
    simp only [bodyPostM]
    refine leaves_coll (hi := V.heap.size) (lo := w.heap.size) HCV.out fun w' hs => ?_
    exact ⟨_, results_tmp rfl _ _ _, rfl, hs.ext HXV.out (Nat.le_refl _)⟩
theorem given_any (b : Bool) (own : Nat) (x : Ld) (PW WB : Nat) (w : World) (hpw : w.heap[PW]? = some (.cells #[.pointer (some ⟨WB, 0, none⟩)] 60 (0, 0))) (hw : IsWk w WB x b) (h : StL w x.s) (hk : OkS x.s.l) (hl16 : x.s.l.length ≤ 16) :
    Calls Try.prog 49 #[.int .i64 (own : Int), .pointer (some ⟨PW, 0, none⟩)] w fun e w' => e = .returned (.int .i64 (ownF x.s.l b own : Int)) ∧ Ext w w' := by
  cases b
  · exact given_false own x PW WB w hpw hw h hk hl16
  · exact given_true own x PW WB w hpw hw h hk hl16
end Go.Proofs.Ytlaolokakaheaaa
