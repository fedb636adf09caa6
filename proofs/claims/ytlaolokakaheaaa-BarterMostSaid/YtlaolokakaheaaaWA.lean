/-
  waste of package barter: the first two free stretches that are a waste. The land and the exchange must lie in memory as told.
-/
import Derived.Test.YtlaolokakaheaaaTB
import Derived.Test.YtlaolokakaheaaaOD
namespace Go.Proofs.Ytlaolokakaheaaa
open Go.RowKit
attribute [local go_sem] Oper.semAt_some

/-- What waste answers. -/
def WasteIs (L : List St) (W : Nat) (P : List Nat) (u v : Nat) (b : Bool) : Prop :=
  match wasteF L W P with
  | some (p, q) => b = true ∧ u = p ∧ v = q
  | none => b = false
theorem find_prefix {p : Nat → Bool} {l pre : List Nat} {b : Nat} (h : (pre ++ [b]) <+: l) (h1 : ∀ x ∈ pre, p x = false) (h2 : p b = true) : l.find? p = some b := by
  obtain ⟨r, rfl⟩ := h
  rw [List.append_assoc, List.find?_append, List.find?_eq_none.2 (fun x hx => by rw [h1 x hx]; simp)]
  simp [h2]
theorem waste_found {L : List St} {W : Nat} {P : List Nat} {prea preb : List Nat} {a b : Nat} (ha : (prea ++ [a]) <+: freeF L) (hb : (preb ++ [b]) <+: freeF L) (h1 : ∀ x ∈ prea, ∀ y ∈ freeF L, isWaste L W P x y = false) (h2 : ∀ y ∈ preb, isWaste L W P a y = false) (h3 : isWaste L W P a b = true) : wasteF L W P = some (a, b) := by
  unfold wasteF
  obtain ⟨r, hr⟩ := ha
  have e1 : (freeF L).find? (fun y => isWaste L W P a y) = some b := find_prefix hb h2 h3
  generalize hG : (fun x => ((freeF L).find? fun y => isWaste L W P x y).map fun y => (x, y)) = G
  have hn : prea.findSome? G = none := by
    rw [List.findSome?_eq_none_iff]
    intro x hx
    rw [← hG]
    dsimp only
    rw [List.find?_eq_none.2 (fun y hy => by rw [h1 x hx y hy]; simp)]
    rfl
  have ha2 : G a = some (a, b) := by rw [← hG]; dsimp only; rw [e1]; rfl
  rw [← hr, List.append_assoc, List.findSome?_append, hn, List.singleton_append, List.findSome?_cons, ha2]
  rfl
theorem waste_nothing {L : List St} {W : Nat} {P : List Nat} (h : ∀ x ∈ freeF L, ∀ y ∈ freeF L, isWaste L W P x y = false) : wasteF L W P = none := by
  unfold wasteF
  rw [List.findSome?_eq_none_iff]
  intro x hx
  rw [List.find?_eq_none.2 (fun y hy => by rw [h x hx y hy]; simp)]
  rfl

/-- A number in a box. -/
def NBox (w : World) (b n : Nat) : Prop := w.heap[b]? = some (.cells #[.int .i64 (n : Int)] 3 (0, 0))
theorem NBox.cell {w : World} {b n : Nat} (h : NBox w b n) : w.cell? ⟨b, 0, none⟩ = some (.int .i64 (n : Int)) := (cell_at h 0).trans rfl
theorem NBox.frozen {w : World} {b n : Nat} (h : NBox w b n) (i : Nat) : w.frozen? ⟨b, i, none⟩ = false := by simp [World.frozen?, show w.heap[b]? = _ from h]

theorem results_three {fn : Func} (h : fn.results = #[.cell 4 3, .cell 5 3, .cell 6 4]) (tmps : Array Value) (w : World) (B1 B2 B3 u v : Nat) (b : Bool) (h4 : tmps.getD 4 undef = .pointer (some ⟨B1, 0, none⟩)) (h5 : tmps.getD 5 undef = .pointer (some ⟨B2, 0, none⟩)) (h6 : tmps.getD 6 undef = .pointer (some ⟨B3, 0, none⟩)) (c1 : NBox w B1 u) (c2 : NBox w B2 v) (c3 : BBox w B3 b) :
    (results fn tmps).run Try.prog w = .ok (.tuple #[.int .i64 (u : Int), .int .i64 (v : Int), .bool b]) w := by
  have h4' : tmps[4]?.getD undef = .pointer (some ⟨B1, 0, none⟩) := by simpa using h4
  have h5' : tmps[5]?.getD undef = .pointer (some ⟨B2, 0, none⟩) := by simpa using h5
  have h6' : tmps[6]?.getD undef = .pointer (some ⟨B3, 0, none⟩) := by simpa using h6
  simp [results, h, h4', h5', h6', asAddr, go_sem, c1.cell, c2.cell, c3.cell, Result.andThen]
/-- The three boxes are stored anew as they are. -/
abbrev again (V : World) (B1 B2 B3 u v : Nat) (b : Bool) : World := (((V.setCell ⟨B1, 0, none⟩ (.int .i64 (u : Int))).setCell ⟨B2, 0, none⟩ (.int .i64 (v : Int))).setCell ⟨B3, 0, none⟩ (.bool b)).drew
theorem waste_end {V : World} {B1 B2 B3 u v : Nat} {b : Bool} (h2 : NBox V B1 u) (h3 : NBox V B2 v) (h5 : BBox V B3 b) (n12 : ¬ B1 = B2) (n13 : ¬ B1 = B3) (n23 : ¬ B2 = B3) :
    NBox (again V B1 B2 B3 u v b) B1 u ∧ NBox (again V B1 B2 B3 u v b) B2 v ∧ BBox (again V B1 B2 B3 u v b) B3 b :=
  ⟨heap_set_other _ _ _ _ (heap_set_other _ _ _ _ (heap_setCell_same (i := 0) h2 (.int .i64 (u : Int))) n12) n13,
   heap_set_other _ _ _ _ (heap_setCell_same (i := 0) (heap_set_other _ _ _ _ h3 (fun e => n12 e.symm)) (.int .i64 (v : Int))) n23,
   heap_setCell_same (i := 0) (heap_set_other _ _ _ _ (heap_set_other _ _ _ _ h5 (fun e => n13 e.symm)) (fun e => n23 e.symm)) (.bool b)⟩

set_option maxRecDepth 100000 in
set_option maxHeartbeats 4000000 in
theorem waste_any (x : Ld) (W : Nat) (a : Option Addr) (c : Nat) (l : List Nat) (w : World) (h : StL w x.s) (hk : OkS x.s.l) (hp : IsSl 1 num w ⟨a, c, l⟩) (hl : l.length = x.s.l.length) :
    Calls Try.prog 41 #[x.val, .agg #[.int .i64 (W : Int), .slice a l.length c]] w fun e w' => ∃ u v b, e = .returned (.tuple #[.int .i64 ((u : Nat) : Int), .int .i64 ((v : Nat) : Int), .bool b]) ∧ WasteIs x.s.l W l u v b ∧ Ext w w' := by
  have HFr := Lib.hid (fun (V : World) => free_any x V)
  have HGi := Lib.hid (fun (V : World) (pb ib : Nat) (M : Nat → Prop) (k : Ext w V) (hw : IsWhich V x (.func (.func 65) #[x.val] #[]) pb ib) (hd : InB M x.s) (hM : M ib) => free_gives hw (h.ext k) hd hM)
  have HAh := Lib.hid (fun (V : World) (k : Ext w V) (i j : Nat) (hi : i < x.s.l.length) (hj : j < x.s.l.length) => isAhead_d x i j V (h.ext k) hi hj (hk.wr hi) (hk.wr hj))
  have HIn : Hid (InB (fun k => k < w.heap.size) x.s) := h.lt
  have HP := Lib.hid hp
  have HLn := Lib.hid hl
  clear h hp hl hk
  obtain ⟨⟨sa, sc, L⟩, ⟨va, vc, vl⟩⟩ := x
  dsimp only at HFr HGi HAh HIn HLn ⊢
  have HM0 : Hid (Mm w [] [(w.heap.size, .cells #[.slice sa L.length sc, .slice va vl.length vc] 26), (w.heap.size + 1, .cells #[.int .i64 (W : Int), .slice a l.length c] 31), (w.heap.size + 1 + 1, .cells #[.int .i64 0] 3), (w.heap.size + 1 + 1 + 1, .cells #[.int .i64 0] 3), (w.heap.size + 1 + 1 + 1 + 1, .cells #[.bool false] 4)] (((((w.alloc (.cells #[.slice sa L.length sc, .slice va vl.length vc] 26)).alloc (.cells #[.int .i64 (W : Int), .slice a l.length c] 31)).alloc (.cells #[.int .i64 0] 3)).alloc (.cells #[.int .i64 0] 3)).alloc (.cells #[.bool false] 4))) := by
    have h := (((((Mm.start (w0 := w)).new (.cells #[.slice sa L.length sc, .slice va vl.length vc] 26)).new (.cells #[.int .i64 (W : Int), .slice a l.length c] 31)).new (.cells #[.int .i64 0] 3)).new (.cells #[.int .i64 0] 3)).new (.cells #[.bool false] 4)
    simp only [World.size_alloc] at h
    exact h
  refine callsIn_wide.1 (callsIn_of_wp_marks (n := 3) Try.func41 rfl trivial ?_ rfl)
  simp only [Try.ntmps41, List.size_toArray, List.length_cons, List.length_nil, Nat.reduceAdd, Nat.reduceSub, Array.replicate_succ, Array.replicate_zero, List.push_toArray, List.append_toArray, List.nil_append, List.cons_append]
  refine wpIn_wide.2 ?_
  go_wp2_with fail
  generalize ((((w.alloc (.cells #[.slice sa L.length sc, .slice va vl.length vc] 26)).alloc (.cells #[.int .i64 (W : Int), .slice a l.length c] 31)).alloc (.cells #[.int .i64 0] 3)).alloc (.cells #[.int .i64 0] 3)).alloc (.cells #[.bool false] 4) = V0 at *
  have HSz : Hid (w.heap.size + 5 ≤ V0.heap.size) := by have := HM0.out.blt (i := 4) rfl; dsimp only at this; show _ ≤ _; omega
  obtain ⟨l0, l1, -, -⟩ := blk_cells (HM0.out.heap 0 rfl)
  go_step3
  go_wp2
  go_step3
  go_wp2_with fail
  refine (HFr.out _).mono ?_
  rintro e w2 ⟨pb, ib, rfl, hpb, hib, hx2, hI⟩
  have HM2 := Lib.hid (HM0.out.ext hx2)
  have HS2 : Hid (w.heap.size + 5 ≤ w2.heap.size) := by have := hx2.size; have := HSz.out; show _ ≤ _; omega
  have HG := Lib.hid (HGi.out w2 pb ib (fun k => k ≠ w.heap.size + 1 + 1 ∧ k ≠ w.heap.size + 1 + 1 + 1 ∧ k ≠ w.heap.size + 1 + 1 + 1 + 1) HM2.out.to_ext hI (fun g off ha h0 => by have : g < w.heap.size := HIn.out g off ha h0; omega) (by have := HSz.out; omega))
  clear hx2 hI hpb hib l0 l1 HM0 HSz
  have HBs : Hid (w.heap.size < w.heap.size + 1 ∧ w.heap.size + 1 < w.heap.size + 1 + 1 ∧ w.heap.size + 1 + 1 < w.heap.size + 1 + 1 + 1 ∧ w.heap.size + 1 + 1 + 1 < w.heap.size + 1 + 1 + 1 + 1 ∧ w.heap.size + 1 + 1 + 1 + 1 < w2.heap.size ∧ w.heap.size < w2.heap.size ∧ w.heap.size ≤ w.heap.size) := by have := HS2.out; show _ ∧ _ ∧ _ ∧ _ ∧ _ ∧ _ ∧ _; omega
  clear HS2
  go_wp2_with fail
  generalize w.heap.size + 1 + 1 + 1 + 1 = B3 at *
  generalize w.heap.size + 1 + 1 + 1 = B2 at *
  generalize w.heap.size + 1 + 1 = B1 at *
  generalize w.heap.size + 1 = EB at *
  generalize hLB : w.heap.size = LB at HM2 HBs HG ⊢
  have HLB := Lib.hid hLB
  clear hLB
  refine (wpIn_wide (n := 3)).1 ?_
  refine wp_rangeFuncTHB (a₁ := ?a1) (B := B1) (T := 3) rfl enters_71 (by have := HBs.out; omega) (M := fun k => k ≠ B1 ∧ k ≠ B2 ∧ k ≠ B3) (fun h => h.1 rfl) HG.out rfl
    (fun hi pre V => (∀ p ∈ pre, ∀ q ∈ freeF L, isWaste L W l p q = false) ∧ (∃ u, NBox V B1 u) ∧ (∃ v, NBox V B2 v) ∧ Keep (fun k => k < w2.heap.size ∧ k ≠ B1 ∧ k ≠ B2) w2 V)
    (fun hi cd pre V => cd = .exit 0 ∧ (∃ u v, wasteF L W l = some (u, v) ∧ NBox V B1 u ∧ NBox V B2 v) ∧ BBox V B3 true ∧ Keep (fun k => k < w2.heap.size ∧ k ≠ B1 ∧ k ≠ B2 ∧ k ≠ B3) w2 V)
    ?_ ?_ ?_ ?_ ?_ ?assign ?body ?done ?stop
  · intro hi s A B' hh h hk
    have hB := HBs.out
    obtain ⟨h1, ⟨u, h2⟩, ⟨v, h3⟩, h4⟩ := h
    exact ⟨h1, ⟨u, hk.heap h2 (.inl (by omega))⟩, ⟨v, hk.heap h3 (.inl (by omega))⟩, h4.trans (hk.mono (fun k _ h => .inl h.1))⟩
  · intro cd hi s A B' hh h hk
    have hB := HBs.out
    obtain ⟨h1, ⟨u, v, h2, h3, h4⟩, h5, h6⟩ := h
    exact ⟨h1, ⟨u, v, h2, hk.heap h3 (.inl (by omega)), hk.heap h4 (.inl (by omega))⟩, hk.heap h5 (.inl (by omega)), h6.trans (hk.mono (fun k _ h => .inl h.1))⟩
  · intro hi hh
    exact ⟨fun p hp => by simp at hp, ⟨0, HM2.out.heap 2 rfl⟩, ⟨0, HM2.out.heap 3 rfl⟩, Keep.refl _ _⟩
  · intro hi pre s V h
    have hB := HBs.out
    obtain ⟨h1, ⟨u, h2⟩, ⟨v, h3⟩, h4⟩ := h
    exact ⟨h1, ⟨s, heap_setCell_same h2 _⟩, ⟨v, heap_set_other _ _ _ _ h3 (by omega)⟩, h4.setCell _ _ (fun _ h => h.2.1 rfl)⟩
  · intro hi pre V h
    obtain ⟨h1, ⟨u, h2⟩, h3⟩ := h
    exact ⟨_, h2⟩
  case assign =>
    rintro ly s V K ⟨v9, hv9⟩ hK
    have c0 : V.cell? ⟨B1, 0, none⟩ = some v9 := (cell_at hv9 0).trans rfl
    have f0 : V.frozen? ⟨B1, 0, none⟩ = false := by simp [World.frozen?, hv9]
    gi_wp2
    exact hK
  case body =>
    rintro ly hi pre p V hh hhV ⟨hA, -, ⟨v0, hb2⟩, hKp⟩ hb1 hpre ⟨r0, hr0⟩ hly1 hly2
    have HBl := HBs.out
    have hp : p < L.length := (mem_free.1 (hpre.subset (List.mem_append_right _ (List.mem_singleton.2 rfl)))).1
    have HXV : Hid (Ext w V) := ext_keep HM2.out.to_ext hKp (fun i hi => by have := HLB.out; omega)
    obtain ⟨l0, l1, -, -⟩ := blk_cells (hKp.heap (HM2.out.heap 0 rfl) (by omega))
    have HPre := Lib.hid hpre
    have HA := Lib.hid hA
    have HKp := Lib.hid hKp
    have HB1 : Hid (NBox V B1 p) := hb1
    have HB2 : Hid (NBox V B2 v0) := hb2
    have HR0 := Lib.hid hr0
    have HLy : Hid (w2.heap.size ≤ ly ∧ ly < hi ∧ hi ≤ V.heap.size) := ⟨hly1, hly2, hhV⟩
    have HBn := Lib.hid HBl
    clear hpre hA hKp hb1 hb2 hr0 hly1 hly2 HBl
    gi_wp2_with (refine ⟨trivial, ?_⟩; gi_at_call 50; refine (CallsIn.inRound ly (callsIn_wide.2 (HFr.out V))).mono ?_; rintro e w4 ⟨pb2, ib2, rfl, hpb2, hib2, hx4, hI4⟩; have HX4 := Lib.hid hx4; have HI4 := Lib.hid hI4; have HIb : Hid (V.heap.size ≤ ib2) := hib2; clear hx4 hI4 hpb2 hib2 l0 l1)
    have HN4 : Hid (w2.heap.size ≤ w4.heap.size ∧ hi ≤ w4.heap.size ∧ V.heap.size ≤ w4.heap.size) := by have := HX4.out.size; have := HLy.out; show _ ∧ _ ∧ _; omega
    have HXw4 : Hid (Ext w w4) := HXV.out.trans HX4.out
    have HG2 := Lib.hid (HGi.out w4 pb2 ib2 (fun k => k ≠ B2 ∧ k ≠ B3) HXw4.out HI4.out (fun g off ha h0 => by have : g < w.heap.size := HIn.out g off ha h0; have := HLB.out; have := HBn.out; omega) (by have := HIb.out; have := HLy.out; have := HBn.out; omega))
    have HB14 : Hid (NBox w4 B1 p) := HX4.out.block HB1.out
    have HB24 : Hid (NBox w4 B2 v0) := HX4.out.block HB2.out
    have HB34 : Hid (BBox w4 B3 false) := by have := HBn.out; exact HX4.out.block (HKp.out.heap (HM2.out.heap 4 rfl) (by omega))
    have HL4 : Hid (w4.heap[LB]? = some (.cells #[.slice sa L.length sc, .slice va vl.length vc] 26 (0, 0))) := by have := HBn.out; exact HX4.out.block (HKp.out.heap (HM2.out.heap 0 rfl) (by omega))
    have HE4 : Hid (w4.heap[EB]? = some (.cells #[.int .i64 (W : Int), .slice a l.length c] 31 (0, 0))) := by have := HBn.out; exact HX4.out.block (HKp.out.heap (HM2.out.heap 1 rfl) (by omega))
    clear HI4 HIb HB1 HB2
    refine wp_rangeFuncTNB (a₁ := ?a2) (B := B2) (T := 3) (HX4.out.block HR0.out) rfl enters_71 (by have := HBn.out; have := HN4.out; omega) (M := fun k => k ≠ B2 ∧ k ≠ B3) (fun h => h.1 rfl) HG2.out rfl
      (fun hi pr V => (∀ q ∈ pr, isWaste L W l p q = false) ∧ (∃ v, NBox V B2 v) ∧ Keep (fun k => k < w4.heap.size ∧ k ≠ B2) w4 V)
      (fun hi cd pr V => cd = .exit 0 ∧ (∃ v, wasteF L W l = some (p, v) ∧ NBox V B2 v) ∧ BBox V B3 true ∧ Keep (fun k => k < w4.heap.size ∧ k ≠ B2 ∧ k ≠ B3) w4 V)
      ?_ ?_ ?_ ?_ ?_ ?assign2 ?body2 ?done2 ?stop2
    · intro hi s A B' hh h hk
      have hB := HBn.out
      have hN := HN4.out
      obtain ⟨h1, ⟨v, h3⟩, h4⟩ := h
      exact ⟨h1, ⟨v, hk.heap h3 (.inl (by omega))⟩, h4.trans (hk.mono (fun k _ h => .inl h.1))⟩
    · intro cd hi s A B' hh h hk
      have hB := HBn.out
      have hN := HN4.out
      obtain ⟨h1, ⟨v, h2, h4⟩, h5, h6⟩ := h
      exact ⟨h1, ⟨v, h2, hk.heap h4 (.inl (by omega))⟩, hk.heap h5 (.inl (by omega)), h6.trans (hk.mono (fun k _ h => .inl h.1))⟩
    · intro hi hh
      exact ⟨fun p hp => by simp at hp, ⟨v0, HB24.out⟩, Keep.refl _ _⟩
    · intro hi pre s V h
      obtain ⟨h1, ⟨v, h3⟩, h4⟩ := h
      exact ⟨h1, ⟨s, heap_setCell_same h3 _⟩, h4.setCell _ _ (fun _ h => h.2 rfl)⟩
    · intro hi pre V h
      obtain ⟨h1, ⟨u, h2⟩, h3⟩ := h
      exact ⟨_, h2⟩
    case assign2 =>
      rintro ly s V K ⟨v9, hv9⟩ hK
      have c0 : V.cell? ⟨B2, 0, none⟩ = some v9 := (cell_at hv9 0).trans rfl
      have f0 : V.frozen? ⟨B2, 0, none⟩ = false := by simp [World.frozen?, hv9]
      gi_wp2
      exact hK
    case body2 =>
      rintro ly2 hi2 pr q V5 hh2 hhV2 ⟨hAi, -, hKi⟩ hb2 hpre2
      have hBn := HBn.out
      have hN4 := HN4.out
      have hq : q < L.length := (mem_free.1 (hpre2.subset (List.mem_append_right _ (List.mem_singleton.2 rfl)))).1
      have hp2 : p < l.length := by have := HLn.out; omega
      have hq2 : q < l.length := by have := HLn.out; omega
      have HX5 : Hid (Ext w V5) := ext_keep HXw4.out hKi (fun i hi => by have := HLB.out; have := HXw4.out.size; omega)
      have HAh5 := Lib.hid (fun (V : World) (k : Ext V5 V) => HAh.out V (HX5.out.trans k) p q hp hq)
      obtain ⟨l0, l1, -, -⟩ := blk_cells (hKi.heap HL4.out (by omega))
      obtain ⟨x0, x1, -, -⟩ := blk_cells (hKi.heap HE4.out (by omega))
      obtain ⟨pbk, po, ha1, cp⟩ := part_cell (HP.out.ext HX5.out) hp2
      obtain ⟨pbk', po', ha2, cq⟩ := part_cell (HP.out.ext HX5.out) hq2
      rw [ha1] at ha2
      cases ha2
      have cb1 : V5.cell? ⟨B1, 0, none⟩ = some (.int .i64 (p : Int)) := (cell_at (hKi.heap HB14.out (by omega)) 0).trans rfl
      have cb2 : V5.cell? ⟨B2, 0, none⟩ = some (.int .i64 (q : Int)) := (cell_at hb2 0).trans rfl
      have HN2 : Hid (NBox V5 B2 q) := hb2
      have HN3 : Hid (BBox V5 B3 false) := hKi.heap HB34.out (by omega)
      have HPr2 := Lib.hid hpre2
      have HAi := Lib.hid hAi
      have HKi := Lib.hid hKi
      have HWs : Hid (isWaste L W l p q = (decide (pt l p < W) && decide (0 < pt l q) && aheadF (at' L p) (at' L q))) := rfl
      have i1 : (0 : Int) ≤ (p : Int) := by omega
      have i2 : (p : Int) < (l.length : Int) := by omega
      have i3 : (0 : Int) ≤ (q : Int) := by omega
      have i4 : (q : Int) < (l.length : Int) := by omega
      have e0 : ∀ E : XW V5, E.w.cell? ⟨LB, 0, none⟩ = some (.slice sa L.length sc) := fun E => E.cell l0
      have e1 : ∀ E : XW V5, E.w.cell? ⟨LB, 1, none⟩ = some (.slice va vl.length vc) := fun E => E.cell l1
      have e2 : ∀ E : XW V5, E.w.cell? ⟨EB, 0, none⟩ = some (.int .i64 (W : Int)) := fun E => E.cell x0
      have e3 : ∀ E : XW V5, E.w.cell? ⟨EB, 1, none⟩ = some (.slice a l.length c) := fun E => E.cell x1
      subst ha1
      have e4 : ∀ E : XW V5, E.w.cell? ⟨B1, 0, none⟩ = some (.int .i64 (p : Int)) := fun E => E.cell cb1
      have e5 : ∀ E : XW V5, E.w.cell? ⟨B2, 0, none⟩ = some (.int .i64 (q : Int)) := fun E => E.cell cb2
      have e6 : ∀ E : XW V5, E.w.cell? ⟨pbk, po + p, none⟩ = some (.int .i64 (pt l p : Int)) := fun E => E.cell cp
      have e7 : ∀ E : XW V5, E.w.cell? ⟨pbk, po + q, none⟩ = some (.int .i64 (pt l q : Int)) := fun E => E.cell cq
      have HWf := Lib.hid (fun (h : isWaste L W l p q = true) => waste_found HPre.out HPr2.out HA.out HAi.out h)
      clear hAi hKi hb2 hpre2 hBn hN4 l0 l1 x0 x1 cp cq cb1 cb2 hh2 hhV2
      generalize pt l p = pp at *
      generalize pt l q = pq at *
      generalize aheadF (at' L p) (at' L q) = z at *
      by_cases k1 : pp < W
      · have d1 : decide ((pp : Int) < (W : Int)) = true := decide_eq_true (by omega)
        by_cases k2 : 0 < pq
        · have d2 : decide ((0 : Int) < (pq : Int)) = true := decide_eq_true (by omega)
          cases z
          · have HNo : Hid (isWaste L W l p q = false) := by show _ = _; rw [HWs.out]; simp
            gi_wp2_with fail
            refine round_quietX (by kernel_rfl) (by kernel_rfl) (by kernel_rfl) ?_
            repeat (go_big_quiet_step ((go_at_call 62; exact Calls.quietX (HAh5.out _ (XW.x _)))))
            refine wpQuiet_nil ?_
            rintro _ ⟨E, rfl⟩
            have HE := Lib.hid E.x
            clear e0 e1 e2 e3 e4 e5 e6 e7
            generalize E.w = V6 at HE ⊢
            gi_wp2_with fail
            have h2 : NBox V6 B2 q := HE.out.block HN2.out
            refine ⟨(Keep.of_ext HE.out), fun y hy => ?_, ⟨q, h2⟩, HKi.out.ext HE.out⟩
            rcases List.mem_append.1 hy with hy | hy
            · exact HAi.out y hy
            · simp only [List.mem_singleton] at hy; rw [hy]; exact HNo.out
          · have HYes : Hid (isWaste L W l p q = true) := by show _ = _; rw [HWs.out]; simp [k1, k2]
            gi_wp2_with fail
            refine round_quietX (by kernel_rfl) (by kernel_rfl) (by kernel_rfl) ?_
            repeat (go_big_quiet_step ((go_at_call 62; exact Calls.quietX (HAh5.out _ (XW.x _)))))
            refine wpQuiet_nil ?_
            rintro _ ⟨E, rfl⟩
            have HE := Lib.hid E.x
            clear e0 e1 e2 e3 e4 e5 e6 e7
            generalize E.w = V6 at HE ⊢
            have f6 : V6.frozen? ⟨B3, 0, none⟩ = false := BBox.frozen (HN3.out.ext HE.out) 0
            have c6 := BBox.cell (HN3.out.ext HE.out)
            gi_wp2_with fail
            have hBn := HBn.out
            have h2 : NBox V6 B2 q := HE.out.block HN2.out
            have h3 : BBox V6 B3 false := HN3.out.ext HE.out
            refine ⟨(Keep.of_ext HE.out).setCell _ _ (fun _ h => ?_), rfl, ⟨q, HWf.out HYes.out, heap_set_other _ _ _ _ h2 (by omega)⟩, h3.set true, (Keep.mono (D' := fun k => k < w4.heap.size ∧ k ≠ B2 ∧ k ≠ B3) (HKi.out.ext HE.out) (fun k _ h => ⟨h.1, h.2.1⟩)).setCell _ _ (fun _ h => h.2.2 rfl)⟩
            have hN := HN4.out
            rcases h with h | h
            · exact h.2.2 rfl
            · have := h.1; simp only at this; omega
        · have d2 : decide ((0 : Int) < (pq : Int)) = false := decide_eq_false (by omega)
          have HNo : Hid (isWaste L W l p q = false) := by show _ = _; rw [HWs.out]; simp [k2]
          gi_wp2_with fail
          refine round_quietX (by kernel_rfl) (by kernel_rfl) (by kernel_rfl) ?_
          repeat (go_big_quiet_step (fail))
          refine wpQuiet_nil ?_
          rintro _ ⟨E, rfl⟩
          have HE := Lib.hid E.x
          clear e0 e1 e2 e3 e4 e5 e6 e7
          generalize E.w = V6 at HE ⊢
          gi_wp2_with fail
          have h2 : NBox V6 B2 q := HE.out.block HN2.out
          refine ⟨(Keep.of_ext HE.out), fun y hy => ?_, ⟨q, h2⟩, HKi.out.ext HE.out⟩
          rcases List.mem_append.1 hy with hy | hy
          · exact HAi.out y hy
          · simp only [List.mem_singleton] at hy; rw [hy]; exact HNo.out
      · have d1 : decide ((pp : Int) < (W : Int)) = false := decide_eq_false (by omega)
        have HNo : Hid (isWaste L W l p q = false) := by show _ = _; rw [HWs.out]; simp [k1]
        gi_wp2_with fail
        refine round_quietX (by kernel_rfl) (by kernel_rfl) (by kernel_rfl) ?_
        repeat (go_big_quiet_step (fail))
        refine wpQuiet_nil ?_
        rintro _ ⟨E, rfl⟩
        have HE := Lib.hid E.x
        clear e0 e1 e2 e3 e4 e5 e6 e7
        generalize E.w = V6 at HE ⊢
        gi_wp2_with fail
        have h2 : NBox V6 B2 q := HE.out.block HN2.out
        refine ⟨(Keep.of_ext HE.out), fun y hy => ?_, ⟨q, h2⟩, HKi.out.ext HE.out⟩
        rcases List.mem_append.1 hy with hy | hy
        · exact HAi.out y hy
        · simp only [List.mem_singleton] at hy; rw [hy]; exact HNo.out
    case done2 =>
      rintro hi2 V5 hh2 ⟨h1, ⟨v, h2⟩, h3⟩
      have hBn := HBn.out
      have hN := HN4.out
      have hKV : Keep (fun k => k < w2.heap.size ∧ k ≠ B1 ∧ k ≠ B2) V V5 := (Keep.of_ext HX4.out).trans (h3.mono (fun k _ h => ⟨by omega, h.2.2⟩))
      refine ⟨(Keep.of_ext HX4.out).trans (h3.mono (fun k _ h => ?_)), fun x hx y hy => ?_, ⟨p, h3.heap HB14.out (by omega)⟩, ⟨v, h2⟩, HKp.out.trans hKV⟩
      · rcases h with h | h
        · exact ⟨by omega, h.2.2.1⟩
        · exact ⟨by have := HLy.out; omega, by omega⟩
      · rcases List.mem_append.1 hx with hx | hx
        · exact HA.out x hx y hy
        · simp only [List.mem_singleton] at hx; rw [hx]; exact h1 y hy
    case stop2 =>
      rintro hi2 cd pr V5 hh2 hpr ⟨rfl, ⟨v, h1, h2⟩, h3, h4⟩
      have hBn := HBn.out
      have hN := HN4.out
      have hKV : Keep (fun k => k < w2.heap.size ∧ k ≠ B1 ∧ k ≠ B2 ∧ k ≠ B3) V V5 := (Keep.of_ext HX4.out).trans (h4.mono (fun k _ h => ⟨by omega, h.2.2⟩))
      apply wpIn_exit
      refine ⟨(Keep.of_ext HX4.out).trans (h4.mono (fun k _ h => ?_)), rfl, ⟨p, v, h1, h4.heap HB14.out (by omega), h2⟩, h3, (HKp.out.mono (fun k _ h => ⟨h.1, h.2.1, h.2.2.1⟩)).trans hKV⟩
      rcases h with h | h
      · exact ⟨by omega, h.2.2⟩
      · exact ⟨by have := HLy.out; omega, by omega, by omega⟩
  case done =>
    rintro hi V hh ⟨h1, ⟨u, h2⟩, ⟨v, h3⟩, h4⟩ hD
    have hB := HBs.out
    have h5 : BBox V B3 false := h4.heap (HM2.out.heap 4 rfl) (by omega)
    have HXV : Hid (Ext w V) := ext_keep HM2.out.to_ext h4 (fun i hi => by have := HLB.out; omega)
    have HNo := Lib.hid (waste_nothing h1)
    have HCV : Hid (Coll w.heap.size V.heap.size [{ target := .collected w2.heap.size, args := #[] }] V) := Coll.cons trivial (by have := HLB.out; omega) (Array.getElem?_eq_some_iff.1 hD).1 hD
    have c1 := NBox.cell h2
    have c2 := NBox.cell h3
    have c3 := h5.cell
    have f1 := NBox.frozen h2 0
    have f2 := NBox.frozen h3 0
    have f3 := h5.frozen 0
    have H2 := Lib.hid h2
    have H3 := Lib.hid h3
    have H5 := Lib.hid h5
    clear h1 h2 h3 h4 h5 hD hh
    simp only [Exit.inBlock, Exit.then]
    have n12 : ¬ B1 = B2 := by omega
    have n13 : ¬ B1 = B3 := by omega
    have n23 : ¬ B2 = B3 := by omega
    have HEn := Lib.hid (waste_end H2.out H3.out H5.out n12 n13 n23)
    have HXn : Hid (Ext w (again V B1 B2 B3 u v false)) := (((HXV.out.setCell (show w.heap.size ≤ B1 by have := HLB.out; omega) _).setCell (show w.heap.size ≤ B2 by have := HLB.out; omega) _).setCell (show w.heap.size ≤ B3 by have := HLB.out; omega) _).drew
    have HCn : Hid (Coll w.heap.size V.heap.size [{ target := .collected w2.heap.size, args := #[] }] (again V B1 B2 B3 u v false)) := HCV.out.keep (fun b' _ _ h8 => by
      have k1 : Keep (fun k => k ≠ B1 ∧ k ≠ B2 ∧ k ≠ B3) V (again V B1 B2 B3 u v false) := (((((Keep.refl _ V).setCell _ _ (fun _ h => h.1 rfl)).setCell _ _ (fun _ h => h.2.1 rfl)).setCell _ _ (fun _ h => h.2.2 rfl))).ext ((Ext.refl _).drew)
      refine k1.heap h8 ⟨fun e => ?_, fun e => ?_, fun e => ?_⟩ <;> subst e
      · rw [show V.heap[b']? = _ from H2.out] at h8; cases h8
      · rw [show V.heap[b']? = _ from H3.out] at h8; cases h8
      · rw [show V.heap[b']? = _ from H5.out] at h8; cases h8)
    go_wp2_with fail
    go_region
    go_wp2_with fail
    simp only [Exit.noGoto]
    refine leaves_coll (hi := V.heap.size) (lo := w.heap.size) HCn.out fun w' hs => ?_
    refine ⟨_, results_three rfl _ w' B1 B2 B3 u v false rfl rfl rfl (hs.cells HEn.out.1) (hs.cells HEn.out.2.1) (hs.cells HEn.out.2.2), ⟨u, v, false, rfl, ?_, hs.ext HXn.out (Nat.le_refl _)⟩⟩
    unfold WasteIs
    rw [HNo.out]
  case stop =>
    rintro hi cd pre V hh hpr ⟨rfl, ⟨u, v, h1, h2, h3⟩, h5, h4⟩ hD
    have hB := HBs.out
    have HXV : Hid (Ext w V) := ext_keep HM2.out.to_ext h4 (fun i hi => by have := HLB.out; omega)
    have HNo := Lib.hid h1
    have HCV : Hid (Coll w.heap.size V.heap.size [{ target := .collected w2.heap.size, args := #[] }] V) := Coll.cons trivial (by have := HLB.out; omega) (Array.getElem?_eq_some_iff.1 hD).1 hD
    have c1 := NBox.cell h2
    have c2 := NBox.cell h3
    have c3 := h5.cell
    have f1 := NBox.frozen h2 0
    have f2 := NBox.frozen h3 0
    have f3 := h5.frozen 0
    have H2 := Lib.hid h2
    have H3 := Lib.hid h3
    have H5 := Lib.hid h5
    clear h1 h2 h3 h4 h5 hD hh hpr
    apply wpIn_exit
    simp only [Exit.inBlock, Exit.then, if_true]
    have n12 : ¬ B1 = B2 := by omega
    have n13 : ¬ B1 = B3 := by omega
    have n23 : ¬ B2 = B3 := by omega
    have HEn := Lib.hid (waste_end H2.out H3.out H5.out n12 n13 n23)
    have HXn : Hid (Ext w (again V B1 B2 B3 u v true)) := (((HXV.out.setCell (show w.heap.size ≤ B1 by have := HLB.out; omega) _).setCell (show w.heap.size ≤ B2 by have := HLB.out; omega) _).setCell (show w.heap.size ≤ B3 by have := HLB.out; omega) _).drew
    have HCn : Hid (Coll w.heap.size V.heap.size [{ target := .collected w2.heap.size, args := #[] }] (again V B1 B2 B3 u v true)) := HCV.out.keep (fun b' _ _ h8 => by
      have k1 : Keep (fun k => k ≠ B1 ∧ k ≠ B2 ∧ k ≠ B3) V (again V B1 B2 B3 u v true) := (((((Keep.refl _ V).setCell _ _ (fun _ h => h.1 rfl)).setCell _ _ (fun _ h => h.2.1 rfl)).setCell _ _ (fun _ h => h.2.2 rfl))).ext ((Ext.refl _).drew)
      refine k1.heap h8 ⟨fun e => ?_, fun e => ?_, fun e => ?_⟩ <;> subst e
      · rw [show V.heap[b']? = _ from H2.out] at h8; cases h8
      · rw [show V.heap[b']? = _ from H3.out] at h8; cases h8
      · rw [show V.heap[b']? = _ from H5.out] at h8; cases h8)
    go_wp2_with fail
    go_region
    go_wp2_with fail
    simp only [Exit.noGoto]
    refine leaves_coll (hi := V.heap.size) (lo := w.heap.size) HCn.out fun w' hs => ?_
    refine ⟨_, results_three rfl _ w' B1 B2 B3 u v true rfl rfl rfl (hs.cells HEn.out.1) (hs.cells HEn.out.2.1) (hs.cells HEn.out.2.2), ⟨u, v, true, rfl, ?_, hs.ext HXn.out (Nat.le_refl _)⟩⟩
    unfold WasteIs
    rw [HNo.out]
    exact ⟨rfl, rfl, rfl⟩
end Go.Proofs.Ytlaolokakaheaaa
