/-
  Rows of spans of one's own; slices.Replace, where the last two spans of a row are replaced by one.
-/
import Derived.Test.YtfognlealnhodaaIV
import Derived.Test.YtfognlealnhodaaCS
import Derived.Lib.AppendZeros
namespace Go.Proofs.Ytfognlealnhodaa
open Go.RowKit

/-- Block g has room for c spans, the first of which are l; it is not frozen. -/
def RowP (w : World) (g : Nat) (l : List (Nat × Nat)) (c : Nat) : Prop :=
  ∃ cur : Array Value, w.heap[g]? = some (.cells cur 28 (0, 0)) ∧ cur.size = c * 2 ∧ l.length ≤ c ∧ ∀ i (h : i < l.length) j, j < 2 → cur[i * 2 + j]? = some (spC l[i] j)
theorem RowP.le {w : World} {g c : Nat} {l : List (Nat × Nat)} (h : RowP w g l c) : l.length ≤ c := by obtain ⟨cur, h1, h2, h3, h4⟩ := h; exact h3
theorem RowP.lt {w : World} {g c : Nat} {l : List (Nat × Nat)} (h : RowP w g l c) : g < w.heap.size := by obtain ⟨cur, h1, h2⟩ := h; exact (Array.getElem?_eq_some_iff.1 h1).1
theorem RowP.ext {w w' : World} {g c : Nat} {l : List (Nat × Nat)} (h : RowP w g l c) (k : Ext w w') : RowP w' g l c := by obtain ⟨cur, h1, h2⟩ := h; exact ⟨cur, k.block h1, h2⟩
theorem RowP.keep {w w' : World} {g c : Nat} {l : List (Nat × Nat)} {D : Nat → Prop} (h : RowP w g l c) (k : Keep D w w') (hd : D g) : RowP w' g l c := by obtain ⟨cur, h1, h2⟩ := h; exact ⟨cur, k.heap h1 hd, h2⟩
theorem RowP.cell {w : World} {g c : Nat} {l : List (Nat × Nat)} (h : RowP w g l c) (i : Nat) (hi : i < l.length) (j : Nat) (hj : j < 2) : w.cell? ⟨g, i * 2 + j, none⟩ = some (spC l[i] j) := by
  obtain ⟨cur, h1, h2, h3, h4⟩ := h; exact (cell_at h1 _).trans (h4 i hi j hj)
theorem RowP.frozen {w : World} {g c : Nat} {l : List (Nat × Nat)} (h : RowP w g l c) (i : Nat) : w.frozen? ⟨g, i, none⟩ = false := by
  obtain ⟨cur, h1, h2⟩ := h; simp [World.frozen?, h1]
theorem RowP.there {w : World} {g c : Nat} {l : List (Nat × Nat)} (h : RowP w g l c) (i : Nat) (hi : i < c * 2) : (w.cell? ⟨g, i, none⟩).isSome = true := by
  obtain ⟨cur, h1, h2, h3, h4⟩ := h; rw [cell_at h1, Array.getElem?_eq_getElem (by omega)]; rfl
theorem RowP.take {w : World} {g c : Nat} {l : List (Nat × Nat)} (h : RowP w g l c) (m : Nat) : RowP w g (l.take m) c := by
  obtain ⟨cur, h1, h2, h3, h4⟩ := h
  refine ⟨cur, h1, h2, by rw [List.length_take]; omega, fun i hi j hj => ?_⟩
  rw [List.length_take] at hi
  rw [h4 i (by omega) j hj, List.getElem_take]
theorem RowP.sl {w : World} {g c : Nat} {l : List (Nat × Nat)} (h : RowP w g l c) (hl : l.length ≤ 1000000) : IsSl 2 spC w ⟨some ⟨g, 0, none⟩, c, l⟩ :=
  ⟨h.le, hl, .inr ⟨g, 0, rfl, fun i hi j hj => by rw [Nat.zero_add]; exact h.cell i hi j hj⟩⟩
theorem RowP.drop {w : World} {g c : Nat} {l : List (Nat × Nat)} (h : RowP w g l c) (hl : l.length ≤ 1000000) (m : Nat) (hm : m ≤ l.length) : IsSl 2 spC w ⟨if c = m then some ⟨g, 0, none⟩ else some ⟨g, m * 2, none⟩, c - m, l.drop m⟩ := by
  have hle := h.le
  refine ⟨by simp only [List.length_drop]; omega, by simp only [List.length_drop]; omega, ?_⟩
  by_cases e : c = m
  · exact .inl (by simp only [List.length_drop]; omega)
  · refine .inr ⟨g, m * 2, by simp only [e, if_false], fun i hi j hj => ?_⟩
    simp only [List.length_drop] at hi
    rw [List.getElem_drop, show m * 2 + i * 2 + j = (m + i) * 2 + j by omega]
    exact h.cell (m + i) (by omega) j hj
theorem RowP.of_own {w : World} {base : Nat} {g c : Nat} {l : List (Nat × Nat)} (h : w.ownsRow base 28 2 (.slice (some ⟨g, 0, none⟩) l.length c) l.length (flat 2 spC l)) : RowP w g l c ∧ base ≤ g := by
  have hx := own_slG (cs := spC) (sz := 2) h
  obtain ⟨h1, h2⟩ := h
  rcases h2 with ⟨h2, h3⟩ | ⟨g', cap, cur, h2, hb, hh, hn, hm, hs, ht⟩
  · cases h2
  · simp only [Value.slice.injEq, Option.some.injEq, Addr.mk.injEq, and_true, true_and] at h2
    obtain ⟨rfl, rfl⟩ := h2
    refine ⟨⟨cur, hh, hs, hn, fun i hi j hj => ?_⟩, hb⟩
    have e1 : cur[i * 2 + j]? = (cur.toList.take (l.length * 2))[i * 2 + j]? := by
      rw [List.getElem?_take, if_pos (by omega)]; simp
    rw [e1, ht, flat_get _ _ _ _ _ hi hj]
theorem flat_one (x : Nat × Nat) : flat 2 spC [x] = [.int .i64 (x.1 : Int), .int .i64 (x.2 : Int)] := rfl
theorem RowP.put {w : World} {g c : Nat} {l : List (Nat × Nat)} (h : RowP w g l c) (i : Nat) (x : Nat × Nat) (hi : i < l.length) : RowP (w.setCells g (i * 2) (flat 2 spC [x])) g (l.set i x) c := by
  obtain ⟨cur, h1, h2, h3, h4⟩ := h
  obtain ⟨c2, k1, k2, k3⟩ := put_cells g 28 (0, 0) (flat 2 spC [x]) (i * 2) w cur h1
  refine ⟨c2, k1, by omega, by simpa using h3, fun y hy j hj => ?_⟩
  rw [List.length_set] at hy
  rw [k3, flat_length, List.getElem_set]
  by_cases e : i = y
  · subst e
    rw [if_pos (by simp; omega), if_pos rfl, show i * 2 + j - i * 2 = 0 * 2 + j by omega]
    exact flat_get 2 spC [x] 0 j (by simp) hj
  · rw [if_neg (by simp; omega), if_neg e]; exact h4 y hy j hj
theorem RowP.past {w : World} {g c o : Nat} {l : List (Nat × Nat)} (h : RowP w g l c) (vs : List Value) (ho : l.length * 2 ≤ o) : RowP (w.setCells g o vs) g l c := by
  obtain ⟨cur, h1, h2, h3, h4⟩ := h
  obtain ⟨c2, k1, k2, k3⟩ := put_cells g 28 (0, 0) vs o w cur h1
  exact ⟨c2, k1, by omega, h3, fun y hy j hj => by rw [k3, if_neg (by omega)]; exact h4 y hy j hj⟩
theorem take_put (l : List (Nat × Nat)) (i : Nat) (x : Nat × Nat) (hi : i < l.length) : (l.set i x).take (i + 1) = l.take i ++ [x] := by
  rw [List.take_succ_eq_append_getElem (by rw [List.length_set]; omega), List.getElem_set_self, List.take_set_of_le (Nat.le_refl _)]
theorem zeroValue28 (w : World) : (zeroValue 28).run Try.prog w = .ok (.agg #[.int .i64 0, .int .i64 0]) w := by kernel_rfl

set_option maxRecDepth 100000 in
set_option maxHeartbeats 2000000 in
theorem replaceEnd_any (g c i n vb : Nat) (l : List (Nat × Nat)) (x : Nat × Nat) (w : World) (hrow : RowP w g l c) (hn : i + 2 = n) (hl : l.length = n) (hi : n ≤ 1000) (hv : IsSl 2 spC w ⟨some ⟨vb, 0, none⟩, 1, [x]⟩) :
    Calls Try.prog 94 #[.slice (some ⟨g, 0, none⟩) n c, .int .i64 (i : Int), .int .i64 (n : Int), .slice (some ⟨vb, 0, none⟩) 1 1] w fun e w' => e = .returned (.slice (some ⟨g, 0, none⟩) (i + 1) c) ∧ RowP w' g (l.take i ++ [x]) c ∧ Keep (fun k => k ≠ g) w w' := by
  obtain ⟨i0, hi0, hz⟩ := Option.map_eq_some_iff.1 info28c
  simp only [Prod.mk.injEq] at hz
  obtain ⟨hz0, hz1, hz2⟩ := hz
  have hle := hrow.le
  have hap : ∀ ty, (Builtin.append_ #[26, 26] ty #[.slice (some ⟨g, 0, none⟩) i c, .slice (some ⟨vb, 0, none⟩) 1 1]).run Try.prog w = .ok (.slice (some ⟨g, 0, none⟩) (i + 1) c) (w.setCells g (i * 2) (flat 2 spC [x])) := fun ty => by
    have h := run_append_room_cells (P := Try.prog) w 26 ty 28 i0 under26c hi0 g 0 i c ⟨vb, 0, none⟩ 1 1 (flat 2 spC [x]) (by rw [hz1]; rfl) (fun j u hu => by
      obtain ⟨_, _, h3⟩ := hv
      obtain ⟨b, off, ha, hc⟩ := h3.resolve_left (by simp)
      simp only [Option.some.injEq, Addr.mk.injEq, and_true] at ha
      obtain ⟨rfl, rfl⟩ := ha
      have hj : j < 2 := by have := (List.getElem?_eq_some_iff.1 hu).1; rw [flat_length] at this; simpa using this
      have e := flat_get 2 spC [x] 0 j (by simp) hj
      rw [show 0 * 2 + j = j by omega, hu] at e
      rw [Addr.add_lit]
      have q := hc 0 (by simp) j hj
      simp only [Nat.zero_mul, Nat.add_zero, Nat.zero_add] at q
      rw [Nat.zero_add, q, Option.some.injEq] 
      rw [Option.some.injEq] at e
      exact e.symm) (spans_one [x]) (by omega) (fun j hj => by rw [flat_length] at hj; rw [hz1]; exact hrow.there _ (by simp at hj; omega)) (fun j _ => hrow.frozen _)
    rw [hz1, Nat.zero_add] at h
    exact h
  have hp := hrow.put i x (by omega)
  have HP := Lib.hid hp
  have HB1 : Hid (Keep (fun k => k ≠ g) w (w.setCells g (i * 2) (flat 2 spC [x]))) := keep_setCells g (fun _ h => h rfl) _ _ _ (Keep.refl _ w)
  have hcl : ∀ ty, (Builtin.clear_ #[26] ty #[.slice (some ⟨g, (i + 1) * 2, none⟩) (n - (i + 1)) (c - (i + 1))]).run Try.prog (w.setCells g (i * 2) (flat 2 spC [x])) = .ok (.tuple #[]) ((w.setCells g (i * 2) (flat 2 spC [x])).setCells g ((i + 1) * 2) [.int .i64 0, .int .i64 0]) := fun ty => by
    have hst := run_storeCells_cells (P := Try.prog) g ((i + 1) * 2) [.int .i64 0, .int .i64 0] 0 (w.setCells g (i * 2) (flat 2 spC [x])) (fun j hj => by simp only [List.length_cons, List.length_nil] at hj; rw [Nat.add_zero]; exact hp.there _ (by omega)) (fun j _ => hp.frozen _) (fun v hv => by simp at hv; rw [hv]; rfl)
    simp only [Nat.add_zero] at hst
    rw [show n - (i + 1) = 0 + 1 by omega]
    exact clear_run (fun w => run_underlying under26c w) (zeroValue28 _) (by kernel_rfl) hst
  have hfin : Hid (RowP ((w.setCells g (i * 2) (flat 2 spC [x])).setCells g ((i + 1) * 2) [.int .i64 0, .int .i64 0]) g (l.take i ++ [x]) c) := by
    have h := (HP.out.take (i + 1)).past (o := (i + 1) * 2) [.int .i64 0, .int .i64 0] (by rw [List.length_take]; omega)
    rw [take_put l i x (by omega)] at h
    exact h
  have HB2 : Hid (Keep (fun k => k ≠ g) w ((w.setCells g (i * 2) (flat 2 spC [x])).setCells g ((i + 1) * 2) [.int .i64 0, .int .i64 0])) := keep_setCells g (fun _ h => h rfl) _ _ _ HB1.out
  have e1 : ((i : Int) == (n : Int)) = false := by rw [beq_eq_false_iff_ne]; omega
  have e2 : (0 : Int) ≤ (i : Int) := by omega
  have e3 : (i : Int) ≤ (n : Int) := by omega
  have e4 : n ≤ c := by omega
  have e5 : i ≤ c := by omega
  have e6 : ¬ c = i + 1 := by omega
  have e7 : ¬ c = i := by omega
  have e8 : i + 1 < n := by omega
  have e9 : i + 1 ≤ n := by omega
  have e10 : i ≤ n := by omega
  clear hrow hv hn hl hp hi0 hz0 hz1 hz2
  go_enter Try.func94, Try.ntmps94
  go_wp2_with (at_builtin; refine Lib.wpList_append_run _ rfl _ _ _ _ rfl _ _ rfl rfl _ _ (hap _) ?_)
  go_ret
  exact ⟨rfl, hfin.out, HB2.out⟩
end Go.Proofs.Ytfognlealnhodaa
