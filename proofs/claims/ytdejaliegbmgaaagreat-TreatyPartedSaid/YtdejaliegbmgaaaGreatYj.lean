/-
  The statements' own Clone at ways and at legs returns a list of its own that reads the same, and turns nothing that was there.
-/
import Derived.Test.YtdejaliegbmgaaaGreatJl
namespace Go.Proofs.YtdejaliegbmgaaaGreat
open Go.RowKit

theorem cells_of_slG {α : Type} {sz : Nat} {cs : α → Nat → Value} {w : World} {a : Option Addr} {c : Nat} {l : List α} (h : IsSl sz cs w ⟨a, c, l⟩) (hs : 0 < sz) (ha : a ≠ none) : ∃ ad, a = some ad ∧ ∀ j u, (flat sz cs l)[j]? = some u → w.cell? (ad.add j) = some u := by
  obtain ⟨h1, h2, h3⟩ := h
  cases a with
  | none => exact absurd rfl ha
  | some ad =>
    refine ⟨ad, rfl, fun j u hu => ?_⟩
    have hj : j < l.length * sz := by have := (List.getElem?_eq_some_iff.1 hu).1; rwa [flat_length] at this
    have hq : j / sz < l.length := Nat.div_lt_of_lt_mul (by rw [Nat.mul_comm]; exact hj)
    have hr : j % sz < sz := Nat.mod_lt _ hs
    have he : j / sz * sz + j % sz = j := by rw [Nat.mul_comm]; exact Nat.div_add_mod j sz
    rcases h3 with h3 | ⟨b, off, h3, hc⟩
    · dsimp only at h3; rw [h3] at hq; exact absurd hq (Nat.not_lt_zero _)
    · cases h3
      have h4 := hc (j / sz) hq (j % sz) hr
      have h5 := flat_get sz cs l (j / sz) (j % sz) hq hr
      rw [he] at h5
      rw [h5] at hu
      cases hu
      rw [Addr.add_lit]
      rw [show off + j / sz * sz + j % sz = off + j by omega] at h4
      exact h4

theorem ways_one (l : List (Nat × Nat × Nat)) : ∀ u ∈ flat 3 wayC l, u.oneCell' = true := by
  intro u hu
  simp only [flat, List.mem_flatMap, List.mem_map, List.mem_range] at hu
  obtain ⟨x, _, j, _, rfl⟩ := hu
  unfold wayC; split
  · rfl
  · split <;> rfl
theorem legs_one (l : List (Nat × Int)) : ∀ u ∈ flat 2 legC l, u.oneCell' = true := by
  intro u hu
  simp only [flat, List.mem_flatMap, List.mem_map, List.mem_range] at hu
  obtain ⟨x, _, j, _, rfl⟩ := hu
  unfold legC; split <;> rfl

set_option maxHeartbeats 400000 in
theorem waysClone_any (a : Option Addr) (n c : Nat) (l : List (Nat × Nat × Nat)) (w : World) (hn : l.length = n) (hv : IsSl 3 wayC w ⟨a, c, l⟩) :
    Calls Tryz.prog 51 #[.slice a n c] w fun e w' => ∃ a' c', e = .returned (.slice a' n c') ∧ w'.ownsRow w.heap.size 81 3 (.slice a' n c') n (flat 3 wayC l) ∧ Ext w w' := by
  subst hn
  have hl : l.length ≤ 1000000 := hv.2.1
  obtain ⟨i0, hi, hz0, hz1, hz2⟩ := info_parts info81
  by_cases ha : a = none
  · subst ha
    have h0 : l = [] := by
      rcases hv.2.2 with h | ⟨b, off, h, _⟩
      · exact List.eq_nil_of_length_eq_zero h
      · cases h
    subst h0
    clear hv
    go_enter Tryz.func51, Tryz.ntmps51
    go_wp2
    go_ret
    exact ⟨none, 0, rfl, World.ownsRow_nil _ _ _ _, Ext.refl _⟩
  · obtain ⟨ad, rfl, hc⟩ := cells_of_slG hv (by decide) ha
    have HC := Lib.hid hc; clear hc hv ha
    go_enter Tryz.func51, Tryz.ntmps51
    go_wp2_with (at_builtin; go_must (refine wpList_append_own _ rfl _ _ 22 rfl w.heap.size 81 i0 (.agg #[.int .i64 0, .int .i64 0, .int .i64 0]) 3 24 Tryz.underlying22 hi hz0 hz1 hz2 rfl (by decide) _ 0 [] rfl (World.ownsRow_nil _ _ _ _) ad l.length c (flat 3 wayC l) rfl (flat_length _ _ _) HC.out (ways_one l) (by unfold maxLen; omega) (by omega) (Nat.le_refl _) ?_); intro v' w1 hown hgrow _)
    rw [Nat.zero_add, List.nil_append] at hown
    obtain ⟨a', c', rfl⟩ := own_form hown
    have HO := Lib.hid hown
    have HG := Lib.hid (ext_grown hgrow); clear hown hgrow
    go_wp2
    go_ret
    exact ⟨a', c', rfl, HO.out, HG.out⟩

set_option maxHeartbeats 400000 in
theorem legsClone_any (a : Option Addr) (n c : Nat) (l : List (Nat × Int)) (w : World) (hn : l.length = n) (hv : IsSl 2 legC w ⟨a, c, l⟩) :
    Calls Tryz.prog 52 #[.slice a n c] w fun e w' => ∃ a' c', e = .returned (.slice a' n c') ∧ w'.ownsRow w.heap.size 86 2 (.slice a' n c') n (flat 2 legC l) ∧ Ext w w' := by
  subst hn
  have hl : l.length ≤ 1000000 := hv.2.1
  obtain ⟨i0, hi, hz0, hz1, hz2⟩ := info_parts info86
  by_cases ha : a = none
  · subst ha
    have h0 : l = [] := by
      rcases hv.2.2 with h | ⟨b, off, h, _⟩
      · exact List.eq_nil_of_length_eq_zero h
      · cases h
    subst h0
    clear hv
    go_enter Tryz.func52, Tryz.ntmps52
    go_wp2
    go_ret
    exact ⟨none, 0, rfl, World.ownsRow_nil _ _ _ _, Ext.refl _⟩
  · obtain ⟨ad, rfl, hc⟩ := cells_of_slG hv (by decide) ha
    have HC := Lib.hid hc; clear hc hv ha
    go_enter Tryz.func52, Tryz.ntmps52
    go_wp2_with (at_builtin; go_must (refine wpList_append_own _ rfl _ _ 25 rfl w.heap.size 86 i0 (.agg #[.int .i64 0, .int .i64 0]) 2 16 Tryz.underlying25 hi hz0 hz1 hz2 rfl (by decide) _ 0 [] rfl (World.ownsRow_nil _ _ _ _) ad l.length c (flat 2 legC l) rfl (flat_length _ _ _) HC.out (legs_one l) (by unfold maxLen; omega) (by omega) (Nat.le_refl _) ?_); intro v' w1 hown hgrow _)
    rw [Nat.zero_add, List.nil_append] at hown
    obtain ⟨a', c', rfl⟩ := own_form hown
    have HO := Lib.hid hown
    have HG := Lib.hid (ext_grown hgrow); clear hown hgrow
    go_wp2
    go_ret
    exact ⟨a', c', rfl, HO.out, HG.out⟩
end Go.Proofs.YtdejaliegbmgaaaGreat
