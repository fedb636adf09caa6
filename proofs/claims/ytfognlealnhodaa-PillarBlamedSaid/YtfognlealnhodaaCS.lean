/-
  The kit's Clone and slices.Clone of slices of spans: new memory with the same spans; nothing that was there is turned.
-/
import Derived.Test.YtfognlealnhodaaB
namespace Go.Proofs.Ytfognlealnhodaa
open Go.RowKit

theorem info28c : (Try.prog.info? 28).map (fun i => (i.zero, i.size, i.bytes)) = some (some (.agg #[.int .i64 0, .int .i64 0]), 2, 16) := by kernel_rfl
theorem under26c : Try.prog.underlying 26 = some (.slice 28) := by kernel_rfl
theorem spans_one (l : List (Nat × Nat)) : ∀ u ∈ flat 2 spC l, u.oneCell' = true := by
  intro u hu
  simp only [flat, List.mem_flatMap, List.mem_map, List.mem_range] at hu
  obtain ⟨x, _, j, _, rfl⟩ := hu
  unfold spC; split <;> rfl
theorem cells_of_spans {w : World} {a : Option Addr} {c : Nat} {l : List (Nat × Nat)} (h : IsSl 2 spC w ⟨a, c, l⟩) (ha : a ≠ none) : ∃ ad, a = some ad ∧ ∀ j u, (flat 2 spC l)[j]? = some u → w.cell? (ad.add j) = some u := by
  obtain ⟨h1, h2, h3⟩ := h
  cases a with
  | none => exact absurd rfl ha
  | some ad =>
    refine ⟨ad, rfl, fun j u hu => ?_⟩
    have hj : j < l.length * 2 := by have := (List.getElem?_eq_some_iff.1 hu).1; rwa [flat_length] at this
    rcases h3 with h3 | ⟨b, off, h3, hc⟩
    · dsimp only at h3; omega
    · dsimp only at h3 hc
      cases h3
      have hi : j / 2 < l.length := by omega
      have hr : j % 2 < 2 := Nat.mod_lt _ (by omega)
      have q := flat_get 2 spC l (j / 2) (j % 2) hi hr
      rw [show j / 2 * 2 + j % 2 = j by omega, hu] at q
      cases q
      have e1 : (⟨b, off, none⟩ : Addr).add j = ⟨b, off + j, none⟩ := by
        unfold Addr.add; split
        · rename_i h0; simp_all
        · simp
      rw [e1]
      have q2 := hc (j / 2) hi (j % 2) hr
      rw [Nat.add_assoc, show j / 2 * 2 + j % 2 = j by omega] at q2
      exact q2

set_option maxRecDepth 100000 in
set_option maxHeartbeats 1000000 in
theorem kitCloneS_any (s : SL (Nat × Nat)) (w : World) (hv : IsSl 2 spC w s) :
    Calls Try.prog 36 #[.slice s.a s.l.length s.c] w fun e w' => ∃ a' c', e = .returned (.slice a' s.l.length c') ∧ w'.ownsRow w.heap.size 28 2 (.slice a' s.l.length c') s.l.length (flat 2 spC s.l) ∧ Ext w w' := by
  obtain ⟨a, c, l⟩ := s
  dsimp only
  have hl : l.length ≤ 1000000 := hv.2.1
  obtain ⟨i0, hi, hz⟩ := Option.map_eq_some_iff.1 info28c
  simp only [Prod.mk.injEq] at hz
  obtain ⟨hz0, hz1, hz2⟩ := hz
  by_cases ha : a = none
  · subst ha
    have h0 : l = [] := by
      rcases hv.2.2 with h | ⟨b, off, h, _⟩
      · exact List.eq_nil_of_length_eq_zero h
      · cases h
    subst h0
    clear hv
    go_enter Try.func36, Try.ntmps36
    go_wp2
    go_ret
    exact ⟨none, 0, rfl, World.ownsRow_nil _ _ _ _, Ext.refl _⟩
  · obtain ⟨ad, rfl, hc⟩ := cells_of_spans hv ha
    have HC := Lib.hid hc; clear hc hv ha
    have hfl := flat_length 2 spC l
    have hm : l.length ≤ maxLen := by unfold maxLen; omega
    have HFl := Lib.hid hfl; clear hfl
    go_enter Try.func36, Try.ntmps36
    go_wp2_with (at_builtin; go_must (refine wpList_append_own _ rfl _ _ 26 rfl w.heap.size 28 i0 (.agg #[.int .i64 0, .int .i64 0]) 2 16 under26c hi hz0 hz1 hz2 rfl (by decide) _ 0 [] rfl (World.ownsRow_nil _ _ _ _) ad l.length c (flat 2 spC l) rfl HFl.out HC.out (spans_one l) (by rw [Nat.zero_add]; exact hm) (by omega) (Nat.le_refl _) ?_); intro v' w1 hown hgrow _)
    rw [Nat.zero_add, List.nil_append] at hown
    obtain ⟨a', c', rfl⟩ := own_form hown
    have HO := Lib.hid hown
    have HG := Lib.hid (ext_grown_of (Ext.refl w) hgrow (fun k hk => by cases hk)); clear hown hgrow
    go_wp2
    go_ret
    exact ⟨a', c', rfl, HO.out, HG.out⟩

set_option maxRecDepth 100000 in
set_option maxHeartbeats 1000000 in
theorem cloneS_any (s : SL (Nat × Nat)) (w : World) (hv : IsSl 2 spC w s) :
    Calls Try.prog 92 #[.slice s.a s.l.length s.c] w fun e w' => ∃ a' c', e = .returned (.slice a' s.l.length c') ∧ w'.ownsRow w.heap.size 28 2 (.slice a' s.l.length c') s.l.length (flat 2 spC s.l) ∧ Ext w w' := by
  obtain ⟨a, c, l⟩ := s
  dsimp only
  have hl : l.length ≤ 1000000 := hv.2.1
  obtain ⟨i0, hi, hz⟩ := Option.map_eq_some_iff.1 info28c
  simp only [Prod.mk.injEq] at hz
  obtain ⟨hz0, hz1, hz2⟩ := hz
  have q26 : ∀ (w : World) (a : Option Addr) (n c n' c' : Nat), (binOp .eql 26 (.slice a n c) (.slice none n' c')).run Try.prog w = .ok (.bool a.isNone) w := fun w a n c n' c' => Lib.run_eql_slice_nil w _ _ a n c n' c' under26c
  by_cases ha : a = none
  · subst ha
    have h0 : l = [] := by
      rcases hv.2.2 with h | ⟨b, off, h, _⟩
      · exact List.eq_nil_of_length_eq_zero h
      · cases h
    subst h0
    clear hv
    go_enter Try.func92, Try.ntmps92
    go_wp2
    go_ret
    exact ⟨none, 0, rfl, World.ownsRow_nil _ _ _ _, Ext.refl _⟩
  · obtain ⟨ad, rfl, hc⟩ := cells_of_spans hv ha
    have HC := Lib.hid hc; clear hc hv ha
    have HFl := Lib.hid (flat_length 2 spC l)
    have hm : l.length ≤ maxLen := by unfold maxLen; omega
    go_enter Try.func92, Try.ntmps92
    go_wp2_with (at_builtin; go_must (refine wpList_append_own _ rfl _ _ 26 rfl w.heap.size 28 i0 (.agg #[.int .i64 0, .int .i64 0]) 2 16 under26c hi hz0 hz1 hz2 rfl (by decide) _ 0 [] rfl (World.ownsRow_made w #[] 0 (Nat.le_refl _) (by decide) rfl) ad l.length c (flat 2 spC l) rfl HFl.out (fun j u hu => ((Ext.refl w).alloc _).cell (HC.out j u hu)) (spans_one l) (by rw [Nat.zero_add]; exact hm) (by omega) (by simp) ?_); intro v' w1 hown hgrow _)
    rw [Nat.zero_add, List.nil_append] at hown
    obtain ⟨a', c', rfl⟩ := own_form hown
    have HO := Lib.hid hown
    have HG := Lib.hid (ext_grown_of ((Ext.refl w).alloc _) hgrow (fun k hk => by cases hk; exact Nat.le_refl _)); clear hown hgrow
    go_wp2
    go_ret
    exact ⟨a', c', rfl, HO.out, HG.out⟩
end Go.Proofs.Ytfognlealnhodaa
