/-
  The profile that the statements on pillars wake up with.
-/
import Derived.Test.YtfognlealnhodaaC
namespace Go.Proofs.Ytfognlealnhodaa
open Go.RowKit

set_option maxRecDepth 100000 in
set_option maxHeartbeats 1000000 in
theorem span_any (a b : Int) (w : World) : Calls Try.prog 24 #[.int .i64 a, .int .i64 b] w fun e w' => e = .returned (.agg #[.int .i64 a, .int .i64 b]) ∧ w' = w.alloc (.cells #[.int .i64 a, .int .i64 b] 28) := by
  go_enter Try.func24, Try.ntmps24
  go_wp2
  simp only [bodyPost]
  refine ⟨trivial, _, ?_, rfl, trivial⟩
  simp [results, Try.f24, go_sem]

theorem sl_block {w : World} {b : Nat} {T : TypeId} {fr : Nat × Nat} {cs : Array Value} {l : List Nat} (h : w.heap[b]? = some (.cells cs T fr)) (hc : ∀ i (hi : i < l.length), cs[i]? = some (.int .i64 (l[i] : Int))) (hl : l.length ≤ 1000000) : IsSl 1 num w ⟨some ⟨b, 0, none⟩, l.length, l⟩ := by
  refine ⟨Nat.le_refl _, hl, .inr ⟨b, 0, rfl, fun i hi j hj => ?_⟩⟩
  obtain rfl : j = 0 := by omega
  rw [cell_at h]
  have q := hc i hi
  simpa [num] using q
theorem sp_block {w : World} {b : Nat} {T : TypeId} {fr : Nat × Nat} {cs : Array Value} {l : List (Nat × Nat)} (h : w.heap[b]? = some (.cells cs T fr)) (hc : ∀ i (hi : i < l.length), cs[i * 2]? = some (.int .i64 (l[i].1 : Int)) ∧ cs[i * 2 + 1]? = some (.int .i64 (l[i].2 : Int))) (hl : l.length ≤ 1000000) : IsSl 2 spC w ⟨some ⟨b, 0, none⟩, l.length, l⟩ := by
  refine ⟨Nat.le_refl _, hl, .inr ⟨b, 0, rfl, fun i hi j hj => ?_⟩⟩
  rw [cell_at h, Nat.zero_add]
  have q := hc i hi
  rcases (show j = 0 ∨ j = 1 by omega) with rfl | rfl
  · rw [Nat.add_zero, q.1]; simp [spC]
  · rw [q.2]; simp [spC]

set_option maxRecDepth 100000 in
set_option maxHeartbeats 1000000 in
theorem hill_any (h : Nat) (w : World) : Calls Try.prog 52 #[.int .i64 (h : Int)] w fun e w' => ∃ v : PV, e = .returned v.v ∧ v.p = ⟨[0, 100, 200, 300], [(100, 100), (150, h), (120, 120), (100, 100)], 50, 0, 0⟩ ∧ IsP w' v ∧ Ext w w' := by
  go_enter Try.func52, Try.ntmps52
  go_wp2_with (go_at_call 24; refine (span_any _ _ _).mono ?_; rintro e w' ⟨rfl, rfl⟩)
  simp only [bodyPost]
  refine ⟨trivial, _, ?_, ⟨⟨some ⟨w.heap.size + 1, 0, none⟩, 4, [0, 100, 200, 300]⟩, ⟨some ⟨w.heap.size + 1 + 1 + 1 + 1 + 1 + 1, 0, none⟩, 4, [(100, 100), (150, h), (120, 120), (100, 100)]⟩, 50, 0, 0⟩, rfl, rfl, ⟨?_, ?_⟩, ?_⟩
  · simp [results, Try.f52, go_sem]
  · refine sl_block (l := [0, 100, 200, 300]) (b := w.heap.size + 1) (cs := #[.int .i64 0, .int .i64 100, .int .i64 200, .int .i64 300]) (T := 3) (fr := (0, 0)) ?_ ?_ (by decide)
    · iterate 5 refine (alloc_old (by simp only [World.size_alloc]; omega)).trans ?_
      exact alloc_new (by simp only [World.size_alloc])
    · intro i hi
      have hi4 : i < 4 := hi
      rcases (show i = 0 ∨ i = 1 ∨ i = 2 ∨ i = 3 by omega) with rfl | rfl | rfl | rfl <;> rfl
  · refine sp_block (l := [(100, 100), (150, h), (120, 120), (100, 100)]) (b := w.heap.size + 1 + 1 + 1 + 1 + 1 + 1) (cs := #[.int .i64 100, .int .i64 100, .int .i64 150, .int .i64 (h : Int), .int .i64 120, .int .i64 120, .int .i64 100, .int .i64 100]) (T := 28) (fr := (0, 0)) ?_ ?_ (show 4 ≤ 1000000 by omega)
    · exact alloc_new (by simp only [World.size_alloc])
    · intro i hi
      have hi4 : i < 4 := hi
      rcases (show i = 0 ∨ i = 1 ∨ i = 2 ∨ i = 3 by omega) with rfl | rfl | rfl | rfl <;> exact ⟨rfl, rfl⟩
  · exact ((((((Ext.refl w).alloc _).alloc _).alloc _).alloc _).alloc _).alloc _ |>.alloc _
end Go.Proofs.Ytfognlealnhodaa
