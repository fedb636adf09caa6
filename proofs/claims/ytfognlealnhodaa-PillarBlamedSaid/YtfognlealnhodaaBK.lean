/-
  The roll and the finds that the statements on pillars wake up with; how finds lie in memory.
-/
import Derived.Test.YtfognlealnhodaaD
namespace Go.Proofs.Ytfognlealnhodaa
open Go.RowKit

/-- How a number, which may be None, lies in a cell. -/
def numI (n : Int) (_ : Nat) : Value := .int .i64 n
/-- Finds in memory. -/
structure FV where
  gp : SL (Nat × Nat)
  nm : SL Int
/-- Finds as a value. -/
abbrev FV.v (f : FV) : Value := .agg #[.slice f.gp.a f.gp.l.length f.gp.c, .slice f.nm.a f.nm.l.length f.nm.c]
structure IsF (w : World) (f : FV) : Prop where
  gp : IsSl 2 spC w f.gp
  nm : IsSl 1 numI w f.nm
theorem IsF.ext {w w' : World} {f : FV} (h : IsF w f) (k : Ext w w') : IsF w' f := ⟨h.gp.ext k, h.nm.ext k⟩
theorem ints_block {w : World} {b : Nat} {T : TypeId} {fr : Nat × Nat} {cs : Array Value} {l : List Int} (h : w.heap[b]? = some (.cells cs T fr)) (hc : ∀ i (hi : i < l.length), cs[i]? = some (.int .i64 l[i])) (hl : l.length ≤ 1000000) : IsSl 1 numI w ⟨some ⟨b, 0, none⟩, l.length, l⟩ := by
  refine ⟨Nat.le_refl _, hl, .inr ⟨b, 0, rfl, fun i hi j hj => ?_⟩⟩
  obtain rfl : j = 0 := by omega
  rw [cell_at h]
  have q := hc i hi
  simpa [numI] using q

set_option maxRecDepth 100000 in
set_option maxHeartbeats 1000000 in
theorem found_any (lo hi : Nat) (x : Int) (w : World) : Calls Try.prog 54 #[.int .i64 (lo : Int), .int .i64 (hi : Int), .int .i64 x] w fun e w' => ∃ f : FV, e = .returned f.v ∧ f.gp.l = [(lo, hi)] ∧ f.nm.l = [-1, x] ∧ IsF w' f ∧ Ext w w' := by
  go_enter Try.func54, Try.ntmps54
  go_wp2_with (go_at_call 24; refine (span_any _ _ _).mono ?_; rintro e w' ⟨rfl, rfl⟩)
  simp only [bodyPost]
  refine ⟨trivial, _, ?_, ⟨⟨some ⟨w.heap.size + 1 + 1, 0, none⟩, 1, [(lo, hi)]⟩, ⟨some ⟨w.heap.size + 1 + 1 + 1, 0, none⟩, 2, [-1, x]⟩⟩, rfl, rfl, rfl, ⟨?_, ?_⟩, ?_⟩
  · simp [results, Try.f54, go_sem]
  · refine sp_block (l := [(lo, hi)]) (b := w.heap.size + 1 + 1) (cs := #[.int .i64 (lo : Int), .int .i64 (hi : Int)]) (T := 28) (fr := (0, 0)) ?_ ?_ (show 1 ≤ 1000000 by omega)
    · exact (alloc_old (by simp only [World.size_alloc]; omega)).trans (alloc_new (by simp only [World.size_alloc]))
    · intro i hi'
      have hi4 : i < 1 := hi'
      obtain rfl : i = 0 := by omega
      exact ⟨rfl, rfl⟩
  · refine ints_block (l := [-1, x]) (b := w.heap.size + 1 + 1 + 1) (cs := #[.int .i64 (-1), .int .i64 x]) (T := 3) (fr := (0, 0)) ?_ ?_ (show 2 ≤ 1000000 by omega)
    · exact alloc_new (by simp only [World.size_alloc])
    · intro i hi'
      have hi4 : i < 2 := hi'
      rcases (show i = 0 ∨ i = 1 by omega) with rfl | rfl <;> rfl
  · exact ((((Ext.refl w).alloc _).alloc _).alloc _).alloc _

set_option maxRecDepth 100000 in
set_option maxHeartbeats 1000000 in
theorem book_any (w : World) : Calls Try.prog 53 #[] w fun e w' => ∃ s : SL (Nat × Nat), e = .returned (.agg #[.slice s.a s.l.length s.c]) ∧ s.l = [(100, 110), (50, 50), (100, 100)] ∧ IsSl 2 spC w' s ∧ Ext w w' := by
  go_enter Try.func53, Try.ntmps53
  go_wp2_with (go_at_call 24; refine (span_any _ _ _).mono ?_; rintro e w' ⟨rfl, rfl⟩)
  simp only [bodyPost]
  refine ⟨trivial, _, ?_, ⟨some ⟨w.heap.size + 1 + 1 + 1 + 1, 0, none⟩, 3, [(100, 110), (50, 50), (100, 100)]⟩, rfl, rfl, ?_, ?_⟩
  · simp [results, Try.f53, go_sem]
  · refine sp_block (l := [(100, 110), (50, 50), (100, 100)]) (b := w.heap.size + 1 + 1 + 1 + 1) (cs := #[.int .i64 100, .int .i64 110, .int .i64 50, .int .i64 50, .int .i64 100, .int .i64 100]) (T := 28) (fr := (0, 0)) ?_ ?_ (show 3 ≤ 1000000 by omega)
    · exact alloc_new (by simp only [World.size_alloc])
    · intro i hi'
      have hi4 : i < 3 := hi'
      rcases (show i = 0 ∨ i = 1 ∨ i = 2 by omega) with rfl | rfl | rfl <;> exact ⟨rfl, rfl⟩
  · exact ((((Ext.refl w).alloc _).alloc _).alloc _).alloc _ |>.alloc _
end Go.Proofs.Ytfognlealnhodaa
