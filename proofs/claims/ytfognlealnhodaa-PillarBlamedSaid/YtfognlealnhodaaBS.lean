/-
  A book, of rolls at work, in memory; says of package pillar tells whether the bottle of a stone says a pillar, or any; nothing is turned.
-/
import Derived.Test.YtfognlealnhodaaBK
namespace Go.Proofs.Ytfognlealnhodaa
open Go.RowKit

/-- The cells of a book: finds, how many pillars there are, a table of spans, and a table of numbers of ways. -/
structure BkC (cs : Array Value) (f : FV) (P : Nat) (ap : Nat → Nat → Nat × Nat) (wy : Nat → Nat → Nat) : Prop where
  sz : cs.size = 4803
  c0 : cs[0]? = some (.slice f.gp.a f.gp.l.length f.gp.c)
  c1 : cs[1]? = some (.slice f.nm.a f.nm.l.length f.nm.c)
  c2 : cs[2]? = some (.int .i64 (P : Int))
  ca : ∀ i j, i < 40 → j < 40 → cs[3 + i * 80 + j * 2]? = some (.int .i64 ((ap i j).1 : Int)) ∧ cs[3 + i * 80 + j * 2 + 1]? = some (.int .i64 ((ap i j).2 : Int))
  cw : ∀ i j, i < 40 → j < 40 → cs[3203 + i * 40 + j]? = some (.int .i64 (wy i j : Int))
/-- A book lies in block B. -/
structure Bk (w : World) (B : Nat) (f : FV) (P : Nat) (ap : Nat → Nat → Nat × Nat) (wy : Nat → Nat → Nat) : Prop where
  is : IsF w f
  blk : ∃ cs : Array Value, w.heap[B]? = some (.cells cs 128 (0, 0)) ∧ BkC cs f P ap wy
theorem Bk.ext {w w' : World} {B P : Nat} {f : FV} {ap : Nat → Nat → Nat × Nat} {wy : Nat → Nat → Nat} (h : Bk w B f P ap wy) (k : Ext w w') : Bk w' B f P ap wy := by
  obtain ⟨cs, h1, h2⟩ := h.blk; exact ⟨h.is.ext k, cs, k.block h1, h2⟩
theorem Bk.lt {w : World} {B P : Nat} {f : FV} {ap : Nat → Nat → Nat × Nat} {wy : Nat → Nat → Nat} (h : Bk w B f P ap wy) : B < w.heap.size := by
  obtain ⟨cs, h1, h2⟩ := h.blk; exact (Array.getElem?_eq_some_iff.1 h1).1
theorem Bk.cells {w : World} {B P : Nat} {f : FV} {ap : Nat → Nat → Nat × Nat} {wy : Nat → Nat → Nat} (h : Bk w B f P ap wy) : w.cell? ⟨B, 0, none⟩ = some (.slice f.gp.a f.gp.l.length f.gp.c) ∧ w.cell? ⟨B, 1, none⟩ = some (.slice f.nm.a f.nm.l.length f.nm.c) ∧ w.cell? ⟨B, 2, none⟩ = some (.int .i64 (P : Int)) := by
  obtain ⟨cs, h1, h2⟩ := h.blk
  exact ⟨(cell_at h1 0).trans h2.c0, (cell_at h1 1).trans h2.c1, (cell_at h1 2).trans h2.c2⟩
theorem Bk.apart {w : World} {B P : Nat} {f : FV} {ap : Nat → Nat → Nat × Nat} {wy : Nat → Nat → Nat} (h : Bk w B f P ap wy) {i j : Nat} (hi : i < 40) (hj : j < 40) : w.cell? ⟨B, 3 + i * 80 + j * 2, none⟩ = some (.int .i64 ((ap i j).1 : Int)) ∧ w.cell? ⟨B, 3 + i * 80 + j * 2 + 1, none⟩ = some (.int .i64 ((ap i j).2 : Int)) := by
  obtain ⟨cs, h1, h2⟩ := h.blk
  exact ⟨(cell_at h1 _).trans (h2.ca i j hi hj).1, (cell_at h1 _).trans (h2.ca i j hi hj).2⟩

/-- The bottle of a stone says a pillar, or any. -/
def saysF (nm : List Int) (st p : Nat) : Bool := decide (nm[st]?.getD 0 = -1) || decide (nm[st]?.getD 0 = (p : Int))

set_option maxRecDepth 100000 in
set_option maxHeartbeats 1000000 in
theorem says_any (B P : Nat) (f : FV) (ap : Nat → Nat → Nat × Nat) (wy : Nat → Nat → Nat) (st p : Nat) (w : World) (hw : Bk w B f P ap wy) (hs : st < f.nm.l.length) :
    Calls Try.prog 81 #[.pointer (some ⟨B, 0, none⟩), .int .i64 (st : Int), .int .i64 (p : Int)] w fun e w' => e = .returned (.bool (saysF f.nm.l st p)) ∧ w = w' := by
  obtain ⟨c0, c1, c2⟩ := hw.cells
  have hlt := hw.lt
  obtain ⟨h1, h2, h3⟩ := hw.is.nm
  obtain ⟨b, off, ha, hc⟩ := h3.resolve_left (by omega)
  have hcell : w.cell? ⟨b, off + st, none⟩ = some (.int .i64 (f.nm.l[st]?.getD 0)) := by
    have := hc st hs 0 (by omega); rw [List.getElem?_eq_getElem hs]; simpa [numI] using this
  rw [ha] at c1
  clear hw h3 ha hc c0 c2
  have hq : saysF f.nm.l st p = (decide (f.nm.l[st]?.getD 0 = -1) || decide (f.nm.l[st]?.getD 0 = (p : Int))) := rfl
  rw [hq]
  clear hq
  generalize f.nm.l[st]?.getD 0 = x at *
  have i1 : (0 : Int) ≤ (st : Int) := by omega
  have i2 : (st : Int) < (f.nm.l.length : Int) := by omega
  generalize f.nm.l.length = n at *
  by_cases hx : x = -1
  · have d1 : (x == -1) = true := by rw [beq_iff_eq]; exact hx
    have HR : Hid ((decide (x = -1) || decide (x = (p : Int))) = true) := by show _ = _; rw [decide_eq_true hx]; rfl
    rw [HR.out]
    clear hx HR
    go_enter Try.func81, Try.ntmps81
    go_wp2_with fail
    go_ret
    exact ⟨rfl, rfl⟩
  · have d1 : (x == -1) = false := by rw [beq_eq_false_iff_ne]; exact hx
    have HR : Hid ((decide (x = -1) || decide (x = (p : Int))) = decide (x = (p : Int))) := by show _ = _; rw [decide_eq_false hx]; rfl
    rw [HR.out]
    clear hx HR
    have HB : Hid ((x == (p : Int)) = decide (x = (p : Int))) := by show _ = _; by_cases h : x = (p : Int) <;> simp [h]
    go_enter Try.func81, Try.ntmps81
    go_wp2_with fail
    go_ret
    exact ⟨by rw [← HB.out]; rfl, rfl⟩
end Go.Proofs.Ytfognlealnhodaa
