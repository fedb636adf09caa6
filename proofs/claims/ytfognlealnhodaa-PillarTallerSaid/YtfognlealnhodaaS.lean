/-
  What sights are in each truth, in some, in all; what becomes of them when a profile is raised, turned, moved or made wider: mathematics alone. Nothing is claimed of the program here.
-/
import Derived.Test.YtfognlealnhodaaR
namespace Go.Proofs.Ytfognlealnhodaa

theorem gnd_mono {r r' e e' b f : Nat} (hr : r' ≤ r) (he : e' ≤ e) : gnd r' e' b f ≤ gnd r e b f := by
  unfold gnd
  exact Nat.mul_le_mul_right _ (Nat.add_le_add (Nat.mul_le_mul_right _ hr) (Nat.mul_le_mul_right _ (Nat.mul_le_mul_right _ he)))
theorem lin_mono {x x' y y' b f : Nat} (hx : x ≤ x') (hy : y ≤ y') : lin x y b f ≤ lin x' y' b f := by
  unfold lin
  exact Nat.mul_le_mul_right _ (Nat.add_le_add (Nat.mul_le_mul_right _ hx) (Nat.mul_le_mul_right _ hy))
/-- Lower ground between, a lesser bend and higher heads never want taller pillars. -/
theorem needOf_mono {r r' e e' x x' y y' b f : Nat} (hb : 0 < b + f) (hr : r' ≤ r) (he : e' ≤ e) (hx : x ≤ x') (hy : y ≤ y') : needOf r' e' x' y' b f ≤ needOf r e x y b f := by
  rw [needOf_le hb]
  have h := (needOf_le (r := r) (e := e) (x := x) (y := y) (t := needOf r e x y b f) hb).1 (Nat.le_refl _)
  have g := gnd_mono (b := b) (f := f) hr he
  have l := lin_mono (b := b) (f := f) hx hy
  omega
/-- Ground and heads that are all raised by as much. -/
theorem needOf_raise (r e x y b f u : Nat) (hb : 0 < b + f) : needOf (r + u) e (x + u) (y + u) b f = needOf r e x y b f := by
  have hg : gnd (r + u) e b f = gnd r e b f + u * ((b + f) * 10000000) := by
    unfold gnd; rw [Nat.add_mul r u, Nat.add_right_comm, Nat.add_mul _ (u * 10000000), Nat.mul_assoc u, Nat.mul_comm 10000000]
  have hl : lin (x + u) (y + u) b f = lin x y b f + u * ((b + f) * 10000000) := by
    unfold lin
    rw [Nat.add_mul x, Nat.add_mul y, show x * f + u * f + (y * b + u * b) = (x * f + y * b) + u * (b + f) by rw [Nat.mul_add]; omega, Nat.add_mul, Nat.mul_assoc u]
  apply Nat.le_antisymm
  · rw [needOf_le hb, hg, hl]
    have h := (needOf_le (r := r) (e := e) (x := x) (y := y) (t := needOf r e x y b f) hb).1 (Nat.le_refl _)
    omega
  · rw [needOf_le hb]
    have h := (needOf_le (r := r + u) (e := e) (x := x + u) (y := y + u) (t := needOf (r + u) e (x + u) (y + u) b f) hb).1 (Nat.le_refl _)
    rw [hg, hl] at h
    omega
/-- A line that is looked at from its other end. -/
theorem needOf_swap (r e x y b f : Nat) : needOf r e y x f b = needOf r e x y b f := by
  have hg : gnd r e f b = gnd r e b f := by unfold gnd; rw [Nat.add_comm f b, Nat.mul_assoc e f b, Nat.mul_comm f b, ← Nat.mul_assoc]
  have hl : lin y x f b = lin x y b f := by unfold lin; rw [Nat.add_comm]
  unfold needOf
  rw [hg, hl, Nat.add_comm f b]
/-- Twice the distances with a quarter of the bend. -/
theorem needOf_wide (r e x y b f : Nat) (hb : 0 < b + f) : needOf r e x y (2 * b) (2 * f) = needOf r (4 * e) x y b f := by
  have hg : gnd r e (2 * b) (2 * f) = 2 * gnd r (4 * e) b f := by
    unfold gnd
    rw [show e * (2 * b) * (2 * f) = 4 * e * b * f by
      rw [Nat.mul_left_comm e 2 b, Nat.mul_assoc 2 (e * b), Nat.mul_left_comm (e * b) 2 f, ← Nat.mul_assoc 2 2, Nat.mul_assoc 4 e b, Nat.mul_assoc 4 (e * b)], ← Nat.mul_add, Nat.mul_left_comm]
  have hl : lin x y (2 * b) (2 * f) = 2 * lin x y b f := by
    unfold lin; rw [Nat.mul_left_comm x, Nat.mul_left_comm y, ← Nat.mul_add, Nat.mul_assoc]
  have key : ∀ t, needOf r e x y (2 * b) (2 * f) ≤ t ↔ needOf r (4 * e) x y b f ≤ t := fun t => by
    rw [needOf_le (by omega), needOf_le hb, hg, hl, show t * ((2 * b + 2 * f) * 10000000) = 2 * (t * ((b + f) * 10000000)) by
      rw [← Nat.mul_add, Nat.mul_assoc 2, Nat.mul_left_comm]]
    omega
  exact Nat.le_antisymm ((key _).2 (Nat.le_refl _)) ((key _).1 (Nat.le_refl _))

theorem seeF_comm (d : Bool) (p : Prof) (i j : Nat) : seeF d p i j = seeF d p j i := by
  unfold seeF; rw [Nat.min_comm, Nat.max_comm]
theorem seeF_iff {d : Bool} {p : Prof} {i j : Nat} : seeF d p i j = true ↔ ∀ k, min i j < k → k < max i j → needF d p (min i j) k (max i j) ≤ p.T := seesF_iff
theorem seeF_next {d : Bool} {p : Prof} {i j : Nat} (h : max i j = min i j + 1) : seeF d p i j = true := seeF_iff.2 fun k h1 h2 => by omega
/-- A truth lies between what is surely so and what can be. -/
theorem truth_at {p : Prof} {h : List Nat} {bend : Nat} (hl : h.length = p.G.length) (ht : truthTo h p.G h.length = true) {k : Nat} (hk : k < p.G.length) : (p.g k).1 ≤ h[k]?.getD 0 ∧ h[k]?.getD 0 ≤ (p.g k).2 ∧ (realP p h bend).g k = (h[k]?.getD 0, h[k]?.getD 0) := by
  have q := truthTo_true.1 ht k (by omega)
  simp only [inB, Bool.and_eq_true, decide_eq_true_eq] at q
  refine ⟨q.1, q.2, ?_⟩
  simp only [realP, Prof.g, List.getElem?_map]
  rw [List.getElem?_eq_getElem (show k < h.length by omega)]; rfl
theorem endOf_same (d : Bool) (x : Nat) : endOf d (x, x) = x := by cases d <;> rfl
theorem endOf_le (d : Bool) {s : Nat × Nat} (h : s.1 ≤ s.2) : s.1 ≤ endOf d s ∧ endOf d s ≤ s.2 := by cases d <;> simp [endOf, h]
theorem need_truth {p : Prof} {h : List Nat} {bend : Nat} (hk : OkP p) (hl : h.length = p.G.length) (ht : truthTo h p.G h.length = true) (hb : inB bend (p.lo, p.hi) = true) {i k j : Nat} (h1 : i < k) (h2 : k < j) (h3 : j < p.A.length) (d : Bool) :
    needF false p i k j ≤ needF d (realP p h bend) i k j ∧ needF d (realP p h bend) i k j ≤ needF true p i k j := by
  have gl := hk.gl
  have ti := truth_at (bend := bend) hl ht (show i < p.G.length by omega)
  have tk := truth_at (bend := bend) hl ht (show k < p.G.length by omega)
  have tj := truth_at (bend := bend) hl ht (show j < p.G.length by omega)
  have ha := hk.a_lt h1 (by omega)
  simp only [inB, Bool.and_eq_true, decide_eq_true_eq] at hb
  have e : needF d (realP p h bend) i k j = needOf (h[k]?.getD 0) bend (h[i]?.getD 0) (h[j]?.getD 0) (p.a k - p.a i) (p.a j - p.a k) := by
    unfold needF
    rw [ti.2.2, tk.2.2, tj.2.2, endOf_same, endOf_same, endOf_same]
    simp only [realP, endOf_same]
    rfl
  rw [e]
  exact ⟨needOf_mono (by omega) tk.1 hb.1 ti.2.1 tj.2.1, needOf_mono (by omega) tk.2.1 hb.2 ti.1 tj.1⟩
theorem see_truth {p : Prof} {h : List Nat} {bend : Nat} (hk : OkP p) (hl : h.length = p.G.length) (ht : truthTo h p.G h.length = true) (hb : inB bend (p.lo, p.hi) = true) {i j : Nat} (hi : i < p.A.length) (hj : j < p.A.length) (d : Bool) :
    (seeF true p i j = true → seeF d (realP p h bend) i j = true) ∧ (seeF d (realP p h bend) i j = true → seeF false p i j = true) := by
  constructor
  · intro q
    rw [seeF_iff] at q ⊢
    intro k h1 h2
    exact Nat.le_trans (need_truth hk hl ht hb h1 h2 (by omega) d).2 (q k h1 h2)
  · intro q
    rw [seeF_iff] at q ⊢
    intro k h1 h2
    exact Nat.le_trans (need_truth hk hl ht hb h1 h2 (by omega) d).1 (q k h1 h2)
/-- The truth in which two places see each other least, or most. -/
theorem see_worst {p : Prof} {h : List Nat} (hk : OkP p) (hl : h.length = p.G.length) (c d : Bool) {i j : Nat} (hi : i < p.A.length) (hj : j < p.A.length) (hh : ∀ k, k < p.G.length → h[k]?.getD 0 = endOf (if k = i ∨ k = j then !c else c) (p.g k)) :
    seeF d (realP p h (endOf c (p.lo, p.hi))) i j = seeF c p i j := by
  have gl := hk.gl
  have hg : ∀ k, k < p.G.length → (realP p h (endOf c (p.lo, p.hi))).g k = (h[k]?.getD 0, h[k]?.getD 0) := fun k hk2 => by
    simp only [realP, Prof.g, List.getElem?_map]
    rw [List.getElem?_eq_getElem (show k < h.length by omega)]; rfl
  have key : ∀ k, min i j < k → k < max i j → needF d (realP p h (endOf c (p.lo, p.hi))) (min i j) k (max i j) = needF c p (min i j) k (max i j) := fun k h1 h2 => by
    unfold needF
    rw [hg k (by omega), hg (min i j) (by omega), hg (max i j) (by omega), endOf_same, endOf_same, endOf_same, hh k (by omega), hh (min i j) (by omega), hh (max i j) (by omega), if_neg (by omega), if_pos (by omega), if_pos (by omega)]
    simp only [realP, endOf_same]
    rfl
  rw [Bool.eq_iff_iff, seeF_iff, seeF_iff]
  constructor
  · intro q k h1 h2; rw [← key k h1 h2]; exact q k h1 h2
  · intro q k h1 h2; rw [key k h1 h2]; exact q k h1 h2
/-- Two places see each other just if Tall is the tallest that is needed between. -/
theorem seeF_tall {d : Bool} {p : Prof} {i j : Nat} (hij : i ≠ j) : seeF d p i j = decide (tallF d p i j ≤ p.T) := by
  rw [Bool.eq_iff_iff, seeF_iff, decide_eq_true_eq, tallF_le hij]
end Go.Proofs.Ytfognlealnhodaa
