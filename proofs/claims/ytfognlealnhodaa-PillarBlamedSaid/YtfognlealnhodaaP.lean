/-
  Profiles, what hides what, and how tall pillars must be: mathematics alone. Nothing is claimed of the program here.
-/
import Derived.WalkKit
namespace Go.Proofs.Ytfognlealnhodaa

/-- A profile: distances, heights as spans, Tall, and the bend's span. -/
structure Prof where
  A : List Nat
  G : List (Nat × Nat)
  T : Nat
  lo : Nat
  hi : Nat
def Prof.a (p : Prof) (i : Nat) : Nat := (p.A[i]?).getD 0
def Prof.g (p : Prof) (i : Nat) : Nat × Nat := (p.G[i]?).getD (0, 0)

/-- A profile that is right. -/
structure OkP (p : Prof) : Prop where
  n1 : 2 ≤ p.A.length
  n2 : p.A.length ≤ 40
  gl : p.G.length = p.A.length
  ab : ∀ x ∈ p.A, x ≤ 20000
  gb : ∀ s ∈ p.G, s.1 ≤ s.2 ∧ s.2 ≤ 1000000
  tb : p.T ≤ 2000
  bb : p.lo ≤ p.hi ∧ p.hi ≤ 1000
  inc : p.A.Pairwise (· < ·)

theorem Prof.a_eq {p : Prof} {i : Nat} (h : i < p.A.length) : p.a i = p.A[i] := by simp [Prof.a, h]
theorem Prof.g_eq {p : Prof} {i : Nat} (h : i < p.G.length) : p.g i = p.G[i] := by simp [Prof.g, h]
theorem OkP.a_le {p : Prof} (h : OkP p) (i : Nat) : p.a i ≤ 20000 := by
  by_cases hi : i < p.A.length
  · rw [Prof.a_eq hi]; exact h.ab _ (List.getElem_mem hi)
  · simp [Prof.a, List.getElem?_eq_none (Nat.le_of_not_lt hi)]
theorem OkP.g_le {p : Prof} (h : OkP p) (i : Nat) : (p.g i).1 ≤ (p.g i).2 ∧ (p.g i).2 ≤ 1000000 := by
  by_cases hi : i < p.G.length
  · rw [Prof.g_eq hi]; exact h.gb _ (List.getElem_mem hi)
  · simp [Prof.g, List.getElem?_eq_none (Nat.le_of_not_lt hi)]
theorem OkP.a_lt {p : Prof} (h : OkP p) {i j : Nat} (hij : i < j) (hj : j < p.A.length) : p.a i < p.a j := by
  rw [Prof.a_eq (by omega), Prof.a_eq hj]; exact List.pairwise_iff_getElem.1 h.inc i j (by omega) hj hij

/-- Which end of a span: the highest one, or the lowest one. -/
def endOf (hi : Bool) (s : Nat × Nat) : Nat := if hi then s.2 else s.1

/-- How high the ground of a place between two others is, as sights ask, times what makes fractions whole. -/
def gnd (r e b f : Nat) : Nat := (r * 10000000 + e * b * f) * (b + f)
/-- How high the line of sight is there. -/
def lin (x y b f : Nat) : Nat := (x * f + y * b) * 10000000
/-- The least Tall with which a place does not hide two others from each other. -/
def needOf (r e x y b f : Nat) : Nat := if gnd r e b f < lin x y b f then 0 else (gnd r e b f - lin x y b f) / ((b + f) * 10000000) + 1
def needF (d : Bool) (p : Prof) (i k j : Nat) : Nat :=
  needOf (endOf d (p.g k)) (endOf d (p.lo, p.hi)) (endOf (!d) (p.g i)) (endOf (!d) (p.g j)) (p.a k - p.a i) (p.a j - p.a k)

/-- Place i sees place j, before it (d: in all truths, or in some). -/
def seesF (d : Bool) (p : Prof) (i j : Nat) : Bool := (List.range j).all fun k => decide (k ≤ i) || decide (needF d p i k j ≤ p.T)
def seeF (d : Bool) (p : Prof) (i j : Nat) : Bool := seesF d p (min i j) (max i j)
def tallTo (d : Bool) (p : Prof) (i j : Nat) : Nat → Nat
  | 0 => 0
  | c + 1 => max (tallTo d p i j c) (needF d p i (i + 1 + c) j)
def tallF (d : Bool) (p : Prof) (i j : Nat) : Nat := tallTo d p (min i j) (max i j) (max i j - (min i j + 1))

/-- The bounds of what is computed. -/
structure NB (r e x y b f : Nat) : Prop where
  eb : e * b ≤ 20000000
  ebf : e * b * f ≤ 400000000000
  g : (r * 10000000 + e * b * f) * (b + f) ≤ 300000000000000000
  xf : x * f ≤ 20000000000
  yb : y * b ≤ 20000000000
theorem nb_of {r e x y b f : Nat} (hr : r ≤ 1000000) (he : e ≤ 1000) (hx : x ≤ 1000000) (hy : y ≤ 1000000) (hb : b ≤ 20000) (hf : f ≤ 20000) (hbf : b + f ≤ 20000) : NB r e x y b f := by
  have h1 : e * b ≤ 1000 * 20000 := Nat.mul_le_mul he hb
  have h2 : e * b * f ≤ 20000000 * 20000 := Nat.mul_le_mul h1 hf
  have h3 : (r * 10000000 + e * b * f) * (b + f) ≤ (10000000000000 + 400000000000) * 20000 := Nat.mul_le_mul (by omega) hbf
  have h4 : x * f ≤ 1000000 * 20000 := Nat.mul_le_mul hx hf
  have h5 : y * b ≤ 1000000 * 20000 := Nat.mul_le_mul hy hb
  exact ⟨by omega, by omega, by omega, by omega, by omega⟩

theorem needOf_le {r e x y b f t : Nat} (hb : 0 < b + f) : needOf r e x y b f ≤ t ↔ gnd r e b f < lin x y b f + t * ((b + f) * 10000000) := by
  unfold needOf
  have hp : 0 < (b + f) * 10000000 := by omega
  generalize (b + f) * 10000000 = q at *
  generalize gnd r e b f = g
  generalize lin x y b f = l
  split
  · constructor
    · intro _; omega
    · intro _; omega
  · rw [Nat.add_one_le_iff, Nat.div_lt_iff_lt_mul hp]; omega

theorem seesF_iff {d : Bool} {p : Prof} {i j : Nat} : seesF d p i j = true ↔ ∀ k, i < k → k < j → needF d p i k j ≤ p.T := by
  simp only [seesF, List.all_eq_true, List.mem_range, Bool.or_eq_true, decide_eq_true_eq]
  constructor
  · intro h k h1 h2; rcases h k h2 with h | h
    · omega
    · exact h
  · intro h k h2; by_cases h1 : k ≤ i
    · exact .inl h1
    · exact .inr (h k (by omega) h2)
theorem tallTo_le {d : Bool} {p : Prof} {i j c t : Nat} : tallTo d p i j c ≤ t ↔ ∀ k, i < k → k < i + 1 + c → needF d p i k j ≤ t := by
  induction c with
  | zero => simp only [tallTo]; constructor
            · intro _ k h1 h2; omega
            · intro _; omega
  | succ c ih =>
    simp only [tallTo, Nat.max_le, ih]
    constructor
    · rintro ⟨h1, h2⟩ k h3 h4
      by_cases h : k < i + 1 + c
      · exact h1 k h3 h
      · rw [show k = i + 1 + c by omega]; exact h2
    · intro h; exact ⟨fun k h1 h2 => h k h1 (by omega), h _ (by omega) (by omega)⟩
theorem tallF_le {d : Bool} {p : Prof} {i j t : Nat} (hij : i ≠ j) : tallF d p i j ≤ t ↔ ∀ k, min i j < k → k < max i j → needF d p (min i j) k (max i j) ≤ t := by
  unfold tallF; rw [tallTo_le, show min i j + 1 + (max i j - (min i j + 1)) = max i j by omega]
end Go.Proofs.Ytfognlealnhodaa
