/-
  By the exchange by which both gain alike neither gains less than nothing, and by no other one do both gain more, as mathematics. Nothing is claimed of the program here.
-/
import Derived.Test.YtlaolokakaheaaaBP
namespace Go.Proofs.Ytlaolokakaheaaa

/-- What both gain alike is no less than nothing: as things are nobody gains, and nobody has more in all by a price that holds. -/
theorem gain_pos {L : List St} {W : Nat} {P : List Nat} {a b : Nat} (h : holdsF L W P a b = true) (ha : 1 ≤ a) (hp : ∀ i, i < L.length → pt P i ≤ W) (hl : hasN L P + W * hasS L 1 (nowP L) = hasS L W P + W * hasN L (nowP L)) : W * hasN L (nowP L) ≤ hasN L P := by
  have h1 := price_max (V := 1) (Q := nowP L) h now_allows (fun i hi => now_pt_le hi) hp
  rw [Nat.mul_one, Nat.add_mul] at h1
  rcases Nat.lt_or_ge (hasN L P) (W * hasN L (nowP L)) with h2 | h2
  · exfalso
    have h3 : hasS L W P < W * hasS L 1 (nowP L) := by omega
    have e1 : hasN L (nowP L) * a * W = W * hasN L (nowP L) * a := by rw [Nat.mul_comm (hasN L (nowP L) * a) W, Nat.mul_assoc]
    have e2 : hasS L 1 (nowP L) * b * W = W * hasS L 1 (nowP L) * b := by rw [Nat.mul_comm (hasS L 1 (nowP L) * b) W, Nat.mul_assoc]
    rw [e1, e2] at h1
    have q1 := Nat.mul_lt_mul_of_pos_right h2 ha
    have q2 := Nat.mul_le_mul_right b (Nat.le_of_lt h3)
    omega
  · exact h2
/-- Of an exchange that is tried one side gains no more. -/
theorem no_both {L : List St} {W V : Nat} {P Q : List Nat} {a b : Nat} (h : holdsF L W P a b = true) (ha : 1 ≤ a) (hQ : allowsF L V Q = true) (hq : ∀ i, i < L.length → pt Q i ≤ V) (hp : ∀ i, i < L.length → pt P i ≤ W) :
    ¬ (hasN L P * V < hasN L Q * W ∧ hasS L W P * V < hasS L V Q * W) := by
  rintro ⟨h1, h2⟩
  have h3 := price_max h hQ hq hp
  rw [Nat.add_mul, Nat.add_mul, Nat.mul_assoc, Nat.mul_assoc, Nat.mul_assoc, Nat.mul_assoc, Nat.mul_comm a W, Nat.mul_comm b W, Nat.mul_comm a V, Nat.mul_comm b V, ← Nat.mul_assoc, ← Nat.mul_assoc, ← Nat.mul_assoc, ← Nat.mul_assoc] at h3
  have q1 := Nat.mul_lt_mul_of_pos_right h1 ha
  have q2 := Nat.mul_le_mul_right b (Nat.le_of_lt h2)
  omega
end Go.Proofs.Ytlaolokakaheaaa
