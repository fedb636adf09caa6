/-
  The exchange by which the North gains so much, as mathematics: nobody gains as much and leaves the South more. Nothing is claimed of the program here.
-/
import Derived.Test.YtlaolokakaheaaaBQ
namespace Go.Proofs.Ytlaolokakaheaaa
section
variable {L : List St}

/-- What is bound and the North's. -/
def bndN (L : List St) : Nat := sumF (fun i => if (at' L i).free then 0 else (at' L i).n * nowF (at' L i)) L.length
/-- What the North has of the free stretches. -/
def freN (L : List St) (Q : List Nat) : Nat := sumF (fun i => if (at' L i).free then (at' L i).n * pt Q i else 0) L.length
theorem has_split {V : Nat} {Q : List Nat} (hQ : allowsF L V Q = true) : hasN L Q = freN L Q + V * bndN L := by
  unfold allowsF at hQ
  rw [List.all_eq_true] at hQ
  unfold hasN freN bndN
  rw [← sumF_mul, ← sumF_add]
  refine sumF_congr fun i hi => ?_
  have h1 := hQ i (List.mem_range.2 hi)
  cases hf : (at' L i).free with
  | true => simp
  | false =>
    rw [hf] at h1
    simp only [Bool.false_or, decide_eq_true_eq] at h1
    rw [h1, Nat.mul_left_comm]; simp
theorem now_split : hasN L (nowP L) = ownF L false 0 + bndN L := by
  rw [has_split (V := 1) now_allows, Nat.one_mul, own_now]
  congr 1
  refine sumF_congr fun i hi => ?_
  rw [now_pt hi]
  unfold nowF
  by_cases e : (at' L i).o = 0 <;> simp [e, cnt_false]
theorem fre_le (ho : ∀ x ∈ L, x.o ≤ 1) {V : Nat} {Q : List Nat} (hq : ∀ i, i < L.length → pt Q i ≤ V) : freN L Q ≤ V * (ownF L false 0 + ownF L false 1) := by
  rw [own_sum ho]
  unfold worthsF
  rw [sum_order, ← sumF_mul]
  refine sumF_mono fun i hi => ?_
  cases (at' L i).free with
  | false => simp
  | true =>
    show (at' L i).n * pt Q i ≤ V * cntF false (at' L i)
    rw [cnt_false, Nat.mul_comm]
    exact Nat.mul_le_mul_right _ (hq i hi)
/-- There is none that gives the North more than all. -/
theorem most_none (ho : ∀ x ∈ L, x.o ≤ 1) {want : Int} (hb : byOrderF L false want = none) {V : Nat} {Q : List Nat} (hV : 1 ≤ V) (hQ : allowsF L V Q = true) (hq : ∀ i, i < L.length → pt Q i ≤ V) :
    (hasN L Q : Int) - (V * hasN L (nowP L) : Nat) < want * (V : Int) := by
  have hw : (ownF L false 1 : Int) < want := by
    unfold byOrderF at hb
    split at hb
    · assumption
    · dsimp only at hb; split at hb <;> cases hb
  have h1 := fre_le ho hq
  rw [has_split hQ, now_split, Nat.mul_add]
  rw [Nat.mul_add] at h1
  have h2 : ((ownF L false 1 : Int) + 1) * (V : Int) ≤ want * (V : Int) := Int.mul_le_mul_of_nonneg_right (by omega) (by omega)
  have h3 : ((ownF L false 1 : Int) + 1) * (V : Int) = ((V * ownF L false 1 : Nat) : Int) + V := by rw [Int.add_mul, Int.one_mul, Int.natCast_mul, Int.mul_comm]
  omega
theorem most_more {want more : Int} (h : byOrderF L false want = none) (hm : want ≤ more) : byOrderF L false more = none := by
  have hw : (ownF L false 1 : Int) < want := by
    unfold byOrderF at h
    split at h
    · assumption
    · dsimp only at h; split at h <;> cases h
  unfold byOrderF
  rw [if_pos (by omega)]
theorem most_by (h : OkS L) (ho : ∀ x ∈ L, x.o ≤ 1) {want : Int} {W : Nat} {P : List Nat} (hb : byOrderF L false want = some (W, P)) : ∃ f r, ByO L false (want + (ownF L false 0 : Int)).toNat W P f r := by
  have hs := own_sum (L := L) (b := false) ho
  refine by_order h hb ?_
  have hw : ¬ (ownF L false 1 : Int) < want := by
    intro hc
    unfold byOrderF at hb
    rw [if_pos hc] at hb; cases hb
  omega
theorem ByO.fre {m W : Nat} {P : List Nat} {f r : Nat} (h : ByO L false m W P f r) : freN L P = m * W := h.total
/-- The North gains so much, or it has what it must. -/
theorem most_gain {want : Int} {W : Nat} {P : List Nat} {f r : Nat} (h : ByO L false (want + (ownF L false 0 : Int)).toNat W P f r) :
    want * (W : Int) ≤ (hasN L P : Int) - (W * hasN L (nowP L) : Nat) := by
  rw [has_split h.allows, now_split, h.fre, Nat.mul_add]
  have h2 : want * (W : Int) ≤ (((want + (ownF L false 0 : Int)).toNat : Int) - ownF L false 0) * (W : Int) := Int.mul_le_mul_of_nonneg_right (by omega) (by omega)
  rw [Int.sub_mul] at h2
  have e1 : ((want + (ownF L false 0 : Int)).toNat : Int) * (W : Int) = (((want + (ownF L false 0 : Int)).toNat * W : Nat) : Int) := (Int.natCast_mul _ _).symm
  have e2 : (ownF L false 0 : Int) * (W : Int) = ((W * ownF L false 0 : Nat) : Int) := by rw [Int.natCast_mul, Int.mul_comm]
  rw [e1, e2] at h2
  omega
/-- Who gains as much leaves the North no less by it. -/
theorem most_least {want : Int} {W V : Nat} {P Q : List Nat} {f r : Nat} (h : ByO L false (want + (ownF L false 0 : Int)).toNat W P f r) (hQ : allowsF L V Q = true)
    (hw : want * (V : Int) ≤ (hasN L Q : Int) - (V * hasN L (nowP L) : Nat)) : hasN L P * V ≤ hasN L Q * W := by
  rw [has_split h.allows, h.fre, has_split hQ]
  rw [has_split hQ, now_split, Nat.mul_add] at hw
  have h1 : (want + (ownF L false 0 : Int)).toNat * V ≤ freN L Q := by
    rcases Int.le_total 0 (want + (ownF L false 0 : Int)) with hc | hc
    · have e1 : (((want + (ownF L false 0 : Int)).toNat * V : Nat) : Int) = (want + (ownF L false 0 : Int)) * (V : Int) := by rw [Int.natCast_mul, Int.toNat_of_nonneg hc]
      rw [Int.add_mul] at e1
      have e2 : (ownF L false 0 : Int) * (V : Int) = ((V * ownF L false 0 : Nat) : Int) := by rw [Int.natCast_mul, Int.mul_comm]
      omega
    · rw [Int.toNat_of_nonpos hc]; omega
  generalize (want + (ownF L false 0 : Int)).toNat = m at *
  generalize freN L Q = q at *
  generalize bndN L = b at *
  rw [Nat.add_mul, Nat.add_mul]
  have h2 := Nat.mul_le_mul_right W h1
  have e3 : m * W * V = m * V * W := by rw [Nat.mul_assoc, Nat.mul_comm W V, ← Nat.mul_assoc]
  have e4 : W * b * V = V * b * W := by rw [Nat.mul_assoc, Nat.mul_comm, Nat.mul_comm b V]
  omega
/-- With a price that holds: who leaves the North no less leaves the South no more. -/
theorem price_south {W V : Nat} {P Q : List Nat} {a b : Nat} (h : holdsF L W P a b = true) (hb : 1 ≤ b) (hQ : allowsF L V Q = true) (hq : ∀ i, i < L.length → pt Q i ≤ V) (hp : ∀ i, i < L.length → pt P i ≤ W) (hn : hasN L P * V ≤ hasN L Q * W) :
    hasS L V Q * W ≤ hasS L W P * V := by
  have h3 := price_max h hQ hq hp
  rw [Nat.add_mul, Nat.add_mul, Nat.mul_assoc, Nat.mul_assoc, Nat.mul_assoc, Nat.mul_assoc, Nat.mul_comm a W, Nat.mul_comm b W, Nat.mul_comm a V, Nat.mul_comm b V, ← Nat.mul_assoc, ← Nat.mul_assoc, ← Nat.mul_assoc, ← Nat.mul_assoc] at h3
  have q1 := Nat.mul_le_mul_right a hn
  exact Nat.le_of_mul_le_mul_right (show hasS L V Q * W * b ≤ hasS L W P * V * b by omega) hb
end
end Go.Proofs.Ytlaolokakaheaaa
