/-
  With a price that holds nobody has more in all, as mathematics. Nothing is claimed of the program here.
-/
import Derived.Test.YtlaolokakaheaaaBG
namespace Go.Proofs.Ytlaolokakaheaaa

theorem sumF_mulr (f : Nat → Nat) (c m : Nat) : sumF (fun i => f i * c) m = sumF f m * c := by
  induction m with
  | zero => simp [sumF]
  | succ m ih => unfold sumF; rw [ih, Nat.add_mul]
theorem sumF_mono {f g : Nat → Nat} {m : Nat} (h : ∀ i, i < m → f i ≤ g i) : sumF f m ≤ sumF g m := by
  induction m with
  | zero => exact Nat.le_refl _
  | succ m ih =>
    have h1 := ih (fun i hi => h i (by omega))
    have h2 := h m (by omega)
    unfold sumF
    omega
theorem worth_lin {L : List St} (V : Nat) (Q : List Nat) (a b W : Nat) : (hasN L Q * a + hasS L V Q * b) * W = sumF (fun i => ((at' L i).n * pt Q i * a + (at' L i).s * (V - pt Q i) * b) * W) L.length := by
  unfold hasN hasS
  rw [sumF_mulr, sumF_add, sumF_mulr, sumF_mulr]
/-- With a price that holds nobody has more, in all. -/
theorem price_max {L : List St} {W V : Nat} {P Q : List Nat} {a b : Nat} (h : holdsF L W P a b = true) (hQ : allowsF L V Q = true) (hq : ∀ i, i < L.length → pt Q i ≤ V) (hp : ∀ i, i < L.length → pt P i ≤ W) : (hasN L Q * a + hasS L V Q * b) * W ≤ (hasN L P * a + hasS L W P * b) * V := by
  rw [worth_lin, worth_lin]
  unfold holdsF at h
  rw [Bool.and_eq_true, List.all_eq_true] at h
  obtain ⟨h1, h2⟩ := h
  unfold allowsF at h2 hQ
  rw [List.all_eq_true] at h2 hQ
  refine sumF_mono fun i hi => ?_
  have q1 := hq i hi
  have p1 := hp i hi
  have a1 := h2 i (List.mem_range.2 hi)
  have a2 := hQ i (List.mem_range.2 hi)
  cases hf : (at' L i).free with
  | false =>
    rw [hf] at a1 a2
    simp only [Bool.false_or, decide_eq_true_eq] at a1 a2
    rw [a1, a2]
    have hn := now_le (at' L i)
    generalize at' L i = x at *
    rcases (show nowF x = 0 ∨ nowF x = 1 by omega) with e | e <;> rw [e] <;> simp only [Nat.mul_zero, Nat.mul_one, Nat.sub_zero, Nat.sub_self, Nat.zero_mul, Nat.zero_add, Nat.add_zero]
    · rw [Nat.mul_assoc, Nat.mul_assoc, Nat.mul_assoc, Nat.mul_assoc]
      exact Nat.le_of_eq (by rw [Nat.mul_left_comm V b W, Nat.mul_left_comm W b V, Nat.mul_comm V W])
    · rw [Nat.mul_assoc, Nat.mul_assoc, Nat.mul_assoc, Nat.mul_assoc]
      exact Nat.le_of_eq (by rw [Nat.mul_left_comm V a W, Nat.mul_left_comm W a V, Nat.mul_comm V W])
  | true =>
    have h3 := h1 i (mem_free.2 ⟨hi, hf⟩)
    simp only [Bool.not_eq_true', Bool.or_eq_false_iff, Bool.and_eq_false_iff, decide_eq_false_iff_not] at h3
    generalize at' L i = x at *
    generalize pt P i = p at *
    generalize pt Q i = q at *
    obtain ⟨d, rfl⟩ : ∃ d, V = q + d := ⟨V - q, by omega⟩
    obtain ⟨e, rfl⟩ : ∃ e, W = p + e := ⟨W - p, by omega⟩
    rw [Nat.add_sub_cancel_left, Nat.add_sub_cancel_left]
    have r1 : x.n * q * a = x.n * a * q := by rw [Nat.mul_assoc, Nat.mul_comm q a, ← Nat.mul_assoc]
    have r2 : x.n * p * a = x.n * a * p := by rw [Nat.mul_assoc, Nat.mul_comm p a, ← Nat.mul_assoc]
    have r3 : x.s * d * b = x.s * b * d := by rw [Nat.mul_assoc, Nat.mul_comm d b, ← Nat.mul_assoc]
    have r4 : x.s * e * b = x.s * b * e := by rw [Nat.mul_assoc, Nat.mul_comm e b, ← Nat.mul_assoc]
    rw [r1, r2, r3, r4]
    generalize x.n * a = A at *
    generalize x.s * b = B at *
    rcases Nat.lt_trichotomy A B with hAB | hAB | hAB
    · have hp0 : p = 0 := by rcases h3.2 with h | h <;> omega
      subst hp0
      rw [Nat.mul_zero, Nat.zero_add, Nat.zero_add]
      have : A * q + B * d ≤ B * (q + d) := by rw [Nat.mul_add]; exact Nat.add_le_add_right (Nat.mul_le_mul_right q (by omega)) _
      calc (A * q + B * d) * e ≤ B * (q + d) * e := Nat.mul_le_mul_right e this
        _ = B * e * (q + d) := by rw [Nat.mul_assoc, Nat.mul_comm (q + d) e, ← Nat.mul_assoc]
    · subst hAB
      rw [← Nat.mul_add, ← Nat.mul_add, Nat.mul_assoc, Nat.mul_assoc, Nat.mul_comm (q + d)]
      exact Nat.le_refl _
    · have he0 : e = 0 := by rcases h3.1 with h | h <;> omega
      subst he0
      rw [Nat.mul_zero, Nat.add_zero, Nat.add_zero]
      have : A * q + B * d ≤ A * (q + d) := by rw [Nat.mul_add]; exact Nat.add_le_add_left (Nat.mul_le_mul_right d (by omega)) _
      calc (A * q + B * d) * p ≤ A * (q + d) * p := Nat.mul_le_mul_right p this
        _ = A * p * (q + d) := by rw [Nat.mul_assoc, Nat.mul_comm (q + d) p, ← Nat.mul_assoc]
theorem now_allows {L : List St} : allowsF L 1 (nowP L) = true := by
  unfold allowsF
  rw [List.all_eq_true]
  intro i hi
  rw [now_pt (List.mem_range.1 hi)]
  simp
theorem now_pt_le {L : List St} {i : Nat} (hi : i < L.length) : pt (nowP L) i ≤ 1 := by rw [now_pt hi]; exact now_le _
end Go.Proofs.Ytlaolokakaheaaa
