/-
  What both sides gain by an exchange by order, as mathematics. Nothing is claimed of the program here.
-/
import Derived.Test.YtlaolokakaheaaaBE
namespace Go.Proofs.Ytlaolokakaheaaa

/-- The exchange as things are. -/
def nowP (L : List St) : List Nat := L.map nowF
theorem now_pt {L : List St} {i : Nat} (hi : i < L.length) : pt (nowP L) i = nowF (at' L i) := by
  unfold pt nowP at'
  rw [List.getElem?_map, List.getElem?_eq_getElem hi]
  rfl
theorem sumF_add (f g : Nat → Nat) (m : Nat) : sumF (fun i => f i + g i) m = sumF f m + sumF g m := by
  induction m with
  | zero => rfl
  | succ m ih => unfold sumF; rw [ih]; omega
section
variable {L : List St} {b : Bool}
theorem own_now (own : Nat) : ownF L b own = sumF (fun i => if (at' L i).free then (if (at' L i).o = own then cntF b (at' L i) else 0) else 0) L.length := by
  unfold ownF freeF
  rw [List.filter_filter, sum_filter]
  refine sumF_congr fun i _ => ?_
  cases (at' L i).free
  · simp
  · by_cases e : (at' L i).o = own <;> simp [e]
theorem cnt_true (x : St) : cntF true x = x.n + x.s := rfl
theorem cnt_false (x : St) : cntF false x = x.n := rfl
/-- By the exchange by which the North gets no more than it gives, both gain alike. -/
theorem alike (hb : ∀ i, i < L.length → (at' L i).o ≤ 1) {W : Nat} {P : List Nat} {f r : Nat} (h : ByO L true (ownF L true 0) W P f r) : hasN L P + W * hasS L 1 (nowP L) = hasS L W P + W * hasN L (nowP L) := by
  have ht := h.total
  have ho := own_now (L := L) (b := true) 0
  have e1 : sumF (fun i => (at' L i).n * pt P i + W * ((at' L i).s * (1 - pt (nowP L) i)) + W * (((at' L i).n + (at' L i).s) * nowF (at' L i))) L.length = sumF (fun i => (at' L i).s * (W - pt P i) + W * ((at' L i).n * pt (nowP L) i) + ((at' L i).n + (at' L i).s) * pt P i) L.length := by
    refine sumF_congr fun i hi => ?_
    rw [now_pt hi]
    have hp := h.le hi
    have hn := now_le (at' L i)
    generalize at' L i = x at *
    generalize pt P i = p at *
    obtain ⟨d, rfl⟩ : ∃ d, W = p + d := ⟨W - p, by omega⟩
    rw [Nat.add_sub_cancel_left]
    rcases (show nowF x = 0 ∨ nowF x = 1 by omega) with e | e <;> rw [e] <;> simp only [Nat.mul_zero, Nat.mul_one, Nat.sub_zero, Nat.sub_self, Nat.add_zero, Nat.add_mul, Nat.mul_add]
    · rw [Nat.mul_comm p x.s, Nat.mul_comm d x.s]; omega
    · rw [Nat.mul_comm p x.s, Nat.mul_comm d x.s, Nat.mul_comm p x.n, Nat.mul_comm d x.n]; omega
  have e2 : sumF (fun i => ((at' L i).n + (at' L i).s) * pt P i) L.length = sumF (fun i => W * (((at' L i).n + (at' L i).s) * nowF (at' L i))) L.length := by
    have s1 : sumF (fun i => ((at' L i).n + (at' L i).s) * pt P i) L.length = sumF (fun i => if (at' L i).free then cntF true (at' L i) * pt P i else 0) L.length + sumF (fun i => if (at' L i).free then 0 else W * (((at' L i).n + (at' L i).s) * nowF (at' L i))) L.length := by
      rw [← sumF_add]
      refine sumF_congr fun i hi => ?_
      cases hf : (at' L i).free with
      | true => simp [cnt_true]
      | false => rw [h.bound i hi hf, Nat.mul_left_comm]; simp
    have s2 : sumF (fun i => W * (((at' L i).n + (at' L i).s) * nowF (at' L i))) L.length = W * ownF L true 0 + sumF (fun i => if (at' L i).free then 0 else W * (((at' L i).n + (at' L i).s) * nowF (at' L i))) L.length := by
      rw [ho, ← sumF_mul, ← sumF_add]
      refine sumF_congr fun i hi => ?_
      cases hf : (at' L i).free with
      | false => simp
      | true =>
        have := hb i hi
        unfold nowF
        by_cases e : (at' L i).o = 0 <;> simp [e, cnt_true]
    rw [s1, s2, ht, Nat.mul_comm]
  simp only [sumF_add] at e1
  rw [e2] at e1
  have a1 : sumF (fun i => W * ((at' L i).s * (1 - pt (nowP L) i))) L.length = W * hasS L 1 (nowP L) := sumF_mul _ _ _
  have a2 : sumF (fun i => W * ((at' L i).n * pt (nowP L) i)) L.length = W * hasN L (nowP L) := sumF_mul _ _ _
  rw [a1, a2] at e1
  have a3 : sumF (fun i => (at' L i).n * pt P i) L.length = hasN L P := rfl
  have a4 : sumF (fun i => (at' L i).s * (W - pt P i)) L.length = hasS L W P := rfl
  rw [a3, a4] at e1
  omega
theorem even_some : ∃ W P, byOrderF L b 0 = some (W, P) := by
  unfold byOrderF
  rw [if_neg (by omega)]
  dsimp only
  split <;> exact ⟨_, _, rfl⟩
theorem even_by (h : OkS L) (ho : ∀ x ∈ L, x.o ≤ 1) {W : Nat} {P : List Nat} (hb : byOrderF L b 0 = some (W, P)) : ∃ f r, ByO L b (ownF L b 0) W P f r := by
  have hs := own_sum (L := L) (b := b) ho
  obtain ⟨f, r, hB⟩ := by_order h hb (by rw [Int.zero_add, Int.toNat_natCast]; omega)
  rw [Int.zero_add, Int.toNat_natCast] at hB
  exact ⟨f, r, hB⟩
end
end Go.Proofs.Ytlaolokakaheaaa
