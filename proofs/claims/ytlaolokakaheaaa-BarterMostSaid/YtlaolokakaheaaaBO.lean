/-
  The order of free stretches, and exchanges by order, as mathematics. Nothing is claimed of the program here.
-/
import Derived.Test.YtlaolokakaheaaaBM
namespace Go.Proofs.Ytlaolokakaheaaa

theorem ahead_trans {x y z : St} (hx : 1 ≤ x.n) (hy : 1 ≤ y.n) (_hy2 : 1 ≤ y.s) (hz : 1 ≤ z.n) (h1 : aheadF x y = true) (h2 : aheadF y z = true) : aheadF x z = true := by
  rw [ahead_iff hx hy] at h1
  rw [ahead_iff hy hz] at h2
  rw [ahead_iff hx hz]
  have e1 : x.s * y.n * (y.s * z.n) < x.n * y.s * (y.n * z.s) := Nat.mul_lt_mul'' h1 h2
  have e2 : x.s * y.n * (y.s * z.n) = y.n * y.s * (x.s * z.n) := by
    rw [Nat.mul_comm x.s y.n, Nat.mul_assoc, Nat.mul_left_comm x.s y.s z.n, ← Nat.mul_assoc]
  have e3 : x.n * y.s * (y.n * z.s) = y.n * y.s * (x.n * z.s) := by
    rw [Nat.mul_left_comm (x.n * y.s) y.n z.s, Nat.mul_assoc x.n y.s z.s, Nat.mul_left_comm x.n y.s z.s, ← Nat.mul_assoc]
  rw [e2, e3] at e1
  exact Nat.lt_of_mul_lt_mul_left e1
/-- Who is not ahead of one who is not ahead of a third one is not ahead of that. -/
theorem behind_trans {x y z : St} (hx : 1 ≤ x.n) (hy : 1 ≤ y.n) (hy2 : 1 ≤ y.s) (hz : 1 ≤ z.n) (h1 : aheadF x y = false) (h2 : aheadF y z = false) : aheadF x z = false := by
  cases h : aheadF x z with
  | false => rfl
  | true =>
    exfalso
    rw [ahead_iff hx hz] at h
    have h1' : ¬ x.s * y.n < x.n * y.s := by rw [← ahead_iff hx hy, h1]; simp
    have h2' : ¬ y.s * z.n < y.n * z.s := by rw [← ahead_iff hy hz, h2]; simp
    have e1 : x.n * y.s * (y.n * z.s) ≤ x.s * y.n * (y.s * z.n) := Nat.mul_le_mul (by omega) (by omega)
    have e2 : x.s * y.n * (y.s * z.n) = y.n * y.s * (x.s * z.n) := by
      rw [Nat.mul_comm x.s y.n, Nat.mul_assoc, Nat.mul_left_comm x.s y.s z.n, ← Nat.mul_assoc]
    have e3 : x.n * y.s * (y.n * z.s) = y.n * y.s * (x.n * z.s) := by
      rw [Nat.mul_left_comm (x.n * y.s) y.n z.s, Nat.mul_assoc x.n y.s z.s, Nat.mul_left_comm x.n y.s z.s, ← Nat.mul_assoc]
    rw [e2, e3] at e1
    have := Nat.mul_lt_mul_of_pos_left h (Nat.mul_pos (show 0 < y.n from hy) (show 0 < y.s from hy2))
    omega
theorem ahead_not {x y : St} (hx : 1 ≤ x.n) (hy : 1 ≤ y.n) (h : aheadF x y = true) : aheadF y x = false := by
  cases h2 : aheadF y x with
  | false => rfl
  | true =>
    rw [ahead_iff hx hy] at h
    rw [ahead_iff hy hx, Nat.mul_comm y.s, Nat.mul_comm y.n] at h2
    omega
/-- The order: one comes before another one. -/
def befB (L : List St) (i j : Nat) : Bool := aheadF (at' L i) (at' L j) || (!aheadF (at' L j) (at' L i) && decide (i < j))
/-- Right stretches. -/
def OkS (L : List St) : Prop := ∀ x ∈ L, (1 ≤ x.n ∧ x.n ≤ 1000) ∧ 1 ≤ x.s ∧ x.s ≤ 1000
section
variable {L : List St} {i j k : Nat}
theorem bef_trans (h : OkS L) (hi : i < L.length) (hj : j < L.length) (hk : k < L.length) (h1 : befB L i j = true) (h2 : befB L j k = true) : befB L i k = true := by
  have pi := h _ (at_mem hi)
  have pj := h _ (at_mem hj)
  have pk := h _ (at_mem hk)
  unfold befB at h1 h2 ⊢
  simp only [Bool.or_eq_true, Bool.and_eq_true, Bool.not_eq_true', decide_eq_true_eq] at h1 h2 ⊢
  rcases h1 with h1 | ⟨h1, e1⟩ <;> rcases h2 with h2 | ⟨h2, e2⟩
  · exact .inl (ahead_trans pi.1.1 pj.1.1 pj.2.1 pk.1.1 h1 h2)
  · refine .inl ?_
    cases h3 : aheadF (at' L i) (at' L k) with
    | true => rfl
    | false =>
      have := behind_trans pi.1.1 pk.1.1 pk.2.1 pj.1.1 h3 h2
      rw [this] at h1
      exact absurd h1 (by simp)
  · refine .inl ?_
    cases h3 : aheadF (at' L i) (at' L k) with
    | true => rfl
    | false =>
      have := behind_trans pj.1.1 pi.1.1 pi.2.1 pk.1.1 h1 h3
      rw [this] at h2
      exact absurd h2 (by simp)
  · exact .inr ⟨behind_trans pk.1.1 pj.1.1 pj.2.1 pi.1.1 h2 h1, by omega⟩
theorem bef_not (h : OkS L) (hi : i < L.length) (hj : j < L.length) (h1 : befB L i j = true) : befB L j i = false := by
  have pi := h _ (at_mem hi)
  have pj := h _ (at_mem hj)
  unfold befB at h1 ⊢
  simp only [Bool.or_eq_true, Bool.and_eq_true, Bool.not_eq_true', decide_eq_true_eq] at h1
  rcases h1 with h1 | ⟨h1, e1⟩
  · rw [ahead_not pi.1.1 pj.1.1 h1, h1]; rfl
  · rw [h1, decide_eq_false (show ¬ j < i by omega)]; simp
theorem bef_total (hne : i ≠ j) : befB L i j = true ∨ befB L j i = true := by
  unfold befB
  cases aheadF (at' L i) (at' L j) <;> cases aheadF (at' L j) (at' L i) <;> simp
  omega
def insF (L : List St) (x : Nat) : List Nat → List Nat
  | [] => [x]
  | y :: r => if befB L x y then x :: y :: r else y :: insF L x r
/-- The free stretches in their order. -/
def orderF (L : List St) : List Nat := (freeF L).foldr (insF L) []
theorem ins_perm (x : Nat) : ∀ l : List Nat, (insF L x l).Perm (x :: l)
  | [] => List.Perm.refl _
  | y :: r => by
    unfold insF
    split
    · exact List.Perm.refl _
    · exact ((ins_perm x r).cons y).trans (List.Perm.swap x y r)
theorem ins_sorted (h : OkS L) {x : Nat} (hx : x < L.length) : ∀ {l : List Nat}, (∀ y ∈ l, y < L.length ∧ y ≠ x) → l.Pairwise (fun i j => befB L i j = true) → (insF L x l).Pairwise (fun i j => befB L i j = true)
  | [], _, _ => by unfold insF; simp
  | y :: r, hl, hp => by
    rw [List.pairwise_cons] at hp
    have hy := hl y (List.mem_cons_self ..)
    unfold insF
    cases hb : befB L x y with
    | true =>
      rw [if_pos rfl, List.pairwise_cons]
      refine ⟨fun z hz => ?_, List.pairwise_cons.2 hp⟩
      rcases List.mem_cons.1 hz with rfl | hz
      · exact hb
      · exact bef_trans h hx hy.1 (hl z (List.mem_cons_of_mem _ hz)).1 hb (hp.1 z hz)
    | false =>
      rw [if_neg (by simp), List.pairwise_cons]
      refine ⟨fun z hz => ?_, ins_sorted h hx (fun z hz => hl z (List.mem_cons_of_mem _ hz)) hp.2⟩
      rcases List.mem_cons.1 ((ins_perm x r).mem_iff.1 hz) with rfl | hz
      · rcases bef_total (L := L) hy.2 with h1 | h1
        · exact h1
        · rw [hb] at h1; exact absurd h1 (by simp)
      · exact hp.1 z hz
theorem foldr_perm (l : List Nat) : (l.foldr (insF L) []).Perm l := by
  induction l with
  | nil => exact List.Perm.refl _
  | cons x r ih => exact (ins_perm x _).trans (ih.cons x)
theorem order_perm : (orderF L).Perm (freeF L) := foldr_perm _
theorem free_nodup : (freeF L).Nodup := List.nodup_range.filter _
theorem order_sorted (h : OkS L) : (orderF L).Pairwise (fun i j => befB L i j = true) := by
  unfold orderF
  have hl : ∀ i ∈ freeF L, i < L.length := fun i hi => (mem_free.1 hi).1
  have hn := free_nodup (L := L)
  generalize freeF L = l at *
  induction l with
  | nil => simp
  | cons x r ih =>
    rw [List.nodup_cons] at hn
    refine ins_sorted h (hl x (List.mem_cons_self ..)) (fun y hy => ?_) (ih (fun i hi => hl i (List.mem_cons_of_mem _ hi)) hn.2)
    have hy2 := (foldr_perm (L := L) r).mem_iff.1 hy
    exact ⟨hl y (List.mem_cons_of_mem _ hy2), fun e => hn.1 (e ▸ hy2)⟩
/-- There is one such list. -/
theorem order_unique (h : OkS L) {l : List Nat} (hp : l.Perm (freeF L)) (hs : l.Pairwise (fun i j => befB L i j = true)) : l = orderF L := by
  refine List.Perm.eq_of_pairwise (le := fun i j => befB L i j = true) (fun i j hi hj h1 h2 => ?_) hs (order_sorted h) (hp.trans order_perm.symm)
  have hi' := (mem_free.1 (hp.mem_iff.1 hi)).1
  have hj' := (mem_free.1 (order_perm.mem_iff.1 hj)).1
  rw [bef_not h hi' hj' h1] at h2
  exact absurd h2 (by simp)
theorem order_ordered (h : OkS L) : Ordered L (orderF L) := by
  unfold Ordered
  have hl : ∀ i ∈ orderF L, i < L.length := fun i hi => (mem_free.1 (order_perm.mem_iff.1 hi)).1
  refine (order_sorted h).imp_of_mem fun {i j} hi hj hb => ?_
  have pi := h _ (at_mem (hl i hi))
  have pj := h _ (at_mem (hl j hj))
  unfold befB at hb
  simp only [Bool.or_eq_true, Bool.and_eq_true, Bool.not_eq_true', decide_eq_true_eq] at hb
  rcases hb with hb | hb
  · exact ahead_not pi.1.1 pj.1.1 hb
  · exact hb.1
end
end Go.Proofs.Ytlaolokakaheaaa
