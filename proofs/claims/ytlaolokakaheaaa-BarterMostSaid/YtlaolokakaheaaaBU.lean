/-
  A land whose sides are called otherwise, with its stretches in another order, as mathematics. Nothing is claimed of the program here.
-/
import Derived.Test.YtlaolokakaheaaaBQ
namespace Go.Proofs.Ytlaolokakaheaaa

/-- A stretch by the other side's names. -/
def St.turn (x : St) : St := ⟨1 - x.o, x.s, x.n, x.w⟩
def turnL (L : List St) (σ : List Nat) : List St := σ.map fun i => (at' L i).turn
def turnP (W : Nat) (P : List Nat) (σ : List Nat) : List Nat := σ.map fun i => W - pt P i
section
variable {L : List St} {σ : List Nat}
theorem turn_at {j : Nat} (h : j < σ.length) : at' (turnL L σ) j = (at' L σ[j]).turn := by
  unfold at' turnL
  rw [List.getElem?_map, List.getElem?_eq_getElem h]
  rfl
theorem turn_pt {W : Nat} {P : List Nat} {j : Nat} (h : j < σ.length) : pt (turnP W P σ) j = W - pt P σ[j] := by
  unfold pt turnP
  rw [List.getElem?_map, List.getElem?_eq_getElem h]
  rfl
theorem turn_len : (turnL L σ).length = σ.length := by unfold turnL; rw [List.length_map]
theorem sumF_list (g : Nat → Nat) : ∀ m, sumF g m = ((List.range m).map g).sum
  | 0 => rfl
  | m + 1 => by rw [List.range_succ, List.map_append, List.sum_append, ← sumF_list g m]; simp [sumF]
theorem sumF_perm (hp : σ.Perm (List.range L.length)) (f g : Nat → Nat) (h : ∀ j, (hj : j < σ.length) → f j = g σ[j]) : sumF f (turnL L σ).length = sumF g L.length := by
  rw [turn_len, sumF_list, sumF_list, ← perm_sum (hp.map g)]
  congr 1
  apply List.ext_getElem
  · simp
  · intro j h1 h2
    simp only [List.getElem_map, List.getElem_range]
    exact h j (by simpa using h2)
theorem turn_lt (hp : σ.Perm (List.range L.length)) {j : Nat} (hj : j < σ.length) : σ[j] < L.length := List.mem_range.1 (hp.mem_iff.1 (List.getElem_mem hj))
theorem turn_has {W : Nat} {P : List Nat} (hp : σ.Perm (List.range L.length)) (hP : ∀ i, i < L.length → pt P i ≤ W) : hasN (turnL L σ) (turnP W P σ) = hasS L W P ∧ hasS (turnL L σ) W (turnP W P σ) = hasN L P := by
  constructor
  · refine sumF_perm hp _ _ fun j hj => ?_
    rw [turn_at hj, turn_pt hj]; rfl
  · refine sumF_perm hp _ _ fun j hj => ?_
    have := hP _ (turn_lt hp hj)
    rw [turn_at hj, turn_pt hj, show W - (W - pt P σ[j]) = pt P σ[j] by omega]; rfl
theorem turn_now (hp : σ.Perm (List.range L.length)) (ho : ∀ x ∈ L, x.o ≤ 1) : nowP (turnL L σ) = turnP 1 (nowP L) σ := by
  unfold nowP turnL turnP
  rw [List.map_map]
  refine List.map_congr_left fun i hi => ?_
  have hl : i < L.length := List.mem_range.1 (hp.mem_iff.1 hi)
  have := ho _ (at_mem hl)
  have e := now_pt hl
  unfold nowP at e
  rw [e]
  show nowF (at' L i).turn = 1 - nowF (at' L i)
  unfold nowF St.turn
  by_cases h0 : (at' L i).o = 0
  · rw [if_neg (by dsimp only; omega), if_pos h0]
  · rw [if_pos (by dsimp only; omega), if_neg h0]
theorem turn_nowF {x : St} (h : x.o ≤ 1) : nowF x.turn = 1 - nowF x := by
  unfold nowF St.turn
  by_cases h0 : x.o = 0
  · rw [if_neg (by dsimp only; omega), if_pos h0]
  · rw [if_pos (by dsimp only; omega), if_neg h0]
theorem turn_free (x : St) : x.turn.free = x.free := rfl
theorem turn_pos (hp : σ.Perm (List.range L.length)) {i : Nat} (hi : i < L.length) : ∃ j, ∃ hj : j < σ.length, σ[j] = i :=
  List.getElem_of_mem (hp.mem_iff.2 (List.mem_range.2 hi))
theorem turn_allows {W : Nat} {P : List Nat} (hp : σ.Perm (List.range L.length)) (ho : ∀ x ∈ L, x.o ≤ 1) (hP : ∀ i, i < L.length → pt P i ≤ W) : allowsF (turnL L σ) W (turnP W P σ) = allowsF L W P := by
  rw [Bool.eq_iff_iff]
  unfold allowsF
  rw [List.all_eq_true, List.all_eq_true]
  have key : ∀ j, (hj : j < σ.length) → ((at' (turnL L σ) j).free || decide (pt (turnP W P σ) j = W * nowF (at' (turnL L σ) j))) = ((at' L σ[j]).free || decide (pt P σ[j] = W * nowF (at' L σ[j]))) := fun j hj => by
    have hl := turn_lt hp hj
    rw [turn_at hj, turn_pt hj, turn_free, turn_nowF (ho _ (at_mem hl))]
    have h1 := hP _ hl
    have h2 := now_le (at' L σ[j])
    congr 1
    rw [decide_eq_decide]
    rcases (show nowF (at' L σ[j]) = 0 ∨ nowF (at' L σ[j]) = 1 by omega) with e | e <;> rw [e] <;> simp <;> omega
  constructor
  · intro h i hi
    obtain ⟨j, hj, rfl⟩ := turn_pos hp (List.mem_range.1 hi)
    rw [← key j hj]
    exact h j (List.mem_range.2 (by rw [turn_len]; exact hj))
  · intro h j hj
    rw [List.mem_range, turn_len] at hj
    rw [key j hj]
    exact h _ (List.mem_range.2 (turn_lt hp hj))
theorem turn_ahead (x y : St) : aheadF y.turn x.turn = aheadF x y := by
  unfold aheadF lowN lowS St.turn
  dsimp only
  rw [Nat.gcd_comm y.s, Nat.gcd_comm x.s, decide_eq_decide, Nat.mul_comm, Nat.mul_comm (y.s / _)]
theorem waste_iff {L : List St} {W : Nat} {P : List Nat} : (wasteF L W P).isNone = true ↔ ∀ a b, a ∈ freeF L → b ∈ freeF L → isWaste L W P a b = false := by
  rw [Option.isNone_iff_eq_none]
  constructor
  · exact fun h a b ha hb => waste_none h ha hb
  · intro h
    cases e : wasteF L W P with
    | none => rfl
    | some x =>
      obtain ⟨a, b⟩ := x
      obtain ⟨h1, h2, h3⟩ := waste_some e
      rw [h a b h1 h2] at h3; cases h3
theorem turn_waste {W : Nat} {P : List Nat} (hp : σ.Perm (List.range L.length)) (hP : ∀ i, i < L.length → pt P i ≤ W) {j k : Nat} (hj : j < σ.length) (hk : k < σ.length) : isWaste (turnL L σ) W (turnP W P σ) j k = isWaste L W P σ[k] σ[j] := by
  unfold isWaste
  rw [turn_at hj, turn_at hk, turn_ahead, turn_pt hj, turn_pt hk]
  have h1 := hP _ (turn_lt hp hj)
  have h2 := hP _ (turn_lt hp hk)
  rw [show decide (W - pt P σ[j] < W) = decide (0 < pt P σ[j]) by rw [decide_eq_decide]; omega, show decide (0 < W - pt P σ[k]) = decide (pt P σ[k] < W) by rw [decide_eq_decide]; omega]
  cases decide (0 < pt P σ[j]) <;> cases decide (pt P σ[k] < W) <;> rfl
theorem turn_memfree {j : Nat} (hj : j < σ.length) (hp : σ.Perm (List.range L.length)) : j ∈ freeF (turnL L σ) ↔ σ[j] ∈ freeF L := by
  rw [mem_free, mem_free, turn_len, turn_at hj, turn_free]
  exact ⟨fun h => ⟨turn_lt hp hj, h.2⟩, fun h => ⟨hj, h.2⟩⟩
theorem turn_best {W : Nat} {P : List Nat} (hp : σ.Perm (List.range L.length)) (ho : ∀ x ∈ L, x.o ≤ 1) (hP : ∀ i, i < L.length → pt P i ≤ W) : bestF (turnL L σ) W (turnP W P σ) = bestF L W P := by
  unfold bestF
  rw [turn_allows hp ho hP]
  congr 1
  rw [Bool.eq_iff_iff, waste_iff, waste_iff]
  constructor
  · intro h a b ha hb
    obtain ⟨j, hj, rfl⟩ := turn_pos hp (mem_free.1 ha).1
    obtain ⟨k, hk, rfl⟩ := turn_pos hp (mem_free.1 hb).1
    rw [← turn_waste hp hP hk hj]
    exact h k j ((turn_memfree hk hp).2 hb) ((turn_memfree hj hp).2 ha)
  · intro h j k hj hk
    have hj' : j < σ.length := by have := (mem_free.1 hj).1; rwa [turn_len] at this
    have hk' : k < σ.length := by have := (mem_free.1 hk).1; rwa [turn_len] at this
    rw [turn_waste hp hP hj' hk']
    exact h _ _ ((turn_memfree hk' hp).1 hk) ((turn_memfree hj' hp).1 hj)
/-- By two exchanges that are best, by each of which both gain alike, they gain the same. -/
theorem both_alike {L : List St} {W V : Nat} {P Q : List Nat} {a b c d : Nat} (h : holdsF L W P a b = true) (ha : 1 ≤ a) (k : holdsF L V Q c d = true) (hc : 1 ≤ c) (hp : ∀ i, i < L.length → pt P i ≤ W) (hq : ∀ i, i < L.length → pt Q i ≤ V)
    (e1 : hasN L P + W * hasS L 1 (nowP L) = hasS L W P + W * hasN L (nowP L)) (e2 : hasN L Q + V * hasS L 1 (nowP L) = hasS L V Q + V * hasN L (nowP L)) : hasN L P * V = hasN L Q * W := by
  have hP : allowsF L W P = true := by unfold holdsF at h; rw [Bool.and_eq_true] at h; exact h.2
  have hQ : allowsF L V Q = true := by unfold holdsF at k; rw [Bool.and_eq_true] at k; exact k.2
  have n1 := no_both h ha hQ hq hp
  have n2 := no_both k hc hP hp hq
  have q1 : hasN L P * V + W * hasS L 1 (nowP L) * V = hasS L W P * V + W * hasN L (nowP L) * V := by rw [← Nat.add_mul, ← Nat.add_mul, e1]
  have q2 : hasN L Q * W + V * hasS L 1 (nowP L) * W = hasS L V Q * W + V * hasN L (nowP L) * W := by rw [← Nat.add_mul, ← Nat.add_mul, e2]
  have r1 : V * hasS L 1 (nowP L) * W = W * hasS L 1 (nowP L) * V := by rw [Nat.mul_assoc, Nat.mul_comm, Nat.mul_comm (hasS L 1 (nowP L)) W]
  have r2 : V * hasN L (nowP L) * W = W * hasN L (nowP L) * V := by rw [Nat.mul_assoc, Nat.mul_comm, Nat.mul_comm (hasN L (nowP L)) W]
  rw [r1, r2] at q2
  generalize W * hasS L 1 (nowP L) * V = x at *
  generalize W * hasN L (nowP L) * V = y at *
  generalize hasN L P * V = A at *
  generalize hasN L Q * W = B at *
  generalize hasS L W P * V = C at *
  generalize hasS L V Q * W = D at *
  rcases Nat.lt_trichotomy A B with hh | hh | hh
  · exact absurd ⟨hh, by omega⟩ n1
  · exact hh
  · exact absurd ⟨hh, by omega⟩ n2
end
end Go.Proofs.Ytlaolokakaheaaa
