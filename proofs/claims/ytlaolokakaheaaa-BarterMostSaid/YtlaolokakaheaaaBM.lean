/-
  Lands of package barter as mathematics: who is ahead, what is a waste, what price holds. Nothing is claimed of the program here.
-/
import Derived.WalkKit
namespace Go.Proofs.Ytlaolokakaheaaa

/-- A stretch: its owner, its worths, its well (-1: none). -/
structure St where
  o : Nat
  n : Nat
  s : Nat
  w : Int
def St.free (x : St) : Bool := decide (x.w = -1)
def at' (L : List St) (i : Nat) : St := L[i]?.getD ⟨0, 0, 0, 0⟩
/-- The stretches that are free, in increasing order. -/
def freeF (L : List St) : List Nat := (List.range L.length).filter fun i => (at' L i).free
def nowF (x : St) : Nat := if x.o = 0 then 1 else 0
def pt (P : List Nat) (i : Nat) : Nat := P[i]?.getD 0
/-- Is an exchange allowed? -/
def allowsF (L : List St) (W : Nat) (P : List Nat) : Bool := (List.range L.length).all fun i => (at' L i).free || decide (pt P i = W * nowF (at' L i))
/-- A sum over the stretches. -/
def sumF (f : Nat → Nat) : Nat → Nat
  | 0 => 0
  | m + 1 => sumF f m + f m
def hasN (L : List St) (P : List Nat) : Nat := sumF (fun i => (at' L i).n * pt P i) L.length
def hasS (L : List St) (W : Nat) (P : List Nat) : Nat := sumF (fun i => (at' L i).s * (W - pt P i)) L.length
/-- The worths of a stretch in lowest terms. -/
def lowN (x : St) : Nat := x.n / Nat.gcd x.n x.s
def lowS (x : St) : Nat := x.s / Nat.gcd x.n x.s
def aheadF (x y : St) : Bool := decide (lowS x * lowN y < lowN x * lowS y)
theorem ahead_iff {x y : St} (hx : 1 ≤ x.n) (hy : 1 ≤ y.n) : aheadF x y = true ↔ x.s * y.n < x.n * y.s := by
  unfold aheadF lowN lowS
  rw [decide_eq_true_eq]
  have g1 : 0 < Nat.gcd x.n x.s := Nat.gcd_pos_of_pos_left _ hx
  have g2 : 0 < Nat.gcd y.n y.s := Nat.gcd_pos_of_pos_left _ hy
  obtain ⟨a, ha⟩ := Nat.gcd_dvd_left x.n x.s
  obtain ⟨b, hb⟩ := Nat.gcd_dvd_right x.n x.s
  obtain ⟨c, hc⟩ := Nat.gcd_dvd_left y.n y.s
  obtain ⟨d, hd⟩ := Nat.gcd_dvd_right y.n y.s
  generalize hg : Nat.gcd x.n x.s = g at *
  generalize hh : Nat.gcd y.n y.s = h at *
  rw [ha, hb, hc, hd, Nat.mul_div_cancel_left a g1, Nat.mul_div_cancel_left b g1, Nat.mul_div_cancel_left c g2, Nat.mul_div_cancel_left d g2]
  have e1 : g * b * (h * c) = g * h * (b * c) := by rw [Nat.mul_assoc, Nat.mul_left_comm b h c, Nat.mul_assoc]
  have e2 : g * a * (h * d) = g * h * (a * d) := by rw [Nat.mul_assoc, Nat.mul_left_comm a h d, Nat.mul_assoc]
  rw [e1, e2]
  exact (Nat.mul_lt_mul_left (Nat.mul_pos g1 g2)).symm
/-- A waste: the North should have more of a, and less of b. -/
def isWaste (L : List St) (W : Nat) (P : List Nat) (a b : Nat) : Bool := decide (pt P a < W) && decide (0 < pt P b) && aheadF (at' L a) (at' L b)
/-- The first pair of numbers of a list that is a waste. -/
def wasteF (L : List St) (W : Nat) (P : List Nat) : Option (Nat × Nat) := (freeF L).findSome? fun a => ((freeF L).find? fun b => isWaste L W P a b).map fun b => (a, b)
def bestF (L : List St) (W : Nat) (P : List Nat) : Bool := allowsF L W P && (wasteF L W P).isNone
/-- Does a price hold? -/
def holdsF (L : List St) (W : Nat) (P : List Nat) (p q : Nat) : Bool := ((freeF L).all fun i => !((decide ((at' L i).s * q < (at' L i).n * p) && decide (pt P i < W)) || (decide ((at' L i).n * p < (at' L i).s * q) && decide (0 < pt P i)))) && allowsF L W P
/-- A land that is right. -/
structure OkL (L : List St) (v : List Nat) : Prop where
  l1 : 1 ≤ L.length
  l2 : L.length ≤ 16
  v2 : v.length ≤ 8
  vb : ∀ x ∈ v, x ≤ 1
  ob : ∀ x ∈ L, x.o ≤ 1
  nb : ∀ x ∈ L, 1 ≤ x.n ∧ x.n ≤ 1000
  sb : ∀ x ∈ L, 1 ≤ x.s ∧ x.s ≤ 1000
  wb : ∀ x ∈ L, x.w = -1 ∨ ∃ k : Nat, x.w = (k : Int) ∧ k < v.length ∧ v[k]?.getD 0 = x.o
section
variable {L : List St} {v : List Nat} {W : Nat} {P : List Nat}
theorem at_mem {i : Nat} (h : i < L.length) : at' L i ∈ L := by
  unfold at'
  rw [List.getElem?_eq_getElem h, Option.getD_some]
  exact List.getElem_mem h
theorem mem_free {i : Nat} : i ∈ freeF L ↔ i < L.length ∧ (at' L i).free = true := by
  unfold freeF
  rw [List.mem_filter, List.mem_range]
theorem waste_some {a b : Nat} (h : wasteF L W P = some (a, b)) : a ∈ freeF L ∧ b ∈ freeF L ∧ isWaste L W P a b = true := by
  unfold wasteF at h
  obtain ⟨a', ha, h⟩ := List.exists_of_findSome?_eq_some h
  rw [Option.map_eq_some_iff] at h
  obtain ⟨b', hb, e⟩ := h
  cases e
  exact ⟨ha, List.mem_of_find?_eq_some hb, List.find?_some (p := fun b => isWaste L W P a b) hb⟩
theorem waste_none (h : wasteF L W P = none) {a b : Nat} (ha : a ∈ freeF L) (hb : b ∈ freeF L) : isWaste L W P a b = false := by
  unfold wasteF at h
  rw [List.findSome?_eq_none_iff] at h
  have h1 := h a ha
  rw [Option.map_eq_none_iff, List.find?_eq_none] at h1
  simpa using h1 b hb
/-- With a waste no price holds. -/
theorem no_price (hk : OkL L v) {a b p q : Nat} (h : wasteF L W P = some (a, b)) (hp : 1 ≤ p) (hq : 1 ≤ q) : holdsF L W P p q = false := by
  obtain ⟨ha, hb, hw⟩ := waste_some h
  cases hh : holdsF L W P p q with
  | false => rfl
  | true =>
    exfalso
    unfold holdsF at hh
    rw [Bool.and_eq_true, List.all_eq_true] at hh
    have h1 := hh.1 a ha
    have h2 := hh.1 b hb
    unfold isWaste at hw
    have hna := (hk.nb _ (at_mem (mem_free.1 ha).1)).1
    have hnb := (hk.nb _ (at_mem (mem_free.1 hb).1)).1
    simp only [Bool.and_eq_true, decide_eq_true_eq, ahead_iff hna hnb] at hw
    obtain ⟨⟨w1, w2⟩, w3⟩ := hw
    simp only [Bool.not_eq_true', Bool.or_eq_false_iff, Bool.and_eq_false_iff, decide_eq_false_iff_not] at h1 h2
    have q1 : (at' L a).n * p ≤ (at' L a).s * q := by rcases h1.1 with h | h <;> omega
    have q2 : (at' L b).s * q ≤ (at' L b).n * p := by rcases h2.2 with h | h <;> omega
    generalize at' L a = x at *
    generalize at' L b = y at *
    have r1 : x.n * p * (y.s * q) ≤ x.s * q * (y.n * p) := Nat.mul_le_mul q1 q2
    have e1 : x.n * p * (y.s * q) = x.n * y.s * (p * q) := by rw [Nat.mul_assoc, Nat.mul_left_comm p y.s q, ← Nat.mul_assoc]
    have e2 : x.s * q * (y.n * p) = x.s * y.n * (p * q) := by rw [Nat.mul_assoc, Nat.mul_left_comm q y.n p, Nat.mul_comm q p, ← Nat.mul_assoc]
    rw [e1, e2] at r1
    have r2 : x.s * y.n * (p * q) < x.n * y.s * (p * q) := Nat.mul_lt_mul_of_pos_right w3 (Nat.mul_pos hp hq)
    omega
/-- The price by an order of the free stretches. -/
def priceF (L : List St) (W : Nat) (P : List Nat) : List Nat → Nat × Nat → Nat × Nat
  | [], p => p
  | i :: r, _ => if pt P i < W then (lowS (at' L i), lowN (at' L i)) else priceF L W P r (lowS (at' L i), lowN (at' L i))
/-- An order: nobody is ahead of who comes before. -/
def Ordered (L : List St) (l : List Nat) : Prop := l.Pairwise fun i j => aheadF (at' L j) (at' L i) = false
theorem low_pos {x : St} (h1 : 1 ≤ x.n) (h2 : 1 ≤ x.s) : 1 ≤ lowN x ∧ 1 ≤ lowS x ∧ lowN x ≤ x.n ∧ lowS x ≤ x.s := by
  have g : 0 < Nat.gcd x.n x.s := Nat.gcd_pos_of_pos_left _ h1
  refine ⟨Nat.div_pos (Nat.le_of_dvd h1 (Nat.gcd_dvd_left _ _)) g, Nat.div_pos (Nat.le_of_dvd h2 (Nat.gcd_dvd_right _ _)) g, Nat.div_le_self _ _, Nat.div_le_self _ _⟩
/-- By the price of i who is not behind i is worth as much to the North. -/
theorem low_le {x y : St} (h1 : 1 ≤ y.n) (h : aheadF x y = false) : x.n * lowS y ≤ x.s * lowN y := by
  unfold aheadF at h
  rw [decide_eq_false_iff_not] at h
  unfold lowN lowS at h ⊢
  have g2 : 0 < Nat.gcd y.n y.s := Nat.gcd_pos_of_pos_left _ h1
  obtain ⟨a, ha⟩ := Nat.gcd_dvd_left x.n x.s
  obtain ⟨b, hb⟩ := Nat.gcd_dvd_right x.n x.s
  generalize hg : Nat.gcd x.n x.s = g at *
  generalize y.n / Nat.gcd y.n y.s = c at *
  generalize y.s / Nat.gcd y.n y.s = d at *
  rcases Nat.eq_zero_or_pos g with g0 | g0
  · subst g0; rw [ha, hb]; simp
  · rw [ha, hb, Nat.mul_div_cancel_left a g0, Nat.mul_div_cancel_left b g0] at h
    rw [ha, hb, Nat.mul_assoc, Nat.mul_assoc]
    exact Nat.mul_le_mul_left g (by omega)
theorem low_lt {x y : St} (h1 : 1 ≤ x.n) (h : aheadF x y = true) : x.s * lowN y < x.n * lowS y := by
  unfold aheadF at h
  rw [decide_eq_true_eq] at h
  unfold lowN lowS at h ⊢
  have g1 : 0 < Nat.gcd x.n x.s := Nat.gcd_pos_of_pos_left _ h1
  obtain ⟨a, ha⟩ := Nat.gcd_dvd_left x.n x.s
  obtain ⟨b, hb⟩ := Nat.gcd_dvd_right x.n x.s
  generalize hg : Nat.gcd x.n x.s = g at *
  generalize y.n / Nat.gcd y.n y.s = c at *
  generalize y.s / Nat.gcd y.n y.s = d at *
  rw [ha, hb, Nat.mul_div_cancel_left a g1, Nat.mul_div_cancel_left b g1] at h
  rw [ha, hb, Nat.mul_assoc, Nat.mul_assoc]
  exact (Nat.mul_lt_mul_left g1).2 h
theorem low_ge {x y : St} (_h1 : 1 ≤ y.n) (h : aheadF y x = false) : x.s * lowN y ≤ x.n * lowS y := by
  unfold aheadF at h
  rw [decide_eq_false_iff_not] at h
  unfold lowN lowS at h ⊢
  obtain ⟨a, ha⟩ := Nat.gcd_dvd_left x.n x.s
  obtain ⟨b, hb⟩ := Nat.gcd_dvd_right x.n x.s
  generalize hg : Nat.gcd x.n x.s = g at *
  generalize y.n / Nat.gcd y.n y.s = c at *
  generalize y.s / Nat.gcd y.n y.s = d at *
  rcases Nat.eq_zero_or_pos g with g0 | g0
  · subst g0; rw [ha, hb]; simp
  · rw [ha, hb, Nat.mul_div_cancel_left a g0, Nat.mul_div_cancel_left b g0] at h
    rw [ha, hb, Nat.mul_assoc, Nat.mul_assoc]
    refine Nat.mul_le_mul_left g ?_
    rw [Nat.mul_comm b c, Nat.mul_comm a d]
    omega
theorem low_self {x : St} (h1 : 1 ≤ x.n) : x.s * lowN x = x.n * lowS x := by
  have h : aheadF x x = false := by unfold aheadF; rw [decide_eq_false_iff_not, Nat.mul_comm]; omega
  exact Nat.le_antisymm (low_ge h1 h) (low_le h1 h)
/-- What a price asks of a stretch. -/
def Good (L : List St) (W : Nat) (P : List Nat) (p : Nat × Nat) (i : Nat) : Prop := ¬ ((at' L i).s * p.2 < (at' L i).n * p.1 ∧ pt P i < W) ∧ ¬ ((at' L i).n * p.1 < (at' L i).s * p.2 ∧ 0 < pt P i)
theorem price_good (hn : ∀ i, i ∈ freeF L → 1 ≤ (at' L i).n) : ∀ (r pre : List Nat) (p : Nat × Nat), (∀ i ∈ pre, i ∈ freeF L) → (∀ i ∈ r, i ∈ freeF L) → (∀ i ∈ pre, ∀ j ∈ r, aheadF (at' L j) (at' L i) = false) → Ordered L r → (∀ i ∈ pre, ¬ pt P i < W ∧ (at' L i).s * p.2 ≤ (at' L i).n * p.1) → (∀ a ∈ r, ∀ b ∈ r, isWaste L W P a b = false) → ∀ i, (i ∈ pre ∨ i ∈ r) → Good L W P (priceF L W P r p) i
  | [], pre, p, _, _, _, _, hp, _, i, hi => by
    have hi := hi.resolve_right (by simp)
    obtain ⟨h1, h2⟩ := hp i hi
    exact ⟨fun h => h1 h.2, fun h => by have := h.1; show False; unfold priceF at this; omega⟩
  | k :: r, pre, p, hf, hr, ha, ho, hp, hw, i, hi => by
    have hkf := hr k (List.mem_cons_self ..)
    have hnk := hn k hkf
    unfold Ordered at ho
    rw [List.pairwise_cons] at ho
    unfold priceF
    by_cases hk : pt P k < W
    · rw [if_pos hk]
      rcases hi with hi | hi
      · have hz := ha i hi k (List.mem_cons_self ..)
        have := low_ge hnk hz
        exact ⟨fun h => (hp i hi).1 h.2, fun h => by have := h.1; dsimp only at this; omega⟩
      · rcases List.mem_cons.1 hi with rfl | hi
        · have := low_self hnk
          exact ⟨fun h => by have := h.1; dsimp only at this; omega, fun h => by have := h.1; dsimp only at this; omega⟩
        · have hz := ho.1 i hi
          have h1 := low_le hnk hz
          refine ⟨fun h => by have := h.1; dsimp only at this; omega, fun h => ?_⟩
          have hq := h.1
          dsimp only at hq
          cases hb : aheadF (at' L k) (at' L i) with
          | false => have := low_ge hnk hb; omega
          | true =>
            have := hw k (List.mem_cons_self ..) i (List.mem_cons_of_mem _ hi)
            unfold isWaste at this
            rw [hb, decide_eq_true hk, decide_eq_true h.2] at this
            simp at this
    · rw [if_neg hk]
      refine price_good hn r (k :: pre) _ ?_ (fun j hj => hr j (List.mem_cons_of_mem _ hj)) ?_ ho.2 ?_ (fun a h1 b h2 => hw a (List.mem_cons_of_mem _ h1) b (List.mem_cons_of_mem _ h2)) i ?_
      · intro j hj
        rcases List.mem_cons.1 hj with rfl | hj
        · exact hkf
        · exact hf j hj
      · intro j hj m hm
        rcases List.mem_cons.1 hj with rfl | hj
        · exact ho.1 m hm
        · exact ha j hj m (List.mem_cons_of_mem _ hm)
      · intro j hj
        rcases List.mem_cons.1 hj with rfl | hj
        · exact ⟨hk, Nat.le_of_eq (low_self hnk)⟩
        · exact ⟨(hp j hj).1, low_ge hnk (ha j hj k (List.mem_cons_self ..))⟩
      · rcases hi with hi | hi
        · exact .inl (List.mem_cons_of_mem _ hi)
        · rcases List.mem_cons.1 hi with rfl | hi
          · exact .inl (List.mem_cons_self ..)
          · exact .inr hi
/-- For an exchange that is best the price by order holds. -/
theorem price_holds (hk : OkL L v) (hb : bestF L W P = true) {l : List Nat} (hl : ∀ i, i ∈ l ↔ i ∈ freeF L) (ho : Ordered L l) : holdsF L W P (priceF L W P l (1, 1)).1 (priceF L W P l (1, 1)).2 = true := by
  unfold bestF at hb
  rw [Bool.and_eq_true, Option.isNone_iff_eq_none] at hb
  have hg := price_good (L := L) (W := W) (P := P) (fun i hi => (hk.nb _ (at_mem (mem_free.1 hi).1)).1) l [] (1, 1) (fun i hi => by simp at hi) (fun i hi => (hl i).1 hi) (fun i hi => by simp at hi) ho (fun i hi => by simp at hi) (fun a h1 b h2 => waste_none hb.2 ((hl a).1 h1) ((hl b).1 h2))
  unfold holdsF
  rw [Bool.and_eq_true, List.all_eq_true]
  refine ⟨fun i hi => ?_, hb.1⟩
  obtain ⟨g1, g2⟩ := hg i (.inr ((hl i).2 hi))
  simp only [Bool.not_eq_true', Bool.or_eq_false_iff, Bool.and_eq_false_iff, decide_eq_false_iff_not]
  exact ⟨Decidable.not_and_iff_not_or_not.1 g1, Decidable.not_and_iff_not_or_not.1 g2⟩
theorem sumF_one {f g : Nat → Nat} {m a : Nat} (ha : a < m) (h : ∀ i, i ≠ a → f i = g i) : sumF f m + g a = sumF g m + f a := by
  induction m with
  | zero => omega
  | succ m ih =>
    unfold sumF
    by_cases e : a = m
    · subst e
      have : sumF f a = sumF g a := by
        clear ih ha
        suffices hh : ∀ k, k ≤ a → sumF f k = sumF g k from hh a (Nat.le_refl _)
        intro k
        induction k with
        | zero => intro _; rfl
        | succ k ih => intro hk; unfold sumF; rw [ih (by omega), h k (by omega)]
      omega
    · have := ih (by omega)
      have := h m (fun e2 => e e2.symm)
      omega
theorem sumF_mul (f : Nat → Nat) (c m : Nat) : sumF (fun i => c * f i) m = c * sumF f m := by
  induction m with
  | zero => rfl
  | succ m ih => unfold sumF; rw [ih, Nat.mul_add]
theorem sumF_congr {f g : Nat → Nat} {m : Nat} (h : ∀ i, i < m → f i = g i) : sumF f m = sumF g m := by
  induction m with
  | zero => rfl
  | succ m ih => unfold sumF; rw [ih (fun i hi => h i (by omega)), h m (by omega)]
theorem pt_map (P : List Nat) (c i : Nat) : pt (P.map (c * ·)) i = c * pt P i := by
  unfold pt
  rw [List.getElem?_map]
  cases P[i]? <;> simp
theorem pt_set {P : List Nat} {a i x : Nat} (ha : a < P.length) : pt (P.set a x) i = if i = a then x else pt P i := by
  unfold pt
  rw [List.getElem?_set]
  by_cases e : a = i
  · subst e; rw [if_pos rfl, if_pos rfl, if_pos ha]; rfl
  · rw [if_neg e, if_neg (fun h => e h.symm)]
/-- With a little of a waste exchanged the North has more, and the South as much. -/
theorem trade (hk : OkL L v) {a b : Nat} (h : wasteF L W P = some (a, b)) (hl : P.length = L.length) (hP : ∀ i, i < L.length → pt P i ≤ W) (hs : ∀ x ∈ L, x.s ≤ 60) : a < L.length ∧ b < L.length ∧ a ≠ b ∧ 60 * pt P a + (at' L b).s ≤ 60 * W ∧ (at' L a).s ≤ 60 * pt P b ∧
    60 * hasN L P < hasN L (((P.map (60 * ·)).set a (60 * pt P a + (at' L b).s)).set b (60 * pt P b - (at' L a).s)) ∧ hasS L (60 * W) (((P.map (60 * ·)).set a (60 * pt P a + (at' L b).s)).set b (60 * pt P b - (at' L a).s)) = 60 * hasS L W P := by
  obtain ⟨ha, hb, hw⟩ := waste_some h
  have hal := (mem_free.1 ha).1
  have hbl := (mem_free.1 hb).1
  have hna := hk.nb _ (at_mem hal)
  have hnb := hk.nb _ (at_mem hbl)
  have hsa := hs _ (at_mem hal)
  have hsb := hs _ (at_mem hbl)
  unfold isWaste at hw
  simp only [Bool.and_eq_true, decide_eq_true_eq, ahead_iff hna.1 hnb.1] at hw
  obtain ⟨⟨w1, w2⟩, w3⟩ := hw
  have hab : a ≠ b := by
    intro e
    subst e
    rw [Nat.mul_comm] at w3
    omega
  have e1 : 60 * pt P a + (at' L b).s ≤ 60 * W := by omega
  have e2 : (at' L a).s ≤ 60 * pt P b := by omega
  have hpa := hP a hal
  have hpb := hP b hbl
  refine ⟨hal, hbl, hab, e1, e2, ?_, ?_⟩
  · have q0 : hasN L (P.map (60 * ·)) = 60 * hasN L P := by
      unfold hasN
      rw [← sumF_mul]
      exact sumF_congr fun i _ => by rw [pt_map, Nat.mul_left_comm]
    have q1 := sumF_one (f := fun i => (at' L i).n * pt ((P.map (60 * ·)).set a (60 * pt P a + (at' L b).s)) i) (g := fun i => (at' L i).n * pt (P.map (60 * ·)) i) hal (fun i hi => by rw [pt_set (by rw [List.length_map, hl]; exact hal), if_neg hi])
    have q2 := sumF_one (f := fun i => (at' L i).n * pt (((P.map (60 * ·)).set a (60 * pt P a + (at' L b).s)).set b (60 * pt P b - (at' L a).s)) i) (g := fun i => (at' L i).n * pt ((P.map (60 * ·)).set a (60 * pt P a + (at' L b).s)) i) hbl (fun i hi => by rw [pt_set (by rw [List.length_set, List.length_map, hl]; exact hbl), if_neg hi])
    simp only [pt_set (show a < (P.map (60 * ·)).length by rw [List.length_map, hl]; exact hal), pt_set (show b < ((P.map (60 * ·)).set a (60 * pt P a + (at' L b).s)).length by rw [List.length_set, List.length_map, hl]; exact hbl), if_true, pt_map, if_neg (fun h : b = a => hab h.symm)] at q1 q2
    unfold hasN at q0 ⊢
    simp only [pt_set (show a < (P.map (60 * ·)).length by rw [List.length_map, hl]; exact hal), pt_set (show b < ((P.map (60 * ·)).set a (60 * pt P a + (at' L b).s)).length by rw [List.length_set, List.length_map, hl]; exact hbl), pt_map] at q0 ⊢
    have m1 : (at' L a).n * (60 * pt P a + (at' L b).s) = (at' L a).n * (60 * pt P a) + (at' L a).n * (at' L b).s := Nat.mul_add _ _ _
    have m2 : (at' L b).n * (60 * pt P b) = (at' L b).n * (60 * pt P b - (at' L a).s) + (at' L b).n * (at' L a).s := by rw [← Nat.mul_add]; congr 1; omega
    rw [Nat.mul_comm (at' L a).s (at' L b).n] at w3
    omega
  · have q0 : sumF (fun i => (at' L i).s * (60 * W - pt (P.map (60 * ·)) i)) L.length = 60 * hasS L W P := by
      unfold hasS
      rw [← sumF_mul]
      exact sumF_congr fun i _ => by rw [pt_map, ← Nat.mul_sub, Nat.mul_left_comm]
    have q1 := sumF_one (f := fun i => (at' L i).s * (60 * W - pt ((P.map (60 * ·)).set a (60 * pt P a + (at' L b).s)) i)) (g := fun i => (at' L i).s * (60 * W - pt (P.map (60 * ·)) i)) hal (fun i hi => by rw [pt_set (by rw [List.length_map, hl]; exact hal), if_neg hi])
    have q2 := sumF_one (f := fun i => (at' L i).s * (60 * W - pt (((P.map (60 * ·)).set a (60 * pt P a + (at' L b).s)).set b (60 * pt P b - (at' L a).s)) i)) (g := fun i => (at' L i).s * (60 * W - pt ((P.map (60 * ·)).set a (60 * pt P a + (at' L b).s)) i)) hbl (fun i hi => by rw [pt_set (by rw [List.length_set, List.length_map, hl]; exact hbl), if_neg hi])
    simp only [pt_set (show a < (P.map (60 * ·)).length by rw [List.length_map, hl]; exact hal), pt_set (show b < ((P.map (60 * ·)).set a (60 * pt P a + (at' L b).s)).length by rw [List.length_set, List.length_map, hl]; exact hbl), if_true, pt_map, if_neg (fun h : b = a => hab h.symm)] at q0 q1 q2
    unfold hasS at q0 ⊢
    simp only [pt_set (show a < (P.map (60 * ·)).length by rw [List.length_map, hl]; exact hal), pt_set (show b < ((P.map (60 * ·)).set a (60 * pt P a + (at' L b).s)).length by rw [List.length_set, List.length_map, hl]; exact hbl), pt_map] at q0 ⊢
    have m1 : (at' L a).s * (60 * W - 60 * pt P a) = (at' L a).s * (60 * W - (60 * pt P a + (at' L b).s)) + (at' L a).s * (at' L b).s := by rw [← Nat.mul_add]; congr 1; omega
    have m2 : (at' L b).s * (60 * W - (60 * pt P b - (at' L a).s)) = (at' L b).s * (60 * W - 60 * pt P b) + (at' L b).s * (at' L a).s := by rw [← Nat.mul_add]; congr 1; omega
    rw [Nat.mul_comm (at' L b).s (at' L a).s] at m2
    omega
end
end Go.Proofs.Ytlaolokakaheaaa
