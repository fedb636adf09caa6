/-
  What BarterEven asks of the mathematics: the exchange by which both gain alike, its price, its cuts, and what any allowed exchange is beside it.
-/
import Derived.Test.YtlaolokakaheaaaTR
import Derived.Test.YtlaolokakaheaaaBQ
import Derived.Test.YtlaolokakaheaaaBG
import Derived.Test.YtlaolokakaheaaaBP
namespace Go.Proofs.Ytlaolokakaheaaa
open Go.RowKit

section
variable {L : List St} {v : List Nat} {W V : Nat} {P Q : List Nat}
theorem price_bounds (h : ∀ x ∈ L, (1 ≤ x.n ∧ x.n ≤ 1000) ∧ 1 ≤ x.s ∧ x.s ≤ 1000) : ∀ (l : List Nat) (p : Nat × Nat), (∀ i ∈ l, i < L.length) → (1 ≤ p.1 ∧ p.1 ≤ 1000) ∧ 1 ≤ p.2 ∧ p.2 ≤ 1000 → (1 ≤ (priceF L W P l p).1 ∧ (priceF L W P l p).1 ≤ 1000) ∧ 1 ≤ (priceF L W P l p).2 ∧ (priceF L W P l p).2 ≤ 1000
  | [], p, _, hp => hp
  | i :: r, p, hl, hp => by
    have hi := h _ (at_mem (hl i (List.mem_cons_self ..)))
    obtain ⟨q1, q2, q3, q4⟩ := low_pos hi.1.1 hi.2.1
    unfold priceF
    split
    · exact ⟨⟨q2, by dsimp only; omega⟩, q1, by dsimp only; omega⟩
    · exact price_bounds h r _ (fun j hj => hl j (List.mem_cons_of_mem _ hj)) ⟨⟨q2, by dsimp only; omega⟩, q1, by dsimp only; omega⟩
theorem gainN_less : gainN L W P * (V : Int) < gainN L V Q * (W : Int) ↔ hasN L P * V < hasN L Q * W := by
  have e : ((W * hasN L (nowL L) : Nat) : Int) * (V : Int) = ((V * hasN L (nowL L) : Nat) : Int) * (W : Int) := by
    rw [← Int.natCast_mul, ← Int.natCast_mul, Nat.mul_right_comm W, Nat.mul_comm W V, Nat.mul_right_comm V]
  unfold gainN
  rw [Int.sub_mul, Int.sub_mul, e, ← Int.natCast_mul (hasN L P), ← Int.natCast_mul (hasN L Q)]
  omega
theorem gainS_less : gainS L W P * (V : Int) < gainS L V Q * (W : Int) ↔ hasS L W P * V < hasS L V Q * W := by
  have e : ((W * hasS L 1 (nowL L) : Nat) : Int) * (V : Int) = ((V * hasS L 1 (nowL L) : Nat) : Int) * (W : Int) := by
    rw [← Int.natCast_mul, ← Int.natCast_mul, Nat.mul_right_comm W, Nat.mul_comm W V, Nat.mul_right_comm V]
  unfold gainS
  rw [Int.sub_mul, Int.sub_mul, e, ← Int.natCast_mul (hasS L W P), ← Int.natCast_mul (hasS L V Q)]
  omega
/-- Is a stretch cut? -/
def cutF (W : Nat) (P : List Nat) (i : Nat) : Nat := if 0 < pt P i ∧ pt P i < W then 1 else 0
theorem cut_one (h : ∀ i j, i < L.length → j < L.length → 0 < pt P i → pt P i < W → 0 < pt P j → pt P j < W → i = j) : ∀ m, m ≤ L.length → sumF (cutF W P) m ≤ 1 := by
  intro m
  induction m with
  | zero => intro _; exact Nat.zero_le _
  | succ m ih =>
    intro hm
    have := ih (by omega)
    unfold sumF
    by_cases hc : 0 < pt P m ∧ pt P m < W
    · have hz : sumF (cutF W P) m = 0 := by
        have hall : ∀ q, q ≤ m → sumF (cutF W P) q = 0 := by
          intro q
          induction q with
          | zero => intro _; rfl
          | succ q iq =>
            intro hq
            unfold sumF
            rw [iq (by omega)]
            unfold cutF
            rw [if_neg]
            rintro ⟨c1, c2⟩
            have := h q m (by omega) (by omega) c1 c2 hc.1 hc.2
            omega
        exact hall m (Nat.le_refl _)
      rw [hz]
      unfold cutF
      rw [if_pos hc]
      omega
    · have : cutF W P m = 0 := by unfold cutF; rw [if_neg hc]
      omega
theorem cut_le (i m : Nat) (h : i < m) : cutF W P i ≤ sumF (cutF W P) m := by
  induction m with
  | zero => omega
  | succ m ih =>
    unfold sumF
    by_cases e : i < m
    · have := ih e; omega
    · obtain rfl : i = m := by omega
      omega
/-- What an exchange is that is best, with its price. -/
structure BestM (L : List St) (W : Nat) (P : List Nat) (a b : Nat) : Prop where
  len : P.length = L.length
  w1 : 1 ≤ W
  w2 : W ≤ 2000
  le : ∀ i, i < L.length → pt P i ≤ W
  al : allowsF L W P = true
  best : bestF L W P = true
  pr : priceF L W P (orderF L) (1, 1) = (a, b)
  pb : (1 ≤ a ∧ a ≤ 1000) ∧ 1 ≤ b ∧ b ≤ 1000
  holds : holdsF L W P a b = true
theorem best_math (hk : OkL L v) (hl : P.length = L.length) (h1 : 1 ≤ W) (h2 : W ≤ 2000) (hle : ∀ i, i < L.length → pt P i ≤ W) (hb : bestF L W P = true) : ∃ a b, BestM L W P a b := by
  have hpb := price_bounds (W := W) (P := P) hk.oks (orderF L) (1, 1) (fun i hi => (order_lt hi).1) (by dsimp only; omega)
  have hh := price_holds hk hb (l := orderF L) (fun i => order_perm.mem_iff) (order_ordered hk.oks)
  have hal : allowsF L W P = true := by unfold bestF at hb; rw [Bool.and_eq_true] at hb; exact hb.1
  exact ⟨_, _, hl, h1, h2, hle, hal, hb, rfl, hpb, hh⟩
/-- What the exchange by which both gain alike is. -/
structure EvenM (L : List St) (W : Nat) (P : List Nat) (a b : Nat) : Prop where
  is : BestM L W P a b
  alike : gainS L W P = gainN L W P
  pos : 0 ≤ gainN L W P
  bound : ∀ i, i < L.length → (at' L i).free = false → pt P i = W * nowF (at' L i)
  cut1 : ∀ m, m ≤ L.length → sumF (cutF W P) m ≤ 1
  cut0 : sumF (cutF W P) L.length = 0 → W = 1
theorem even_math (hk : OkL L v) (hb : byOrderF L true 0 = some (W, P)) : ∃ a b, EvenM L W P a b := by
  obtain ⟨f, r, hB⟩ := even_by hk.oks hk.ob hb
  obtain ⟨a, b, hM⟩ := best_math hk hB.len hB.w1 hB.wb (fun i hi => hB.le hi) (hB.best hk.oks)
  have hal := alike (fun i hi => hk.ob _ (at_mem hi)) hB
  have hpos := gain_pos hM.holds hM.pb.1.1 hM.le hal
  have e1 : nowL L = nowP L := rfl
  refine ⟨a, b, hM, ?_, ?_, hB.bound, cut_one fun i j hi hj c1 c2 c3 c4 => ?_, fun h0 => ?_⟩
  · unfold gainN gainS
    rw [e1]
    omega
  · unfold gainN
    rw [e1]
    omega
  · obtain ⟨_, e⟩ := hB.cut hi c1 c2
    obtain ⟨_, e2⟩ := hB.cut hj c3 c4
    rw [e, e2]
  · by_cases hr : r = 0
    · exact hB.uncut hr
    · exfalso
      have hf : f < (orderF L).length := by
        have := hB.f1
        rcases Nat.lt_or_ge f (orderF L).length with h | h
        · exact h
        · exact absurd (hB.none_ (by omega)) hr
      obtain ⟨h1, h2⟩ := hB.at_ hf
      have hlt := (order_lt (List.getElem_mem hf)).1
      have h3 := cut_le (W := W) (P := P) _ _ hlt
      rw [h0] at h3
      have h4 : cutF W P (orderF L)[f] = 1 := by unfold cutF; rw [if_pos]; rw [h1]; omega
      omega
/-- No allowed exchange gives both more. -/
theorem BestM.both {a b : Nat} (h : BestM L W P a b) (hQ : allowsF L V Q = true) (hq : ∀ i, i < L.length → pt Q i ≤ V) : ¬ (gainN L W P * (V : Int) < gainN L V Q * (W : Int) ∧ gainS L W P * (V : Int) < gainS L V Q * (W : Int)) := by
  rw [gainN_less, gainS_less]
  exact no_both h.holds h.pb.1.1 hQ hq h.le
theorem BestM.most {a b : Nat} (h : BestM L W P a b) (hQ : allowsF L V Q = true) (hq : ∀ i, i < L.length → pt Q i ≤ V) : (hasN L Q * a + hasS L V Q * b) * W ≤ (hasN L P * a + hasS L W P * b) * V := price_max h.holds hQ hq h.le
theorem has_small (hk : OkL L v) (hW : W ≤ 2000) (hle : ∀ i, i < L.length → pt P i ≤ W) : hasN L P ≤ 32000000 ∧ hasS L W P ≤ 32000000 := by
  have hs : ∀ (f : Nat → Nat) (m : Nat), m ≤ L.length → (∀ i, i < L.length → f i ≤ 2000000) → sumF f m ≤ 2000000 * m := by
    intro f m
    induction m with
    | zero => intro _ _; exact Nat.le_refl _
    | succ m ih =>
      intro hm hf
      have h1 := ih (by omega) hf
      have h2 := hf m (by omega)
      unfold sumF
      omega
  have hn := hk.l2
  refine ⟨?_, ?_⟩
  · refine Nat.le_trans (hs _ _ (Nat.le_refl _) fun i hi => ?_) (show 2000000 * L.length ≤ _ by omega)
    exact Nat.mul_le_mul (hk.nb _ (at_mem hi)).2 (Nat.le_trans (hle i hi) hW)
  · refine Nat.le_trans (hs _ _ (Nat.le_refl _) fun i hi => ?_) (show 2000000 * L.length ≤ _ by omega)
    exact Nat.mul_le_mul (hk.sb _ (at_mem hi)).2 (show W - pt P i ≤ 2000 by omega)
theorem gain_small (hk : OkL L v) (hW : W ≤ 2000) (hle : ∀ i, i < L.length → pt P i ≤ W) : -70000000 ≤ gainN L W P ∧ gainN L W P ≤ 70000000 ∧ -70000000 ≤ gainS L W P ∧ gainS L W P ≤ 70000000 := by
  have h1 := has_small hk hW hle
  have h2 := has_small (W := 1) (P := nowL L) hk (by omega) (fun i hi => by rw [nowL_pt _ _ hi]; exact now_le _)
  have h3 : hasN L (nowL L) ≤ 16000 ∧ hasS L 1 (nowL L) ≤ 16000 := by
    have hs : ∀ (f : Nat → Nat) (m : Nat), m ≤ L.length → (∀ i, i < L.length → f i ≤ 1000) → sumF f m ≤ 1000 * m := by
      intro f m
      induction m with
      | zero => intro _ _; exact Nat.le_refl _
      | succ m ih =>
        intro hm hf
        have h1 := ih (by omega) hf
        have h2 := hf m (by omega)
        unfold sumF
        omega
    have hn := hk.l2
    refine ⟨?_, ?_⟩
    · refine Nat.le_trans (hs _ _ (Nat.le_refl _) fun i hi => ?_) (show 1000 * L.length ≤ _ by omega)
      have := Nat.mul_le_mul (hk.nb _ (at_mem hi)).2 (show pt (nowL L) i ≤ 1 by rw [nowL_pt _ _ hi]; exact now_le _)
      omega
    · refine Nat.le_trans (hs _ _ (Nat.le_refl _) fun i hi => ?_) (show 1000 * L.length ≤ _ by omega)
      have := Nat.mul_le_mul (hk.sb _ (at_mem hi)).2 (show 1 - pt (nowL L) i ≤ 1 by omega)
      omega
  have h4 : W * hasN L (nowL L) ≤ 32000000 := Nat.le_trans (Nat.mul_le_mul hW h3.1) (by decide)
  have h5 : W * hasS L 1 (nowL L) ≤ 32000000 := Nat.le_trans (Nat.mul_le_mul hW h3.2) (by decide)
  unfold gainN gainS
  omega
end
end Go.Proofs.Ytlaolokakaheaaa
