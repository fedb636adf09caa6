/-
  What needs and fewest answer: the least number of pillars of which each sees the next one, and such pillars; more sights never make more of them necessary: mathematics alone. Nothing is claimed of the program here.
  Levels that are returned are levels, and prove as many pillars as the fewest are, where places side by side see each other: mathematics alone. Nothing is claimed of the program here.
  A profile that is moved, made wider, raised, narrowed, taller or turned round: what its places see, and how many pillars it needs: mathematics alone. Nothing is claimed of the program here.
  Where two ways of telling what is seen agree, the same pillars are the fewest; more sights never want more pillars; what sees which in two profiles: mathematics alone. Nothing is claimed of the program here.
  What PillarSeen asks of the mathematics: the fewest pillars of a profile that is right hold, each sees the next one, levels prove that no fewer do, and neither pillars that hold nor levels tell otherwise.
  What PillarTurned asks of the mathematics: a profile that is gone the other way, one that begins elsewhere, and one of twice the distances with a quarter of the bend have places that see alike, and as many fewest pillars. Nothing is claimed of the program here.
  What PillarTaller asks of the mathematics: taller pillars and narrower spans never see less and need no more pillars; ground that is raised leaves all as it is; pillars need not be taller than the ground and the bend. Nothing is claimed of the program here.
-/
import Derived.Test.YtfognlealnhodaaV
import Derived.Test.YtfognlealnhodaaS
import Derived.Test.YtfognlealnhodaaW
namespace Go.Proofs.Ytfognlealnhodaa

/-- So many pillars lead from a place to the last one, each of which sees the next one; none of them but the last stands at the place that is left out. -/
inductive Path (S : Nat → Nat → Bool) (n last : Nat) (wo : Int) : Nat → Nat → Prop
  | last : Path S n last wo 1 last
  | step {m p q : Nat} (hp : (p : Int) ≠ wo) (hpq : p < q) (hq : q < n) (hs : S p q = true) (h : Path S n last wo m q) : Path S n last wo (m + 1) p
theorem Path.pos {S : Nat → Nat → Bool} {n last : Nat} {wo : Int} {m p : Nat} (h : Path S n last wo m p) : 1 ≤ m := by
  cases h <;> omega
theorem Path.le {S : Nat → Nat → Bool} {n last : Nat} {wo : Int} {m p : Nat} (h : Path S n last wo m p) : p ≤ last := by
  induction h with
  | last => exact Nat.le_refl _
  | step _ h1 _ _ _ ih => omega
theorem Path.at_last {S : Nat → Nat → Bool} {n last : Nat} {wo : Int} {m p : Nat} (h : Path S n last wo m p) (hm : m = 1) : p = last := by
  cases h with
  | last => rfl
  | step _ _ _ _ h => have := h.pos; omega
theorem Path.inv {S : Nat → Nat → Bool} {n last : Nat} {wo : Int} {m p : Nat} (h : Path S n last wo m p) : (m = 1 ∧ p = last) ∨ ∃ m' q, m = m' + 1 ∧ (p : Int) ≠ wo ∧ p < q ∧ q < n ∧ S p q = true ∧ Path S n last wo m' q := by
  cases h with
  | last => exact .inl ⟨rfl, rfl⟩
  | @step m' _ q h1 h2 h3 h4 h5 => exact .inr ⟨m', q, rfl, h1, h2, h3, h4, h5⟩
theorem Path.mono {S S' : Nat → Nat → Bool} {n last : Nat} {wo : Int} {m p : Nat} (hS : ∀ i j, i < j → j < n → S i j = true → S' i j = true) (h : Path S n last wo m p) : Path S' n last wo m p := by
  induction h with
  | last => exact .last
  | step hp h1 h2 h3 _ ih => exact .step hp h1 h2 (hS _ _ h1 h2 h3) ih

theorem fold_le_one (p : Nat) : ∀ (l : List Nat) (N : Nat → Option Nat), (∀ q ∈ l, q ≠ p) →
    (∀ m, (l.foldl (stN p) N) p = some m → N p = some m ∨ ∃ q ∈ l, ∃ k, N q = some k ∧ m = k + 1) ∧
    (∀ k, N p = some k → ∃ m, (l.foldl (stN p) N) p = some m ∧ m ≤ k) ∧
    (∀ q ∈ l, ∀ k, N q = some k → ∃ m, (l.foldl (stN p) N) p = some m ∧ m ≤ k + 1)
  | [], N, _ => ⟨fun m h => .inl h, fun k h => ⟨k, h, Nat.le_refl _⟩, fun q h => by cases h⟩
  | x :: l, N, hl => by
    have hx : x ≠ p := hl x (by simp)
    obtain ⟨i1, i2, i3⟩ := fold_le_one p l (stN p N x) (fun q hq => hl q (by simp [hq]))
    have hoth : ∀ q, q ≠ p → stN p N x q = N q := fun q hq => by
      have := fold_other p [x] N q hq; simpa using this
    have hown : (stN p N x p = N p ∨ ∃ k, N x = some k ∧ stN p N x p = some (k + 1)) ∧ (∀ k, N p = some k → ∃ m, stN p N x p = some m ∧ m ≤ k) ∧ (∀ k, N x = some k → ∃ m, stN p N x p = some m ∧ m ≤ k + 1) := by
      unfold stN
      split
      · rename_i hc
        simp only [Bool.and_eq_true, Bool.or_eq_true, decide_eq_true_eq] at hc
        obtain ⟨h1, h2⟩ := hc
        obtain ⟨k, hk⟩ := Option.isSome_iff_exists.1 h1
        have hv : putN N p ((N x).getD 0 + 1) p = some (k + 1) := by simp [putN, hk]
        refine ⟨.inr ⟨k, hk, hv⟩, fun j hj => ⟨k + 1, hv, ?_⟩, fun j hj => ⟨k + 1, hv, ?_⟩⟩
        · rcases h2 with h2 | h2
          · rw [hj] at h2; simp at h2
          · rw [hj, hk] at h2; simp at h2; omega
        · rw [hk] at hj; cases hj; exact Nat.le_refl _
      · rename_i hc
        refine ⟨.inl rfl, fun j hj => ⟨j, hj, Nat.le_refl _⟩, fun k hk => ?_⟩
        simp only [hk, Option.isSome_some, Bool.true_and, Bool.or_eq_true, decide_eq_true_eq, not_or] at hc
        obtain ⟨h1, h2⟩ := hc
        cases hp : N p with
        | none => rw [hp] at h1; simp at h1
        | some j => exact ⟨j, rfl, by rw [hp] at h2; simp at h2; omega⟩
    rw [List.foldl_cons]
    refine ⟨fun m hm => ?_, fun k hk => ?_, fun q hq k hk => ?_⟩
    · rcases i1 m hm with h | ⟨q, hq, k, hk, rfl⟩
      · rcases hown.1 with e | ⟨k, hk, e⟩
        · exact .inl (e ▸ h)
        · rw [e] at h; cases h; exact .inr ⟨x, by simp, k, hk, rfl⟩
      · rw [hoth q (hl q (by simp [hq]))] at hk
        exact .inr ⟨q, by simp [hq], k, hk, rfl⟩
    · obtain ⟨m, h1, h2⟩ := hown.2.1 k hk
      obtain ⟨m', h3, h4⟩ := i2 m h1
      exact ⟨m', h3, by omega⟩
    · rcases List.mem_cons.1 hq with rfl | hq'
      · obtain ⟨m, h1, h2⟩ := hown.2.2 k hk
        obtain ⟨m', h3, h4⟩ := i2 m h1
        exact ⟨m', h3, by omega⟩
      · exact i3 q hq' k (by rw [hoth q (hl q (by simp [hq']))]; exact hk)

/-- What is needed, behind so many places: none before them, the least number at each of them. -/
theorem needTo_spec (S : Nat → Nat → Bool) (n last : Nat) (wo : Int) (hln : last < n) : ∀ c, c ≤ last → (∀ p, p < last - c → needTo S n last wo c p = none) ∧ (∀ p m, needTo S n last wo c p = some m → Path S n last wo m p) ∧ (∀ p m, last - c ≤ p → Path S n last wo m p → ∃ m', needTo S n last wo c p = some m' ∧ m' ≤ m)
  | 0, _ => by
    refine ⟨fun p hp => ?_, fun p m hm => ?_, fun p m hp h => ?_⟩
    · simp [needTo, putN, show p ≠ last by omega]
    · simp only [needTo, putN] at hm
      split at hm
      · rename_i e; cases hm; rw [e]; exact .last
      · cases hm
    · have hle := h.le
      obtain rfl : p = last := by omega
      exact ⟨1, by simp [needTo, putN], h.pos⟩
  | c + 1, hc => by
    obtain ⟨h0, h1, h2⟩ := needTo_spec S n last wo hln c (by omega)
    have hmem : ∀ q ∈ seenTo S (last - 1 - c) n, q ≠ last - 1 - c := fun q hq => by have := (seenTo_mem.1 hq).2.1; omega
    have hnone := h0 (last - 1 - c) (by omega)
    by_cases hw : ((last - 1 - c : Nat) : Int) = wo
    · have e : needTo S n last wo (c + 1) = needTo S n last wo c := by simp only [needTo, plN, if_pos hw]
      rw [e]
      refine ⟨fun p hp => h0 p (by omega), h1, fun p m hp h => ?_⟩
      by_cases hpe : p = last - 1 - c
      · subst hpe
        rcases h.inv with ⟨_, h⟩ | ⟨_, _, _, hne, _⟩
        · omega
        · exact absurd hw hne
      · exact h2 p m (by omega) h
    · have e : needTo S n last wo (c + 1) = (seenTo S (last - 1 - c) n).foldl (stN (last - 1 - c)) (needTo S n last wo c) := by simp only [needTo, plN, if_neg hw]
      obtain ⟨f1, f2, f3⟩ := fold_le_one (last - 1 - c) (seenTo S (last - 1 - c) n) (needTo S n last wo c) hmem
      have fo := fun q hq => fold_other (last - 1 - c) (seenTo S (last - 1 - c) n) (needTo S n last wo c) q hq
      rw [e]
      refine ⟨fun p hp => ?_, fun p m hm => ?_, fun p m hp h => ?_⟩
      · rw [fo p (by omega)]; exact h0 p (by omega)
      · by_cases hpe : p = last - 1 - c
        · subst hpe
          rcases f1 m hm with h | ⟨q, hq, k, hk, rfl⟩
          · rw [hnone] at h; cases h
          · obtain ⟨q1, q2, q3⟩ := seenTo_mem.1 hq
            exact .step hw q2 q1 q3 (h1 q k hk)
        · rw [fo p hpe] at hm; exact h1 p m hm
      · by_cases hpe : p = last - 1 - c
        · subst hpe
          rcases h.inv with ⟨_, h⟩ | ⟨m', q, hm', hne, hpq, hq, hs, hP⟩
          · omega
          · obtain ⟨k, hk, hkm⟩ := h2 q m' (by omega) hP
            obtain ⟨j, hj, hjk⟩ := f3 q (seenTo_mem.2 ⟨hq, hpq, hs⟩) k hk
            exact ⟨j, hj, by omega⟩
        · rw [fo p hpe]; exact h2 p m (by omega) h
theorem needsF_path {S : Nat → Nat → Bool} {n last : Nat} {wo : Int} (hln : last < n) {p m : Nat} (h : needsF S n last wo p = some m) : Path S n last wo m p := (needTo_spec S n last wo hln last (Nat.le_refl _)).2.1 p m h
theorem needsF_least {S : Nat → Nat → Bool} {n last : Nat} {wo : Int} (hln : last < n) {p m : Nat} (h : Path S n last wo m p) : ∃ m', needsF S n last wo p = some m' ∧ m' ≤ m := (needTo_spec S n last wo hln last (Nat.le_refl _)).2.2 p m (by omega) h
/-- More sights never make more pillars necessary. -/
theorem needsF_mono {S S' : Nat → Nat → Bool} {n last : Nat} {wo : Int} (hln : last < n) (hS : ∀ i j, i < j → j < n → S i j = true → S' i j = true) {p m : Nat} (h : needsF S n last wo p = some m) : ∃ m', needsF S' n last wo p = some m' ∧ m' ≤ m :=
  needsF_least hln ((needsF_path hln h).mono hS)
/-- What the way of the fewest pillars is. -/
theorem fw_step {S : Nat → Nat → Bool} {n last : Nat} {wo : Int} (hln : last < n) {p k : Nat} (h : needsF S n last wo p = some (k + 2)) :
    ∃ q, nxt (needsF S n last wo) S n p (k + 1) = q ∧ needsF S n last wo q = some (k + 1) ∧ p < q ∧ q < n ∧ S p q = true ∧ (p : Int) ≠ wo := by
  have hP := needsF_path hln h
  rcases hP.inv with ⟨h1, _⟩ | ⟨m', q, hm', hne, hpq, hq, hs, hQ⟩
  · omega
  · obtain ⟨j, hj, hjm⟩ := needsF_least hln hQ
    obtain ⟨i, hi, him⟩ := needsF_least hln (Path.step hne hpq hq hs (needsF_path hln hj))
    rw [h] at hi
    cases hi
    obtain rfl : j = k + 1 := by omega
    have hex : ∃ x ∈ seenTo S p n, decide ((needsF S n last wo x).getD 0 = k + 1) = true := ⟨q, seenTo_mem.2 ⟨hq, hpq, hs⟩, by simp [hj]⟩
    cases hf : (seenTo S p n).find? fun x => decide ((needsF S n last wo x).getD 0 = k + 1) with
    | none =>
      rw [List.find?_eq_none] at hf
      obtain ⟨x, hx, hx2⟩ := hex
      exact absurd hx2 (hf x hx)
    | some x =>
      have hx1 := List.mem_of_find?_eq_some hf
      have hx2 := List.find?_some hf
      simp only [decide_eq_true_eq] at hx2
      obtain ⟨y1, y2, y3⟩ := seenTo_mem.1 hx1
      refine ⟨x, by unfold nxt; rw [hf]; rfl, ?_, y2, y1, y3, hne⟩
      cases hN : needsF S n last wo x with
      | none => rw [hN] at hx2; simp at hx2
      | some z => rw [hN] at hx2; simp at hx2; rw [hx2]
theorem fw_at {S : Nat → Nat → Bool} {n last : Nat} {wo : Int} (hln : last < n) {first K : Nat} (h : needsF S n last wo first = some K) : ∀ c, c < K → needsF S n last wo (fwP (needsF S n last wo) S n first K c) = some (K - c)
  | 0, _ => h
  | c + 1, hc => by
    have ih := fw_at hln h c (by omega)
    obtain ⟨q, hq, hN, _⟩ := fw_step hln (k := K - c - 2) (by rw [ih]; congr 1; omega)
    have e : fwP (needsF S n last wo) S n first K (c + 1) = q := by
      show nxt _ _ _ _ _ = _
      rw [show K - 1 - c = K - c - 2 + 1 by omega]; exact hq
    rw [e, hN]; congr 1; omega
theorem fw_next {S : Nat → Nat → Bool} {n last : Nat} {wo : Int} (hln : last < n) {first K : Nat} (h : needsF S n last wo first = some K) {c : Nat} (hc : c + 1 < K) :
    fwP (needsF S n last wo) S n first K c < fwP (needsF S n last wo) S n first K (c + 1) ∧ fwP (needsF S n last wo) S n first K (c + 1) < n ∧ S (fwP (needsF S n last wo) S n first K c) (fwP (needsF S n last wo) S n first K (c + 1)) = true ∧ (fwP (needsF S n last wo) S n first K c : Int) ≠ wo := by
  obtain ⟨q, hq, _, h1, h2, h3, h4⟩ := fw_step hln (k := K - c - 2) (by rw [fw_at hln h c (by omega)]; congr 1; omega)
  have e : fwP (needsF S n last wo) S n first K (c + 1) = q := by
    show nxt _ _ _ _ _ = _
    rw [show K - 1 - c = K - c - 2 + 1 by omega]; exact hq
  rw [e]; exact ⟨h1, h2, h3, h4⟩
theorem fw_last {S : Nat → Nat → Bool} {n last : Nat} {wo : Int} (hln : last < n) {first K : Nat} (h : needsF S n last wo first = some K) : 1 ≤ K ∧ fwP (needsF S n last wo) S n first K (K - 1) = last := by
  have hK := (needsF_path hln h).pos
  refine ⟨hK, (needsF_path hln (fw_at hln h (K - 1) (by omega))).at_last (by omega)⟩
theorem fewF_get {S : Nat → Nat → Bool} {n last : Nat} {wo : Int} {first K : Nat} (h : needsF S n last wo first = some K) (c : Nat) (hc : c < K) : (fewF (needsF S n last wo) S n first)[c]? = some (fwP (needsF S n last wo) S n first K c) := by
  unfold fewF fwL; rw [h]; simp [hc]
theorem fewF_len {S : Nat → Nat → Bool} {n last : Nat} {wo : Int} {first K : Nat} (h : needsF S n last wo first = some K) : (fewF (needsF S n last wo) S n first).length = K := by
  unfold fewF; rw [fwL_length, h]; rfl
theorem fewF_nil {S : Nat → Nat → Bool} {n last : Nat} {wo : Int} {first : Nat} (h : needsF S n last wo first = none) : fewF (needsF S n last wo) S n first = [] := by
  apply List.eq_nil_of_length_eq_zero; unfold fewF; rw [fwL_length, h]; rfl
/-- The fewest pillars hold. -/
theorem fewF_holds {S : Nat → Nat → Bool} {n K : Nat} (hn : 1 ≤ n) (h : needsF S n (n - 1) (-1) 0 = some K) : holdsF S n (fewF (needsF S n (n - 1) (-1)) S n 0) = true := by
  have hln : n - 1 < n := by omega
  have hlen := fewF_len h
  obtain ⟨hK, hla⟩ := fw_last hln h
  unfold holdsF
  rw [hlen, fewF_get h 0 (by omega), fewF_get h (K - 1) (by omega), hla]
  simp only [Option.getD_some, Bool.and_eq_true, decide_eq_true_eq]
  refine ⟨by omega, rfl, by omega, ?_⟩
  rw [nextB_true]
  intro k hk
  rw [fewF_get h k (by omega), fewF_get h (k + 1) (by omega)]
  exact (fw_next hln h (by omega)).2.2.1
/-- Pillars that hold are a way. -/
theorem holds_path {S : Nat → Nat → Bool} {n : Nat} {l : List Nat} (hl : ∀ x ∈ l, x < n) (hS : ∀ i j, S i j = true → i < j) (h : holdsF S n l = true) : Path S n (n - 1) (-1) l.length 0 := by
  simp only [holdsF, Bool.and_eq_true, decide_eq_true_eq] at h
  obtain ⟨h0, h1, h2, h3⟩ := h
  rw [nextB_true] at h3
  have key : ∀ c, c < l.length → Path S n (n - 1) (-1) (c + 1) (l[l.length - 1 - c]?.getD 0) := by
    intro c
    induction c with
    | zero => intro _; rw [show l[l.length - 1 - 0]?.getD 0 = n - 1 by rw [Nat.sub_zero]; omega]; exact .last
    | succ c ih =>
      intro hc
      have q := h3 (l.length - 1 - (c + 1)) (by omega)
      rw [show l.length - 1 - (c + 1) + 1 = l.length - 1 - c by omega] at q
      refine .step (by omega) (hS _ _ q) ?_ q (ih (by omega))
      rw [List.getElem?_eq_getElem (by omega)]
      exact hl _ (List.getElem_mem _)
  have q := key (l.length - 1) (by omega)
  rw [show l.length - 1 + 1 = l.length by omega, Nat.sub_self, h1] at q
  exact q
/-- Levels prove no more than what is needed. -/
theorem levels_bound {S : Nat → Nat → Bool} {n last : Nat} {wo : Int} {L : List Nat} (ha : areTo S L n n = true) {m p : Nat} (h : Path S n last wo m p) : at0 L last + 1 ≤ at0 L p + m := by
  induction h with
  | last => omega
  | @step m' p' q _ hpq hq hs _ ih =>
    have hb : lvB S L n p' = true := by
      have := List.all_eq_true.1 ha p' (by simp; omega)
      exact this
    have := List.all_eq_true.1 hb q (seenTo_mem.2 ⟨hq, hpq, hs⟩)
    simp only [decide_eq_true_eq] at this
    omega
end Go.Proofs.Ytfognlealnhodaa

namespace Go.Proofs.Ytfognlealnhodaa

theorem at0_setx (L : List Nat) (q v x : Nat) (hx : x < L.length) : at0 (L.set q v) x = if q = x then v else at0 L x := by
  unfold at0
  rw [List.getElem?_set]
  split
  · rename_i e; subst e; simp [hx]
  · rfl
theorem lvQ_at (lev : Nat) : ∀ (qs L : List Nat) (x : Nat), x < L.length → at0 (lvQ lev L qs) x = if x ∈ qs then min (at0 L x) (lev + 1) else at0 L x
  | [], L, x, _ => by simp [lvQ]
  | q :: qs, L, x, hx => by
    have e : lvQ lev L (q :: qs) = lvQ lev (L.set q (min (at0 L q) (lev + 1))) qs := rfl
    rw [e, lvQ_at lev qs (L.set q (min (at0 L q) (lev + 1))) x (by rw [List.length_set]; exact hx), at0_setx L q _ x hx]
    by_cases h1 : q = x
    · subst h1
      rw [if_pos rfl, if_pos (show q ∈ q :: qs by simp)]
      split
      · rw [Nat.min_assoc, Nat.min_self]
      · rfl
    · rw [if_neg h1]
      by_cases h2 : x ∈ qs
      · rw [if_pos h2, if_pos (by simp [h2])]
      · rw [if_neg h2, if_neg (by simp [h2, Ne.symm h1])]
/-- A way that goes on by one pillar. -/
theorem Path.snoc {S : Nat → Nat → Bool} {n p q m x : Nat} {wo : Int} (h : Path S n p wo m x) (hw : (p : Int) ≠ wo) (hpq : p < q) (hq : q < n) (hs : S p q = true) : Path S n q wo (m + 1) x := by
  induction h with
  | last => exact .step hw hpq hq hs .last
  | step h1 h2 h3 h4 _ ih => exact .step h1 h2 h3 h4 ih
theorem lv_inv {S : Nat → Nat → Bool} {n : Nat} (hn : 1 ≤ n) (hS : ∀ i, i + 1 < n → S i (i + 1) = true) : ∀ m, m ≤ n →
    (∀ p q, p < m → p < q → q < n → S p q = true → at0 (lvTo S n m) q ≤ at0 (lvTo S n m) p + 1) ∧ (∀ q, q < n → Path S n q (-1) (at0 (lvTo S n m) q + 1) 0) ∧ at0 (lvTo S n m) 0 = 0
  | 0, _ => by
    have e : ∀ q, q < n → at0 (lvTo S n 0) q = q := fun q hq => by simp [lvTo, at0, hq]
    refine ⟨fun p q h => by omega, fun q hq => ?_, e 0 (by omega)⟩
    rw [e q hq]
    induction q with
    | zero => exact .last
    | succ q ih => exact (ih (by omega)).snoc (by omega) (by omega) hq (hS q hq)
  | m + 1, hm => by
    obtain ⟨i1, i2, i3⟩ := lv_inv hn hS m (by omega)
    have hlen : (lvTo S n m).length = n := lvTo_length S n m
    rw [lvTo_succ]
    have e : ∀ x, x < n → at0 (lvP S n (lvTo S n m) m) x = if x ∈ seenTo S m n then min (at0 (lvTo S n m) x) (at0 (lvTo S n m) m + 1) else at0 (lvTo S n m) x := fun x hx => lvQ_at _ _ _ x (by omega)
    have eo : ∀ x, x ≤ m → x < n → at0 (lvP S n (lvTo S n m) m) x = at0 (lvTo S n m) x := fun x h hx => by
      rw [e x hx, if_neg (fun h' => by have := (seenTo_mem.1 h').2.1; omega)]
    have el : ∀ x, x < n → at0 (lvP S n (lvTo S n m) m) x ≤ at0 (lvTo S n m) x := fun x hx => by
      rw [e x hx]; split <;> omega
    refine ⟨fun p q hp hpq hq hs => ?_, fun q hq => ?_, ?_⟩
    · rcases Nat.lt_succ_iff_lt_or_eq.1 hp with h | rfl
      · rw [eo p (by omega) (by omega)]
        exact Nat.le_trans (el q hq) (i1 p q h hpq hq hs)
      · rw [eo p (Nat.le_refl _) (by omega), e q hq, if_pos (seenTo_mem.2 ⟨hq, hpq, hs⟩)]
        omega
    · rw [e q hq]
      split
      · rename_i h
        obtain ⟨h1, h2, h3⟩ := seenTo_mem.1 h
        rcases Nat.le_total (at0 (lvTo S n m) q) (at0 (lvTo S n m) m + 1) with h4 | h4
        · rw [Nat.min_eq_left h4]; exact i2 q hq
        · rw [Nat.min_eq_right h4]; exact (i2 m (by omega)).snoc (by omega) h2 h1 h3
      · exact i2 q hq
    · rw [eo 0 (by omega) (by omega)]; exact i3
theorem levels_are {S : Nat → Nat → Bool} {n : Nat} (hn : 1 ≤ n) (hS : ∀ i, i + 1 < n → S i (i + 1) = true) : areTo S (levelsF S n) n n = true := by
  obtain ⟨i1, _, _⟩ := lv_inv hn hS n (Nat.le_refl _)
  unfold areTo
  rw [List.all_eq_true]
  intro p hp
  have hpn : p < n := by simpa using hp
  unfold lvB
  rw [List.all_eq_true]
  intro q hq
  obtain ⟨h1, h2, h3⟩ := seenTo_mem.1 hq
  exact decide_eq_true (i1 p q hpn h2 h1 h3)
/-- There are pillars, and levels prove how many are needed. -/
theorem levels_prove {S : Nat → Nat → Bool} {n : Nat} (hn : 1 ≤ n) (hS : ∀ i, i + 1 < n → S i (i + 1) = true) : ∃ K, needsF S n (n - 1) (-1) 0 = some K ∧ at0 (levelsF S n) (n - 1) + 1 = K ∧ at0 (levelsF S n) 0 = 0 := by
  obtain ⟨_, i2, i3⟩ := lv_inv hn hS n (Nat.le_refl _)
  have hP := i2 (n - 1) (by omega)
  obtain ⟨K, hK, hle⟩ := needsF_least (show n - 1 < n by omega) hP
  have hb := levels_bound (levels_are hn hS) (needsF_path (show n - 1 < n by omega) hK)
  have e3 : at0 (levelsF S n) 0 = 0 := i3
  exact ⟨K, hK, by show at0 (levelsF S n) (n - 1) + 1 = K; have : K ≤ at0 (levelsF S n) (n - 1) + 1 := hle; omega, e3⟩
/-- Two ways of telling what is seen that agree need the same pillars. -/
theorem seenTo_congr {S S' : Nat → Nat → Bool} {n : Nat} (h : ∀ i j, i < j → j < n → S i j = S' i j) (p : Nat) : seenTo S p n = seenTo S' p n := by
  unfold seenTo
  apply List.filter_congr
  intro q hq
  have hqn : q < n := by simpa using hq
  by_cases hpq : p < q
  · rw [h p q hpq hqn]
  · simp [hpq]
end Go.Proofs.Ytfognlealnhodaa

namespace Go.Proofs.Ytfognlealnhodaa

/-- What is needed between two places is all that matters. -/
theorem seeF_congr {d : Bool} {p q : Prof} {i j : Nat} (hT : q.T = p.T) (h : ∀ k, min i j < k → k < max i j → needF d q (min i j) k (max i j) = needF d p (min i j) k (max i j)) : seeF d q i j = seeF d p i j := by
  rw [Bool.eq_iff_iff, seeF_iff, seeF_iff, hT]
  constructor
  · intro g k h1 h2; rw [← h k h1 h2]; exact g k h1 h2
  · intro g k h1 h2; rw [h k h1 h2]; exact g k h1 h2
theorem a_map {A : List Nat} {f : Nat → Nat} {G G' : List (Nat × Nat)} {T T' lo hi lo' hi' k : Nat} (hk : k < A.length) : (⟨A.map f, G', T', lo', hi'⟩ : Prof).a k = f ((⟨A, G, T, lo, hi⟩ : Prof).a k) := by
  simp [Prof.a, hk]
/-- A profile that begins elsewhere. -/
theorem see_far (p : Prof) (u : Nat) (d : Bool) {i j : Nat} (hi : i < p.A.length) (hj : j < p.A.length) : seeF d ⟨p.A.map (· + u), p.G, p.T, p.lo, p.hi⟩ i j = seeF d p i j := by
  refine seeF_congr rfl fun k h1 h2 => ?_
  have e : ∀ x, x < p.A.length → (⟨p.A.map (· + u), p.G, p.T, p.lo, p.hi⟩ : Prof).a x = p.a x + u := fun x hx => by simp [Prof.a, hx]
  unfold needF
  rw [e k (by omega), e (min i j) (by omega), e (max i j) (by omega), Nat.add_sub_add_right, Nat.add_sub_add_right]
  rfl
/-- Twice the distances with a quarter of the bend. -/
theorem see_wide (A : List Nat) (G : List (Nat × Nat)) (T lo hi : Nat) (hA : A.Pairwise (· < ·)) (d : Bool) {i j : Nat} (hi' : i < A.length) (hj : j < A.length) : seeF d ⟨A.map (2 * ·), G, T, lo, hi⟩ i j = seeF d ⟨A, G, T, 4 * lo, 4 * hi⟩ i j := by
  refine seeF_congr rfl fun k h1 h2 => ?_
  have e : ∀ x, x < A.length → (⟨A.map (2 * ·), G, T, lo, hi⟩ : Prof).a x = 2 * (⟨A, G, T, 4 * lo, 4 * hi⟩ : Prof).a x := fun x hx => by simp [Prof.a, hx]
  have hlt : (⟨A, G, T, 4 * lo, 4 * hi⟩ : Prof).a (min i j) < (⟨A, G, T, 4 * lo, 4 * hi⟩ : Prof).a k := by
    rw [Prof.a_eq (p := ⟨A, G, T, 4 * lo, 4 * hi⟩) (show min i j < A.length by omega), Prof.a_eq (p := ⟨A, G, T, 4 * lo, 4 * hi⟩) (show k < A.length by omega)]
    exact List.pairwise_iff_getElem.1 hA _ _ (by omega) (by omega) h1
  unfold needF
  rw [e k (by omega), e (min i j) (by omega), e (max i j) (by omega), ← Nat.mul_sub, ← Nat.mul_sub, needOf_wide _ _ _ _ _ _ (by omega), show endOf d (4 * lo, 4 * hi) = 4 * endOf d (lo, hi) by cases d <;> rfl]
  rfl
/-- Ground that is all raised by as much. -/
theorem need_high {p : Prof} (hk : OkP p) (u : Nat) (d : Bool) {i k j : Nat} (h1 : i < k) (h2 : k < j) (h3 : j < p.A.length) : needF d ⟨p.A, p.G.map fun s => (s.1 + u, s.2 + u), p.T, p.lo, p.hi⟩ i k j = needF d p i k j := by
  have gl := hk.gl
  have e : ∀ x c, x < p.G.length → endOf c ((⟨p.A, p.G.map fun s => (s.1 + u, s.2 + u), p.T, p.lo, p.hi⟩ : Prof).g x) = endOf c (p.g x) + u := fun x c hx => by
    simp only [Prof.g, List.getElem?_map, List.getElem?_eq_getElem hx]; cases c <;> rfl
  have ha := hk.a_lt h1 (by omega)
  unfold needF
  rw [e k _ (by omega), e i _ (by omega), e j _ (by omega)]
  exact needOf_raise _ _ _ _ _ _ _ (show 0 < (p.a k - p.a i) + _ by omega)
theorem tallTo_congr {d : Bool} {p q : Prof} {i j : Nat} : ∀ {c : Nat}, (∀ k, i < k → k < i + 1 + c → needF d q i k j = needF d p i k j) → tallTo d q i j c = tallTo d p i j c
  | 0, _ => rfl
  | c + 1, h => by
    simp only [tallTo]
    rw [tallTo_congr (c := c) (fun k h1 h2 => h k h1 (by omega)), h (i + 1 + c) (by omega) (by omega)]
theorem see_high {p : Prof} (hk : OkP p) (u : Nat) (d : Bool) {i j : Nat} (hi : i < p.A.length) (hj : j < p.A.length) : seeF d ⟨p.A, p.G.map fun s => (s.1 + u, s.2 + u), p.T, p.lo, p.hi⟩ i j = seeF d p i j :=
  seeF_congr rfl fun k h1 h2 => need_high hk u d h1 h2 (by omega)
theorem tall_high {p : Prof} (hk : OkP p) (u : Nat) (d : Bool) {i j : Nat} (hi : i < p.A.length) (hj : j < p.A.length) : tallF d ⟨p.A, p.G.map fun s => (s.1 + u, s.2 + u), p.T, p.lo, p.hi⟩ i j = tallF d p i j := by
  unfold tallF
  exact tallTo_congr fun k h1 h2 => need_high hk u d h1 (by omega) (by omega)
/-- Narrower spans of heights and bends. -/
theorem need_narrow {p q : Prof} (hk : OkP p) (hA : q.A = p.A) (hg : ∀ k, k < p.G.length → (p.g k).1 ≤ (q.g k).1 ∧ (q.g k).2 ≤ (p.g k).2) (hb : q.hi ≤ p.hi) {i k j : Nat} (h1 : i < k) (h2 : k < j) (h3 : j < p.A.length) : needF true q i k j ≤ needF true p i k j := by
  have gl := hk.gl
  have ha := hk.a_lt h1 (by omega)
  have e : ∀ x, q.a x = p.a x := fun x => by simp [Prof.a, hA]
  unfold needF
  rw [e k, e i, e j]
  exact needOf_mono (by omega) (hg k (by omega)).2 hb (hg i (by omega)).1 (hg j (by omega)).1
/-- A line that is gone the other way. -/
theorem Path.rev {S S' : Nat → Nat → Bool} {n last m p : Nat} (hS : ∀ i j, i < j → j < n → S i j = true → S' (n - 1 - j) (n - 1 - i) = true) (h : Path S n last (-1) m p) : Path S' n (n - 1 - p) (-1) m (n - 1 - last) := by
  induction h with
  | last => exact .last
  | step _ h1 h2 h3 _ ih => exact ih.snoc (by omega) (by omega) (by omega) (hS _ _ h1 h2 h3)
/-- The same number of pillars is needed the other way. -/
theorem needs_rev {S S' : Nat → Nat → Bool} {n : Nat} (hn : 1 ≤ n) (hS : ∀ i j, i < j → j < n → S' (n - 1 - j) (n - 1 - i) = S i j) {K K' : Nat} (h : needsF S n (n - 1) (-1) 0 = some K) (h' : needsF S' n (n - 1) (-1) 0 = some K') : K = K' := by
  have hl : n - 1 < n := by omega
  apply Nat.le_antisymm
  · have q := (needsF_path hl h').rev (S' := S) (fun i j h1 h2 h3 => by
      have := hS (n - 1 - j) (n - 1 - i) (by omega) (by omega)
      rw [show n - 1 - (n - 1 - i) = i by omega, show n - 1 - (n - 1 - j) = j by omega] at this
      rw [← this]; exact h3)
    rw [Nat.sub_zero, Nat.sub_self] at q
    obtain ⟨j, hj, hjk⟩ := needsF_least hl q
    rw [h] at hj; cases hj; exact hjk
  · have q := (needsF_path hl h).rev (S' := S') (fun i j h1 h2 h3 => by rw [hS i j h1 h2]; exact h3)
    rw [Nat.sub_zero, Nat.sub_self] at q
    obtain ⟨j, hj, hjk⟩ := needsF_least hl q
    rw [h'] at hj; cases hj; exact hjk
/-- The profile of a line that is gone the other way. -/
def backP (p : Prof) : Prof := ⟨(p.A.map fun x => p.a (p.A.length - 1) - x).reverse, p.G.reverse, p.T, p.lo, p.hi⟩
theorem back_a {p : Prof} {k : Nat} (hk : k < p.A.length) : (backP p).a (p.A.length - 1 - k) = p.a (p.A.length - 1) - p.a k := by
  simp only [backP, Prof.a]
  rw [List.getElem?_reverse (by rw [List.length_map]; omega), List.length_map, show p.A.length - 1 - (p.A.length - 1 - k) = k by omega, List.getElem?_map, List.getElem?_eq_getElem hk]
  rfl
theorem back_g {p : Prof} (hl : p.G.length = p.A.length) {k : Nat} (hk : k < p.A.length) : (backP p).g (p.A.length - 1 - k) = p.g k := by
  simp only [backP, Prof.g]
  rw [List.getElem?_reverse (by omega), hl, show p.A.length - 1 - (p.A.length - 1 - k) = k by omega]
theorem need_back {p : Prof} (hk : OkP p) (d : Bool) {i k j : Nat} (h1 : i < k) (h2 : k < j) (h3 : j < p.A.length) : needF d (backP p) (p.A.length - 1 - j) (p.A.length - 1 - k) (p.A.length - 1 - i) = needF d p i k j := by
  have gl := hk.gl
  have a1 := hk.a_lt h1 (show k < p.A.length by omega)
  have a2 := hk.a_lt h2 h3
  have a3 : p.a j ≤ p.a (p.A.length - 1) := by
    rcases Nat.lt_or_eq_of_le (show j ≤ p.A.length - 1 by omega) with h | h
    · exact Nat.le_of_lt (hk.a_lt h (by omega))
    · rw [h]; exact Nat.le_refl _
  unfold needF
  rw [back_g gl (show k < p.A.length by omega), back_g gl (show j < p.A.length by omega), back_g gl (show i < p.A.length by omega), back_a (show k < p.A.length by omega), back_a (show j < p.A.length by omega), back_a (show i < p.A.length by omega),
    show p.a (p.A.length - 1) - p.a k - (p.a (p.A.length - 1) - p.a j) = p.a j - p.a k by omega, show p.a (p.A.length - 1) - p.a i - (p.a (p.A.length - 1) - p.a k) = p.a k - p.a i by omega]
  exact needOf_swap _ _ _ _ _ _
theorem see_back {p : Prof} (hk : OkP p) (d : Bool) {i j : Nat} (hi : i < p.A.length) (hj : j < p.A.length) : seeF d (backP p) (p.A.length - 1 - i) (p.A.length - 1 - j) = seeF d p i j := by
  rw [Bool.eq_iff_iff, seeF_iff, seeF_iff]
  have e1 : min (p.A.length - 1 - i) (p.A.length - 1 - j) = p.A.length - 1 - max i j := by omega
  have e2 : max (p.A.length - 1 - i) (p.A.length - 1 - j) = p.A.length - 1 - min i j := by omega
  rw [e1, e2]
  constructor
  · intro g k h1 h2
    have q := g (p.A.length - 1 - k) (by omega) (by omega)
    rw [need_back hk d h1 h2 (by omega)] at q; exact q
  · intro g k h1 h2
    have q := g (p.A.length - 1 - k) (by omega) (by omega)
    have e := need_back hk d (i := min i j) (k := p.A.length - 1 - k) (j := max i j) (by omega) (by omega) (by omega)
    rw [show p.A.length - 1 - (p.A.length - 1 - k) = k by omega] at e
    rw [e]; exact q
end Go.Proofs.Ytfognlealnhodaa

namespace Go.Proofs.Ytfognlealnhodaa

theorem needTo_congr {S S' : Nat → Nat → Bool} {n : Nat} (h : ∀ i j, i < j → j < n → S i j = S' i j) (last : Nat) (wo : Int) : ∀ c, needTo S n last wo c = needTo S' n last wo c
  | 0 => rfl
  | c + 1 => by
    simp only [needTo, plN]
    rw [needTo_congr h last wo c, seenTo_congr h]
theorem needsF_congr {S S' : Nat → Nat → Bool} {n : Nat} (h : ∀ i j, i < j → j < n → S i j = S' i j) (last : Nat) (wo : Int) : needsF S n last wo = needsF S' n last wo := needTo_congr h last wo last
theorem fwP_congr {S S' : Nat → Nat → Bool} {n : Nat} (h : ∀ i j, i < j → j < n → S i j = S' i j) (N : Nat → Option Nat) (first K : Nat) : ∀ c, fwP N S n first K c = fwP N S' n first K c
  | 0 => rfl
  | c + 1 => by
    show nxt N S n _ _ = nxt N S' n _ _
    rw [fwP_congr h N first K c]
    unfold nxt
    rw [seenTo_congr h]
/-- The same pillars are the fewest. -/
theorem fewF_congr {S S' : Nat → Nat → Bool} {n : Nat} (h : ∀ i j, i < j → j < n → S i j = S' i j) (last : Nat) (wo : Int) (first : Nat) : fewF (needsF S n last wo) S n first = fewF (needsF S' n last wo) S' n first := by
  rw [needsF_congr h]
  unfold fewF fwL
  exact List.map_congr_left fun c _ => fwP_congr h _ _ _ c
/-- More sights never want more pillars. -/
theorem fewF_mono {S S' : Nat → Nat → Bool} {n last first K : Nat} {wo : Int} (hln : last < n) (hS : ∀ i j, i < j → j < n → S i j = true → S' i j = true) (h : needsF S n last wo first = some K) :
    (fewF (needsF S' n last wo) S' n first).length ≤ (fewF (needsF S n last wo) S n first).length := by
  obtain ⟨K', h', hle⟩ := needsF_mono hln hS h
  rw [fewF_len h, fewF_len h']
  exact hle
/-- A place before another one sees it. -/
theorem allF_lt {d : Bool} {p : Prof} {i j : Nat} (hij : i < j) (hj : j < p.A.length) : allF d p i j = seeF d p i j := by
  unfold allF seeF
  rw [decide_eq_true hij, decide_eq_true hj, Nat.min_eq_left (Nat.le_of_lt hij), Nat.max_eq_right (Nat.le_of_lt hij)]
  rfl
theorem allF_before {d : Bool} {p : Prof} {i j : Nat} (h : allF d p i j = true) : i < j := by
  unfold allF at h
  simp only [Bool.and_eq_true, decide_eq_true_eq] at h
  exact h.1
theorem allF_next {d : Bool} {p : Prof} {i : Nat} (hi : i + 1 < p.A.length) : allF d p i (i + 1) = true := by
  rw [allF_lt (by omega) hi]
  exact seeF_next (by omega)
/-- There are pillars in each profile that is right, and levels that prove them the fewest. -/
theorem few_there {p : Prof} (hk : OkP p) : ∃ K, needsF (allF true p) p.A.length (p.A.length - 1) (-1) 0 = some K ∧ at0 (levelsF (allF true p) p.A.length) (p.A.length - 1) + 1 = K ∧ at0 (levelsF (allF true p) p.A.length) 0 = 0 :=
  levels_prove (by have := hk.n1; omega) fun i hi => allF_next hi
/-- Profiles whose places see alike have the same fewest pillars. -/
theorem few_alike {p q : Prof} (hl : q.A.length = p.A.length) (h : ∀ i j, i < j → j < p.A.length → seeF true q i j = seeF true p i j) (last : Nat) (wo : Int) (first : Nat) :
    fewF (needsF (allF true q) q.A.length last wo) (allF true q) q.A.length first = fewF (needsF (allF true p) p.A.length last wo) (allF true p) p.A.length first := by
  rw [hl]
  exact fewF_congr (fun i j h1 h2 => by rw [allF_lt h1 (by omega), allF_lt h1 h2, h i j h1 h2]) _ _ _
/-- A profile whose places see no less wants no more pillars. -/
theorem few_more {p q : Prof} (hk : OkP p) (hl : q.A.length = p.A.length) (h : ∀ i j, i < j → j < p.A.length → seeF true p i j = true → seeF true q i j = true) :
    (fewF (needsF (allF true q) q.A.length (q.A.length - 1) (-1)) (allF true q) q.A.length 0).length ≤ (fewF (needsF (allF true p) p.A.length (p.A.length - 1) (-1)) (allF true p) p.A.length 0).length := by
  obtain ⟨K, hK, _⟩ := few_there hk
  have hn := hk.n1
  rw [hl]
  exact fewF_mono (by omega) (fun i j h1 h2 h3 => by rw [allF_lt h1 (by omega)]; rw [allF_lt h1 h2] at h3; exact h i j h1 h2 h3) hK
end Go.Proofs.Ytfognlealnhodaa

namespace Go.Proofs.Ytfognlealnhodaa
open Go.RowKit

theorem allF_of {d : Bool} {p : Prof} {i j : Nat} (h : allF d p i j = true) : i < j ∧ j < p.A.length ∧ seeF d p i j = true := by
  have h1 := allF_before h
  have h2 : j < p.A.length := by
    unfold allF at h
    simp only [Bool.and_eq_true, decide_eq_true_eq] at h
    exact h.2.1
  rw [allF_lt h1 h2] at h
  exact ⟨h1, h2, h⟩
/-- L are the fewest pillars of p, E its levels. -/
structure SeenL (p : Prof) (L E : List Nat) : Prop where
  two : 2 ≤ L.length
  most : L.length ≤ 41
  lt : ∀ x ∈ L, x < p.A.length
  nx : ∀ k, (h : k + 1 < L.length) → L[k] < L[k + 1] ∧ seeF true p L[k] L[k + 1] = true
  hold : holdsF (allF true p) p.A.length L = true
  least : ∀ l : List Nat, (∀ x ∈ l, x < p.A.length) → holdsF (allF true p) p.A.length l = true → L.length ≤ l.length
  el : E.length = p.A.length
  e40 : ∀ x ∈ E, x ≤ 40
  are : areTo (allF true p) E E.length E.length = true
  ends : E[0]?.getD 0 = 0 ∧ E[E.length - 1]?.getD 0 + 1 = L.length
  bound : ∀ l : List Nat, l.length = p.A.length → areTo (allF true p) l l.length l.length = true → l[l.length - 1]?.getD 0 + 1 ≤ l[0]?.getD 0 + L.length
theorem at0_get (L : List Nat) (i : Nat) : at0 L i = L[i]?.getD 0 := rfl
theorem seen_math {p : Prof} (hk : OkP p) : SeenL p (fewF (needsF (allF true p) p.A.length (p.A.length - 1) (-1)) (allF true p) p.A.length 0) (levelsF (allF true p) p.A.length) := by
  obtain ⟨K, h1, h2, h3⟩ := few_there hk
  have hn1 := hk.n1
  have hn2 := hk.n2
  have hln : p.A.length - 1 < p.A.length := by omega
  have hlen := fewF_len h1
  have hhold := fewF_holds (show 1 ≤ p.A.length by omega) h1
  generalize fewF (needsF (allF true p) p.A.length (p.A.length - 1) (-1)) (allF true p) p.A.length 0 = L at *
  have hh := hhold
  simp only [holdsF, Bool.and_eq_true, decide_eq_true_eq] at hh
  obtain ⟨p0, q0, q1, q2⟩ := hh
  rw [nextB_true] at q2
  have hnx : ∀ k, (h : k + 1 < L.length) → L[k] < L[k + 1] ∧ L[k + 1] < p.A.length ∧ seeF true p L[k] L[k + 1] = true := fun k h => by
    have := q2 k (by omega)
    rw [List.getElem?_eq_getElem (show k < L.length by omega), List.getElem?_eq_getElem h] at this
    exact allF_of this
  have hle : (levelsF (allF true p) p.A.length).length = p.A.length := lvTo_length _ _ _
  have hpath := needsF_path hln h1
  refine ⟨?_, ?_, fun x hx => ?_, fun k h => ⟨(hnx k h).1, (hnx k h).2.2⟩, hhold, fun l hl hh => ?_, hle, fun x hx => ?_, ?_, ⟨h3, ?_⟩, fun l hl ha => ?_⟩
  · by_cases e : L.length = 1
    · rw [e] at q1
      rw [q0] at q1
      omega
    · omega
  · obtain ⟨i1, i2⟩ : at0 (levelsF (allF true p) p.A.length) (p.A.length - 1) ≤ p.A.length ∧ True := ⟨lvTo_le _ _ _ _, trivial⟩
    omega
  · obtain ⟨k, hk2, rfl⟩ := List.getElem_of_mem hx
    by_cases e : k + 1 < L.length
    · have := hnx k e; omega
    · have : k = L.length - 1 := by omega
      subst this
      rw [List.getElem?_eq_getElem (by omega)] at q1
      simp only [Option.getD_some] at q1
      omega
  · obtain ⟨m, hm, hmle⟩ := needsF_least hln (holds_path hl (fun i j h => allF_before h) hh)
    rw [h1] at hm
    cases hm
    omega
  · obtain ⟨k, hk2, rfl⟩ := List.getElem_of_mem hx
    have := lvTo_le (allF true p) p.A.length p.A.length k
    unfold at0 at this
    rw [List.getElem?_eq_getElem (show k < (lvTo (allF true p) p.A.length p.A.length).length from hk2)] at this
    simp only [Option.getD_some] at this
    exact Nat.le_trans this hn2
  · rw [hle]
    exact levels_are (by omega) fun i hi => allF_next hi
  · rw [hle, hlen, ← h2]
  · rw [hl] at ha ⊢
    have := levels_bound ha hpath
    unfold at0 at this
    omega
end Go.Proofs.Ytfognlealnhodaa

namespace Go.Proofs.Ytfognlealnhodaa

/-- The fewest pillars of a profile. -/
def fewP (p : Prof) : List Nat := fewF (needsF (allF true p) p.A.length (p.A.length - 1) (-1)) (allF true p) p.A.length 0
/-- What holds of a profile that is looked at otherwise: its places see alike, if u tells where they are. -/
structure Alike (p q : Prof) (u : Nat → Nat) (same : Bool) : Prop where
  ok : OkP q
  len : q.A.length = p.A.length
  at' : ∀ i, i < p.A.length → u i < p.A.length
  inj : ∀ i j, i < p.A.length → j < p.A.length → u i = u j → i = j
  see : ∀ d i j, i < p.A.length → j < p.A.length → seeF d q (u i) (u j) = seeF d p i j
  few : (fewP q).length = (fewP p).length
  same : same = true → fewP q = fewP p
theorem few_same {p q : Prof} (hl : q.A.length = p.A.length) (h : ∀ i j, i < j → j < p.A.length → seeF true q i j = seeF true p i j) : fewP q = fewP p := by
  have := few_alike hl h (p.A.length - 1) (-1) 0
  unfold fewP
  rw [hl] at this ⊢
  exact this
theorem alike_far {p : Prof} (hk : OkP p) (u : Nat) (hu : ∀ x ∈ p.A, x + u ≤ 20000) : Alike p ⟨p.A.map (· + u), p.G, p.T, p.lo, p.hi⟩ id true := by
  have hs := few_same (p := p) (q := ⟨p.A.map (· + u), p.G, p.T, p.lo, p.hi⟩) (by simp) (fun i j h1 h2 => see_far p u true (by omega) h2)
  refine ⟨⟨by simp; exact hk.n1, by simp; exact hk.n2, by simp; exact hk.gl, fun x hx => ?_, hk.gb, hk.tb, hk.bb, ?_⟩, by simp, fun i h => h, fun i j _ _ h => h, fun d i j h1 h2 => see_far p u d h1 h2, by rw [hs], fun _ => hs⟩
  · obtain ⟨y, hy, rfl⟩ := List.mem_map.1 hx; exact hu y hy
  · exact List.Pairwise.map _ (fun a b h => by omega) hk.inc
theorem alike_wide {A : List Nat} {G : List (Nat × Nat)} {T a b : Nat} (hk : OkP ⟨A, G, T, 4 * a, 4 * b⟩) (hu : ∀ x ∈ A, 2 * x ≤ 20000) : Alike ⟨A, G, T, 4 * a, 4 * b⟩ ⟨A.map (2 * ·), G, T, a, b⟩ id true := by
  have hs := few_same (p := ⟨A, G, T, 4 * a, 4 * b⟩) (q := ⟨A.map (2 * ·), G, T, a, b⟩) (by simp) (fun i j h1 h2 => see_wide A G T a b hk.inc true (by dsimp only at h2; omega) h2)
  have hb := hk.bb
  dsimp only at hb
  refine ⟨⟨by simp; exact hk.n1, by simp; exact hk.n2, by simp; exact hk.gl, fun x hx => ?_, hk.gb, hk.tb, by dsimp only; omega, ?_⟩, by simp, fun i h => h, fun i j _ _ h => h, fun d i j h1 h2 => see_wide A G T a b hk.inc d h1 h2, by rw [hs], fun _ => hs⟩
  · obtain ⟨y, hy, rfl⟩ := List.mem_map.1 hx; exact hu y hy
  · exact List.Pairwise.map _ (fun a b h => by omega) hk.inc
theorem back_ok {p : Prof} (hk : OkP p) : OkP (backP p) := by
  have hn := hk.n1
  have hlast : ∀ x ∈ p.A, x ≤ p.a (p.A.length - 1) := fun x hx => by
    obtain ⟨i, hi, rfl⟩ := List.getElem_of_mem hx
    rw [← Prof.a_eq hi]
    by_cases e : i = p.A.length - 1
    · rw [← e]; exact Nat.le_refl _
    · exact Nat.le_of_lt (hk.a_lt (show i < p.A.length - 1 by omega) (by omega))
  have hle := hk.a_le (p.A.length - 1)
  refine ⟨by simp [backP]; exact hk.n1, by simp [backP]; exact hk.n2, by simp [backP]; exact hk.gl, fun x hx => ?_, fun s hs => hk.gb s (by simpa [backP] using hs), hk.tb, hk.bb, ?_⟩
  · simp only [backP, List.mem_reverse, List.mem_map] at hx
    obtain ⟨y, hy, rfl⟩ := hx
    omega
  · show List.Pairwise (· < ·) (p.A.map fun x => p.a (p.A.length - 1) - x).reverse
    rw [List.pairwise_reverse]
    refine List.pairwise_iff_getElem.2 fun i j h1 h2 hij => ?_
    simp only [List.getElem_map, List.length_map] at h1 h2 ⊢
    have q1 := List.pairwise_iff_getElem.1 hk.inc i j h1 h2 hij
    have q2 := hlast _ (List.getElem_mem h2)
    omega
theorem alike_back {p : Prof} (hk : OkP p) : Alike p (backP p) (fun i => p.A.length - 1 - i) false := by
  have hn := hk.n1
  have hl : (backP p).A.length = p.A.length := by simp [backP]
  have hb := back_ok hk
  obtain ⟨K, hK, _⟩ := few_there hk
  obtain ⟨K', hK', _⟩ := few_there hb
  rw [hl] at hK'
  have e := needs_rev (S := allF true p) (S' := allF true (backP p)) (n := p.A.length) (by omega) (fun i j h1 h2 => by
    rw [allF_lt (by omega) (by rw [hl]; omega), allF_lt h1 h2, seeF_comm, see_back hk true (by omega) h2]) hK hK'
  refine ⟨hb, hl, fun i h => by omega, fun i j h1 h2 h => by omega, fun d i j h1 h2 => see_back hk d h1 h2, ?_, fun h => by cases h⟩
  unfold fewP
  rw [hl, fewF_len hK, fewF_len hK', e]
end Go.Proofs.Ytfognlealnhodaa

namespace Go.Proofs.Ytfognlealnhodaa

/-- A profile that sees no less than another one, whose pillars need not be taller. -/
structure Finer (p q : Prof) (i j : Nat) (te sm : Bool) : Prop where
  ok : OkP q
  len : q.A.length = p.A.length
  few : (fewP q).length ≤ (fewP p).length
  same : sm = true → fewP q = fewP p
  tall : tallF true q i j ≤ tallF true p i j
  talls : te = true → tallF true q i j = tallF true p i j
  see : seeF true p i j = true → seeF true q i j = true
theorem tallF_only {d : Bool} {p : Prof} {T : Nat} {i j : Nat} : tallF d ⟨p.A, p.G, T, p.lo, p.hi⟩ i j = tallF d p i j := by
  unfold tallF
  exact tallTo_congr fun k h1 h2 => rfl
theorem finer_tall {p : Prof} (hk : OkP p) (T : Nat) (hT : p.T ≤ T) (hT2 : T ≤ 2000) {i j : Nat} (hij : i ≠ j) : Finer p ⟨p.A, p.G, T, p.lo, p.hi⟩ i j true false := by
  have hs : ∀ a b, a ≠ b → seeF true p a b = true → seeF true ⟨p.A, p.G, T, p.lo, p.hi⟩ a b = true := fun a b h h2 => by
    rw [seeF_tall h, decide_eq_true_eq] at h2 ⊢
    rw [tallF_only]
    exact Nat.le_trans h2 hT
  refine ⟨⟨hk.n1, hk.n2, hk.gl, hk.ab, hk.gb, hT2, hk.bb, hk.inc⟩, rfl, few_more hk rfl (fun a b h1 h2 h3 => hs a b (by omega) h3), (fun h => by cases h), by rw [tallF_only]; exact Nat.le_refl _, fun _ => tallF_only, hs i j hij⟩
theorem finer_high {p : Prof} (hk : OkP p) (u : Nat) (hu : ∀ s ∈ p.G, s.2 + u ≤ 2000) {i j : Nat} (hi : i < p.A.length) (hj : j < p.A.length) : Finer p ⟨p.A, p.G.map fun s => (s.1 + u, s.2 + u), p.T, p.lo, p.hi⟩ i j true true := by
  have hs := few_same (p := p) (q := ⟨p.A, p.G.map fun s => (s.1 + u, s.2 + u), p.T, p.lo, p.hi⟩) rfl (fun a b h1 h2 => by
    have h3 : a < p.A.length := Nat.lt_trans h1 h2
    exact see_high hk u true h3 h2)
  refine ⟨⟨hk.n1, hk.n2, by simp; exact hk.gl, hk.ab, fun s hs => ?_, hk.tb, hk.bb, hk.inc⟩, rfl, by rw [hs]; exact Nat.le_refl _, fun _ => hs, by rw [tall_high hk u true hi hj]; exact Nat.le_refl _, fun _ => tall_high hk u true hi hj, fun h => by rw [see_high hk u true hi hj]; exact h⟩
  obtain ⟨t, ht, rfl⟩ := List.mem_map.1 hs
  have := hk.gb t ht
  have := hu t ht
  dsimp only
  omega
theorem finer_fine {p q : Prof} (hk : OkP p) (hA : q.A = p.A) (hgl : q.G.length = p.G.length) (hg : ∀ k, k < p.G.length → (p.g k).1 ≤ (q.g k).1 ∧ (q.g k).1 ≤ (q.g k).2 ∧ (q.g k).2 ≤ (p.g k).2) (hT : q.T = p.T) (hb1 : q.lo ≤ q.hi) (hb : q.hi ≤ p.hi) {i j : Nat} (hi : i < p.A.length) (hj : j < p.A.length) (hij : i ≠ j) : Finer p q i j false false := by
  have hn : ∀ {a c b : Nat}, a < c → c < b → b < p.A.length → needF true q a c b ≤ needF true p a c b := fun h1 h2 h3 => need_narrow hk hA (fun k hk' => ⟨(hg k hk').1, (hg k hk').2.2⟩) hb h1 h2 h3
  have hs : ∀ a b, a < p.A.length → b < p.A.length → seeF true p a b = true → seeF true q a b = true := fun a b ha hb' h => by
    rw [seeF_iff] at h ⊢
    intro c h1 h2
    rw [hT]
    exact Nat.le_trans (hn h1 h2 (by omega)) (h c h1 h2)
  have hgb := hk.gb
  have hbb := hk.bb
  refine ⟨⟨by rw [hA]; exact hk.n1, by rw [hA]; exact hk.n2, by rw [hgl, hA]; exact hk.gl, by rw [hA]; exact hk.ab, fun s hs' => ?_, by rw [hT]; exact hk.tb, by omega, by rw [hA]; exact hk.inc⟩, by rw [hA], few_more hk (by rw [hA]) (fun a b h1 h2 h3 => hs a b (by omega) h2 h3), (fun h => by cases h), ?_, (fun h => by cases h), hs i j hi hj⟩
  · obtain ⟨k, hk', rfl⟩ := List.getElem_of_mem hs'
    have h1 := hg k (by omega)
    have h2 := hk.g_le k
    rw [Prof.g_eq hk'] at h1
    omega
  · rw [tallF_le hij]
    intro c h1 h2
    exact Nat.le_trans (hn h1 h2 (by omega)) ((tallF_le hij).1 (Nat.le_refl _) c h1 h2)
/-- Pillars of the statements' profiles need not be very tall. -/
theorem tall_small {p : Prof} (hA : ∀ x ∈ p.A, x ≤ 4050) (hG : ∀ s ∈ p.G, s.2 ≤ 100) (hb : p.hi ≤ 400) (hinc : p.A.Pairwise (· < ·)) {i j : Nat} (hi : i < p.A.length) (hj : j < p.A.length) (hij : i ≠ j) (hgl : p.G.length = p.A.length) : tallF true p i j ≤ 2000 := by
  rw [tallF_le hij]
  intro k h1 h2
  have hkl : k < p.A.length := by omega
  have ha : ∀ x, x < p.A.length → p.a x ≤ 4050 := fun x hx => by rw [Prof.a_eq hx]; exact hA _ (List.getElem_mem hx)
  have hlt : ∀ x y, x < y → y < p.A.length → p.a x < p.a y := fun x y hxy hy => by
    rw [Prof.a_eq (by omega), Prof.a_eq hy]; exact List.pairwise_iff_getElem.1 hinc x y (by omega) hy hxy
  have q1 := hlt (min i j) k h1 hkl
  have q2 := hlt k (max i j) h2 (by omega)
  have q3 := ha (max i j) (by omega)
  have q4 : (p.g k).2 ≤ 100 := by rw [Prof.g_eq (by omega)]; exact hG _ (List.getElem_mem _)
  unfold needF
  rw [needOf_le (by omega)]
  show gnd (endOf true (p.g k)) (endOf true (p.lo, p.hi)) _ _ < _
  have e1 : endOf true (p.g k) = (p.g k).2 := rfl
  have e2 : endOf true (p.lo, p.hi) = p.hi := rfl
  rw [e1, e2]
  generalize (p.g k).2 = r at *
  generalize p.hi = e at *
  obtain ⟨b, hb'⟩ : ∃ b, p.a k - p.a (min i j) = b := ⟨_, rfl⟩
  obtain ⟨f, hf'⟩ : ∃ f, p.a (max i j) - p.a k = f := ⟨_, rfl⟩
  rw [hb', hf']
  have hb1 : 1 ≤ b ∧ b ≤ 4050 := by omega
  have hf1 : 1 ≤ f ∧ f ≤ 4050 := by omega
  have s1 : b * f ≤ 4050 * 4050 := Nat.mul_le_mul hb1.2 hf1.2
  have s2 : e * b * f ≤ 400 * (4050 * 4050) := by rw [Nat.mul_assoc]; exact Nat.mul_le_mul hb s1
  unfold gnd
  have s3 : r * 10000000 + e * b * f < 2000 * 10000000 := by omega
  have s4 : (r * 10000000 + e * b * f) * (b + f) < 2000 * 10000000 * (b + f) := Nat.mul_lt_mul_of_pos_right s3 (by omega)
  have s5 : 2000 * ((b + f) * 10000000) = 2000 * 10000000 * (b + f) := by rw [Nat.mul_assoc, Nat.mul_comm 10000000]
  omega
end Go.Proofs.Ytfognlealnhodaa
