/-
  The lines of a treaty as lists that keep all legs, each once; a treaty that is parted at a leg: its lines are pairs of lines of both parts, and no fewer legs yield in it than in both. Mathematics alone: nothing is claimed of the program here.
-/
import Derived.Test.YtdejaliegbmgaaaGreatYb
namespace Go.Proofs.YtdejaliegbmgaaaGreat

/-- Number i of a list. -/
def gt (l : List Nat) (i : Nat) : Nat := (l[i]?).getD 0
theorem gt_cons_zero (x : Nat) (l : List Nat) : gt (x :: l) 0 = x := rfl
theorem gt_cons_succ (x : Nat) (l : List Nat) (i : Nat) : gt (x :: l) (i + 1) = gt l i := by simp [gt]
theorem gt_take (l : List Nat) (k i : Nat) (h : i < k) : gt (l.take k) i = gt l i := by simp [gt, h]
theorem gt_drop (l : List Nat) (k i : Nat) : gt (l.drop k) i = gt l (k + i) := by simp [gt, List.getElem?_drop]

/-- A list keeps all of the last k of N legs, from a place on. -/
def LineFrom (L : Nat → Nat → Nat → Bool) (P N k : Nat) (l : List Nat) : Prop :=
  l.length = k + 1 ∧ (∀ i, 1 ≤ i → i ≤ k → gt l i < P) ∧ ∀ i, i < k → L (N - k + i) (gt l i) (gt l (i + 1)) = true

theorem lineFrom_reach (L : Nat → Nat → Nat → Bool) (P N k : Nat) (hk : k ≤ N) (l : List Nat) (h : LineFrom L P N k l) : reachB L P N k (gt l 0) = true := by
  refine (reachB_path L P N k hk _).2 ⟨fun i => gt l (i - (N - k)), by simp, fun i h1 h2 => h.2.1 _ (by omega) (by omega), fun i h1 h2 => ?_⟩
  have := h.2.2 (i - (N - k)) (by omega)
  rw [show N - k + (i - (N - k)) = i by omega] at this
  show L i (gt l (i - (N - k))) (gt l (i + 1 - (N - k))) = true
  rw [show i + 1 - (N - k) = i - (N - k) + 1 by omega]
  exact this

theorem mem_lnF (L : Nat → Nat → Nat → Bool) (P N : Nat) : ∀ k, k ≤ N → ∀ p l, l ∈ lnF L P N k p ↔ gt l 0 = p ∧ LineFrom L P N k l
  | 0, _, p, l => by
    show l ∈ [[p]] ↔ _
    rw [List.mem_singleton]
    constructor
    · rintro rfl; exact ⟨rfl, rfl, fun i h1 h2 => by omega, fun i h => by omega⟩
    · rintro ⟨h1, h2, -⟩
      match l, h2 with
      | [x], _ => rw [gt_cons_zero] at h1; rw [h1]
  | k + 1, hk, p, l => by
    have ih := mem_lnF L P N k (by omega)
    have hO := (openK_spec L P N N (Nat.le_refl _)).1 k (by omega)
    show l ∈ ((List.range P).flatMap fun q => if openK L P N N (N - (k + 1) + 1) q && L (N - (k + 1)) p q then lnF L P N k q else []).map (p :: ·) ↔ _
    rw [show N - (k + 1) + 1 = N - k by omega, List.mem_map]
    constructor
    · rintro ⟨m, hm, rfl⟩
      rw [List.mem_flatMap] at hm
      obtain ⟨q, hq, hm⟩ := hm
      have hqP : q < P := by simpa using hq
      split at hm
      · rename_i hc
        rw [Bool.and_eq_true] at hc
        obtain ⟨g1, g2, g3, g4⟩ := (ih q m).1 hm
        refine ⟨gt_cons_zero _ _, by simp [g2], fun i h1 h2 => ?_, fun i hi => ?_⟩
        · obtain ⟨j, rfl⟩ : ∃ j, i = j + 1 := ⟨i - 1, by omega⟩
          rw [gt_cons_succ]
          by_cases e : j = 0
          · rw [e, g1]; exact hqP
          · exact g3 j (by omega) (by omega)
        · cases i with
          | zero => rw [gt_cons_zero, gt_cons_succ, g1]; exact hc.2
          | succ i =>
            rw [gt_cons_succ, gt_cons_succ]
            have := g4 i (by omega)
            rwa [show N - k + i = N - (k + 1) + (i + 1) by omega] at this
      · simp at hm
    · rintro ⟨h1, h2, h3, h4⟩
      match l, h2 with
      | x :: m, h2 =>
        rw [gt_cons_zero] at h1
        subst h1
        refine ⟨m, ?_, rfl⟩
        have hm : LineFrom L P N k m := by
          refine ⟨by simpa using h2, fun i g1 g2 => ?_, fun i hi => ?_⟩
          · have := h3 (i + 1) (by omega) (by omega); rwa [gt_cons_succ] at this
          · have := h4 (i + 1) (by omega)
            rw [gt_cons_succ, gt_cons_succ] at this
            rwa [show N - (k + 1) + (i + 1) = N - k + i by omega] at this
        have hP : gt m 0 < P := by have := h3 1 (by omega) (by omega); rwa [gt_cons_succ] at this
        rw [List.mem_flatMap]
        refine ⟨gt m 0, by simpa using hP, ?_⟩
        have hL := h4 0 (by omega)
        rw [gt_cons_zero, gt_cons_succ, Nat.add_zero] at hL
        rw [if_pos (by rw [hO _ hP, lineFrom_reach L P N k (by omega) m hm, hL]; rfl)]
        exact (ih _ m).2 ⟨rfl, hm⟩

theorem nodup_lnF (L : Nat → Nat → Nat → Bool) (P N : Nat) : ∀ k, k ≤ N → ∀ p, (lnF L P N k p).Nodup
  | 0, _, p => by show ([[p]] : List (List Nat)).Nodup; simp
  | k + 1, hk, p => by
    show (((List.range P).flatMap fun q => if openK L P N N (N - (k + 1) + 1) q && L (N - (k + 1)) p q then lnF L P N k q else []).map (p :: ·)).Nodup
    unfold List.Nodup
    rw [List.pairwise_map, List.pairwise_flatMap]
    refine ⟨fun q hq => ?_, ?_⟩
    · split
      · exact (nodup_lnF L P N k (by omega) q).imp fun h e => h (by simpa using e)
      · exact List.Pairwise.nil
    · refine (List.nodup_range (n := P)).imp fun {a b} hab x hx y hy e => hab ?_
      have e' : x = y := by simpa using e
      split at hx
      · split at hy
        · have h1 := ((mem_lnF L P N k (by omega) _ _).1 hx).1
          have h2 := ((mem_lnF L P N k (by omega) _ _).1 hy).1
          rw [← h1, ← h2, e']
        · simp at hy
      · simp at hx

/-- A line that keeps all N legs, from one of the starts on. -/
def LineOk (L : Nat → Nat → Nat → Bool) (P N : Nat) (st l : List Nat) : Prop :=
  l.length = N + 1 ∧ gt l 0 ∈ st ∧ (∀ i, i ≤ N → gt l i < P) ∧ ∀ i, i < N → L i (gt l i) (gt l (i + 1)) = true

theorem mem_linesR (t : TV) (L : Nat → Nat → Nat → Bool) (hst : ∀ x ∈ t.starts.l, x < t.P) (l : List Nat) : l ∈ linesR t L ↔ LineOk L t.P t.legs.l.length t.starts.l l := by
  have hO := (openK_spec L t.P t.legs.l.length t.legs.l.length (Nat.le_refl _)).1 t.legs.l.length (Nat.le_refl _)
  rw [Nat.sub_self] at hO
  unfold linesR
  rw [List.mem_flatMap]
  constructor
  · rintro ⟨s, hs, hm⟩
    split at hm
    · obtain ⟨g1, g2, g3, g4⟩ := (mem_lnF L _ _ _ (Nat.le_refl _) _ _).1 hm
      refine ⟨g2, by rw [g1]; exact hs, fun i hi => ?_, fun i hi => ?_⟩
      · by_cases e : i = 0
        · rw [e, g1]; exact hst s hs
        · exact g3 i (by omega) hi
      · have := g4 i hi; rwa [Nat.sub_self, Nat.zero_add] at this
    · simp at hm
  · rintro ⟨h1, h2, h3, h4⟩
    have hm : LineFrom L t.P t.legs.l.length t.legs.l.length l := ⟨h1, fun i _ hi => h3 i hi, fun i hi => by rw [Nat.sub_self, Nat.zero_add]; exact h4 i hi⟩
    refine ⟨gt l 0, h2, ?_⟩
    rw [if_pos (by rw [hO _ (hst _ h2)]; exact lineFrom_reach L _ _ _ (Nat.le_refl _) l hm)]
    exact (mem_lnF L _ _ _ (Nat.le_refl _) _ _).2 ⟨rfl, hm⟩

theorem nodup_linesR (t : TV) (L : Nat → Nat → Nat → Bool) (hn : t.starts.l.Nodup) : (linesR t L).Nodup := by
  unfold linesR List.Nodup
  rw [List.pairwise_flatMap]
  refine ⟨fun s hs => ?_, hn.imp fun {a b} hab x hx y hy e => hab ?_⟩
  · split
    · exact nodup_lnF L _ _ _ (Nat.le_refl _) _
    · exact List.Pairwise.nil
  · split at hx
    · split at hy
      · have h1 := ((mem_lnF L _ _ _ (Nat.le_refl _) _ _).1 hx).1
        have h2 := ((mem_lnF L _ _ _ (Nat.le_refl _) _ _).1 hy).1
        rw [← h1, ← h2, e]
      · simp at hy
    · simp at hx

theorem nodup_sub {α : Type} [DecidableEq α] : ∀ {a b : List α}, a.Nodup → (∀ x ∈ a, x ∈ b) → a.length ≤ b.length
  | [], _, _, _ => Nat.zero_le _
  | x :: a, b, hn, hs => by
    have hx : x ∈ b := hs x (by simp)
    rw [List.nodup_cons] at hn
    have := nodup_sub (a := a) (b := b.erase x) hn.2 (fun y hy => by
      have hne : y ≠ x := fun e => hn.1 (e ▸ hy)
      exact (List.mem_erase_of_ne hne).2 (hs y (by simp [hy])))
    rw [List.length_erase_of_mem hx] at this
    have h1 : 0 < b.length := List.length_pos_of_mem hx
    simp only [List.length_cons]; omega

/-- How many lines of the second list go on where a line of the first one ends. -/
def metB (k : Nat) (m n : List Nat) : Bool := gt m k == gt n 0
def metN (k : Nat) (m : List Nat) (B : List (List Nat)) : Nat := (B.filter (metB k m)).length
def metS (k : Nat) (A B : List (List Nat)) : Nat := (A.map fun m => metN k m B).sum

/-- A treaty parted at a leg. -/
structure PartT (t a b : TV) (L La Lb : Nat → Nat → Nat → Bool) (k : Nat) : Prop where
  le : k ≤ t.legs.l.length
  Pa : a.P = t.P
  Pb : b.P = t.P
  Na : a.legs.l.length = k
  Nb : b.legs.l.length = t.legs.l.length - k
  Sa : a.starts.l = t.starts.l
  Sb : b.starts.l = List.range t.P
  La : ∀ i, i < k → La i = L i
  Lb : ∀ i, i < t.legs.l.length - k → Lb i = L (k + i)

section
variable {t a b : TV} {L La Lb : Nat → Nat → Nat → Bool} {k : Nat} (h : PartT t a b L La Lb k) (hst : ∀ x ∈ t.starts.l, x < t.P)
include h hst

theorem part_fst (l : List Nat) : l ∈ linesR a La ↔ LineOk L t.P k t.starts.l l := by
  rw [mem_linesR a La (by rw [h.Sa, h.Pa]; exact hst), h.Pa, h.Na, h.Sa]
  unfold LineOk
  constructor
  · rintro ⟨h1, h2, h3, h4⟩; exact ⟨h1, h2, h3, fun i hi => by rw [← h.La i hi]; exact h4 i hi⟩
  · rintro ⟨h1, h2, h3, h4⟩; exact ⟨h1, h2, h3, fun i hi => by rw [h.La i hi]; exact h4 i hi⟩
omit hst in
theorem part_snd (l : List Nat) : l ∈ linesR b Lb ↔ LineOk (fun i => L (k + i)) t.P (t.legs.l.length - k) (List.range t.P) l := by
  rw [mem_linesR b Lb (by rw [h.Sb, h.Pb]; intro x hx; simpa using hx), h.Pb, h.Nb, h.Sb]
  unfold LineOk
  constructor
  · rintro ⟨h1, h2, h3, h4⟩; exact ⟨h1, h2, h3, fun i hi => by show L (k + i) _ _ = true; rw [← h.Lb i hi]; exact h4 i hi⟩
  · rintro ⟨h1, h2, h3, h4⟩; exact ⟨h1, h2, h3, fun i hi => by rw [h.Lb i hi]; exact h4 i hi⟩

theorem part_halves {l : List Nat} (hl : l ∈ linesR t L) : l.length = t.legs.l.length + 1 ∧ l.take (k + 1) ∈ linesR a La ∧ l.drop k ∈ linesR b Lb := by
  obtain ⟨h1, h2, h3, h4⟩ := (mem_linesR t L hst l).1 hl
  have hk := h.le
  refine ⟨h1, (part_fst h hst _).2 ⟨by rw [List.length_take]; omega, by rw [gt_take _ _ _ (by omega)]; exact h2, fun i hi => by rw [gt_take _ _ _ (by omega)]; exact h3 i (by omega), fun i hi => by rw [gt_take _ _ _ (by omega), gt_take _ _ _ (by omega)]; exact h4 i (by omega)⟩,
    (part_snd h _).2 ⟨by rw [List.length_drop]; omega, by rw [gt_drop]; simpa using h3 k hk, fun i hi => by rw [gt_drop]; exact h3 _ (by omega), fun i hi => by rw [gt_drop, gt_drop]; exact h4 (k + i) (by omega)⟩⟩

theorem part_join {m n : List Nat} (hm : m ∈ linesR a La) (hn : n ∈ linesR b Lb) (hmn : gt m k = gt n 0) : m ++ n.tail ∈ linesR t L ∧ (m ++ n.tail).take (k + 1) = m ∧ (m ++ n.tail).drop k = n := by
  obtain ⟨h1, h2, h3, h4⟩ := (part_fst h hst m).1 hm
  obtain ⟨g1, g2, g3, g4⟩ := (part_snd h n).1 hn
  have hk := h.le
  have e1 : (m ++ n.tail).take (k + 1) = m := by rw [List.take_append_of_le_length (by omega), List.take_of_length_le (by omega)]
  have e2 : (m ++ n.tail).drop k = n := by
    rw [List.drop_append_of_le_length (by omega)]
    have : m.drop k = [gt m k] := by
      rw [List.drop_eq_getElem_cons (by omega), List.drop_of_length_le (by omega)]
      simp [gt, List.getElem?_eq_getElem (show k < m.length by omega)]
    rw [this, hmn]
    match n, g1 with
    | x :: n, _ => rfl
  have hl : (m ++ n.tail).length = t.legs.l.length + 1 := by rw [List.length_append, List.length_tail]; omega
  have A1 : ∀ i, i ≤ k → gt (m ++ n.tail) i = gt m i := fun i hi => by rw [← gt_take (m ++ n.tail) (k + 1) i (by omega), e1]
  have A2 : ∀ i, gt (m ++ n.tail) (k + i) = gt n i := fun i => by rw [← gt_drop, e2]
  refine ⟨(mem_linesR t L hst _).2 ⟨hl, by rw [A1 0 (by omega)]; exact h2, fun i hi => ?_, fun i hi => ?_⟩, e1, e2⟩
  · by_cases hik : i ≤ k
    · rw [A1 i hik]; exact h3 i hik
    · obtain ⟨j, rfl⟩ : ∃ j, i = k + j := ⟨i - k, by omega⟩
      rw [A2]; exact g3 j (by omega)
  · by_cases hik : i < k
    · rw [A1 i (by omega), A1 (i + 1) (by omega)]; exact h4 i hik
    · obtain ⟨j, rfl⟩ : ∃ j, i = k + j := ⟨i - k, by omega⟩
      rw [A2, show k + j + 1 = k + (j + 1) by omega, A2]; exact g4 j (by omega)

theorem part_many (hn : t.starts.l.Nodup) : metS k (linesR a La) (linesR b Lb) = (linesR t L).length := by
  have hna := nodup_linesR a La (by rw [h.Sa]; exact hn)
  have hnb := nodup_linesR b Lb (by rw [h.Sb]; exact List.nodup_range)
  have hnt := nodup_linesR t L hn
  have e1 : metS k (linesR a La) (linesR b Lb) = ((linesR a La).flatMap fun m => ((linesR b Lb).filter (metB k m)).map fun n => m ++ n.tail).length := by
    rw [List.length_flatMap]
    unfold metS metN
    congr 1
    refine List.map_congr_left fun m _ => ?_
    simp
  rw [e1]
  refine Nat.le_antisymm (nodup_sub ?_ fun l hl => ?_) (nodup_sub hnt fun l hl => ?_)
  · unfold List.Nodup
    rw [List.pairwise_flatMap]
    have hj : ∀ m ∈ linesR a La, ∀ n ∈ (linesR b Lb).filter (metB k m), (m ++ n.tail).take (k + 1) = m ∧ (m ++ n.tail).drop k = n := fun m hm n hn => by
      rw [List.mem_filter] at hn
      exact (part_join h hst hm hn.1 (by simpa [metB] using hn.2)).2
    refine ⟨fun m hm => ?_, ?_⟩
    · rw [List.pairwise_map]
      refine List.Pairwise.imp_of_mem (fun {x y} hx hy hxy e => hxy ?_) (hnb.filter _)
      rw [← (hj m hm x hx).2, ← (hj m hm y hy).2, e]
    · refine List.Pairwise.imp_of_mem (fun {m m'} hm hm' hne x hx y hy e => hne ?_) hna
      rw [List.mem_map] at hx hy
      obtain ⟨n, hn1, rfl⟩ := hx
      obtain ⟨n', hn2, rfl⟩ := hy
      rw [← (hj m hm n hn1).1, ← (hj m' hm' n' hn2).1, e]
  · rw [List.mem_flatMap] at hl
    obtain ⟨m, hm, hl⟩ := hl
    rw [List.mem_map] at hl
    obtain ⟨n, hn, rfl⟩ := hl
    rw [List.mem_filter] at hn
    exact (part_join h hst hm hn.1 (by simpa [metB] using hn.2)).1
  · obtain ⟨h1, h2, h3⟩ := part_halves h hst hl
    have hk := h.le
    rw [List.mem_flatMap]
    refine ⟨_, h2, ?_⟩
    rw [List.mem_map]
    refine ⟨l.drop k, ?_, ?_⟩
    · rw [List.mem_filter]
      refine ⟨h3, ?_⟩
      unfold metB
      rw [gt_take _ _ _ (by omega), gt_drop]
      simp
    · rw [List.tail_drop]
      exact List.take_append_drop _ _

theorem part_least (hs1 : 1 ≤ t.starts.l.length) (hN : t.legs.l.length ≤ 10) : leastF La a.P a.starts.l a.legs.l.length + leastF Lb b.P b.starts.l b.legs.l.length ≤ leastF L t.P t.starts.l t.legs.l.length := by
  have hs : ∃ s ∈ t.starts.l, s < t.P := ⟨t.starts.l[0], List.getElem_mem (by omega), hst _ (List.getElem_mem (by omega))⟩
  obtain ⟨p, p1, p2, p3⟩ := yieldL_path L t.P t.starts.l t.legs.l.length hs hN
  have hy := yieldL_length L t.P t.starts.l t.legs.l.length hs hN
  have hk := h.le
  have hb : (brkP L p t.legs.l.length).length ≤ (yieldL L t.P t.starts.l t.legs.l.length).length := by
    refine nodup_sub_length (List.nodup_range.filter _) fun i hi => ?_
    unfold brkP at hi
    rw [List.mem_filter, List.mem_range] at hi
    rcases p3 i hi.1 with g | g
    · rw [g] at hi; simp at hi
    · exact g
  have h1 := leastF_brk La a.P a.starts.l p a.legs.l.length (by rw [h.Sa]; exact p1) (fun i hi => by rw [h.Pa]; rw [h.Na] at hi; exact p2 i (by omega))
  have h2 := leastF_brk Lb b.P b.starts.l (fun i => p (k + i)) b.legs.l.length (by rw [h.Sb]; simpa using p2 k hk) (fun i hi => by rw [h.Pb]; rw [h.Nb] at hi; exact p2 _ (by omega))
  have e1 : ∀ n, n ≤ k → (brkP La p n).length = (brkP L p n).length := fun n => by
    induction n with
    | zero => intro _; rfl
    | succ n ih => intro hn; rw [brkP_succ, brkP_succ, ih (by omega), h.La n (by omega)]
  have e2 : ∀ n, n ≤ t.legs.l.length - k → (brkP L p k).length + (brkP Lb (fun i => p (k + i)) n).length = (brkP L p (k + n)).length := fun n => by
    induction n with
    | zero => intro _; rfl
    | succ n ih =>
      intro hn
      rw [brkP_succ, show k + (n + 1) = (k + n) + 1 by omega, brkP_succ, ← ih (by omega), h.Lb n (by omega)]
      show _ + (_ + cost (L (k + n) (p (k + n)) (p (k + n + 1)))) = _
      omega
  have e3 := e2 (t.legs.l.length - k) (Nat.le_refl _)
  rw [show k + (t.legs.l.length - k) = t.legs.l.length by omega] at e3
  have e4 := e1 k (Nat.le_refl _)
  rw [h.Na] at h1 ⊢
  rw [h.Nb] at h2 ⊢
  omega
end
end Go.Proofs.YtdejaliegbmgaaaGreat
