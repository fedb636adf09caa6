/-
  Lines as paths: what open marks, and what floors and the legs that yield, say of paths; and which readings there are. Mathematics alone: nothing is claimed of the program here.
-/
import Derived.Test.YtdejaliegbmgaaaGreatIj
import Derived.Test.YtdejaliegbmgaaaGreatJoa
namespace Go.Proofs.YtdejaliegbmgaaaGreat

theorem openS_spec (N : Nat) : ∀ n f t, openS N n f t = (decide (f = N) && decide (t < n))
  | 0, f, t => by simp [openS]
  | n + 1, f, t => by
    show upd (openS N n) N n true f t = _
    unfold upd
    by_cases e : f = N ∧ t = n
    · rw [if_pos e]; simp [e.1, e.2]
    · rw [if_neg e, openS_spec N n f t]
      by_cases h1 : f = N
      · simp only [h1, decide_true, Bool.true_and]
        have : t ≠ n := fun h => e ⟨h1, h⟩
        by_cases h2 : t < n
        · simp [h2]; omega
        · simp [h2]; omega
      · simp [h1]

theorem openG_spec (L : Nat → Nat → Nat → Bool) (q f : Nat) (O : Nat → Nat → Bool) : ∀ n q' f', openG L q f n O q' f' = if q' = q ∧ f' = f then (O q f || (List.range n).any fun g => O (q + 1) g && L q f g) else O q' f'
  | 0, q', f' => by
    by_cases e : q' = q ∧ f' = f
    · rw [if_pos e]; simp [openG, e.1, e.2]
    · rw [if_neg e]; rfl
  | n + 1, q', f' => by
    rw [openG_succ, openG_spec L q f O n (q + 1) n, if_neg (show ¬ (q + 1 = q ∧ n = f) by omega), List.range_succ, List.any_append]
    by_cases hc : (O (q + 1) n && L q f n) = true
    · rw [if_pos hc]
      unfold upd
      by_cases e : q' = q ∧ f' = f
      · rw [if_pos e, if_pos e]; simp [hc]
      · rw [if_neg e, if_neg e, openG_spec L q f O n q' f', if_neg e]
    · rw [if_neg hc, openG_spec L q f O n q' f']
      have hc' : (O (q + 1) n && L q f n) = false := by simpa using hc
      by_cases e : q' = q ∧ f' = f
      · rw [if_pos e, if_pos e]; simp only [List.any_cons, List.any_nil, hc', Bool.or_false]
      · rw [if_neg e, if_neg e]

theorem openF_spec (L : Nat → Nat → Nat → Bool) (P q : Nat) (O : Nat → Nat → Bool) : ∀ n q' f', openF L P q n O q' f' = if q' = q ∧ f' < n then (O q f' || (List.range P).any fun g => O (q + 1) g && L q f' g) else O q' f'
  | 0, q', f' => by rw [if_neg (by omega)]; rfl
  | n + 1, q', f' => by
    show openG L q n P (openF L P q n O) q' f' = _
    rw [openG_spec]
    have h1 : ∀ g, openF L P q n O (q + 1) g = O (q + 1) g := fun g => by rw [openF_spec L P q O n, if_neg (by omega)]
    have h2 : openF L P q n O q n = O q n := by rw [openF_spec L P q O n, if_neg (by omega)]
    by_cases e : q' = q ∧ f' = n
    · rw [if_pos e, if_pos ⟨e.1, by omega⟩, h2, e.2]; simp only [h1]
    · rw [if_neg e, openF_spec L P q O n q' f']
      by_cases e2 : q' = q ∧ f' < n
      · rw [if_pos e2, if_pos ⟨e2.1, by omega⟩]
      · rw [if_neg e2, if_neg (by omega)]

/-- Whether a line can go on from a place and keep the last n legs. -/
def reachB (L : Nat → Nat → Nat → Bool) (P N : Nat) : Nat → Nat → Bool
  | 0, _ => true
  | n + 1, f => (List.range P).any fun g => reachB L P N n g && L (N - (n + 1)) f g

theorem openK_spec (L : Nat → Nat → Nat → Bool) (P N : Nat) : ∀ n, n ≤ N → (∀ j, j ≤ n → ∀ f, f < P → openK L P N n (N - j) f = reachB L P N j f) ∧ ∀ q, q < N - n → ∀ f, openK L P N n q f = false
  | 0, _ => by
    refine ⟨fun j hj f hf => ?_, fun q hq f => ?_⟩
    · have : j = 0 := by omega
      subst this
      show openS N P (N - 0) f = true
      rw [openS_spec]; simp [hf]
    · show openS N P q f = false
      rw [openS_spec]
      have : q ≠ N := by omega
      simp [this]
  | n + 1, hn => by
    obtain ⟨h1, h2⟩ := openK_spec L P N n (by omega)
    have he : ∀ q' f', openK L P N (n + 1) q' f' = _ := fun q' f' => openF_spec L P (N - (n + 1)) (openK L P N n) P q' f'
    refine ⟨fun j hj f hf => ?_, fun q hq f => ?_⟩
    · rw [he]
      by_cases e : j = n + 1
      · subst e
        rw [if_pos ⟨rfl, hf⟩, h2 _ (by omega), Bool.false_or, show N - (n + 1) + 1 = N - n by omega]
        show _ = (List.range P).any fun g => reachB L P N n g && L (N - (n + 1)) f g
        rw [Bool.eq_iff_iff, List.any_eq_true, List.any_eq_true]
        constructor
        · rintro ⟨g, hg, hh⟩; exact ⟨g, hg, by rw [h1 n (Nat.le_refl _) g (by simpa using hg)] at hh; exact hh⟩
        · rintro ⟨g, hg, hh⟩; exact ⟨g, hg, by rw [h1 n (Nat.le_refl _) g (by simpa using hg)]; exact hh⟩
      · rw [if_neg (by omega)]; exact h1 j (by omega) f hf
    · rw [he, if_neg (by omega)]; exact h2 q (by omega) f

theorem reachB_path (L : Nat → Nat → Nat → Bool) (P N : Nat) : ∀ n, n ≤ N → ∀ f, reachB L P N n f = true ↔ ∃ p : Nat → Nat, p (N - n) = f ∧ (∀ i, N - n < i → i ≤ N → p i < P) ∧ ∀ i, N - n ≤ i → i < N → L i (p i) (p (i + 1)) = true
  | 0, _, f => by
    constructor
    · intro _; exact ⟨fun _ => f, rfl, fun i h1 h2 => by omega, fun i h1 h2 => by omega⟩
    · intro _; rfl
  | n + 1, hn, f => by
    have ih := reachB_path L P N n (by omega)
    show ((List.range P).any fun g => reachB L P N n g && L (N - (n + 1)) f g) = true ↔ _
    rw [List.any_eq_true]
    constructor
    · rintro ⟨g, hg, hh⟩
      rw [Bool.and_eq_true] at hh
      obtain ⟨p, p1, p2, p3⟩ := (ih g).1 hh.1
      have hgP : g < P := by simpa using hg
      refine ⟨fun i => if i ≤ N - (n + 1) then f else p i, by simp, fun i h1 h2 => ?_, fun i h1 h2 => ?_⟩
      · show (if i ≤ N - (n + 1) then f else p i) < P
        rw [if_neg (by omega)]
        by_cases e : i = N - n
        · rw [e, p1]; exact hgP
        · exact p2 i (by omega) h2
      · show L i (if i ≤ N - (n + 1) then f else p i) (if i + 1 ≤ N - (n + 1) then f else p (i + 1)) = true
        rw [if_neg (by omega : ¬ i + 1 ≤ N - (n + 1))]
        by_cases e : i = N - (n + 1)
        · rw [if_pos (by omega), show i + 1 = N - n by omega, p1, e]; exact hh.2
        · rw [if_neg (by omega)]; exact p3 i (by omega) h2
    · rintro ⟨p, p1, p2, p3⟩
      refine ⟨p (N - n), by simpa using p2 (N - n) (by omega) (by omega), ?_⟩
      rw [Bool.and_eq_true]
      refine ⟨(ih _).2 ⟨p, rfl, fun i h1 h2 => p2 i (by omega) h2, fun i h1 h2 => p3 i (by omega) h2⟩, ?_⟩
      have := p3 (N - (n + 1)) (Nat.le_refl _) (by omega)
      rw [p1, show N - (n + 1) + 1 = N - n by omega] at this
      exact this

/-- Some line keeps all legs: a path does. -/
theorem hasB_path (t : TV) (L : Nat → Nat → Nat → Bool) (hst : ∀ x ∈ t.starts.l, x < t.P) : hasB t L = true ↔ ∃ p : Nat → Nat, p 0 ∈ t.starts.l ∧ (∀ i, i ≤ t.legs.l.length → p i < t.P) ∧ ∀ i, i < t.legs.l.length → L i (p i) (p (i + 1)) = true := by
  unfold hasB
  rw [List.any_eq_true]
  have hK := (openK_spec L t.P t.legs.l.length t.legs.l.length (Nat.le_refl _)).1 t.legs.l.length (Nat.le_refl _)
  rw [Nat.sub_self] at hK
  have hR := reachB_path L t.P t.legs.l.length t.legs.l.length (Nat.le_refl _)
  rw [Nat.sub_self] at hR
  constructor
  · rintro ⟨x, hx, hh⟩
    rw [hK x (hst x hx)] at hh
    obtain ⟨p, p1, p2, p3⟩ := (hR x).1 hh
    refine ⟨p, by rw [p1]; exact hx, fun i hi => ?_, fun i hi => p3 i (Nat.zero_le _) hi⟩
    by_cases e : i = 0
    · rw [e, p1]; exact hst x hx
    · exact p2 i (by omega) hi
  · rintro ⟨p, p1, p2, p3⟩
    refine ⟨p 0, p1, ?_⟩
    rw [hK (p 0) (hst _ p1)]
    exact (hR _).2 ⟨p, rfl, fun i _ hi => p2 i hi, fun i _ hi => p3 i hi⟩

/-- The legs that a path breaks, up to leg n. -/
def brkP (L : Nat → Nat → Nat → Bool) (p : Nat → Nat) (n : Nat) : List Nat := (List.range n).filter fun k => !L k (p k) (p (k + 1))
theorem brkP_succ (L : Nat → Nat → Nat → Bool) (p : Nat → Nat) (n : Nat) : (brkP L p (n + 1)).length = (brkP L p n).length + cost (L n (p n) (p (n + 1))) := by
  unfold brkP cost
  rw [List.range_succ, List.filter_append]
  cases h : L n (p n) (p (n + 1)) <;> simp [h]
theorem brkTo_eq (L : Nat → Nat → Nat → Bool) (line : List Nat) (n : Nat) : brkTo L line n = brkP L (fun i => (line[i]?).getD 0) n := rfl

section
variable (L : Nat → Nat → Nat → Bool) (P : Nat) (st : List Nat)
theorem flr_brk (p : Nat → Nat) (N : Nat) (h0 : p 0 ∈ st) (hp : ∀ i, i ≤ N → p i < P) : ∀ k, k ≤ N → flr L P st k (p k) ≤ (brkP L p k).length
  | 0, _ => by rw [flr_zero]; simp [h0]
  | k + 1, hk => by
    have h1 := flr_brk p N h0 hp k (by omega)
    have h2 := flr_step L P st k (p k) (p (k + 1)) (hp k (by omega))
    rw [brkP_succ]; omega

theorem leastF_brk (p : Nat → Nat) (N : Nat) (h0 : p 0 ∈ st) (hp : ∀ i, i ≤ N → p i < P) : leastF L P st N ≤ (brkP L p N).length :=
  Nat.le_trans (fmin_le (flr L P st N) _ _ (p N) (by simpa using hp N (Nat.le_refl _))) (flr_brk L P st p N h0 hp N (Nat.le_refl _))

theorem yl_path : ∀ k g, g < P → flr L P st k g ≤ 10 → ∃ p : Nat → Nat, p k = g ∧ p 0 ∈ st ∧ (∀ i, i ≤ k → p i < P) ∧ ∀ i, i < k → L i (p i) (p (i + 1)) = true ∨ i ∈ yl L P st k g
  | 0, g, hg, h => by
    rw [flr_zero] at h
    split at h
    · rename_i e
      exact ⟨fun _ => g, rfl, by simpa using e, fun i hi => hg, fun i hi => by omega⟩
    · omega
  | k + 1, g, hg, h => by
    obtain ⟨h1, h2, -⟩ := fromOf_ok L P st k g h
    obtain ⟨p, p1, p2, p3, p4⟩ := yl_path k (fromOf L P st k g) h1 (by omega)
    refine ⟨fun i => if i ≤ k then p i else g, if_neg (by omega), by simpa using p2, fun i hi => ?_, fun i hi => ?_⟩
    · show (if i ≤ k then p i else g) < P
      split
      · exact p3 i (by assumption)
      · exact hg
    · show L i (if i ≤ k then p i else g) (if i + 1 ≤ k then p (i + 1) else g) = true ∨ _
      rw [if_pos (by omega : i ≤ k), yl_succ]
      by_cases e : i = k
      · subst e
        rw [if_neg (by omega), p1]
        cases hL : L i (fromOf L P st i g) g
        · right; simp
        · left; rfl
      · rw [if_pos (by omega)]
        rcases p4 i (by omega) with h5 | h5
        · exact .inl h5
        · exact .inr (List.mem_append_left _ h5)

theorem firstF_spec (N : Nat) (hs : ∃ s ∈ st, s < P) (hN : N ≤ 10) : firstF L P st N < P ∧ flr L P st N (firstF L P st N) = leastF L P st N ∧ leastF L P st N ≤ N := by
  obtain ⟨s, hs, hsP⟩ := hs
  obtain ⟨g, hg, hgN⟩ := flr_small L P st s hs hsP N
  have hl : leastF L P st N ≤ N := Nat.le_trans (fmin_le (flr L P st N) _ _ g (by simpa using hg)) hgN
  rcases fmin_hits (flr L P st N) (List.range P) 11 with e | ⟨f, hf, e⟩
  · have : leastF L P st N = 11 := e
    omega
  · have he : leastF L P st N = flr L P st N f := e
    obtain ⟨y, hy⟩ : ∃ y, (List.range P).find? (fun g => flr L P st N g == leastF L P st N) = some y := by
      cases hq : (List.range P).find? (fun g => flr L P st N g == leastF L P st N) with
      | none => have := List.find?_eq_none.1 hq f hf; simp [he] at this
      | some y => exact ⟨y, rfl⟩
    have h1 := List.mem_of_find?_eq_some hy
    have h2 := List.find?_some hy
    have h3 : firstF L P st N = y := by unfold firstF; rw [hy]; rfl
    rw [h3]
    exact ⟨by simpa using h1, by simpa using h2, hl⟩

theorem yieldL_length (N : Nat) (hs : ∃ s ∈ st, s < P) (hN : N ≤ 10) : (yieldL L P st N).length = leastF L P st N := by
  obtain ⟨h1, h2, h3⟩ := firstF_spec L P st N hs hN
  unfold yieldL
  rw [yl_length _ _ _ _ _ (by omega), h2]
theorem yieldL_path (N : Nat) (hs : ∃ s ∈ st, s < P) (hN : N ≤ 10) : ∃ p : Nat → Nat, p 0 ∈ st ∧ (∀ i, i ≤ N → p i < P) ∧ ∀ i, i < N → L i (p i) (p (i + 1)) = true ∨ i ∈ yieldL L P st N := by
  obtain ⟨h1, h2, h3⟩ := firstF_spec L P st N hs hN
  obtain ⟨p, -, p2, p3, p4⟩ := yl_path L P st N (firstF L P st N) h1 (by omega)
  exact ⟨p, p2, p3, p4⟩
end

theorem nodup_sub_length : ∀ {a b : List Nat}, a.Nodup → (∀ x ∈ a, x ∈ b) → a.length ≤ b.length
  | [], _, _, _ => Nat.zero_le _
  | x :: a, b, hn, hs => by
    have hx : x ∈ b := hs x (by simp)
    rw [List.nodup_cons] at hn
    have := nodup_sub_length (a := a) (b := b.erase x) hn.2 (fun y hy => by
      have hne : y ≠ x := fun e => hn.1 (e ▸ hy)
      exact (List.mem_erase_of_ne hne).2 (hs y (by simp [hy])))
    rw [List.length_erase_of_mem hx] at this
    have h1 : 0 < b.length := List.length_pos_of_mem hx
    simp only [List.length_cons]; omega

/-- Where legs can lead if some of them yield. -/
def yieldsL (ls : List Nat) (L : Nat → Nat → Nat → Bool) (k f g : Nat) : Bool := ls.contains k || L k f g
theorem yieldsL_nil (L : Nat → Nat → Nat → Bool) : yieldsL [] L = L := by funext k f g; simp [yieldsL]

theorem enough_le (t : TV) (L : Nat → Nat → Nat → Bool) (hst : ∀ x ∈ t.starts.l, x < t.P) (ls : List Nat) (h : hasB t (yieldsL ls L) = true) : leastF L t.P t.starts.l t.legs.l.length ≤ ls.length := by
  obtain ⟨p, p1, p2, p3⟩ := (hasB_path t _ hst).1 h
  refine Nat.le_trans (leastF_brk L _ _ p _ p1 p2) (nodup_sub_length (List.nodup_range.filter _) fun k hk => ?_)
  unfold brkP at hk
  rw [List.mem_filter, List.mem_range] at hk
  have := p3 k hk.1
  unfold yieldsL at this
  simp only [Bool.not_eq_true'] at hk
  rw [hk.2, Bool.or_false] at this
  simpa using this
theorem yield_enough (t : TV) (L : Nat → Nat → Nat → Bool) (hst : ∀ x ∈ t.starts.l, x < t.P) (h1 : 1 ≤ t.starts.l.length) (hN : t.legs.l.length ≤ 10) : hasB t (yieldsL (yieldL L t.P t.starts.l t.legs.l.length) L) = true := by
  have hs : ∃ s ∈ t.starts.l, s < t.P := ⟨t.starts.l[0], List.getElem_mem (by omega), hst _ (List.getElem_mem (by omega))⟩
  obtain ⟨p, p1, p2, p3⟩ := yieldL_path L t.P t.starts.l t.legs.l.length hs hN
  refine (hasB_path t _ hst).2 ⟨p, p1, p2, fun i hi => ?_⟩
  unfold yieldsL
  rcases p3 i hi with h | h
  · simp [h]
  · simp [h]
theorem few_zero (t : TV) (L : Nat → Nat → Nat → Bool) (hst : ∀ x ∈ t.starts.l, x < t.P) (h1 : 1 ≤ t.starts.l.length) (hN : t.legs.l.length ≤ 10) : leastF L t.P t.starts.l t.legs.l.length = 0 ↔ hasB t L = true := by
  have hs : ∃ s ∈ t.starts.l, s < t.P := ⟨t.starts.l[0], List.getElem_mem (by omega), hst _ (List.getElem_mem (by omega))⟩
  constructor
  · intro h
    have h2 := yield_enough t L hst h1 hN
    have h3 := yieldL_length L t.P t.starts.l t.legs.l.length hs hN
    rw [h] at h3
    rw [List.eq_nil_of_length_eq_zero h3, yieldsL_nil] at h2
    exact h2
  · intro h
    rw [← yieldsL_nil L] at h
    have := enough_le t L hst [] h
    simpa using this

/-- The best reading needs no more than any, and is one of them. -/
theorem bestR_spec (t : TV) : ∀ (l : List (List Nat)) (x : List Nat × Nat), (l.foldl (bestS t) x).2 ≤ x.2 ∧ (∀ r ∈ l, (l.foldl (bestS t) x).2 ≤ fewR t r) ∧ (l.foldl (bestS t) x = x ∨ ∃ r ∈ l, l.foldl (bestS t) x = (r, fewR t r))
  | [], x => ⟨Nat.le_refl _, fun r hr => absurd hr (by simp), .inl rfl⟩
  | r :: l, x => by
    obtain ⟨h1, h2, h3⟩ := bestR_spec t l (bestS t x r)
    have hb : (bestS t x r).2 ≤ x.2 ∧ (bestS t x r).2 ≤ fewR t r ∧ (bestS t x r = x ∨ bestS t x r = (r, fewR t r)) := by
      unfold bestS
      by_cases h : fewR t r < x.2
      · rw [if_pos h]; exact ⟨by simp only; omega, Nat.le_refl _, .inr rfl⟩
      · rw [if_neg h]; exact ⟨Nat.le_refl _, by omega, .inl rfl⟩
    rw [List.foldl_cons]
    refine ⟨Nat.le_trans h1 hb.1, fun q hq => ?_, ?_⟩
    · rcases List.mem_cons.1 hq with rfl | hq
      · exact Nat.le_trans h1 hb.2.1
      · exact h2 q hq
    · rcases h3 with h3 | ⟨q, hq, h3⟩
      · rcases hb.2.2 with hb | hb
        · exact .inl (h3.trans hb)
        · exact .inr ⟨r, by simp, h3.trans hb⟩
      · exact .inr ⟨q, by simp [hq], h3⟩

theorem valR_inj : ∀ {c r q : List Nat}, OkR c r → OkR c q → valR c r = valR c q → r = q
  | [], [], [], _, _, _ => rfl
  | c :: cs, r :: rs, q :: qs, hr, hq, h => by
    have h1 := (incR_ok hr.2).2.1
    have h2 := (incR_ok hq.2).2.1
    simp only [valR] at h
    have e : r = q := by
      rcases Nat.lt_trichotomy r q with h3 | h3 | h3
      · have := Nat.mul_le_mul_right (prodR cs) (show r + 1 ≤ q from h3)
        rw [Nat.add_mul, Nat.one_mul] at this; omega
      · exact h3
      · have := Nat.mul_le_mul_right (prodR cs) (show q + 1 ≤ r from h3)
        rw [Nat.add_mul, Nat.one_mul] at this; omega
    subst e
    rw [valR_inj hr.2 hq.2 (by omega)]
theorem seqR_mem {c : List Nat} : ∀ (n : Nat) {r q : List Nat}, OkR c r → OkR c q → valR c r ≤ valR c q → valR c q < valR c r + n → q ∈ seqR c n r
  | 0, r, q, _, _, _, h => by omega
  | n + 1, r, q, hr, hq, h1, h2 => by
    unfold seqR
    by_cases e : valR c r = valR c q
    · rw [valR_inj hr hq e]; simp
    · obtain ⟨g1, g2, g3, g4⟩ := incR_ok hr
      have g5 := (incR_ok hq).2.1
      rcases hi : incR c r with ⟨b, r'⟩
      rw [hi] at g1 g3 g4
      cases b with
      | true => have := (g3 rfl).1; omega
      | false =>
        have := g4 rfl
        simp only at this g1
        exact List.mem_cons_of_mem _ (seqR_mem n g1 hq (by omega) (by omega))
theorem rd_okR (t : TV) {r : List Nat} (h : RdOk t r) : OkR (cntR t) r := by
  obtain ⟨h1, h2⟩ := h
  unfold cntR
  generalize t.words.l = ws at *
  induction ws generalizing r with
  | nil => have : r = [] := List.eq_nil_of_length_eq_zero (by simpa using h1)
           subst this; trivial
  | cons x ws ih =>
    cases r with
    | nil => simp at h1
    | cons y r =>
      refine ⟨h2 0 (by simp) (by simp), ih (by simpa using h1) fun k hk hk' => ?_⟩
      have := h2 (k + 1) (by simpa using hk) (by simpa using hk')
      simpa using this
theorem rd_all {t : TV} (hk : OkT t) {r : List Nat} (h : RdOk t r) : r ∈ allR (cntR t) := by
  have h1 := rd_okR t h
  have hz : OkR (cntR t) (List.replicate (cntR t).length 0) := okR_zero (c := cntR t) (fun x hx => by
    simp only [cntR, List.mem_map] at hx; obtain ⟨s, hs, rfl⟩ := hx; have := (hk.word s hs).1; omega)
  exact seqR_mem _ hz h1 (by rw [valR_zero]; omega) (by rw [valR_zero]; have := (incR_ok h1).2.1; omega)
theorem few_le (t : TV) (hk : OkT t) (r : List Nat) : fewR t r ≤ t.legs.l.length :=
  (firstF_spec (leadsOf t r) t.P t.starts.l t.legs.l.length ⟨t.starts.l[0]'(by have := hk.starts1; omega), List.getElem_mem _, hk.start.1 _ (List.getElem_mem _)⟩ hk.legs).2.2
theorem best_few (t : TV) (hk : OkT t) : RdOk t (bestR t (allR (cntR t))).1 ∧ (bestR t (allR (cntR t))).2 = fewR t (bestR t (allR (cntR t))).1 ∧ ∀ r, RdOk t r → (bestR t (allR (cntR t))).2 ≤ fewR t r := by
  obtain ⟨h1, h2, h3⟩ := bestR_spec t (allR (cntR t)) ([], t.legs.l.length + 1)
  have hm : ∀ r, RdOk t r → (bestR t (allR (cntR t))).2 ≤ fewR t r := fun r hr => h2 r (rd_all hk hr)
  rcases h3 with h3 | ⟨r, hr, h3⟩
  · have hz : OkR (cntR t) (List.replicate (cntR t).length 0) := okR_zero (c := cntR t) (fun x hx => by
      simp only [cntR, List.mem_map] at hx; obtain ⟨s, hs, rfl⟩ := hx; have := (hk.word s hs).1; omega)
    have hin : List.replicate (cntR t).length 0 ∈ allR (cntR t) := seqR_mem _ hz hz (Nat.le_refl _) (by have := (incR_ok hz).2.1; rw [valR_zero] at *; omega)
    have h4 := h2 _ hin
    rw [h3] at h4
    have := few_le t hk (List.replicate (cntR t).length 0)
    simp only at h4; omega
  · have e : bestR t (allR (cntR t)) = (r, fewR t r) := h3
    rw [e]
    refine ⟨allR_rd hk hr, rfl, fun q hq => ?_⟩
    have := hm q hq
    rw [e] at this; exact this
end Go.Proofs.YtdejaliegbmgaaaGreat
