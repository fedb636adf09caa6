/-
  Lines as paths: what open marks, and what floors and the legs that yield, say of paths; and which readings there are. Mathematics alone: nothing is claimed of the program here.
  The lines of a treaty as lists that keep all legs, each once; a treaty that is parted at a leg: its lines are pairs of lines of both parts, and no fewer legs yield in it than in both. Mathematics alone: nothing is claimed of the program here.
  The lines of a reading stand in the order of lists; all lines of a treaty, each once.
-/
import Derived.Test.YtopjjcgmcieboaaGreatDoorIj
import Derived.Test.YtopjjcgmcieboaaGreatDoorJoa
import Derived.Test.YtopjjcgmcieboaaGreatDoorZc
namespace Go.Proofs.YtopjjcgmcieboaaGreatDoor

theorem openS_spec (N : Nat) : ∀ n f t, openS N n f t = (decide (f = N) && decide (t < n))
  | 0, f, t => by simp [openS]
  | n + 1, f, t => by
    show upd (openS N n) N n true f t = _
    unfold upd
    by_cases e : f = N ∧ t = n
    · rw [if_pos e]; simp [e.1, e.2]
    · rw [if_neg e, openS_spec N n f t]
      by_cases h1 : f = N
      · simp only [h1, decide_true, Bool.true_and]
        have : t ≠ n := fun h => e ⟨h1, h⟩
        by_cases h2 : t < n
        · simp [h2]; omega
        · simp [h2]; omega
      · simp [h1]

theorem openG_spec (L : Nat → Nat → Nat → Bool) (q f : Nat) (O : Nat → Nat → Bool) : ∀ n q' f', openG L q f n O q' f' = if q' = q ∧ f' = f then (O q f || (List.range n).any fun g => O (q + 1) g && L q f g) else O q' f'
  | 0, q', f' => by
    by_cases e : q' = q ∧ f' = f
    · rw [if_pos e]; simp [openG, e.1, e.2]
    · rw [if_neg e]; rfl
  | n + 1, q', f' => by
    rw [openG_succ, openG_spec L q f O n (q + 1) n, if_neg (show ¬ (q + 1 = q ∧ n = f) by omega), List.range_succ, List.any_append]
    by_cases hc : (O (q + 1) n && L q f n) = true
    · rw [if_pos hc]
      unfold upd
      by_cases e : q' = q ∧ f' = f
      · rw [if_pos e, if_pos e]; simp [hc]
      · rw [if_neg e, if_neg e, openG_spec L q f O n q' f', if_neg e]
    · rw [if_neg hc, openG_spec L q f O n q' f']
      have hc' : (O (q + 1) n && L q f n) = false := by simpa using hc
      by_cases e : q' = q ∧ f' = f
      · rw [if_pos e, if_pos e]; simp only [List.any_cons, List.any_nil, hc', Bool.or_false]
      · rw [if_neg e, if_neg e]

theorem openF_spec (L : Nat → Nat → Nat → Bool) (P q : Nat) (O : Nat → Nat → Bool) : ∀ n q' f', openF L P q n O q' f' = if q' = q ∧ f' < n then (O q f' || (List.range P).any fun g => O (q + 1) g && L q f' g) else O q' f'
  | 0, q', f' => by rw [if_neg (by omega)]; rfl
  | n + 1, q', f' => by
    show openG L q n P (openF L P q n O) q' f' = _
    rw [openG_spec]
    have h1 : ∀ g, openF L P q n O (q + 1) g = O (q + 1) g := fun g => by rw [openF_spec L P q O n, if_neg (by omega)]
    have h2 : openF L P q n O q n = O q n := by rw [openF_spec L P q O n, if_neg (by omega)]
    by_cases e : q' = q ∧ f' = n
    · rw [if_pos e, if_pos ⟨e.1, by omega⟩, h2, e.2]; simp only [h1]
    · rw [if_neg e, openF_spec L P q O n q' f']
      by_cases e2 : q' = q ∧ f' < n
      · rw [if_pos e2, if_pos ⟨e2.1, by omega⟩]
      · rw [if_neg e2, if_neg (by omega)]

/-- Whether a line can go on from a place and keep the last n legs. -/
def reachB (L : Nat → Nat → Nat → Bool) (P N : Nat) : Nat → Nat → Bool
  | 0, _ => true
  | n + 1, f => (List.range P).any fun g => reachB L P N n g && L (N - (n + 1)) f g

theorem openK_spec (L : Nat → Nat → Nat → Bool) (P N : Nat) : ∀ n, n ≤ N → (∀ j, j ≤ n → ∀ f, f < P → openK L P N n (N - j) f = reachB L P N j f) ∧ ∀ q, q < N - n → ∀ f, openK L P N n q f = false
  | 0, _ => by
    refine ⟨fun j hj f hf => ?_, fun q hq f => ?_⟩
    · have : j = 0 := by omega
      subst this
      show openS N P (N - 0) f = true
      rw [openS_spec]; simp [hf]
    · show openS N P q f = false
      rw [openS_spec]
      have : q ≠ N := by omega
      simp [this]
  | n + 1, hn => by
    obtain ⟨h1, h2⟩ := openK_spec L P N n (by omega)
    have he : ∀ q' f', openK L P N (n + 1) q' f' = _ := fun q' f' => openF_spec L P (N - (n + 1)) (openK L P N n) P q' f'
    refine ⟨fun j hj f hf => ?_, fun q hq f => ?_⟩
    · rw [he]
      by_cases e : j = n + 1
      · subst e
        rw [if_pos ⟨rfl, hf⟩, h2 _ (by omega), Bool.false_or, show N - (n + 1) + 1 = N - n by omega]
        show _ = (List.range P).any fun g => reachB L P N n g && L (N - (n + 1)) f g
        rw [Bool.eq_iff_iff, List.any_eq_true, List.any_eq_true]
        constructor
        · rintro ⟨g, hg, hh⟩; exact ⟨g, hg, by rw [h1 n (Nat.le_refl _) g (by simpa using hg)] at hh; exact hh⟩
        · rintro ⟨g, hg, hh⟩; exact ⟨g, hg, by rw [h1 n (Nat.le_refl _) g (by simpa using hg)]; exact hh⟩
      · rw [if_neg (by omega)]; exact h1 j (by omega) f hf
    · rw [he, if_neg (by omega)]; exact h2 q (by omega) f

theorem reachB_path (L : Nat → Nat → Nat → Bool) (P N : Nat) : ∀ n, n ≤ N → ∀ f, reachB L P N n f = true ↔ ∃ p : Nat → Nat, p (N - n) = f ∧ (∀ i, N - n < i → i ≤ N → p i < P) ∧ ∀ i, N - n ≤ i → i < N → L i (p i) (p (i + 1)) = true
  | 0, _, f => by
    constructor
    · intro _; exact ⟨fun _ => f, rfl, fun i h1 h2 => by omega, fun i h1 h2 => by omega⟩
    · intro _; rfl
  | n + 1, hn, f => by
    have ih := reachB_path L P N n (by omega)
    show ((List.range P).any fun g => reachB L P N n g && L (N - (n + 1)) f g) = true ↔ _
    rw [List.any_eq_true]
    constructor
    · rintro ⟨g, hg, hh⟩
      rw [Bool.and_eq_true] at hh
      obtain ⟨p, p1, p2, p3⟩ := (ih g).1 hh.1
      have hgP : g < P := by simpa using hg
      refine ⟨fun i => if i ≤ N - (n + 1) then f else p i, by simp, fun i h1 h2 => ?_, fun i h1 h2 => ?_⟩
      · show (if i ≤ N - (n + 1) then f else p i) < P
        rw [if_neg (by omega)]
        by_cases e : i = N - n
        · rw [e, p1]; exact hgP
        · exact p2 i (by omega) h2
      · show L i (if i ≤ N - (n + 1) then f else p i) (if i + 1 ≤ N - (n + 1) then f else p (i + 1)) = true
        rw [if_neg (by omega : ¬ i + 1 ≤ N - (n + 1))]
        by_cases e : i = N - (n + 1)
        · rw [if_pos (by omega), show i + 1 = N - n by omega, p1, e]; exact hh.2
        · rw [if_neg (by omega)]; exact p3 i (by omega) h2
    · rintro ⟨p, p1, p2, p3⟩
      refine ⟨p (N - n), by simpa using p2 (N - n) (by omega) (by omega), ?_⟩
      rw [Bool.and_eq_true]
      refine ⟨(ih _).2 ⟨p, rfl, fun i h1 h2 => p2 i (by omega) h2, fun i h1 h2 => p3 i (by omega) h2⟩, ?_⟩
      have := p3 (N - (n + 1)) (Nat.le_refl _) (by omega)
      rw [p1, show N - (n + 1) + 1 = N - n by omega] at this
      exact this

/-- Some line keeps all legs: a path does. -/
theorem hasB_path (t : TV) (L : Nat → Nat → Nat → Bool) (hst : ∀ x ∈ t.starts.l, x < t.P) : hasB t L = true ↔ ∃ p : Nat → Nat, p 0 ∈ t.starts.l ∧ (∀ i, i ≤ t.legs.l.length → p i < t.P) ∧ ∀ i, i < t.legs.l.length → L i (p i) (p (i + 1)) = true := by
  unfold hasB
  rw [List.any_eq_true]
  have hK := (openK_spec L t.P t.legs.l.length t.legs.l.length (Nat.le_refl _)).1 t.legs.l.length (Nat.le_refl _)
  rw [Nat.sub_self] at hK
  have hR := reachB_path L t.P t.legs.l.length t.legs.l.length (Nat.le_refl _)
  rw [Nat.sub_self] at hR
  constructor
  · rintro ⟨x, hx, hh⟩
    rw [hK x (hst x hx)] at hh
    obtain ⟨p, p1, p2, p3⟩ := (hR x).1 hh
    refine ⟨p, by rw [p1]; exact hx, fun i hi => ?_, fun i hi => p3 i (Nat.zero_le _) hi⟩
    by_cases e : i = 0
    · rw [e, p1]; exact hst x hx
    · exact p2 i (by omega) hi
  · rintro ⟨p, p1, p2, p3⟩
    refine ⟨p 0, p1, ?_⟩
    rw [hK (p 0) (hst _ p1)]
    exact (hR _).2 ⟨p, rfl, fun i _ hi => p2 i hi, fun i _ hi => p3 i hi⟩

/-- The legs that a path breaks, up to leg n. -/
def brkP (L : Nat → Nat → Nat → Bool) (p : Nat → Nat) (n : Nat) : List Nat := (List.range n).filter fun k => !L k (p k) (p (k + 1))
theorem brkP_succ (L : Nat → Nat → Nat → Bool) (p : Nat → Nat) (n : Nat) : (brkP L p (n + 1)).length = (brkP L p n).length + cost (L n (p n) (p (n + 1))) := by
  unfold brkP cost
  rw [List.range_succ, List.filter_append]
  cases h : L n (p n) (p (n + 1)) <;> simp [h]
theorem brkTo_eq (L : Nat → Nat → Nat → Bool) (line : List Nat) (n : Nat) : brkTo L line n = brkP L (fun i => (line[i]?).getD 0) n := rfl

section
variable (L : Nat → Nat → Nat → Bool) (P : Nat) (st : List Nat)
theorem flr_brk (p : Nat → Nat) (N : Nat) (h0 : p 0 ∈ st) (hp : ∀ i, i ≤ N → p i < P) : ∀ k, k ≤ N → flr L P st k (p k) ≤ (brkP L p k).length
  | 0, _ => by rw [flr_zero]; simp [h0]
  | k + 1, hk => by
    have h1 := flr_brk p N h0 hp k (by omega)
    have h2 := flr_step L P st k (p k) (p (k + 1)) (hp k (by omega))
    rw [brkP_succ]; omega

theorem leastF_brk (p : Nat → Nat) (N : Nat) (h0 : p 0 ∈ st) (hp : ∀ i, i ≤ N → p i < P) : leastF L P st N ≤ (brkP L p N).length :=
  Nat.le_trans (fmin_le (flr L P st N) _ _ (p N) (by simpa using hp N (Nat.le_refl _))) (flr_brk L P st p N h0 hp N (Nat.le_refl _))

theorem yl_path : ∀ k g, g < P → flr L P st k g ≤ 10 → ∃ p : Nat → Nat, p k = g ∧ p 0 ∈ st ∧ (∀ i, i ≤ k → p i < P) ∧ ∀ i, i < k → L i (p i) (p (i + 1)) = true ∨ i ∈ yl L P st k g
  | 0, g, hg, h => by
    rw [flr_zero] at h
    split at h
    · rename_i e
      exact ⟨fun _ => g, rfl, by simpa using e, fun i hi => hg, fun i hi => by omega⟩
    · omega
  | k + 1, g, hg, h => by
    obtain ⟨h1, h2, -⟩ := fromOf_ok L P st k g h
    obtain ⟨p, p1, p2, p3, p4⟩ := yl_path k (fromOf L P st k g) h1 (by omega)
    refine ⟨fun i => if i ≤ k then p i else g, if_neg (by omega), by simpa using p2, fun i hi => ?_, fun i hi => ?_⟩
    · show (if i ≤ k then p i else g) < P
      split
      · exact p3 i (by assumption)
      · exact hg
    · show L i (if i ≤ k then p i else g) (if i + 1 ≤ k then p (i + 1) else g) = true ∨ _
      rw [if_pos (by omega : i ≤ k), yl_succ]
      by_cases e : i = k
      · subst e
        rw [if_neg (by omega), p1]
        cases hL : L i (fromOf L P st i g) g
        · right; simp
        · left; rfl
      · rw [if_pos (by omega)]
        rcases p4 i (by omega) with h5 | h5
        · exact .inl h5
        · exact .inr (List.mem_append_left _ h5)

theorem firstF_spec (N : Nat) (hs : ∃ s ∈ st, s < P) (hN : N ≤ 10) : firstF L P st N < P ∧ flr L P st N (firstF L P st N) = leastF L P st N ∧ leastF L P st N ≤ N := by
  obtain ⟨s, hs, hsP⟩ := hs
  obtain ⟨g, hg, hgN⟩ := flr_small L P st s hs hsP N
  have hl : leastF L P st N ≤ N := Nat.le_trans (fmin_le (flr L P st N) _ _ g (by simpa using hg)) hgN
  rcases fmin_hits (flr L P st N) (List.range P) 11 with e | ⟨f, hf, e⟩
  · have : leastF L P st N = 11 := e
    omega
  · have he : leastF L P st N = flr L P st N f := e
    obtain ⟨y, hy⟩ : ∃ y, (List.range P).find? (fun g => flr L P st N g == leastF L P st N) = some y := by
      cases hq : (List.range P).find? (fun g => flr L P st N g == leastF L P st N) with
      | none => have := List.find?_eq_none.1 hq f hf; simp [he] at this
      | some y => exact ⟨y, rfl⟩
    have h1 := List.mem_of_find?_eq_some hy
    have h2 := List.find?_some hy
    have h3 : firstF L P st N = y := by unfold firstF; rw [hy]; rfl
    rw [h3]
    exact ⟨by simpa using h1, by simpa using h2, hl⟩

theorem yieldL_length (N : Nat) (hs : ∃ s ∈ st, s < P) (hN : N ≤ 10) : (yieldL L P st N).length = leastF L P st N := by
  obtain ⟨h1, h2, h3⟩ := firstF_spec L P st N hs hN
  unfold yieldL
  rw [yl_length _ _ _ _ _ (by omega), h2]
theorem yieldL_path (N : Nat) (hs : ∃ s ∈ st, s < P) (hN : N ≤ 10) : ∃ p : Nat → Nat, p 0 ∈ st ∧ (∀ i, i ≤ N → p i < P) ∧ ∀ i, i < N → L i (p i) (p (i + 1)) = true ∨ i ∈ yieldL L P st N := by
  obtain ⟨h1, h2, h3⟩ := firstF_spec L P st N hs hN
  obtain ⟨p, -, p2, p3, p4⟩ := yl_path L P st N (firstF L P st N) h1 (by omega)
  exact ⟨p, p2, p3, p4⟩
end

theorem nodup_sub_length : ∀ {a b : List Nat}, a.Nodup → (∀ x ∈ a, x ∈ b) → a.length ≤ b.length
  | [], _, _, _ => Nat.zero_le _
  | x :: a, b, hn, hs => by
    have hx : x ∈ b := hs x (by simp)
    rw [List.nodup_cons] at hn
    have := nodup_sub_length (a := a) (b := b.erase x) hn.2 (fun y hy => by
      have hne : y ≠ x := fun e => hn.1 (e ▸ hy)
      exact (List.mem_erase_of_ne hne).2 (hs y (by simp [hy])))
    rw [List.length_erase_of_mem hx] at this
    have h1 : 0 < b.length := List.length_pos_of_mem hx
    simp only [List.length_cons]; omega

/-- Where legs can lead if some of them yield. -/
def yieldsL (ls : List Nat) (L : Nat → Nat → Nat → Bool) (k f g : Nat) : Bool := ls.contains k || L k f g
theorem yieldsL_nil (L : Nat → Nat → Nat → Bool) : yieldsL [] L = L := by funext k f g; simp [yieldsL]

theorem enough_le (t : TV) (L : Nat → Nat → Nat → Bool) (hst : ∀ x ∈ t.starts.l, x < t.P) (ls : List Nat) (h : hasB t (yieldsL ls L) = true) : leastF L t.P t.starts.l t.legs.l.length ≤ ls.length := by
  obtain ⟨p, p1, p2, p3⟩ := (hasB_path t _ hst).1 h
  refine Nat.le_trans (leastF_brk L _ _ p _ p1 p2) (nodup_sub_length (List.nodup_range.filter _) fun k hk => ?_)
  unfold brkP at hk
  rw [List.mem_filter, List.mem_range] at hk
  have := p3 k hk.1
  unfold yieldsL at this
  simp only [Bool.not_eq_true'] at hk
  rw [hk.2, Bool.or_false] at this
  simpa using this
theorem yield_enough (t : TV) (L : Nat → Nat → Nat → Bool) (hst : ∀ x ∈ t.starts.l, x < t.P) (h1 : 1 ≤ t.starts.l.length) (hN : t.legs.l.length ≤ 10) : hasB t (yieldsL (yieldL L t.P t.starts.l t.legs.l.length) L) = true := by
  have hs : ∃ s ∈ t.starts.l, s < t.P := ⟨t.starts.l[0], List.getElem_mem (by omega), hst _ (List.getElem_mem (by omega))⟩
  obtain ⟨p, p1, p2, p3⟩ := yieldL_path L t.P t.starts.l t.legs.l.length hs hN
  refine (hasB_path t _ hst).2 ⟨p, p1, p2, fun i hi => ?_⟩
  unfold yieldsL
  rcases p3 i hi with h | h
  · simp [h]
  · simp [h]
theorem few_zero (t : TV) (L : Nat → Nat → Nat → Bool) (hst : ∀ x ∈ t.starts.l, x < t.P) (h1 : 1 ≤ t.starts.l.length) (hN : t.legs.l.length ≤ 10) : leastF L t.P t.starts.l t.legs.l.length = 0 ↔ hasB t L = true := by
  have hs : ∃ s ∈ t.starts.l, s < t.P := ⟨t.starts.l[0], List.getElem_mem (by omega), hst _ (List.getElem_mem (by omega))⟩
  constructor
  · intro h
    have h2 := yield_enough t L hst h1 hN
    have h3 := yieldL_length L t.P t.starts.l t.legs.l.length hs hN
    rw [h] at h3
    rw [List.eq_nil_of_length_eq_zero h3, yieldsL_nil] at h2
    exact h2
  · intro h
    rw [← yieldsL_nil L] at h
    have := enough_le t L hst [] h
    simpa using this

/-- The best reading needs no more than any, and is one of them. -/
theorem bestR_spec (t : TV) : ∀ (l : List (List Nat)) (x : List Nat × Nat), (l.foldl (bestS t) x).2 ≤ x.2 ∧ (∀ r ∈ l, (l.foldl (bestS t) x).2 ≤ fewR t r) ∧ (l.foldl (bestS t) x = x ∨ ∃ r ∈ l, l.foldl (bestS t) x = (r, fewR t r))
  | [], x => ⟨Nat.le_refl _, fun r hr => absurd hr (by simp), .inl rfl⟩
  | r :: l, x => by
    obtain ⟨h1, h2, h3⟩ := bestR_spec t l (bestS t x r)
    have hb : (bestS t x r).2 ≤ x.2 ∧ (bestS t x r).2 ≤ fewR t r ∧ (bestS t x r = x ∨ bestS t x r = (r, fewR t r)) := by
      unfold bestS
      by_cases h : fewR t r < x.2
      · rw [if_pos h]; exact ⟨by simp only; omega, Nat.le_refl _, .inr rfl⟩
      · rw [if_neg h]; exact ⟨Nat.le_refl _, by omega, .inl rfl⟩
    rw [List.foldl_cons]
    refine ⟨Nat.le_trans h1 hb.1, fun q hq => ?_, ?_⟩
    · rcases List.mem_cons.1 hq with rfl | hq
      · exact Nat.le_trans h1 hb.2.1
      · exact h2 q hq
    · rcases h3 with h3 | ⟨q, hq, h3⟩
      · rcases hb.2.2 with hb | hb
        · exact .inl (h3.trans hb)
        · exact .inr ⟨r, by simp, h3.trans hb⟩
      · exact .inr ⟨q, by simp [hq], h3⟩

theorem valR_inj : ∀ {c r q : List Nat}, OkR c r → OkR c q → valR c r = valR c q → r = q
  | [], [], [], _, _, _ => rfl
  | c :: cs, r :: rs, q :: qs, hr, hq, h => by
    have h1 := (incR_ok hr.2).2.1
    have h2 := (incR_ok hq.2).2.1
    simp only [valR] at h
    have e : r = q := by
      rcases Nat.lt_trichotomy r q with h3 | h3 | h3
      · have := Nat.mul_le_mul_right (prodR cs) (show r + 1 ≤ q from h3)
        rw [Nat.add_mul, Nat.one_mul] at this; omega
      · exact h3
      · have := Nat.mul_le_mul_right (prodR cs) (show q + 1 ≤ r from h3)
        rw [Nat.add_mul, Nat.one_mul] at this; omega
    subst e
    rw [valR_inj hr.2 hq.2 (by omega)]
theorem seqR_mem {c : List Nat} : ∀ (n : Nat) {r q : List Nat}, OkR c r → OkR c q → valR c r ≤ valR c q → valR c q < valR c r + n → q ∈ seqR c n r
  | 0, r, q, _, _, _, h => by omega
  | n + 1, r, q, hr, hq, h1, h2 => by
    unfold seqR
    by_cases e : valR c r = valR c q
    · rw [valR_inj hr hq e]; simp
    · obtain ⟨g1, g2, g3, g4⟩ := incR_ok hr
      have g5 := (incR_ok hq).2.1
      rcases hi : incR c r with ⟨b, r'⟩
      rw [hi] at g1 g3 g4
      cases b with
      | true => have := (g3 rfl).1; omega
      | false =>
        have := g4 rfl
        simp only at this g1
        exact List.mem_cons_of_mem _ (seqR_mem n g1 hq (by omega) (by omega))
theorem rd_okR (t : TV) {r : List Nat} (h : RdOk t r) : OkR (cntR t) r := by
  obtain ⟨h1, h2⟩ := h
  unfold cntR
  generalize t.words.l = ws at *
  induction ws generalizing r with
  | nil => have : r = [] := List.eq_nil_of_length_eq_zero (by simpa using h1)
           subst this; trivial
  | cons x ws ih =>
    cases r with
    | nil => simp at h1
    | cons y r =>
      refine ⟨h2 0 (by simp) (by simp), ih (by simpa using h1) fun k hk hk' => ?_⟩
      have := h2 (k + 1) (by simpa using hk) (by simpa using hk')
      simpa using this
theorem rd_all {t : TV} (hk : OkT t) {r : List Nat} (h : RdOk t r) : r ∈ allR (cntR t) := by
  have h1 := rd_okR t h
  have hz : OkR (cntR t) (List.replicate (cntR t).length 0) := okR_zero (c := cntR t) (fun x hx => by
    simp only [cntR, List.mem_map] at hx; obtain ⟨s, hs, rfl⟩ := hx; have := (hk.word s hs).1; omega)
  exact seqR_mem _ hz h1 (by rw [valR_zero]; omega) (by rw [valR_zero]; have := (incR_ok h1).2.1; omega)
theorem few_le (t : TV) (hk : OkT t) (r : List Nat) : fewR t r ≤ t.legs.l.length :=
  (firstF_spec (leadsOf t r) t.P t.starts.l t.legs.l.length ⟨t.starts.l[0]'(by have := hk.starts1; omega), List.getElem_mem _, hk.start.1 _ (List.getElem_mem _)⟩ hk.legs).2.2
theorem best_few (t : TV) (hk : OkT t) : RdOk t (bestR t (allR (cntR t))).1 ∧ (bestR t (allR (cntR t))).2 = fewR t (bestR t (allR (cntR t))).1 ∧ ∀ r, RdOk t r → (bestR t (allR (cntR t))).2 ≤ fewR t r := by
  obtain ⟨h1, h2, h3⟩ := bestR_spec t (allR (cntR t)) ([], t.legs.l.length + 1)
  have hm : ∀ r, RdOk t r → (bestR t (allR (cntR t))).2 ≤ fewR t r := fun r hr => h2 r (rd_all hk hr)
  rcases h3 with h3 | ⟨r, hr, h3⟩
  · have hz : OkR (cntR t) (List.replicate (cntR t).length 0) := okR_zero (c := cntR t) (fun x hx => by
      simp only [cntR, List.mem_map] at hx; obtain ⟨s, hs, rfl⟩ := hx; have := (hk.word s hs).1; omega)
    have hin : List.replicate (cntR t).length 0 ∈ allR (cntR t) := seqR_mem _ hz hz (Nat.le_refl _) (by have := (incR_ok hz).2.1; rw [valR_zero] at *; omega)
    have h4 := h2 _ hin
    rw [h3] at h4
    have := few_le t hk (List.replicate (cntR t).length 0)
    simp only at h4; omega
  · have e : bestR t (allR (cntR t)) = (r, fewR t r) := h3
    rw [e]
    refine ⟨allR_rd hk hr, rfl, fun q hq => ?_⟩
    have := hm q hq
    rw [e] at this; exact this
end Go.Proofs.YtopjjcgmcieboaaGreatDoor

namespace Go.Proofs.YtopjjcgmcieboaaGreatDoor

/-- Number i of a list. -/
def gt (l : List Nat) (i : Nat) : Nat := (l[i]?).getD 0
theorem gt_cons_zero (x : Nat) (l : List Nat) : gt (x :: l) 0 = x := rfl
theorem gt_cons_succ (x : Nat) (l : List Nat) (i : Nat) : gt (x :: l) (i + 1) = gt l i := by simp [gt]
theorem gt_take (l : List Nat) (k i : Nat) (h : i < k) : gt (l.take k) i = gt l i := by simp [gt, h]
theorem gt_drop (l : List Nat) (k i : Nat) : gt (l.drop k) i = gt l (k + i) := by simp [gt, List.getElem?_drop]

/-- A list keeps all of the last k of N legs, from a place on. -/
def LineFrom (L : Nat → Nat → Nat → Bool) (P N k : Nat) (l : List Nat) : Prop :=
  l.length = k + 1 ∧ (∀ i, 1 ≤ i → i ≤ k → gt l i < P) ∧ ∀ i, i < k → L (N - k + i) (gt l i) (gt l (i + 1)) = true

theorem lineFrom_reach (L : Nat → Nat → Nat → Bool) (P N k : Nat) (hk : k ≤ N) (l : List Nat) (h : LineFrom L P N k l) : reachB L P N k (gt l 0) = true := by
  refine (reachB_path L P N k hk _).2 ⟨fun i => gt l (i - (N - k)), by simp, fun i h1 h2 => h.2.1 _ (by omega) (by omega), fun i h1 h2 => ?_⟩
  have := h.2.2 (i - (N - k)) (by omega)
  rw [show N - k + (i - (N - k)) = i by omega] at this
  show L i (gt l (i - (N - k))) (gt l (i + 1 - (N - k))) = true
  rw [show i + 1 - (N - k) = i - (N - k) + 1 by omega]
  exact this

theorem mem_lnF (L : Nat → Nat → Nat → Bool) (P N : Nat) : ∀ k, k ≤ N → ∀ p l, l ∈ lnF L P N k p ↔ gt l 0 = p ∧ LineFrom L P N k l
  | 0, _, p, l => by
    show l ∈ [[p]] ↔ _
    rw [List.mem_singleton]
    constructor
    · rintro rfl; exact ⟨rfl, rfl, fun i h1 h2 => by omega, fun i h => by omega⟩
    · rintro ⟨h1, h2, -⟩
      match l, h2 with
      | [x], _ => rw [gt_cons_zero] at h1; rw [h1]
  | k + 1, hk, p, l => by
    have ih := mem_lnF L P N k (by omega)
    have hO := (openK_spec L P N N (Nat.le_refl _)).1 k (by omega)
    show l ∈ ((List.range P).flatMap fun q => if openK L P N N (N - (k + 1) + 1) q && L (N - (k + 1)) p q then lnF L P N k q else []).map (p :: ·) ↔ _
    rw [show N - (k + 1) + 1 = N - k by omega, List.mem_map]
    constructor
    · rintro ⟨m, hm, rfl⟩
      rw [List.mem_flatMap] at hm
      obtain ⟨q, hq, hm⟩ := hm
      have hqP : q < P := by simpa using hq
      split at hm
      · rename_i hc
        rw [Bool.and_eq_true] at hc
        obtain ⟨g1, g2, g3, g4⟩ := (ih q m).1 hm
        refine ⟨gt_cons_zero _ _, by simp [g2], fun i h1 h2 => ?_, fun i hi => ?_⟩
        · obtain ⟨j, rfl⟩ : ∃ j, i = j + 1 := ⟨i - 1, by omega⟩
          rw [gt_cons_succ]
          by_cases e : j = 0
          · rw [e, g1]; exact hqP
          · exact g3 j (by omega) (by omega)
        · cases i with
          | zero => rw [gt_cons_zero, gt_cons_succ, g1]; exact hc.2
          | succ i =>
            rw [gt_cons_succ, gt_cons_succ]
            have := g4 i (by omega)
            rwa [show N - k + i = N - (k + 1) + (i + 1) by omega] at this
      · simp at hm
    · rintro ⟨h1, h2, h3, h4⟩
      match l, h2 with
      | x :: m, h2 =>
        rw [gt_cons_zero] at h1
        subst h1
        refine ⟨m, ?_, rfl⟩
        have hm : LineFrom L P N k m := by
          refine ⟨by simpa using h2, fun i g1 g2 => ?_, fun i hi => ?_⟩
          · have := h3 (i + 1) (by omega) (by omega); rwa [gt_cons_succ] at this
          · have := h4 (i + 1) (by omega)
            rw [gt_cons_succ, gt_cons_succ] at this
            rwa [show N - (k + 1) + (i + 1) = N - k + i by omega] at this
        have hP : gt m 0 < P := by have := h3 1 (by omega) (by omega); rwa [gt_cons_succ] at this
        rw [List.mem_flatMap]
        refine ⟨gt m 0, by simpa using hP, ?_⟩
        have hL := h4 0 (by omega)
        rw [gt_cons_zero, gt_cons_succ, Nat.add_zero] at hL
        rw [if_pos (by rw [hO _ hP, lineFrom_reach L P N k (by omega) m hm, hL]; rfl)]
        exact (ih _ m).2 ⟨rfl, hm⟩

theorem nodup_lnF (L : Nat → Nat → Nat → Bool) (P N : Nat) : ∀ k, k ≤ N → ∀ p, (lnF L P N k p).Nodup
  | 0, _, p => by show ([[p]] : List (List Nat)).Nodup; simp
  | k + 1, hk, p => by
    show (((List.range P).flatMap fun q => if openK L P N N (N - (k + 1) + 1) q && L (N - (k + 1)) p q then lnF L P N k q else []).map (p :: ·)).Nodup
    unfold List.Nodup
    rw [List.pairwise_map, List.pairwise_flatMap]
    refine ⟨fun q hq => ?_, ?_⟩
    · split
      · exact (nodup_lnF L P N k (by omega) q).imp fun h e => h (by simpa using e)
      · exact List.Pairwise.nil
    · refine (List.nodup_range (n := P)).imp fun {a b} hab x hx y hy e => hab ?_
      have e' : x = y := by simpa using e
      split at hx
      · split at hy
        · have h1 := ((mem_lnF L P N k (by omega) _ _).1 hx).1
          have h2 := ((mem_lnF L P N k (by omega) _ _).1 hy).1
          rw [← h1, ← h2, e']
        · simp at hy
      · simp at hx

/-- A line that keeps all N legs, from one of the starts on. -/
def LineOk (L : Nat → Nat → Nat → Bool) (P N : Nat) (st l : List Nat) : Prop :=
  l.length = N + 1 ∧ gt l 0 ∈ st ∧ (∀ i, i ≤ N → gt l i < P) ∧ ∀ i, i < N → L i (gt l i) (gt l (i + 1)) = true

theorem mem_linesR (t : TV) (L : Nat → Nat → Nat → Bool) (hst : ∀ x ∈ t.starts.l, x < t.P) (l : List Nat) : l ∈ linesR t L ↔ LineOk L t.P t.legs.l.length t.starts.l l := by
  have hO := (openK_spec L t.P t.legs.l.length t.legs.l.length (Nat.le_refl _)).1 t.legs.l.length (Nat.le_refl _)
  rw [Nat.sub_self] at hO
  unfold linesR
  rw [List.mem_flatMap]
  constructor
  · rintro ⟨s, hs, hm⟩
    split at hm
    · obtain ⟨g1, g2, g3, g4⟩ := (mem_lnF L _ _ _ (Nat.le_refl _) _ _).1 hm
      refine ⟨g2, by rw [g1]; exact hs, fun i hi => ?_, fun i hi => ?_⟩
      · by_cases e : i = 0
        · rw [e, g1]; exact hst s hs
        · exact g3 i (by omega) hi
      · have := g4 i hi; rwa [Nat.sub_self, Nat.zero_add] at this
    · simp at hm
  · rintro ⟨h1, h2, h3, h4⟩
    have hm : LineFrom L t.P t.legs.l.length t.legs.l.length l := ⟨h1, fun i _ hi => h3 i hi, fun i hi => by rw [Nat.sub_self, Nat.zero_add]; exact h4 i hi⟩
    refine ⟨gt l 0, h2, ?_⟩
    rw [if_pos (by rw [hO _ (hst _ h2)]; exact lineFrom_reach L _ _ _ (Nat.le_refl _) l hm)]
    exact (mem_lnF L _ _ _ (Nat.le_refl _) _ _).2 ⟨rfl, hm⟩

theorem nodup_linesR (t : TV) (L : Nat → Nat → Nat → Bool) (hn : t.starts.l.Nodup) : (linesR t L).Nodup := by
  unfold linesR List.Nodup
  rw [List.pairwise_flatMap]
  refine ⟨fun s hs => ?_, hn.imp fun {a b} hab x hx y hy e => hab ?_⟩
  · split
    · exact nodup_lnF L _ _ _ (Nat.le_refl _) _
    · exact List.Pairwise.nil
  · split at hx
    · split at hy
      · have h1 := ((mem_lnF L _ _ _ (Nat.le_refl _) _ _).1 hx).1
        have h2 := ((mem_lnF L _ _ _ (Nat.le_refl _) _ _).1 hy).1
        rw [← h1, ← h2, e]
      · simp at hy
    · simp at hx

theorem nodup_sub {α : Type} [DecidableEq α] : ∀ {a b : List α}, a.Nodup → (∀ x ∈ a, x ∈ b) → a.length ≤ b.length
  | [], _, _, _ => Nat.zero_le _
  | x :: a, b, hn, hs => by
    have hx : x ∈ b := hs x (by simp)
    rw [List.nodup_cons] at hn
    have := nodup_sub (a := a) (b := b.erase x) hn.2 (fun y hy => by
      have hne : y ≠ x := fun e => hn.1 (e ▸ hy)
      exact (List.mem_erase_of_ne hne).2 (hs y (by simp [hy])))
    rw [List.length_erase_of_mem hx] at this
    have h1 : 0 < b.length := List.length_pos_of_mem hx
    simp only [List.length_cons]; omega

/-- How many lines of the second list go on where a line of the first one ends. -/
def metB (k : Nat) (m n : List Nat) : Bool := gt m k == gt n 0
def metN (k : Nat) (m : List Nat) (B : List (List Nat)) : Nat := (B.filter (metB k m)).length
def metS (k : Nat) (A B : List (List Nat)) : Nat := (A.map fun m => metN k m B).sum

/-- A treaty parted at a leg. -/
structure PartT (t a b : TV) (L La Lb : Nat → Nat → Nat → Bool) (k : Nat) : Prop where
  le : k ≤ t.legs.l.length
  Pa : a.P = t.P
  Pb : b.P = t.P
  Na : a.legs.l.length = k
  Nb : b.legs.l.length = t.legs.l.length - k
  Sa : a.starts.l = t.starts.l
  Sb : b.starts.l = List.range t.P
  La : ∀ i, i < k → La i = L i
  Lb : ∀ i, i < t.legs.l.length - k → Lb i = L (k + i)

section
variable {t a b : TV} {L La Lb : Nat → Nat → Nat → Bool} {k : Nat} (h : PartT t a b L La Lb k) (hst : ∀ x ∈ t.starts.l, x < t.P)
include h hst

theorem part_fst (l : List Nat) : l ∈ linesR a La ↔ LineOk L t.P k t.starts.l l := by
  rw [mem_linesR a La (by rw [h.Sa, h.Pa]; exact hst), h.Pa, h.Na, h.Sa]
  unfold LineOk
  constructor
  · rintro ⟨h1, h2, h3, h4⟩; exact ⟨h1, h2, h3, fun i hi => by rw [← h.La i hi]; exact h4 i hi⟩
  · rintro ⟨h1, h2, h3, h4⟩; exact ⟨h1, h2, h3, fun i hi => by rw [h.La i hi]; exact h4 i hi⟩
omit hst in
theorem part_snd (l : List Nat) : l ∈ linesR b Lb ↔ LineOk (fun i => L (k + i)) t.P (t.legs.l.length - k) (List.range t.P) l := by
  rw [mem_linesR b Lb (by rw [h.Sb, h.Pb]; intro x hx; simpa using hx), h.Pb, h.Nb, h.Sb]
  unfold LineOk
  constructor
  · rintro ⟨h1, h2, h3, h4⟩; exact ⟨h1, h2, h3, fun i hi => by show L (k + i) _ _ = true; rw [← h.Lb i hi]; exact h4 i hi⟩
  · rintro ⟨h1, h2, h3, h4⟩; exact ⟨h1, h2, h3, fun i hi => by rw [h.Lb i hi]; exact h4 i hi⟩

theorem part_halves {l : List Nat} (hl : l ∈ linesR t L) : l.length = t.legs.l.length + 1 ∧ l.take (k + 1) ∈ linesR a La ∧ l.drop k ∈ linesR b Lb := by
  obtain ⟨h1, h2, h3, h4⟩ := (mem_linesR t L hst l).1 hl
  have hk := h.le
  refine ⟨h1, (part_fst h hst _).2 ⟨by rw [List.length_take]; omega, by rw [gt_take _ _ _ (by omega)]; exact h2, fun i hi => by rw [gt_take _ _ _ (by omega)]; exact h3 i (by omega), fun i hi => by rw [gt_take _ _ _ (by omega), gt_take _ _ _ (by omega)]; exact h4 i (by omega)⟩,
    (part_snd h _).2 ⟨by rw [List.length_drop]; omega, by rw [gt_drop]; simpa using h3 k hk, fun i hi => by rw [gt_drop]; exact h3 _ (by omega), fun i hi => by rw [gt_drop, gt_drop]; exact h4 (k + i) (by omega)⟩⟩

theorem part_join {m n : List Nat} (hm : m ∈ linesR a La) (hn : n ∈ linesR b Lb) (hmn : gt m k = gt n 0) : m ++ n.tail ∈ linesR t L ∧ (m ++ n.tail).take (k + 1) = m ∧ (m ++ n.tail).drop k = n := by
  obtain ⟨h1, h2, h3, h4⟩ := (part_fst h hst m).1 hm
  obtain ⟨g1, g2, g3, g4⟩ := (part_snd h n).1 hn
  have hk := h.le
  have e1 : (m ++ n.tail).take (k + 1) = m := by rw [List.take_append_of_le_length (by omega), List.take_of_length_le (by omega)]
  have e2 : (m ++ n.tail).drop k = n := by
    rw [List.drop_append_of_le_length (by omega)]
    have : m.drop k = [gt m k] := by
      rw [List.drop_eq_getElem_cons (by omega), List.drop_of_length_le (by omega)]
      simp [gt, List.getElem?_eq_getElem (show k < m.length by omega)]
    rw [this, hmn]
    match n, g1 with
    | x :: n, _ => rfl
  have hl : (m ++ n.tail).length = t.legs.l.length + 1 := by rw [List.length_append, List.length_tail]; omega
  have A1 : ∀ i, i ≤ k → gt (m ++ n.tail) i = gt m i := fun i hi => by rw [← gt_take (m ++ n.tail) (k + 1) i (by omega), e1]
  have A2 : ∀ i, gt (m ++ n.tail) (k + i) = gt n i := fun i => by rw [← gt_drop, e2]
  refine ⟨(mem_linesR t L hst _).2 ⟨hl, by rw [A1 0 (by omega)]; exact h2, fun i hi => ?_, fun i hi => ?_⟩, e1, e2⟩
  · by_cases hik : i ≤ k
    · rw [A1 i hik]; exact h3 i hik
    · obtain ⟨j, rfl⟩ : ∃ j, i = k + j := ⟨i - k, by omega⟩
      rw [A2]; exact g3 j (by omega)
  · by_cases hik : i < k
    · rw [A1 i (by omega), A1 (i + 1) (by omega)]; exact h4 i hik
    · obtain ⟨j, rfl⟩ : ∃ j, i = k + j := ⟨i - k, by omega⟩
      rw [A2, show k + j + 1 = k + (j + 1) by omega, A2]; exact g4 j (by omega)

theorem part_many (hn : t.starts.l.Nodup) : metS k (linesR a La) (linesR b Lb) = (linesR t L).length := by
  have hna := nodup_linesR a La (by rw [h.Sa]; exact hn)
  have hnb := nodup_linesR b Lb (by rw [h.Sb]; exact List.nodup_range)
  have hnt := nodup_linesR t L hn
  have e1 : metS k (linesR a La) (linesR b Lb) = ((linesR a La).flatMap fun m => ((linesR b Lb).filter (metB k m)).map fun n => m ++ n.tail).length := by
    rw [List.length_flatMap]
    unfold metS metN
    congr 1
    refine List.map_congr_left fun m _ => ?_
    simp
  rw [e1]
  refine Nat.le_antisymm (nodup_sub ?_ fun l hl => ?_) (nodup_sub hnt fun l hl => ?_)
  · unfold List.Nodup
    rw [List.pairwise_flatMap]
    have hj : ∀ m ∈ linesR a La, ∀ n ∈ (linesR b Lb).filter (metB k m), (m ++ n.tail).take (k + 1) = m ∧ (m ++ n.tail).drop k = n := fun m hm n hn => by
      rw [List.mem_filter] at hn
      exact (part_join h hst hm hn.1 (by simpa [metB] using hn.2)).2
    refine ⟨fun m hm => ?_, ?_⟩
    · rw [List.pairwise_map]
      refine List.Pairwise.imp_of_mem (fun {x y} hx hy hxy e => hxy ?_) (hnb.filter _)
      rw [← (hj m hm x hx).2, ← (hj m hm y hy).2, e]
    · refine List.Pairwise.imp_of_mem (fun {m m'} hm hm' hne x hx y hy e => hne ?_) hna
      rw [List.mem_map] at hx hy
      obtain ⟨n, hn1, rfl⟩ := hx
      obtain ⟨n', hn2, rfl⟩ := hy
      rw [← (hj m hm n hn1).1, ← (hj m' hm' n' hn2).1, e]
  · rw [List.mem_flatMap] at hl
    obtain ⟨m, hm, hl⟩ := hl
    rw [List.mem_map] at hl
    obtain ⟨n, hn, rfl⟩ := hl
    rw [List.mem_filter] at hn
    exact (part_join h hst hm hn.1 (by simpa [metB] using hn.2)).1
  · obtain ⟨h1, h2, h3⟩ := part_halves h hst hl
    have hk := h.le
    rw [List.mem_flatMap]
    refine ⟨_, h2, ?_⟩
    rw [List.mem_map]
    refine ⟨l.drop k, ?_, ?_⟩
    · rw [List.mem_filter]
      refine ⟨h3, ?_⟩
      unfold metB
      rw [gt_take _ _ _ (by omega), gt_drop]
      simp
    · rw [List.tail_drop]
      exact List.take_append_drop _ _

theorem part_least (hs1 : 1 ≤ t.starts.l.length) (hN : t.legs.l.length ≤ 10) : leastF La a.P a.starts.l a.legs.l.length + leastF Lb b.P b.starts.l b.legs.l.length ≤ leastF L t.P t.starts.l t.legs.l.length := by
  have hs : ∃ s ∈ t.starts.l, s < t.P := ⟨t.starts.l[0], List.getElem_mem (by omega), hst _ (List.getElem_mem (by omega))⟩
  obtain ⟨p, p1, p2, p3⟩ := yieldL_path L t.P t.starts.l t.legs.l.length hs hN
  have hy := yieldL_length L t.P t.starts.l t.legs.l.length hs hN
  have hk := h.le
  have hb : (brkP L p t.legs.l.length).length ≤ (yieldL L t.P t.starts.l t.legs.l.length).length := by
    refine nodup_sub_length (List.nodup_range.filter _) fun i hi => ?_
    unfold brkP at hi
    rw [List.mem_filter, List.mem_range] at hi
    rcases p3 i hi.1 with g | g
    · rw [g] at hi; simp at hi
    · exact g
  have h1 := leastF_brk La a.P a.starts.l p a.legs.l.length (by rw [h.Sa]; exact p1) (fun i hi => by rw [h.Pa]; rw [h.Na] at hi; exact p2 i (by omega))
  have h2 := leastF_brk Lb b.P b.starts.l (fun i => p (k + i)) b.legs.l.length (by rw [h.Sb]; simpa using p2 k hk) (fun i hi => by rw [h.Pb]; rw [h.Nb] at hi; exact p2 _ (by omega))
  have e1 : ∀ n, n ≤ k → (brkP La p n).length = (brkP L p n).length := fun n => by
    induction n with
    | zero => intro _; rfl
    | succ n ih => intro hn; rw [brkP_succ, brkP_succ, ih (by omega), h.La n (by omega)]
  have e2 : ∀ n, n ≤ t.legs.l.length - k → (brkP L p k).length + (brkP Lb (fun i => p (k + i)) n).length = (brkP L p (k + n)).length := fun n => by
    induction n with
    | zero => intro _; rfl
    | succ n ih =>
      intro hn
      rw [brkP_succ, show k + (n + 1) = (k + n) + 1 by omega, brkP_succ, ← ih (by omega), h.Lb n (by omega)]
      show _ + (_ + cost (L (k + n) (p (k + n)) (p (k + n + 1)))) = _
      omega
  have e3 := e2 (t.legs.l.length - k) (Nat.le_refl _)
  rw [show k + (t.legs.l.length - k) = t.legs.l.length by omega] at e3
  have e4 := e1 k (Nat.le_refl _)
  rw [h.Na] at h1 ⊢
  rw [h.Nb] at h2 ⊢
  omega
end
end Go.Proofs.YtopjjcgmcieboaaGreatDoor

namespace Go.Proofs.YtopjjcgmcieboaaGreatDoor

theorem cmpL_cons (p : Nat) (x y : List Nat) : cmpL (p :: x) (p :: y) = cmpL x y := by
  conv => lhs; unfold cmpL
  rw [if_neg (by omega), if_neg (by omega)]
theorem cmpL_heads {l m : List Nat} (hl : 0 < l.length) (hm : 0 < m.length) (h : gt l 0 < gt m 0) : cmpL l m < 0 := by
  cases l with
  | nil => simp at hl
  | cons x l =>
    cases m with
    | nil => simp at hm
    | cons y m =>
      have h' : x < y := by simpa [gt] using h
      unfold cmpL
      rw [if_pos h']
      decide

theorem sorted_lnF (L : Nat → Nat → Nat → Bool) (P N : Nat) : ∀ k, k ≤ N → ∀ p, (lnF L P N k p).Pairwise fun a b => cmpL a b < 0
  | 0, _, p => by show ([[p]] : List (List Nat)).Pairwise _; simp
  | k + 1, hk, p => by
    show (((List.range P).flatMap fun q => if openK L P N N (N - (k + 1) + 1) q && L (N - (k + 1)) p q then lnF L P N k q else []).map (p :: ·)).Pairwise _
    rw [List.pairwise_map, List.pairwise_flatMap]
    refine ⟨fun q hq => ?_, ?_⟩
    · split
      · exact (sorted_lnF L P N k (by omega) q).imp fun h => by rw [cmpL_cons]; exact h
      · exact List.Pairwise.nil
    · refine (List.pairwise_lt_range (n := P)).imp fun {a b} hab x hx y hy => ?_
      rw [cmpL_cons]
      split at hx
      · split at hy
        · obtain ⟨h1, h1'⟩ := (mem_lnF L P N k (by omega) _ _).1 hx
          obtain ⟨h2, h2'⟩ := (mem_lnF L P N k (by omega) _ _).1 hy
          exact cmpL_heads (by have := h1'.1; omega) (by have := h2'.1; omega) (by rw [h1, h2]; exact hab)
        · simp at hy
      · simp at hx

theorem sorted_linesR (t : TV) (L : Nat → Nat → Nat → Bool) (hn : t.starts.l.Pairwise (· < ·)) : (linesR t L).Pairwise fun a b => cmpL a b < 0 := by
  unfold linesR
  rw [List.pairwise_flatMap]
  refine ⟨fun s hs => ?_, hn.imp fun {a b} hab x hx y hy => ?_⟩
  · split
    · exact sorted_lnF L _ _ _ (Nat.le_refl _) _
    · exact List.Pairwise.nil
  · split at hx
    · split at hy
      · obtain ⟨h1, h1'⟩ := (mem_lnF L _ _ _ (Nat.le_refl _) _ _).1 hx
        obtain ⟨h2, h2'⟩ := (mem_lnF L _ _ _ (Nat.le_refl _) _ _).1 hy
        exact cmpL_heads (by have := h1'.1; omega) (by have := h2'.1; omega) (by rw [h1, h2]; exact hab)
      · simp at hy
    · simp at hx

/-- The lines of one reading are no more than all. -/
theorem len_one {t : TV} {r : List Nat} (hn : t.starts.l.Nodup) (hr : r ∈ allR (cntR t)) : (linesR t (leadsOf t r)).length ≤ (allD t).length :=
  (nodup_linesR t (leadsOf t r) hn).length_le_of_subset fun _ hx => mem_allD.2 ⟨r, hr, hx⟩
end Go.Proofs.YtopjjcgmcieboaaGreatDoor
