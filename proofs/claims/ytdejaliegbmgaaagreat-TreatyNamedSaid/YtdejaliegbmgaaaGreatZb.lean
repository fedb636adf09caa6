/-
  Where a leg can lead is where ways of its kinds go on to, one behind the other, if it is one of its ends; ways that are told again, or backwards, lead nowhere new. Mathematics alone: nothing is claimed of the program here.
  A treaty whose places, kinds and words are numbered otherwise: its legs lead to the same places, its lines are the same, with the new numbers, a line breaks the same legs, and as many legs must yield. Mathematics alone: nothing is claimed of the program here.
  A treaty whose places, kinds and words are numbered otherwise is valid; its lines are the same, with the new numbers, as many; a line breaks the same legs; and as many legs must yield. Mathematics alone: nothing is claimed of the program here.
-/
import Derived.Test.YtdejaliegbmgaaaGreatRa
import Derived.Test.YtdejaliegbmgaaaGreatZa
namespace Go.Proofs.YtdejaliegbmgaaaGreat

/-- A way of the kinds joins two places. -/
def StepW (l : List (Nat × Nat × Nat)) (ks : List Nat) (f g : Nat) : Prop := ∃ x ∈ l, x.2.2 ∈ ks ∧ ((x.1 = f ∧ x.2.1 = g) ∨ (x.2.1 = f ∧ x.1 = g))

theorem wayT_spec (ks : List Nat) (l : List (Nat × Nat × Nat)) : ∀ k, k ≤ l.length → ∀ f g, wayT ks l k f g = true ↔ StepW (l.take k) ks f g
  | 0, _, f, g => by simp [wayT, StepW]
  | k + 1, h, f, g => by
    have ih := wayT_spec ks l k (by omega)
    rw [wayT_succ ks l k (by omega), List.take_succ_eq_append_getElem (by omega)]
    have e : StepW (l.take k ++ [l[k]]) ks f g ↔ StepW (l.take k) ks f g ∨ (l[k].2.2 ∈ ks ∧ ((l[k].1 = f ∧ l[k].2.1 = g) ∨ (l[k].2.1 = f ∧ l[k].1 = g))) := by
      unfold StepW
      constructor
      · rintro ⟨x, hx, h⟩
        rcases List.mem_append.1 hx with hx | hx
        · exact .inl ⟨x, hx, h⟩
        · rw [List.mem_singleton] at hx; subst hx; exact .inr h
      · rintro (⟨x, hx, h⟩ | h)
        · exact ⟨x, List.mem_append_left _ hx, h⟩
        · exact ⟨_, List.mem_append_right _ (List.mem_singleton.2 rfl), h⟩
    rw [e]
    by_cases hc : ks.contains l[k].2.2 = true
    · have hm : l[k].2.2 ∈ ks := by simpa using hc
      rw [if_pos hc]
      unfold upd
      constructor
      · intro h
        split at h
        · rename_i q; exact .inr ⟨hm, .inr ⟨q.1.symm, q.2.symm⟩⟩
        · split at h
          · rename_i q; exact .inr ⟨hm, .inl ⟨q.1.symm, q.2.symm⟩⟩
          · exact .inl ((ih f g).1 h)
      · rintro (h | ⟨-, ⟨h1, h2⟩ | ⟨h1, h2⟩⟩)
        · split
          · rfl
          · split
            · rfl
            · exact (ih f g).2 h
        · split
          · rfl
          · rw [if_pos ⟨h1.symm, h2.symm⟩]
        · rw [if_pos ⟨h1.symm, h2.symm⟩]
    · have hm : ¬ l[k].2.2 ∈ ks := by simpa using hc
      rw [if_neg hc, ih]
      exact ⟨.inl, fun h => h.resolve_right fun h => hm h.1⟩

theorem upd_true {T : Nat → Nat → Bool} {a b f g : Nat} {z : Bool} (h : T f g = true) (hz : T a b = true → z = true) : upd T a b z f g = true := by
  unfold upd; split
  · rename_i e; obtain ⟨rfl, rfl⟩ := e; exact hz h
  · exact h
theorem stepT_ge (v f : Nat) : ∀ n (T : Nat → Nat → Bool) a b, T a b = true → stepT v f n T a b = true
  | 0, _, _, _, h => h
  | n + 1, T, a, b, h => by rw [stepT_succ]; exact upd_true (stepT_ge v f n T a b h) (fun h => by rw [h]; rfl)
theorem stepF_ge (v : Nat) : ∀ n (T : Nat → Nat → Bool) a b, T a b = true → stepF v n T a b = true
  | 0, _, _, _, h => h
  | n + 1, T, a, b, h => by rw [stepF_succ]; exact stepT_ge v n 12 _ a b (stepF_ge v n T a b h)
theorem stepT_new (v f : Nat) : ∀ n (T : Nat → Nat → Bool) g, g < n → T f v = true → T v g = true → stepT v f n T f g = true
  | 0, _, _, h, _, _ => absurd h (Nat.not_lt_zero _)
  | n + 1, T, g, h, h1, h2 => by
    rw [stepT_succ]
    by_cases e : g = n
    · subst e
      unfold upd
      rw [if_pos ⟨rfl, rfl⟩, stepT_ge v f g T f v h1, stepT_ge v f g T v g h2]; simp
    · exact upd_true (stepT_new v f n T g (by omega) h1 h2) (fun h => by rw [h]; rfl)
theorem stepF_new (v : Nat) : ∀ n (T : Nat → Nat → Bool) f g, f < n → g < 12 → T f v = true → T v g = true → stepF v n T f g = true
  | 0, _, _, _, h, _, _, _ => absurd h (Nat.not_lt_zero _)
  | n + 1, T, f, g, h, hg, h1, h2 => by
    rw [stepF_succ]
    by_cases e : f = n
    · subst e
      exact stepT_new v f 12 _ g hg (stepF_ge v f T f v h1) (stepF_ge v f T v g h2)
    · exact stepT_ge v n 12 _ f g (stepF_new v n T f g (by omega) hg h1 h2)
/-- What is true is so by a relation. -/
def Sound (C : Nat → Nat → Prop) (T : Nat → Nat → Bool) : Prop := ∀ f g, T f g = true → C f g
theorem stepT_sound {C : Nat → Nat → Prop} (ht : ∀ a b c, C a b → C b c → C a c) (v f : Nat) : ∀ n (T : Nat → Nat → Bool), Sound C T → Sound C (stepT v f n T)
  | 0, _, h => h
  | n + 1, T, h => by
    have ih := stepT_sound ht v f n T h
    intro a b hab
    rw [stepT_succ] at hab
    unfold upd at hab
    split at hab
    · rename_i e; obtain ⟨rfl, rfl⟩ := e
      simp only [Bool.or_eq_true, Bool.and_eq_true] at hab
      rcases hab with hab | ⟨h1, h2⟩
      · exact ih _ _ hab
      · exact ht _ _ _ (ih _ _ h1) (ih _ _ h2)
    · exact ih _ _ hab
theorem stepF_sound {C : Nat → Nat → Prop} (ht : ∀ a b c, C a b → C b c → C a c) (v : Nat) : ∀ n (T : Nat → Nat → Bool), Sound C T → Sound C (stepF v n T)
  | 0, _, h => h
  | n + 1, T, h => stepT_sound ht v n 12 _ (stepF_sound ht v n T h)
theorem stepV_sound {C : Nat → Nat → Prop} (ht : ∀ a b c, C a b → C b c → C a c) : ∀ n (T : Nat → Nat → Bool), Sound C T → Sound C (stepV n T)
  | 0, _, h => h
  | n + 1, T, h => stepF_sound ht n 12 _ (stepV_sound ht n T h)

/-- Going on by places less than n. -/
def viaR (S : Nat → Nat → Prop) : Nat → Nat → Nat → Prop
  | 0, f, g => S f g
  | n + 1, f, g => viaR S n f g ∨ (viaR S n f n ∧ viaR S n n g)
theorem viaR_one (S : Nat → Nat → Prop) : ∀ n f g, S f g → viaR S n f g
  | 0, _, _, h => h
  | n + 1, f, g, h => .inl (viaR_one S n f g h)
theorem viaR_join (S : Nat → Nat → Prop) : ∀ n v f g, v < n → viaR S n f v → viaR S n v g → viaR S n f g
  | 0, _, _, _, h, _, _ => absurd h (Nat.not_lt_zero _)
  | n + 1, v, f, g, h, h1, h2 => by
    have ih := viaR_join S n
    by_cases e : v = n
    · subst e
      have h3 : viaR S v f v := h1.elim id And.left
      have h4 : viaR S v v g := h2.elim id And.right
      exact .inr ⟨h3, h4⟩
    · have hv : v < n := by omega
      rcases h1 with h1 | ⟨h1, h1'⟩ <;> rcases h2 with h2 | ⟨h2, h2'⟩
      · exact .inl (ih v f g hv h1 h2)
      · exact .inr ⟨ih v f n hv h1 h2, h2'⟩
      · exact .inr ⟨h1, ih v n g hv h1' h2⟩
      · exact .inr ⟨h1, h2'⟩
theorem stepV_via (S : Nat → Nat → Prop) (T : Nat → Nat → Bool) (hT : ∀ f g, S f g → T f g = true) : ∀ n, n ≤ 12 → ∀ f g, f < 12 → g < 12 → viaR S n f g → stepV n T f g = true
  | 0, _, f, g, _, _, h => hT f g h
  | n + 1, hn, f, g, hf, hg, h => by
    have ih := stepV_via S T hT n (by omega)
    rw [stepV_succ]
    rcases h with h | ⟨h1, h2⟩
    · exact stepF_ge n 12 _ f g (ih f g hf hg h)
    · exact stepF_new n 12 _ f g hf hg (ih f n hf (by omega) h1) (ih n g (by omega) hg h2)

theorem via_of_trans {S : Nat → Nat → Prop} (h12 : ∀ a b, S a b → a < 12 ∧ b < 12) {f g : Nat} (h : Relation.TransGen S f g) : viaR S 12 f g ∧ g < 12 := by
  induction h with
  | single h => exact ⟨viaR_one S 12 _ _ h, (h12 _ _ h).2⟩
  | tail _ h ih => exact ⟨viaR_join S 12 _ _ _ (h12 _ _ h).1 ih.1 (viaR_one S 12 _ _ h), (h12 _ _ h).2⟩

theorem maskT_spec (es : List Nat) (f : Nat) (T : Nat → Nat → Bool) : ∀ n a b, maskT es f n T a b = if a = f ∧ b < n then (T a b && es.contains b) else T a b
  | 0, a, b => by rw [if_neg (by omega)]; rfl
  | n + 1, a, b => by
    have ih := maskT_spec es f T n
    rw [maskT_succ]
    unfold upd
    by_cases e : a = f ∧ b = n
    · obtain ⟨rfl, rfl⟩ := e
      rw [if_pos ⟨rfl, rfl⟩, if_pos ⟨rfl, by omega⟩, ih, if_neg (by omega)]
    · rw [if_neg e, ih]
      by_cases e2 : a = f ∧ b < n
      · rw [if_pos e2, if_pos ⟨e2.1, by omega⟩]
      · rw [if_neg e2, if_neg (by omega)]
theorem maskF_spec (es : List Nat) (T : Nat → Nat → Bool) : ∀ n a b, b < 12 → maskF es n T a b = if a < n then (T a b && es.contains b) else T a b
  | 0, a, b, _ => by rw [if_neg (by omega)]; rfl
  | n + 1, a, b, hb => by
    have ih := maskF_spec es T n
    show maskT es n 12 (maskF es n T) a b = _
    rw [maskT_spec]
    by_cases e : a = n
    · subst e
      rw [if_pos ⟨rfl, hb⟩, ih _ _ hb, if_neg (by omega), if_pos (by omega)]
    · rw [if_neg (by omega), ih _ _ hb]
      by_cases e2 : a < n
      · rw [if_pos e2, if_pos (by omega)]
      · rw [if_neg e2, if_neg (by omega)]

theorem leadF_spec (l : List (Nat × Nat × Nat)) (ks es : List Nat) (h12 : ∀ x ∈ l, x.1 < 12 ∧ x.2.1 < 12) (f g : Nat) (hf : f < 12) (hg : g < 12) :
    leadF l ks es f g = true ↔ Relation.TransGen (StepW l ks) f g ∧ g ∈ es := by
  unfold leadF
  rw [maskF_spec _ _ _ _ _ hg, if_pos hf, Bool.and_eq_true, List.contains_iff_mem]
  have hw := wayT_spec ks l l.length (Nat.le_refl _)
  rw [List.take_length] at hw
  have hS : ∀ a b, StepW l ks a b → a < 12 ∧ b < 12 := by
    rintro a b ⟨x, hx, -, ⟨rfl, rfl⟩ | ⟨rfl, rfl⟩⟩
    · exact h12 x hx
    · exact ⟨(h12 x hx).2, (h12 x hx).1⟩
  constructor
  · rintro ⟨h1, h2⟩
    exact ⟨stepV_sound (C := Relation.TransGen (StepW l ks)) (fun _ _ _ => Relation.TransGen.trans) 12 _ (fun a b h => .single ((hw a b).1 h)) f g h1, h2⟩
  · rintro ⟨h1, h2⟩
    exact ⟨stepV_via (StepW l ks) _ (fun a b h => (hw a b).2 h) 12 (Nat.le_refl _) f g hf hg (via_of_trans hS h1).1, h2⟩

theorem trans_mono {S R : Nat → Nat → Prop} (h : ∀ a b, S a b → R a b) {f g : Nat} (k : Relation.TransGen S f g) : Relation.TransGen R f g := by
  induction k with
  | single k => exact .single (h _ _ k)
  | tail _ k ih => exact .tail ih (h _ _ k)
theorem trans_map {S R : Nat → Nat → Prop} (m : Nat → Nat) (h : ∀ a b, S a b → R (m a) (m b)) {f g : Nat} (k : Relation.TransGen S f g) : Relation.TransGen R (m f) (m g) := by
  induction k with
  | single k => exact .single (h _ _ k)
  | tail _ k ih => exact .tail ih (h _ _ k)

theorem distTo_mem (l : List (Nat × Nat × Nat)) : ∀ k, k ≤ l.length → (∀ y ∈ distTo l k, y ∈ l.take k) ∧ ∀ x ∈ l.take k, x ∈ distTo l k ∨ backW x ∈ distTo l k
  | 0, _ => by simp [distTo, dist]
  | k + 1, h => by
    obtain ⟨h1, h2⟩ := distTo_mem l k (by omega)
    rw [distTo_succ l k (by omega), List.take_succ_eq_append_getElem (by omega)]
    by_cases hc : (distTo l k).all (newW l[k]) = true
    · rw [if_pos hc]
      refine ⟨fun y hy => ?_, fun x hx => ?_⟩
      · rcases List.mem_append.1 hy with hy | hy
        · exact List.mem_append_left _ (h1 y hy)
        · exact List.mem_append_right _ hy
      · rcases List.mem_append.1 hx with hx | hx
        · rcases h2 x hx with h | h
          · exact .inl (List.mem_append_left _ h)
          · exact .inr (List.mem_append_left _ h)
        · exact .inl (List.mem_append_right _ hx)
    · rw [if_neg hc]
      refine ⟨fun y hy => List.mem_append_left _ (h1 y hy), fun x hx => ?_⟩
      rcases List.mem_append.1 hx with hx | hx
      · exact h2 x hx
      · rw [List.mem_singleton] at hx
        subst hx
        have hc' : (distTo l k).all (newW l[k]) = false := by simpa using hc
        rw [List.all_eq_false] at hc'
        obtain ⟨y, hy, hn⟩ := hc'
        simp only [newW, Bool.and_eq_true, decide_eq_true_eq, not_and, Classical.not_not] at hn
        by_cases e : y = l[k]
        · exact .inl (e ▸ hy)
        · exact .inr (hn e ▸ hy)
theorem stepW_dist (l : List (Nat × Nat × Nat)) (ks : List Nat) (f g : Nat) : StepW (dist l) ks f g ↔ StepW l ks f g := by
  obtain ⟨h1, h2⟩ := distTo_mem l l.length (Nat.le_refl _)
  have e : distTo l l.length = dist l := by unfold distTo; rw [List.take_length]
  rw [e, List.take_length] at h1 h2
  constructor
  · rintro ⟨x, hx, h⟩; exact ⟨x, h1 x hx, h⟩
  · rintro ⟨x, hx, hk, h⟩
    rcases h2 x hx with q | q
    · exact ⟨x, q, hk, h⟩
    · exact ⟨backW x, q, hk, h.elim .inr .inl⟩
end Go.Proofs.YtdejaliegbmgaaaGreat

namespace Go.Proofs.YtdejaliegbmgaaaGreat

/-- New numbers of those less than n, and back. -/
structure Bij (n : Nat) (p i : Nat → Nat) : Prop where
  lt : ∀ x, x < n → p x < n
  back : ∀ x, x < n → i (p x) = x
  ilt : ∀ y, y < n → i y < n
  forth : ∀ y, y < n → p (i y) = y
theorem Bij.inv {n : Nat} {p i : Nat → Nat} (h : Bij n p i) : Bij n i p := ⟨h.ilt, h.forth, h.lt, h.back⟩
theorem Bij.inj {n : Nat} {p i : Nat → Nat} (h : Bij n p i) {a b : Nat} (ha : a < n) (hb : b < n) (e : p a = p b) : a = b := by rw [← h.back a ha, ← h.back b hb, e]

theorem gt_getElem {l : List Nat} {i : Nat} (h : i < l.length) : gt l i = l[i] := by unfold gt; rw [List.getElem?_eq_getElem h]; rfl
theorem gt_map (p : Nat → Nat) (l : List Nat) (i : Nat) (h : i < l.length) : gt (l.map p) i = p (gt l i) := by
  rw [gt_getElem (by simpa using h), gt_getElem h, List.getElem_map]
theorem gt_mem {l : List Nat} {i : Nat} (h : i < l.length) : gt l i ∈ l := by rw [gt_getElem h]; exact List.getElem_mem h
theorem mem_gt {l : List Nat} {x : Nat} (h : x ∈ l) : ∃ i, i < l.length ∧ gt l i = x := by
  obtain ⟨i, hi, e⟩ := List.getElem_of_mem h; exact ⟨i, hi, by rw [gt_getElem hi, e]⟩
theorem gt_inj {l : List Nat} (hn : l.Nodup) {i j : Nat} (hi : i < l.length) (hj : j < l.length) (e : gt l i = gt l j) : i = j := by
  rw [gt_getElem hi, gt_getElem hj] at e
  have h := List.pairwise_iff_getElem.1 hn
  by_cases h1 : i < j
  · exact absurd e (h i j hi hj h1)
  · by_cases h2 : j < i
    · exact absurd e.symm (h j i hj hi h2)
    · omega
theorem bij_of {n : Nat} {l : List Nat} (hl : l.length = n) (hn : l.Nodup) (hx : ∀ x ∈ l, x < n) : ∃ i, Bij n (gt l) i := by
  have hs : ∀ y, y < n → ∃ x, x < n ∧ gt l x = y := by
    intro y hy
    by_cases hm : y ∈ l
    · obtain ⟨i, hi, e⟩ := mem_gt hm; exact ⟨i, by omega, e⟩
    · exfalso
      have := nodup_sub_length (a := y :: l) (b := List.range n) (List.nodup_cons.2 ⟨hm, hn⟩) (fun z hz => by
        rcases List.mem_cons.1 hz with rfl | hz
        · exact List.mem_range.2 hy
        · exact List.mem_range.2 (hx z hz))
      rw [List.length_cons, List.length_range] at this
      omega
  refine ⟨fun y => if h : ∃ x, x < n ∧ gt l x = y then h.choose else 0, fun x hx' => hx _ (gt_mem (by omega)), fun x hx' => ?_, fun y hy => ?_, fun y hy => ?_⟩
  · have h : ∃ z, z < n ∧ gt l z = gt l x := ⟨x, hx', rfl⟩
    rw [dif_pos h]
    exact gt_inj hn (by have := h.choose_spec.1; omega) (by omega) h.choose_spec.2
  · rw [dif_pos (hs y hy)]; exact (hs y hy).choose_spec.1
  · rw [dif_pos (hs y hy)]; exact (hs y hy).choose_spec.2

/-- A list has the new numbers of another one. -/
def Img (p : Nat → Nat) (a b : List Nat) : Prop := ∀ y, y ∈ b ↔ ∃ x ∈ a, y = p x
theorem Img.both {p : Nat → Nat} {a a' b b' : List Nat} {n : Nat} {i : Nat → Nat} (hp : Bij n p i) (ha : ∀ x ∈ a, x < n) (hb : ∀ x ∈ b, x < n) (h : Img p a a') (k : Img p b b') : Img p (both a b) (both b' a') := by
  intro y
  unfold YtdejaliegbmgaaaGreat.both
  simp only [List.mem_filter, List.contains_iff_mem]
  constructor
  · rintro ⟨h1, h2⟩
    obtain ⟨x, hx, rfl⟩ := (k y).1 h1
    obtain ⟨z, hz, e⟩ := (h _).1 h2
    obtain rfl := hp.inj (hb x hx) (ha z hz) e
    exact ⟨x, ⟨hz, hx⟩, rfl⟩
  · rintro ⟨x, ⟨h1, h2⟩, rfl⟩
    exact ⟨(k _).2 ⟨x, h2, rfl⟩, (h _).2 ⟨x, h1, rfl⟩⟩

/-- The new numbers of a leg: languages change places, too. -/
def legN (wd : Nat → Nat) (x : Nat × Int) : Nat × Int := if x.2 = -1 then (wd x.1, -1) else (wd x.2.toNat, (wd x.1 : Int))

/-- A treaty o is t with new numbers. -/
structure Ren (t o : TV) (pl pi kd ki wd wi : Nat → Nat) : Prop where
  bp : Bij t.P pl pi
  bk : Bij 8 kd ki
  bw : Bij t.words.l.length wd wi
  P : o.P = t.P
  ways : o.ways.l = t.ways.l.map fun x => (pl x.2.1, pl x.1, kd x.2.2)
  W : o.words.l.length = t.words.l.length
  word : ∀ i (h : i < t.words.l.length) (h' : wd i < o.words.l.length), o.words.l[wd i].l.length = t.words.l[i].l.length ∧ ∀ j (hj : j < t.words.l[i].l.length) (hj' : j < o.words.l[wd i].l.length),
    Img kd t.words.l[i].l[j].k.l o.words.l[wd i].l[j].k.l ∧ Img pl t.words.l[i].l[j].e.l o.words.l[wd i].l[j].e.l
  starts : Img pl t.starts.l o.starts.l
  legs : o.legs.l = t.legs.l.map (legN wd)
/-- A reading q of o is r of t. -/
structure RenR (t : TV) (wd : Nat → Nat) (r q : List Nat) : Prop where
  lr : r.length = t.words.l.length
  lq : q.length = t.words.l.length
  at_ : ∀ i, i < t.words.l.length → gt q (wd i) = gt r i

section
variable {t o : TV} {pl pi kd ki wd wi : Nat → Nat} (h : Ren t o pl pi kd ki wd wi) (hk : OkT t)
include h

theorem Ren.meanAt {r q : List Nat} (hr : RdOk t r) (hq : RenR t wd r q) (i : Nat) (hi : i < t.words.l.length) : Img kd (meanAt t r i).1 (meanAt o q (wd i)).1 ∧ Img pl (meanAt t r i).2 (meanAt o q (wd i)).2 := by
  have hw := h.bw.lt i hi
  have hir : i < r.length := by have := hq.lr; omega
  have hwq : wd i < q.length := by have := hq.lq; omega
  have hwo : wd i < o.words.l.length := by have := h.W; omega
  obtain ⟨e1, e2⟩ := h.word i hi hwo
  have hv : r[i] < t.words.l[i].l.length := hr.2 i hir hi
  have hv2 : q[wd i] = r[i] := by have := hq.at_ i hi; rwa [gt_getElem hwq, gt_getElem hir] at this
  have hv3 : q[wd i] < o.words.l[wd i].l.length := by rw [hv2, e1]; exact hv
  rw [meanAt_eq t r i hi hir hv, meanAt_eq o q (wd i) hwo hwq hv3]
  have := e2 r[i] hv (by rw [e1]; exact hv)
  simp only [hv2]
  exact this
include hk
theorem Ren.legMean {r q : List Nat} (hr : RdOk t r) (hq : RenR t wd r q) (x : Nat × Int) (hx : x ∈ t.legs.l) : Img kd (legMean t r x).1 (legMean o q (legN wd x)).1 ∧ Img pl (legMean t r x).2 (legMean o q (legN wd x)).2 := by
  obtain ⟨h1, h2⟩ := hk.leg x hx
  have m1 := h.meanAt hr hq x.1 h1
  unfold YtdejaliegbmgaaaGreat.legMean legN
  by_cases e : x.2 = -1
  · rw [if_pos e, if_pos e]; simp only [if_true]; exact m1
  · rw [if_neg e, if_neg e]
    obtain ⟨h3, h4⟩ := h2.resolve_left e
    have h5 : x.2.toNat < t.words.l.length := by omega
    have m2 := h.meanAt hr hq x.2.toNat h5
    simp only
    rw [if_neg (by omega), Int.toNat_natCast]
    have bd : ∀ k, k < t.words.l.length → (∀ z ∈ (YtdejaliegbmgaaaGreat.meanAt t r k).1, z < 8) ∧ ∀ z ∈ (YtdejaliegbmgaaaGreat.meanAt t r k).2, z < t.P := by
      intro k hk'
      have hkr : k < r.length := by have := hr.1; omega
      have hv := hr.2 k hkr hk'
      rw [meanAt_eq t r k hk' hkr hv]
      exact ⟨fun z hz => by have := (hk.kinds _ (List.getElem_mem hk') _ (List.getElem_mem hv)).1 z hz; omega, fun z hz => (hk.ends _ (List.getElem_mem hk') _ (List.getElem_mem hv)).1 z hz⟩
    exact ⟨Img.both h.bk (bd _ h1).1 (bd _ h5).1 m1.1 m2.1, Img.both h.bp (bd _ h1).2 (bd _ h5).2 m1.2 m2.2⟩

theorem Ren.step (ks ks' : List Nat) (hks : Img kd ks ks') (hk8 : ∀ z ∈ ks, z < 8) : (∀ f g, StepW t.ways.l ks f g → StepW o.ways.l ks' (pl f) (pl g)) ∧ ∀ f g, StepW o.ways.l ks' f g → StepW t.ways.l ks (pi f) (pi g) := by
  constructor
  · rintro f g ⟨x, hx, hk, hfg⟩
    refine ⟨(pl x.2.1, pl x.1, kd x.2.2), by rw [h.ways]; exact List.mem_map.2 ⟨x, hx, rfl⟩, (hks _).2 ⟨_, hk, rfl⟩, ?_⟩
    rcases hfg with ⟨rfl, rfl⟩ | ⟨rfl, rfl⟩
    · exact .inr ⟨rfl, rfl⟩
    · exact .inl ⟨rfl, rfl⟩
  · rintro f g ⟨y, hy, hky, hfg⟩
    rw [h.ways] at hy
    obtain ⟨x, hx, rfl⟩ := List.mem_map.1 hy
    obtain ⟨z, hz, e⟩ := (hks _).1 hky
    obtain ⟨w1, w2, -, w4⟩ := hk.way x hx
    have e2 := h.bk.inj (by omega) (hk8 z hz) e
    refine ⟨x, hx, by rw [e2]; exact hz, ?_⟩
    rcases hfg with ⟨rfl, rfl⟩ | ⟨rfl, rfl⟩
    · dsimp only; rw [h.bp.back _ w2, h.bp.back _ w1]; exact .inr ⟨rfl, rfl⟩
    · dsimp only; rw [h.bp.back _ w2, h.bp.back _ w1]; exact .inl ⟨rfl, rfl⟩

end

theorem leadsOf_spec {t : TV} (hk : OkT t) (r : List Nat) (k : Nat) (hkN : k < t.legs.l.length) (f g : Nat) (hf : f < t.P) (hg : g < t.P) :
    leadsOf t r k f g = true ↔ Relation.TransGen (StepW t.ways.l (legMean t r t.legs.l[k]).1) f g ∧ g ∈ (legMean t r t.legs.l[k]).2 := by
  have hp := hk.p2
  unfold leadsOf
  rw [List.getElem?_eq_getElem hkN]
  dsimp only
  have h1 := (distTo_mem t.ways.l t.ways.l.length (Nat.le_refl _)).1
  have e : distTo t.ways.l t.ways.l.length = dist t.ways.l := by unfold distTo; rw [List.take_length]
  rw [e, List.take_length] at h1
  rw [leadF_spec _ _ _ (fun x hx => by obtain ⟨a, b, -⟩ := hk.way x (h1 x hx); omega) f g (by omega) (by omega)]
  constructor
  · rintro ⟨a, b⟩; exact ⟨trans_mono (fun _ _ => (stepW_dist _ _ _ _).1) a, b⟩
  · rintro ⟨a, b⟩; exact ⟨trans_mono (fun _ _ => (stepW_dist _ _ _ _).2) a, b⟩

section
variable {t o : TV} {pl pi kd ki wd wi : Nat → Nat} (h : Ren t o pl pi kd ki wd wi) (hk : OkT t) (ho : OkT o)
include h hk ho

theorem Ren.leads {r q : List Nat} (hr : RdOk t r) (hq : RenR t wd r q) (k : Nat) (hkN : k < t.legs.l.length) (f g : Nat) (hf : f < t.P) (hg : g < t.P) : leadsOf o q k (pl f) (pl g) = leadsOf t r k f g := by
  have hkN' : k < o.legs.l.length := by rw [h.legs, List.length_map]; exact hkN
  have hm : t.legs.l[k] ∈ t.legs.l := List.getElem_mem hkN
  have el : o.legs.l[k] = legN wd t.legs.l[k] := by simp only [h.legs, List.getElem_map]
  obtain ⟨m1, m2⟩ := h.legMean hk hr hq _ hm
  have bd : ∀ z ∈ (YtdejaliegbmgaaaGreat.legMean t r t.legs.l[k]).1, z < 8 := by
    obtain ⟨h1, h2⟩ := hk.leg _ hm
    have hkr : t.legs.l[k].1 < r.length := by have := hr.1; omega
    have hv := hr.2 _ hkr h1
    intro z hz
    unfold YtdejaliegbmgaaaGreat.legMean at hz
    rw [meanAt_eq t r _ h1 hkr hv] at hz
    split at hz
    · have := (hk.kinds _ (List.getElem_mem h1) _ (List.getElem_mem hv)).1 z hz; omega
    · have hz' := (List.mem_filter.1 hz).1
      have := (hk.kinds _ (List.getElem_mem h1) _ (List.getElem_mem hv)).1 z hz'; omega
  obtain ⟨s1, s2⟩ := h.step hk _ _ m1 bd
  have a1 := leadsOf_spec hk r k hkN f g hf hg
  have a2 := leadsOf_spec ho q k hkN' (pl f) (pl g) (by rw [h.P]; exact h.bp.lt f hf) (by rw [h.P]; exact h.bp.lt g hg)
  rw [el] at a2
  have : (leadsOf o q k (pl f) (pl g) = true) ↔ (leadsOf t r k f g = true) := by
    rw [a1, a2]
    constructor
    · rintro ⟨q1, q2⟩
      have q3 := trans_map pi s2 q1
      rw [h.bp.back f hf, h.bp.back g hg] at q3
      obtain ⟨x, hx, e⟩ := (m2 _).1 q2
      refine ⟨q3, ?_⟩
      have hxP : x < t.P := by
        obtain ⟨h1, h2⟩ := hk.leg _ hm
        have hkr : t.legs.l[k].1 < r.length := by have := hr.1; omega
        have hv := hr.2 _ hkr h1
        unfold YtdejaliegbmgaaaGreat.legMean at hx
        rw [meanAt_eq t r _ h1 hkr hv] at hx
        split at hx
        · exact (hk.ends _ (List.getElem_mem h1) _ (List.getElem_mem hv)).1 x hx
        · exact (hk.ends _ (List.getElem_mem h1) _ (List.getElem_mem hv)).1 x (List.mem_filter.1 hx).1
      rw [h.bp.inj hg hxP e]; exact hx
    · rintro ⟨q1, q2⟩
      exact ⟨trans_map pl s1 q1, (m2 _).2 ⟨g, q2, rfl⟩⟩
  cases e1 : leadsOf o q k (pl f) (pl g) <;> cases e2 : leadsOf t r k f g
  · rfl
  · rw [e1, e2] at this; simp at this
  · rw [e1, e2] at this; simp at this
  · rfl
end
end Go.Proofs.YtdejaliegbmgaaaGreat

namespace Go.Proofs.YtdejaliegbmgaaaGreat

theorem RenR.rd {t o : TV} {pl pi kd ki wd wi : Nat → Nat} (h : Ren t o pl pi kd ki wd wi) {r q : List Nat} (hr : RdOk t r) (hq : RenR t wd r q) : RdOk o q := by
  refine ⟨by rw [hq.lq, h.W], fun k hk hk' => ?_⟩
  have hW := h.W
  have hkt : k < t.words.l.length := by omega
  have hi := h.bw.ilt k hkt
  have hf := h.bw.forth k hkt
  have e1 := (h.word (wi k) hi (by rw [hf]; exact hk')).1
  have e2 := hq.at_ (wi k) hi
  rw [hf, gt_getElem hk, gt_getElem (by rw [hq.lr]; exact hi)] at e2
  rw [e2]
  have e3 := hr.2 (wi k) (by rw [hq.lr]; exact hi) hi
  simp only [hf] at e1
  rw [e1]; exact e3
/-- Each reading of t is one of o, and back. -/
theorem renR_to {t : TV} {wd wi : Nat → Nat} (hb : Bij t.words.l.length wd wi) {r : List Nat} (hr : r.length = t.words.l.length) : ∃ q, RenR t wd r q := by
  refine ⟨(List.range t.words.l.length).map fun j => gt r (wi j), hr, by simp, fun i hi => ?_⟩
  have hw := hb.lt i hi
  rw [gt_getElem (by simpa using hw), List.getElem_map, List.getElem_range, hb.back i hi]
theorem renR_from {t o : TV} {pl pi kd ki wd wi : Nat → Nat} (h : Ren t o pl pi kd ki wd wi) {q : List Nat} (hq : RdOk o q) : ∃ r, RdOk t r ∧ RenR t wd r q := by
  have hW := h.W
  refine ⟨(List.range t.words.l.length).map fun i => gt q (wd i), ⟨by simp, fun k hk hk' => ?_⟩, by simp, by rw [hq.1, hW], fun i hi => ?_⟩
  · rw [List.getElem_map, List.getElem_range]
    have hw := h.bw.lt k hk'
    have h1 := hq.2 (wd k) (by rw [hq.1]; omega) (by omega)
    rw [(h.word k hk' (by omega)).1] at h1
    rw [gt_getElem (by rw [hq.1]; omega)]; exact h1
  · have e : gt ((List.range t.words.l.length).map fun i => gt q (wd i)) i = gt q (wd i) := by rw [gt_getElem (by simpa using hi), List.getElem_map, List.getElem_range]
    exact e.symm

theorem map_nodup {n : Nat} {p i : Nat → Nat} (hb : Bij n p i) : ((List.range n).map p).Nodup := by
  unfold List.Nodup
  rw [List.pairwise_map]
  exact List.Pairwise.imp_of_mem (fun {a b} ha hb' hab e => hab (hb.inj (List.mem_range.1 ha) (List.mem_range.1 hb') e)) (List.nodup_range (n := n))
theorem perm_range {n : Nat} {p i : Nat → Nat} (hb : Bij n p i) : ((List.range n).map p).Perm (List.range n) := by
  rw [List.perm_iff_count]
  intro x
  by_cases hx : x < n
  · rw [List.nodup_range.count, (map_nodup hb).count, if_pos (List.mem_range.2 hx), if_pos (List.mem_map.2 ⟨i x, List.mem_range.2 (hb.ilt x hx), hb.forth x hx⟩)]
  · rw [List.count_eq_zero_of_not_mem (a := x) (l := List.range n) (fun h => hx (List.mem_range.1 h)), List.count_eq_zero_of_not_mem]
    intro h
    obtain ⟨y, hy, rfl⟩ := List.mem_map.1 h
    exact hx (hb.lt y (List.mem_range.1 hy))
theorem foldl_mul : ∀ (l : List Nat) (a : Nat), l.foldl (· * ·) a = a * prodR l
  | [], a => by simp [prodR]
  | x :: l, a => by rw [List.foldl_cons, foldl_mul l, prodR, Nat.mul_assoc]
theorem prodR_perm {a b : List Nat} (h : a.Perm b) : prodR a = prodR b := by
  induction h with
  | nil => rfl
  | cons x _ ih => simp [prodR, ih]
  | swap x y l => simp only [prodR]; rw [Nat.mul_left_comm]
  | trans _ _ h1 h2 => rw [h1, h2]

/-- What word k of a treaty has of a list. -/
theorem Ren.at_word {t o : TV} {pl pi kd ki wd wi : Nat → Nat} (h : Ren t o pl pi kd ki wd wi) {s : SL MV} (hs : s ∈ o.words.l) : ∃ (i : Nat) (hi : i < t.words.l.length), s.l.length = t.words.l[i].l.length ∧ ∀ j (hj : j < t.words.l[i].l.length) (hj' : j < s.l.length),
    Img kd t.words.l[i].l[j].k.l s.l[j].k.l ∧ Img pl t.words.l[i].l[j].e.l s.l[j].e.l := by
  obtain ⟨j, hj, rfl⟩ := List.getElem_of_mem hs
  have hW := h.W
  have hjt : j < t.words.l.length := by omega
  have hf := h.bw.forth j hjt
  have := h.word (wi j) (h.bw.ilt j hjt) (by rw [hf]; exact hj)
  simp only [hf] at this
  exact ⟨wi j, h.bw.ilt j hjt, this⟩

theorem Ren.ok {t o : TV} {pl pi kd ki wd wi : Nat → Nat} (h : Ren t o pl pi kd ki wd wi) (hk : OkT t) (hs : o.starts.l.Pairwise (· < ·)) (hw : ∀ s ∈ o.words.l, ∀ m ∈ s.l, m.k.l.Pairwise (· < ·) ∧ m.e.l.Pairwise (· < ·)) : OkT o := by
  have hW := h.W
  have hstart : ∀ s ∈ o.starts.l, s < o.P := by
    intro s hs
    obtain ⟨x, hx, rfl⟩ := (h.starts s).1 hs
    rw [h.P]; exact h.bp.lt x (hk.start.1 x hx)
  have hmean : ∀ s ∈ o.words.l, ∀ m ∈ s.l, (∀ k ∈ m.k.l, k ≤ 7) ∧ ∀ k ∈ m.e.l, k < o.P := by
    intro s hs m hm
    obtain ⟨i, hi, e1, e2⟩ := h.at_word hs
    obtain ⟨j, hj, rfl⟩ := List.getElem_of_mem hm
    have hj' : j < t.words.l[i].l.length := by omega
    obtain ⟨m1, m2⟩ := e2 j hj' hj
    have h1 := (hk.kinds _ (List.getElem_mem hi) _ (List.getElem_mem hj')).1
    have h2 := (hk.ends _ (List.getElem_mem hi) _ (List.getElem_mem hj')).1
    refine ⟨fun k hk' => ?_, fun k hk' => ?_⟩
    · obtain ⟨x, hx, rfl⟩ := (m1 k).1 hk'
      have := h.bk.lt x (by have := h1 x hx; omega); omega
    · obtain ⟨x, hx, rfl⟩ := (m2 k).1 hk'
      rw [h.P]; exact h.bp.lt x (h2 x hx)
  refine { p1 := by rw [h.P]; exact hk.p1, p2 := by rw [h.P]; exact hk.p2, ways := by rw [h.ways, List.length_map]; exact hk.ways, words := by rw [hW]; exact hk.words, starts1 := ?_, starts2 := len_sorted hs o.P hstart,
           legs := by rw [h.legs, List.length_map]; exact hk.legs, word := ?_, way := ?_, kinds := fun s hs m hm => ⟨(hmean s hs m hm).1, (hw s hs m hm).1⟩, ends := fun s hs m hm => ⟨(hmean s hs m hm).2, (hw s hs m hm).2⟩,
           start := ⟨hstart, hs⟩, leg := ?_, many := ?_ }
  · have := (h.starts _).2 ⟨_, gt_mem (l := t.starts.l) (i := 0) (by have := hk.starts1; omega), rfl⟩
    exact List.length_pos_of_mem this
  · intro s hs
    obtain ⟨i, hi, e1, -⟩ := h.at_word hs
    rw [e1]; exact hk.word _ (List.getElem_mem hi)
  · intro x hx
    rw [h.ways] at hx
    obtain ⟨y, hy, rfl⟩ := List.mem_map.1 hx
    obtain ⟨w1, w2, w3, w4⟩ := hk.way y hy
    rw [h.P]
    refine ⟨h.bp.lt _ w2, h.bp.lt _ w1, fun e => w3 (h.bp.inj w2 w1 e).symm, ?_⟩
    have := h.bk.lt y.2.2 (by omega)
    show kd y.2.2 ≤ 7
    omega
  · intro g hg
    rw [h.legs] at hg
    obtain ⟨x, hx, rfl⟩ := List.mem_map.1 hg
    obtain ⟨h1, h2⟩ := hk.leg x hx
    unfold legN
    rw [hW]
    by_cases e : x.2 = -1
    · rw [if_pos e]; exact ⟨h.bw.lt _ h1, .inl rfl⟩
    · rw [if_neg e]
      obtain ⟨h3, h4⟩ := h2.resolve_left e
      have h5 := h.bw.lt x.2.toNat (by omega)
      have h6 := h.bw.lt x.1 h1
      refine ⟨h5, .inr ⟨?_, ?_⟩⟩
      · show (0 : Int) ≤ (wd x.1 : Int); omega
      · show (wd x.1 : Int) < _; omega
  · have key : (o.words.l.map (·.l.length)).Perm (t.words.l.map (·.l.length)) := by
      have e1 : o.words.l.map (·.l.length) = (List.range t.words.l.length).map fun j => gt (o.words.l.map (·.l.length)) j := by
        refine List.ext_getElem (by simp [hW]) fun j h1 h2 => ?_
        rw [List.getElem_map (f := fun j => gt (o.words.l.map (·.l.length)) j), List.getElem_range, gt_getElem h1]
      have e2 : t.words.l.map (·.l.length) = ((List.range t.words.l.length).map wd).map fun j => gt (o.words.l.map (·.l.length)) j := by
        refine List.ext_getElem (by simp) fun j h1 h2 => ?_
        have hj : j < t.words.l.length := by simpa using h1
        have hw' := h.bw.lt j hj
        simp only [List.getElem_map, List.getElem_range]
        rw [gt_getElem (by simpa [hW] using hw'), List.getElem_map]
        exact ((h.word j hj (by omega)).1).symm
      rw [e1, e2]
      exact ((perm_range h.bw).map _).symm
    rw [foldl_mul, prodR_perm key, ← foldl_mul]
    exact hk.many

theorem linesOk_map {L L' : Nat → Nat → Nat → Bool} {P N : Nat} {st st' l : List Nat} {p : Nat → Nat} (hp : ∀ x, x < P → p x < P) (hs : ∀ s ∈ st, p s ∈ st') (hL : ∀ k, k < N → ∀ f g, f < P → g < P → L' k (p f) (p g) = L k f g) (h : LineOk L P N st l) : LineOk L' P N st' (l.map p) := by
  obtain ⟨h1, h2, h3, h4⟩ := h
  refine ⟨by rw [List.length_map, h1], by rw [gt_map p l 0 (by omega)]; exact hs _ h2, fun i hi => by rw [gt_map p l i (by omega)]; exact hp _ (h3 i hi), fun i hi => ?_⟩
  rw [gt_map p l i (by omega), gt_map p l (i + 1) (by omega), hL i hi _ _ (h3 i (by omega)) (h3 (i + 1) (by omega))]
  exact h4 i hi

theorem map_inj_on {P : Nat} {p i : Nat → Nat} (hb : Bij P p i) : ∀ {a b : List Nat}, (∀ x ∈ a, x < P) → (∀ x ∈ b, x < P) → a.map p = b.map p → a = b
  | [], [], _, _, _ => rfl
  | [], _ :: _, _, _, h => by simp at h
  | _ :: _, [], _, _, h => by simp at h
  | x :: a, y :: b, ha, hb', h => by
    simp only [List.map_cons, List.cons.injEq] at h
    rw [hb.inj (ha x (by simp)) (hb' y (by simp)) h.1, map_inj_on hb (fun z hz => ha z (by simp [hz])) (fun z hz => hb' z (by simp [hz])) h.2]
theorem lineOk_lt {L : Nat → Nat → Nat → Bool} {P N : Nat} {st l : List Nat} (h : LineOk L P N st l) : ∀ x ∈ l, x < P := by
  intro x hx
  obtain ⟨i, hi, rfl⟩ := mem_gt hx
  exact h.2.2.1 i (by have := h.1; omega)

theorem least_map {L L' : Nat → Nat → Nat → Bool} {P N : Nat} {st st' : List Nat} {p : Nat → Nat} (hst : ∃ s ∈ st, s < P) (hN : N ≤ 10) (hp : ∀ x, x < P → p x < P) (hs : ∀ s ∈ st, p s ∈ st') (hL : ∀ k, k < N → ∀ f g, f < P → g < P → L' k (p f) (p g) = L k f g) : leastF L' P st' N ≤ leastF L P st N := by
  obtain ⟨c, h0, hlt, hc⟩ := yieldL_path L P st N hst hN
  have h1 := leastF_brk L' P st' (fun i => p (c i)) N (hs _ h0) (fun i hi => hp _ (hlt i hi))
  refine Nat.le_trans h1 ?_
  rw [← yieldL_length L P st N hst hN]
  refine nodup_sub_length ((List.nodup_range).filter _) fun x hx => ?_
  obtain ⟨hx1, hx2⟩ := List.mem_filter.1 hx
  have hxN := List.mem_range.1 hx1
  rw [hL x hxN _ _ (hlt x (by omega)) (hlt (x + 1) (by omega))] at hx2
  rcases hc x hxN with e | e
  · rw [e] at hx2; simp at hx2
  · exact e

section
variable {t o : TV} {pl pi kd ki wd wi : Nat → Nat} (h : Ren t o pl pi kd ki wd wi) (hk : OkT t) (ho : OkT o)
include h

theorem Ren.N : o.legs.l.length = t.legs.l.length := by rw [h.legs, List.length_map]
include hk
theorem Ren.back_start {s : Nat} (hs : s ∈ o.starts.l) : pi s ∈ t.starts.l := by
  obtain ⟨x, hx, rfl⟩ := (h.starts s).1 hs
  rw [h.bp.back x (hk.start.1 x hx)]; exact hx
include ho
theorem Ren.leads' {r q : List Nat} (hr : RdOk t r) (hq : RenR t wd r q) (k : Nat) (hkN : k < t.legs.l.length) (f g : Nat) (hf : f < t.P) (hg : g < t.P) : leadsOf t r k (pi f) (pi g) = leadsOf o q k f g := by
  have := h.leads hk ho hr hq k hkN (pi f) (pi g) (h.bp.ilt f hf) (h.bp.ilt g hg)
  rw [h.bp.forth f hf, h.bp.forth g hg] at this
  exact this.symm

theorem Ren.lines {r q : List Nat} (hr : RdOk t r) (hq : RenR t wd r q) : (∀ l ∈ linesR t (leadsOf t r), l.map pl ∈ linesR o (leadsOf o q)) ∧ (linesR t (leadsOf t r)).length = (linesR o (leadsOf o q)).length := by
  have hN := h.N
  have m1 : ∀ l ∈ linesR t (leadsOf t r), l.map pl ∈ linesR o (leadsOf o q) := by
    intro l hl
    rw [mem_linesR t _ hk.start.1] at hl
    rw [mem_linesR o _ ho.start.1, h.P, hN]
    exact linesOk_map h.bp.lt (fun s hs => (h.starts _).2 ⟨s, hs, rfl⟩) (fun k hkN f g hf hg => h.leads hk ho hr hq k hkN f g hf hg) hl
  have m2 : ∀ l ∈ linesR o (leadsOf o q), l.map pi ∈ linesR t (leadsOf t r) := by
    intro l hl
    rw [mem_linesR o _ ho.start.1, h.P, hN] at hl
    rw [mem_linesR t _ hk.start.1]
    exact linesOk_map h.bp.ilt (fun s hs => h.back_start hk hs) (fun k hkN f g hf hg => h.leads' hk ho hr hq k hkN f g hf hg) hl
  have nd : ∀ (t : TV) (L : Nat → Nat → Nat → Bool) (P : Nat) (p i : Nat → Nat), OkT t → t.P = P → Bij P p i → ((linesR t L).map (List.map p)).Nodup := by
    intro t L P p i hk hP hb
    have h1 := nodup_linesR t L (hk.start.2.imp fun h => Nat.ne_of_lt h)
    unfold List.Nodup
    rw [List.pairwise_map]
    refine List.Pairwise.imp_of_mem (fun {a b} ha hb' hab e => hab ?_) h1
    rw [mem_linesR t _ hk.start.1] at ha hb'
    exact map_inj_on hb (by rw [← hP]; exact lineOk_lt ha) (by rw [← hP]; exact lineOk_lt hb') e
  refine ⟨m1, Nat.le_antisymm ?_ ?_⟩
  · have := nodup_sub (nd t (leadsOf t r) t.P pl pi hk rfl h.bp) (b := linesR o (leadsOf o q)) (fun x hx => by obtain ⟨l, hl, rfl⟩ := List.mem_map.1 hx; exact m1 l hl)
    rwa [List.length_map] at this
  · have := nodup_sub (nd o (leadsOf o q) t.P pi pl ho h.P h.bp.inv) (b := linesR t (leadsOf t r)) (fun x hx => by obtain ⟨l, hl, rfl⟩ := List.mem_map.1 hx; exact m2 l hl)
    rwa [List.length_map] at this

theorem Ren.breaks {r q : List Nat} (hr : RdOk t r) (hq : RenR t wd r q) (line : List Nat) (hl : line.length = t.legs.l.length + 1) (hlt : ∀ x ∈ line, x < t.P) : brkTo (leadsOf o q) (line.map pl) o.legs.l.length = brkTo (leadsOf t r) line t.legs.l.length := by
  rw [h.N]
  unfold brkTo
  refine List.filter_congr fun k hk' => ?_
  have hkN := List.mem_range.1 hk'
  have e1 := gt_map pl line k (by omega)
  have e2 := gt_map pl line (k + 1) (by omega)
  have e3 := h.leads hk ho hr hq k hkN _ _ (hlt _ (gt_mem (l := line) (i := k) (by omega))) (hlt _ (gt_mem (l := line) (i := k + 1) (by omega)))
  unfold gt at e1 e2 e3
  rw [e1, e2, e3]

theorem Ren.few {r q : List Nat} (hr : RdOk t r) (hq : RenR t wd r q) : fewR o q = fewR t r := by
  unfold fewR
  rw [h.P, h.N]
  have s1 : ∃ s ∈ t.starts.l, s < t.P := ⟨_, gt_mem (i := 0) (by have := hk.starts1; omega), hk.start.1 _ (gt_mem (by have := hk.starts1; omega))⟩
  have s2 : ∃ s ∈ o.starts.l, s < t.P := by rw [← h.P]; exact ⟨_, gt_mem (i := 0) (by have := ho.starts1; omega), ho.start.1 _ (gt_mem (by have := ho.starts1; omega))⟩
  exact Nat.le_antisymm (least_map s1 hk.legs h.bp.lt (fun s hs => (h.starts _).2 ⟨s, hs, rfl⟩) (fun k hkN f g hf hg => h.leads hk ho hr hq k hkN f g hf hg))
    (least_map s2 hk.legs h.bp.ilt (fun s hs => h.back_start hk hs) (fun k hkN f g hf hg => h.leads' hk ho hr hq k hkN f g hf hg))

theorem Ren.best : (bestR o (allR (cntR o))).2 = (bestR t (allR (cntR t))).2 := by
  obtain ⟨a1, a2, a3⟩ := best_few t hk
  obtain ⟨b1, b2, b3⟩ := best_few o ho
  refine Nat.le_antisymm ?_ ?_
  · obtain ⟨q, hq⟩ := renR_to h.bw a1.1
    rw [a2, ← h.few hk ho a1 hq]
    exact b3 q (hq.rd h a1)
  · obtain ⟨r, hr, hq⟩ := renR_from h b1
    rw [b2, h.few hk ho hr hq]
    exact a3 r hr
end
end Go.Proofs.YtdejaliegbmgaaaGreat
