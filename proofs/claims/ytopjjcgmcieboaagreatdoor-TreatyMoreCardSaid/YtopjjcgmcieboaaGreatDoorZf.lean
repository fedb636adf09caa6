/-
  Readings come in their order, and what Ends marks are the places of lines; a line that agrees is listed: mathematics alone. Nothing is claimed of the program here.
  Agrees of package treaty returns no reading and ErrNone for a line that agrees in none, and turns nothing that was there. The treaty and the line must lie in memory as told and be valid, the line must begin at a start.
  Ends of package treaty returns nothing and ErrNone where no line agrees in any reading, and turns nothing that was there. The treaty must lie in memory as told and be valid.
-/
import Derived.Test.YtopjjcgmcieboaaGreatDoorZe
import Derived.Test.YtopjjcgmcieboaaGreatDoorIm
import Derived.Test.YtopjjcgmcieboaaGreatDoorIi
namespace Go.Proofs.YtopjjcgmcieboaaGreatDoor

/-! ### Readings in their order -/
theorem incR_lt : ∀ {c r q : List Nat}, incR c r = (false, q) → cmpL r q < 0
  | [], r, q, h => by unfold incR at h; simp at h
  | c :: cs, [], q, h => by unfold incR at h; simp at h
  | c :: cs, r :: rs, q, h => by
    unfold incR at h
    rcases hi : incR cs rs with ⟨b, q'⟩
    rw [hi] at h
    cases b with
    | true =>
      simp only at h
      split at h
      · simp at h
      · simp only [Prod.mk.injEq, true_and] at h
        subst h
        unfold cmpL
        rw [if_pos (by omega)]; decide
    | false =>
      simp only [Prod.mk.injEq, true_and] at h
      subst h
      rw [cmpL_cons]
      exact incR_lt hi
theorem seqR_ge : ∀ (n : Nat) {c r x : List Nat}, x ∈ seqR c n r → x = r ∨ cmpL r x < 0
  | 0, c, r, x, h => by simp [seqR] at h
  | n + 1, c, r, x, h => by
    unfold seqR at h
    rcases List.mem_cons.1 h with h | h
    · exact .inl h
    · right
      rcases hi : incR c r with ⟨b, q⟩
      rw [hi] at h
      cases b with
      | true => simp at h
      | false =>
        have h1 := incR_lt hi
        rcases seqR_ge n h with rfl | h2
        · exact h1
        · exact cmpL_trans h1 h2
theorem sorted_seqR : ∀ (n : Nat) (c r : List Nat), (seqR c n r).Pairwise fun a b => cmpL a b < 0
  | 0, c, r => by simp [seqR]
  | n + 1, c, r => by
    unfold seqR
    rw [List.pairwise_cons]
    rcases hi : incR c r with ⟨b, q⟩
    cases b with
    | true => simp
    | false =>
      have h1 := incR_lt hi
      refine ⟨fun x hx => ?_, sorted_seqR n c q⟩
      rcases seqR_ge n hx with rfl | h2
      · exact h1
      · exact cmpL_trans h1 h2
theorem sorted_allR (c : List Nat) : (allR c).Pairwise fun a b => cmpL a b < 0 := sorted_seqR _ _ _
/-- What comes ahead of the first one does not fit. -/
theorem first_ahead {p : List Nat → Bool} {rs : List (List Nat)} (hs : rs.Pairwise fun a b => cmpL a b < 0) {r0 : List Nat} (hf : rs.find? p = some r0) {r : List Nat} (hr : r ∈ rs) (hc : cmpL r r0 < 0) : p r = false := by
  obtain ⟨_, l1, l2, e, ha⟩ := List.find?_eq_some_iff_append.1 hf
  rw [e] at hr hs
  rcases List.mem_append.1 hr with hr | hr
  · have := ha r hr; simpa using this
  · exfalso
    rcases List.mem_cons.1 hr with rfl | hr
    · rw [cmpL_self] at hc; omega
    · have h1 := (List.pairwise_append.1 hs).2.1
      have h2 := (List.pairwise_cons.1 h1).1 r hr
      have h3 := cmpL_swap r0 r
      omega

/-! ### Ends -/
theorem endS_spec (O : Nat → Nat → Bool) (st : List Nat) : ∀ n, n ≤ st.length → ∀ a b, endS O st n a b = true ↔ a = 0 ∧ b ∈ st.take n ∧ O 0 b = true
  | 0, _, a, b => by simp [endS]
  | n + 1, h, a, b => by
    have ih := endS_spec O st n (by omega) a b
    have hin : st[n] ∈ st.take n ++ [st[n]] := List.mem_append_right _ (List.mem_singleton.2 rfl)
    rw [endS_succ O st n (by omega), List.take_succ_eq_append_getElem (by omega)]
    unfold upd
    by_cases e : a = 0 ∧ b = st[n]
    · rw [if_pos e, e.2]
      constructor
      · intro h2; exact ⟨e.1, hin, h2⟩
      · rintro ⟨_, _, h2⟩; exact h2
    · rw [if_neg e, ih]
      simp only [List.mem_append, List.mem_singleton]
      constructor
      · rintro ⟨h1, h2, h3⟩; exact ⟨h1, .inl h2, h3⟩
      · rintro ⟨h1, h2 | h2, h3⟩
        · exact ⟨h1, h2, h3⟩
        · exact absurd ⟨h1, h2⟩ e
theorem endG_spec (O : Nat → Nat → Bool) (L : Nat → Nat → Nat → Bool) (q f : Nat) (T : Nat → Nat → Bool) : ∀ n a b, endG O L q f n T a b = true ↔ T a b = true ∨ (a = q + 1 ∧ b < n ∧ T q f = true ∧ O (q + 1) b = true ∧ L q f b = true)
  | 0, a, b => by simp [endG]
  | n + 1, a, b => by
    have h0 : endG O L q f n T q f = T q f := by
      have := endG_spec O L q f T n q f
      rw [Bool.eq_iff_iff, this]
      constructor
      · rintro (h | h)
        · exact h
        · omega
      · exact .inl
    have ih := endG_spec O L q f T n a b
    rw [endG_succ, h0]
    by_cases c : (T q f && O (q + 1) n && L q f n) = true
    · rw [if_pos c]
      simp only [Bool.and_eq_true] at c
      unfold upd
      by_cases e : a = q + 1 ∧ b = n
      · rw [if_pos e, e.1, e.2]
        simp [c]
      · rw [if_neg e, ih]
        constructor
        · rintro (h | ⟨h1, h2, h3⟩)
          · exact .inl h
          · exact .inr ⟨h1, by omega, h3⟩
        · rintro (h | ⟨h1, h2, h3⟩)
          · exact .inl h
          · exact .inr ⟨h1, by omega, h3⟩
    · rw [if_neg c, ih]
      simp only [Bool.and_eq_true, not_and] at c
      constructor
      · rintro (h | ⟨h1, h2, h3⟩)
        · exact .inl h
        · exact .inr ⟨h1, by omega, h3⟩
      · rintro (h | ⟨h1, h2, h3, h4, h5⟩)
        · exact .inl h
        · refine .inr ⟨h1, ?_, h3, h4, h5⟩
          rcases Nat.lt_or_ge b n with h6 | h6
          · exact h6
          · obtain rfl : b = n := by omega
            exact absurd h5 (c ⟨h3, h4⟩)
theorem endF_spec (O : Nat → Nat → Bool) (L : Nat → Nat → Nat → Bool) (P q : Nat) (T : Nat → Nat → Bool) : ∀ n a b, endF O L P q n T a b = true ↔ T a b = true ∨ (a = q + 1 ∧ b < P ∧ ∃ f, f < n ∧ T q f = true ∧ O (q + 1) b = true ∧ L q f b = true)
  | 0, a, b => by simp [endF]
  | n + 1, a, b => by
    have h0 : ∀ f, endF O L P q n T q f = T q f := fun f => by
      have := endF_spec O L P q T n q f
      rw [Bool.eq_iff_iff, this]
      constructor
      · rintro (h | h)
        · exact h
        · omega
      · exact .inl
    show endG O L q n P (endF O L P q n T) a b = true ↔ _
    rw [endG_spec, endF_spec O L P q T n a b, h0]
    constructor
    · rintro ((h | ⟨h1, h2, f, h3, h4⟩) | ⟨h1, h2, h3⟩)
      · exact .inl h
      · exact .inr ⟨h1, h2, f, by omega, h4⟩
      · exact .inr ⟨h1, h2, n, by omega, h3⟩
    · rintro (h | ⟨h1, h2, f, h3, h4⟩)
      · exact .inl (.inl h)
      · rcases Nat.lt_or_ge f n with h6 | h6
        · exact .inl (.inr ⟨h1, h2, f, h6, h4⟩)
        · obtain rfl : f = n := by omega
          exact .inr ⟨h1, h2, h4⟩
/-- What is marked at the end: where paths lead from which one can go on. -/
theorem endK_spec (O : Nat → Nat → Bool) (L : Nat → Nat → Nat → Bool) (P : Nat) (st : List Nat) (hst : ∀ x ∈ st, x < P) : ∀ n a b, endK O L P st n a b = true ↔ a ≤ n ∧ ∃ p : Nat → Nat, p a = b ∧ p 0 ∈ st ∧ (∀ i, i ≤ a → p i < P ∧ O i (p i) = true) ∧ ∀ i, i < a → L i (p i) (p (i + 1)) = true
  | 0, a, b => by
    show endS O st st.length a b = true ↔ _
    rw [endS_spec O st st.length (Nat.le_refl _), List.take_length]
    constructor
    · rintro ⟨rfl, h1, h2⟩
      exact ⟨Nat.le_refl _, fun _ => b, rfl, h1, (fun i hi => by obtain rfl : i = 0 := (by omega); exact ⟨hst b h1, h2⟩), (fun i hi => by omega)⟩
    · rintro ⟨h0, p, h1, h2, h3, _⟩
      obtain rfl : a = 0 := by omega
      subst h1
      exact ⟨rfl, h2, (h3 0 (Nat.le_refl _)).2⟩
  | n + 1, a, b => by
    have ih := endK_spec O L P st hst n
    show endF O L P n P (endK O L P st n) a b = true ↔ _
    rw [endF_spec, ih]
    constructor
    · rintro (⟨h0, h1⟩ | ⟨rfl, h2, f, h3, h4, h5, h6⟩)
      · exact ⟨by omega, h1⟩
      · obtain ⟨-, p, p1, p2, p3, p4⟩ := (ih n f).1 h4
        refine ⟨Nat.le_refl _, fun i => if i ≤ n then p i else b, if_neg (by omega), (by simpa using p2), fun i hi => ?_, fun i hi => ?_⟩
        · dsimp only
          by_cases e : i ≤ n
          · rw [if_pos e]; exact p3 i e
          · obtain rfl : i = n + 1 := by omega
            rw [if_neg e]; exact ⟨h2, h5⟩
        · dsimp only
          rw [if_pos (show i ≤ n by omega)]
          by_cases e : i + 1 ≤ n
          · rw [if_pos e]; exact p4 i (by omega)
          · obtain rfl : i = n := by omega
            rw [if_neg e, p1]; exact h6
    · rintro ⟨h0, p, p1, p2, p3, p4⟩
      by_cases e : a ≤ n
      · exact .inl ⟨e, p, p1, p2, p3, p4⟩
      · obtain rfl : a = n + 1 := by omega
        subst p1
        exact .inr ⟨rfl, (p3 _ (Nat.le_refl _)).1, p n, (p3 n (by omega)).1, (ih n (p n)).2 ⟨Nat.le_refl _, p, rfl, p2, fun i hi => p3 i (by omega), fun i hi => p4 i (by omega)⟩, (p3 _ (Nat.le_refl _)).2, p4 n (by omega)⟩
/-- What is marked is a place of a line, and the other way round. -/
theorem endK_line (L : Nat → Nat → Nat → Bool) (P N : Nat) (st : List Nat) (hst : ∀ x ∈ st, x < P) (a b : Nat) (ha : a ≤ N) : endK (openK L P N N) L P st N a b = true ↔ ∃ l : List Nat, LineOk L P N st l ∧ gt l a = b := by
  have hO := (openK_spec L P N N (Nat.le_refl _)).1
  have hO' : ∀ i x, i ≤ N → x < P → openK L P N N i x = reachB L P N (N - i) x := fun i x hi hx => by
    have := hO (N - i) (by omega) x hx
    rwa [show N - (N - i) = i by omega] at this
  rw [endK_spec _ L P st hst]
  constructor
  · rintro ⟨_, p, p1, p2, p3, p4⟩
    have h1 := (p3 a (Nat.le_refl _)).2
    rw [hO' a (p a) ha (p3 a (Nat.le_refl _)).1] at h1
    obtain ⟨q, q1, q2, q3⟩ := (reachB_path L P N (N - a) (by omega) (p a)).1 h1
    rw [show N - (N - a) = a by omega] at q1 q2 q3
    have hg : ∀ i, i ≤ N → gt ((List.range (N + 1)).map fun i => if i ≤ a then p i else q i) i = if i ≤ a then p i else q i := fun i hi => by
      unfold gt
      rw [List.getElem?_map, List.getElem?_range (by omega)]
      rfl
    refine ⟨(List.range (N + 1)).map fun i => if i ≤ a then p i else q i, ⟨by simp, ?_, fun i hi => ?_, fun i hi => ?_⟩, ?_⟩
    · rw [hg 0 (by omega), if_pos (by omega)]; exact p2
    · rw [hg i hi]
      by_cases e : i ≤ a
      · rw [if_pos e]; exact (p3 i e).1
      · rw [if_neg e]; exact q2 i (by omega) hi
    · rw [hg i (by omega), hg (i + 1) (by omega)]
      by_cases e : i + 1 ≤ a
      · rw [if_pos e, if_pos (by omega)]; exact p4 i (by omega)
      · rw [if_neg e]
        by_cases e2 : i ≤ a
        · obtain rfl : i = a := by omega
          rw [if_pos (by omega), ← q1]; exact q3 i (by omega) hi
        · rw [if_neg e2]; exact q3 i (by omega) hi
    · rw [hg a ha, if_pos (by omega), p1]
  · rintro ⟨l, ⟨l1, l2, l3, l4⟩, rfl⟩
    refine ⟨ha, gt l, rfl, l2, fun i hi => ⟨l3 i (by omega), ?_⟩, fun i hi => l4 i (by omega)⟩
    rw [hO' i (gt l i) (by omega) (l3 i (by omega))]
    refine (reachB_path L P N (N - i) (by omega) _).2 ⟨gt l, by rw [show N - (N - i) = i by omega], fun j h1 h2 => l3 j h2, fun j h1 h2 => l4 j h2⟩

theorem endsB_line (t : TV) (L : Nat → Nat → Nat → Bool) (hst : ∀ x ∈ t.starts.l, x < t.P) (a b : Nat) (ha : a ≤ t.legs.l.length) : endsB t L a b = true ↔ ∃ l ∈ linesR t L, gt l a = b := by
  show endK _ L t.P t.starts.l t.legs.l.length a b = true ↔ _
  rw [endK_line L t.P t.legs.l.length t.starts.l hst a b ha]
  constructor
  · rintro ⟨l, h1, h2⟩; exact ⟨l, (mem_linesR t L hst l).2 h1, h2⟩
  · rintro ⟨l, h1, h2⟩; exact ⟨l, (mem_linesR t L hst l).1 h1, h2⟩
/-- What Ends marks: the places of all lines. -/
theorem metR_line (t : TV) (hst : ∀ x ∈ t.starts.l, x < t.P) (a b : Nat) (ha : a ≤ t.legs.l.length) : metR t (allR (cntR t)) a b = true ↔ ∃ l ∈ allD t, gt l a = b := by
  unfold metR
  rw [List.any_eq_true]
  constructor
  · rintro ⟨r, hr, h⟩
    obtain ⟨l, h1, h2⟩ := (endsB_line t _ hst a b ha).1 h
    exact ⟨l, mem_allD.2 ⟨r, hr, h1⟩, h2⟩
  · rintro ⟨l, h1, h2⟩
    obtain ⟨r, hr, h3⟩ := mem_allD.1 h1
    exact ⟨r, hr, (endsB_line t _ hst a b ha).2 ⟨l, h3, h2⟩⟩
theorem hasB_line (t : TV) (L : Nat → Nat → Nat → Bool) (hst : ∀ x ∈ t.starts.l, x < t.P) : hasB t L = true ↔ ∃ l, l ∈ linesR t L := by
  rw [hasB_path t L hst]
  constructor
  · rintro ⟨p, p1, p2, p3⟩
    have hg : ∀ i, i ≤ t.legs.l.length → gt ((List.range (t.legs.l.length + 1)).map p) i = p i := fun i hi => by
      unfold gt
      rw [List.getElem?_map, List.getElem?_range (by omega)]
      rfl
    refine ⟨(List.range (t.legs.l.length + 1)).map p, (mem_linesR t L hst _).2 ⟨by simp, ?_, fun i hi => ?_, fun i hi => ?_⟩⟩
    · rw [hg 0 (by omega)]; exact p1
    · rw [hg i hi]; exact p2 i hi
    · rw [hg i (by omega), hg (i + 1) (by omega)]; exact p3 i hi
  · rintro ⟨l, hl⟩
    obtain ⟨l1, l2, l3, l4⟩ := (mem_linesR t L hst l).1 hl
    exact ⟨gt l, l2, l3, l4⟩
/-- A line that is right agrees just if it is among the lines of the reading. -/
theorem agB_line {t : TV} (hst : ∀ x ∈ t.starts.l, x < t.P) {l r : List Nat} (h1 : l.length = t.legs.l.length + 1) (h2 : ∀ x ∈ l, x < t.P) (h3 : (l[0]?).getD 0 ∈ t.starts.l) : agB t l r = true ↔ l ∈ linesR t (leadsOf t r) := by
  rw [mem_linesR t _ hst]
  unfold agB LineOk
  rw [List.all_eq_true]
  constructor
  · intro h
    refine ⟨h1, h3, fun i hi => ?_, fun i hi => h i (List.mem_range.2 hi)⟩
    have hi' : i < l.length := by omega
    unfold gt
    rw [List.getElem?_eq_getElem hi']
    exact h2 _ (List.getElem_mem hi')
  · rintro ⟨_, _, _, h⟩ i hi
    exact h i (List.mem_range.1 hi)
/-- The readings in which some line agrees. -/
def hasR (t : TV) : List (List Nat) := (allR (cntR t)).filter (fun r => hasB t (leadsOf t r))
theorem hasR_none {t : TV} (hst : ∀ x ∈ t.starts.l, x < t.P) : hasR t = [] ↔ allD t = [] := by
  unfold hasR
  rw [List.filter_eq_nil_iff, List.eq_nil_iff_forall_not_mem]
  constructor
  · intro h x hx
    obtain ⟨r, hr, hx⟩ := mem_allD.1 hx
    exact h r hr ((hasB_line t _ hst).2 ⟨x, hx⟩)
  · intro h r hr hb
    obtain ⟨x, hx⟩ := (hasB_line t _ hst).1 hb
    exact h x (mem_allD.2 ⟨r, hr, hx⟩)
theorem hasR_sorted (t : TV) : (hasR t).Pairwise fun a b => cmpL a b < 0 := (sorted_allR _).filter _
/-- No line at all: nothing is marked at the start. -/
theorem met_none {t : TV} (hst : ∀ x ∈ t.starts.l, x < t.P) (h : allD t = []) (x : Nat) : metR t (allR (cntR t)) 0 x = false := by
  cases hm : metR t (allR (cntR t)) 0 x with
  | false => rfl
  | true =>
    obtain ⟨l, hl, _⟩ := (metR_line t hst 0 x (Nat.zero_le _)).1 hm
    rw [h] at hl; simp at hl
theorem met_some {t : TV} (hk : OkT t) (h : allD t ≠ []) : ∃ x, x < 12 ∧ metR t (allR (cntR t)) 0 x = true := by
  obtain ⟨l, hl⟩ := List.exists_mem_of_ne_nil _ h
  obtain ⟨r, hr, hx⟩ := mem_allD.1 hl
  have h1 := (mem_linesR t _ hk.start.1 _).1 hx
  exact ⟨gt l 0, by have := h1.2.2.1 0 (Nat.zero_le _); have := hk.p2; omega, (metR_line t hk.start.1 0 _ (Nat.zero_le _)).2 ⟨l, hl, rfl⟩⟩
end Go.Proofs.YtopjjcgmcieboaaGreatDoor

namespace Go.Proofs.YtopjjcgmcieboaaGreatDoor
open Go.RowKit
attribute [local go_sem] Oper.semAt_some

set_option maxRecDepth 100000 in
set_option maxHeartbeats 2000000 in
theorem Agrees_none (t : TV) (ln : SL Nat) (w : World) (ht : IsT w t) (hk : OkT t) (hl : IsSl 1 num w ln) (hll : ln.l.length = t.legs.l.length + 1) (hlt : ∀ x ∈ ln.l, x < t.P) (hs0 : (ln.l[0]?).getD 0 ∈ t.starts.l)
    (hf : (allR (cntR t)).find? (agB t ln.l) = none) :
    Calls Tryz.prog 12 #[t.v, .slice ln.a ln.l.length ln.c] w fun e w' => e = .returned (.tuple #[.slice none 0 0, .int .i64 7]) ∧ Ext w w' := by
  obtain ⟨la, lc, ll⟩ := ln
  dsimp only at hll hlt hs0 hf
  obtain ⟨bl, ol, hla, hlc⟩ := hl.2.2.resolve_left (by show ¬ ll.length = 0; omega)
  dsimp only at hla hlc
  subst hla
  have HT := Lib.hid ht; clear ht
  have HK := Lib.hid hk; clear hk
  have HL := Lib.hid hl
  have HLl := Lib.hid hll
  have HLt' := Lib.hid hlt; clear hlt
  have HF := Lib.hid hf; clear hf
  have hN10 := HK.out.legs
  have hS0 : ∃ x, ll[0]? = some x ∧ x ∈ t.starts.l ∧ x < 12 := by
    have h0 : 0 < ll.length := by omega
    refine ⟨ll[0], by simp [h0], by simpa [h0] using hs0, ?_⟩
    have := HLt'.out _ (List.getElem_mem h0); have := HK.out.p2; omega
  obtain ⟨x0, hx0, hx0s, hx12⟩ := hS0
  have hcl : ∀ k, k ≤ t.legs.l.length → w.cell? ⟨bl, ol + k, none⟩ = some (.int .i64 ((ll[k]?).getD 0 : Nat)) := fun k hk => by
    have h1 : k < ll.length := by omega
    have := hlc k h1 0 (by omega)
    rw [List.getElem?_eq_getElem h1]; simpa [num] using this
  have HCl := Lib.hid hcl; clear hcl hlc hs0 hl
  have HX0 : Hid (ll[0]? = some x0 ∧ x0 ∈ t.starts.l ∧ x0 < 12) := ⟨hx0, hx0s, hx12⟩
  clear hx0 hx0s hx12 hll
  refine callsIn_wide.1 (callsIn_of_wp_marks (n := 3) Tryz.func12 rfl trivial ?_ rfl)
  simp only [Tryz.ntmps12, List.size_toArray, List.length_cons, List.length_nil, Nat.reduceAdd, Nat.reduceSub, Array.replicate_succ, Array.replicate_zero, List.push_toArray, List.append_toArray, List.nil_append, List.cons_append]
  refine wpIn_wide.2 ?_
  obtain ⟨W0, hW0⟩ : ∃ W0, ((((w.alloc (.cells #[.int .i64 (t.P : Int), .slice t.ways.a t.ways.l.length t.ways.c, .slice t.words.a t.words.l.length t.words.c, .slice t.starts.a t.starts.l.length t.starts.c, .slice t.legs.a t.legs.l.length t.legs.c] 28)).alloc (.cells #[.slice (some ⟨bl, ol, none⟩) ll.length lc] 25)).alloc (.cells #[.slice none 0 0] 25)).alloc (.cells #[.int .i64 0] 33)) = W0 := ⟨_, rfl⟩
  have hX0 : Ext w W0 := by rw [← hW0]; exact ((((Ext.refl w).alloc _).alloc _).alloc _).alloc _
  have hT0 : TBox W0 w.heap.size t := by rw [← hW0]; exact ((((Ext.refl _).alloc _).alloc _).alloc _).block (World.alloc_heap_new w _)
  have h30 : W0.heap[w.heap.size + 1]? = some (.cells #[.slice (some ⟨bl, ol, none⟩) ll.length lc] 25 (0, 0)) := by rw [← hW0]; exact (((Ext.refl _).alloc _).alloc _).block (new2 w _ _)
  have h45 : W0.heap[w.heap.size + 1 + 1]? = some (.cells #[.slice none 0 0] 25 (0, 0)) ∧ W0.heap[w.heap.size + 1 + 1 + 1]? = some (.cells #[.int .i64 0] 33 (0, 0)) ∧ W0.heap.size = w.heap.size + 4 := by
    rw [← hW0]
    have e1 := new2 ((w.alloc (.cells #[.int .i64 (t.P : Int), .slice t.ways.a t.ways.l.length t.ways.c, .slice t.words.a t.words.l.length t.words.c, .slice t.starts.a t.starts.l.length t.starts.c, .slice t.legs.a t.legs.l.length t.legs.c] 28)).alloc (.cells #[.slice (some ⟨bl, ol, none⟩) ll.length lc] 25)) (.cells #[.slice none 0 0] 25) (.cells #[.int .i64 0] 33)
    have e2 := new2 (w.alloc (.cells #[.int .i64 (t.P : Int), .slice t.ways.a t.ways.l.length t.ways.c, .slice t.words.a t.words.l.length t.words.c, .slice t.starts.a t.starts.l.length t.starts.c, .slice t.legs.a t.legs.l.length t.legs.c] 28)) (.cells #[.slice (some ⟨bl, ol, none⟩) ll.length lc] 25) (.cells #[.slice none 0 0] 25)
    rw [World.size_alloc] at e2
    rw [World.size_alloc, World.size_alloc] at e1
    exact ⟨((Ext.refl _).alloc _).block e2, e1, by simp⟩
  have HW0 := Lib.hid hW0; clear hW0
  go_wp2_with fail
  go_step3
  go_wp2_with fail
  rw [HW0.out]
  clear HW0
  refine (check_ok t W0 (HT.out.ext hX0) HK.out).mono ?_
  rintro e w1 ⟨rfl, hx1⟩
  have HX1 : Hid (Ext w w1) := hX0.trans hx1
  have HTB1 : Hid (TBox w1 w.heap.size t) := hx1.block hT0
  have HBl1 : Hid (w1.heap[w.heap.size + 1]? = some (.cells #[.slice (some ⟨bl, ol, none⟩) ll.length lc] 25 (0, 0))) := hx1.block h30
  have HB1 : Hid (w1.heap[w.heap.size + 1 + 1]? = some (.cells #[.slice none 0 0] 25 (0, 0)) ∧ w1.heap[w.heap.size + 1 + 1 + 1]? = some (.cells #[.int .i64 0] 33 (0, 0)) ∧ w.heap.size + 4 ≤ w1.heap.size) :=
    ⟨hx1.block h45.1, hx1.block h45.2.1, by have := hx1.size; have := h45.2.2; omega⟩
  clear hX0 hT0 h30 h45 hx1
  have c0 := cell_at HTB1.out 0
  have c1 := cell_at HTB1.out 1
  have c2 := cell_at HTB1.out 2
  have c3 := cell_at HTB1.out 3
  have c4 := cell_at HTB1.out 4
  have cl := cell_at HBl1.out 0
  simp only [List.getElem?_toArray, List.getElem?_cons_succ, List.getElem?_cons_zero] at c0 c1 c2 c3 c4 cl
  go_wp2_with fail
  clear c0 c1 c2 c3 c4 cl
  refine (checkLine_ok t ⟨some ⟨bl, ol, none⟩, lc, ll⟩ w1 HK.out.p2 HK.out.legs (HL.out.ext HX1.out) HLl.out HLt'.out).mono ?_
  rintro e w2 ⟨rfl, hx2⟩
  have HX2 : Hid (Ext w w2) := HX1.out.trans hx2
  have HTB2 : Hid (TBox w2 w.heap.size t) := hx2.block HTB1.out
  have HBl2 : Hid (w2.heap[w.heap.size + 1]? = some (.cells #[.slice (some ⟨bl, ol, none⟩) ll.length lc] 25 (0, 0))) := hx2.block HBl1.out
  have HB2 : Hid (w2.heap[w.heap.size + 1 + 1]? = some (.cells #[.slice none 0 0] 25 (0, 0)) ∧ w2.heap[w.heap.size + 1 + 1 + 1]? = some (.cells #[.int .i64 0] 33 (0, 0)) ∧ w.heap.size + 4 ≤ w2.heap.size) :=
    ⟨hx2.block HB1.out.1, hx2.block HB1.out.2.1, by have := hx2.size; have := HB1.out.2.2; omega⟩
  clear hx2 HX1 HTB1 HBl1 HB1
  have c0 := cell_at HTB2.out 0
  have c1 := cell_at HTB2.out 1
  have c2 := cell_at HTB2.out 2
  have c3 := cell_at HTB2.out 3
  have c4 := cell_at HTB2.out 4
  have cl := cell_at HBl2.out 0
  simp only [List.getElem?_toArray, List.getElem?_cons_succ, List.getElem?_cons_zero] at c0 c1 c2 c3 c4 cl
  have cx : w2.cell? ⟨bl, ol, none⟩ = some (.int .i64 (x0 : Int)) := by
    have := HX2.out.cell (HCl.out 0 (Nat.zero_le _))
    rw [HX0.out.1] at this; simpa using this
  have hll1 : (0 : Int) < (ll.length : Int) := by have := HLl.out; omega
  have HCt := Lib.hid (fun n => contains_any t.starts.a _ t.starts.c t.starts.l x0 (w2.drewN n) rfl ((HT.out.ext HX2.out).starts.ext ((Ext.refl w2).drewN n)))
  have HCc : Hid (t.starts.l.contains x0 = true) := by show _ = _; simpa using HX0.out.2.1
  rw [HCc.out] at HCt
  go_wp2_with fail
  go_quiet ((go_at_call 44; exact quiet_same (HCt.out _)))
  go_wp2_with fail
  have hdw : Ext w2 (w2.drewN nq) := (Ext.refl w2).drewN nq
  have HX3 : Hid (Ext w (w2.drewN nq)) := HX2.out.trans hdw
  have HTB3 : Hid (TBox (w2.drewN nq) w.heap.size t) := hdw.block HTB2.out
  have HBl3 : Hid ((w2.drewN nq).heap[w.heap.size + 1]? = some (.cells #[.slice (some ⟨bl, ol, none⟩) ll.length lc] 25 (0, 0))) := hdw.block HBl2.out
  have HB3 : Hid ((w2.drewN nq).heap[w.heap.size + 1 + 1]? = some (.cells #[.slice none 0 0] 25 (0, 0)) ∧ (w2.drewN nq).heap[w.heap.size + 1 + 1 + 1]? = some (.cells #[.int .i64 0] 33 (0, 0)) ∧ w.heap.size + 4 ≤ (w2.drewN nq).heap.size) :=
    ⟨hdw.block HB2.out.1, hdw.block HB2.out.2.1, Nat.le_trans HB2.out.2.2 hdw.size⟩
  clear hdw HX2 HTB2 HBl2 HB2 HCt HCc c0 c1 c2 c3 c4 cl cx
  generalize w2.drewN nq = w3 at *
  have c0 := cell_at HTB3.out 0
  have c1 := cell_at HTB3.out 1
  have c2 := cell_at HTB3.out 2
  have c3 := cell_at HTB3.out 3
  have c4 := cell_at HTB3.out 4
  simp only [List.getElem?_toArray, List.getElem?_cons_succ, List.getElem?_cons_zero] at c0 c1 c2 c3 c4
  go_step3
  go_wp2_with fail
  clear c0 c1 c2 c3 c4
  refine (readings_any t w3).mono ?_
  rintro e w4 ⟨rfl, hx4, hB4, hs4⟩
  have HX4 : Hid (Ext w w4) := HX3.out.trans hx4
  have HTB4 : Hid (TBox w4 w.heap.size t) := hx4.block HTB3.out
  have HBl4 : Hid (w4.heap[w.heap.size + 1]? = some (.cells #[.slice (some ⟨bl, ol, none⟩) ll.length lc] 25 (0, 0))) := hx4.block HBl3.out
  have HB4 : Hid (w4.heap[w.heap.size + 1 + 1]? = some (.cells #[.slice none 0 0] 25 (0, 0)) ∧ w4.heap[w.heap.size + 1 + 1 + 1]? = some (.cells #[.int .i64 0] 33 (0, 0)) ∧ w.heap.size + 4 ≤ w3.heap.size ∧ w4.heap.size = w3.heap.size + 1) :=
    ⟨hx4.block HB3.out.1, hx4.block HB3.out.2.1, HB3.out.2.2, hs4⟩
  have HBr := Lib.hid hB4
  clear hx4 hB4 hs4 HX3 HTB3 HBl3 HB3
  go_wp2_with fail
  refine (wpIn_wide (n := 3)).1 ?_
  refine wp_rangeFuncT (a₁ := ?a1) rfl enters_71 (readings1_gives t w3.heap.size w w4 (fun k => k ≠ w.heap.size + 1 + 1 ∧ k ≠ w.heap.size + 1 + 1 + 1) HT.out HK.out HX4.out HBr.out (fun k h => by omega) (by have := HB4.out; omega)) rfl
    (fun hi pre W => (∀ r ∈ pre, agB t ll r = false) ∧ Keep (fun k => k < w4.heap.size) w4 W) (fun hi c pre W => AgIx t ll (w.heap.size + 1 + 1) (w.heap.size + 1 + 1 + 1) w4.heap.size w4 hi c pre W)
    ?_ ?_ ?_ ?assign ?body ?done ?stop
  case assign =>
    intro l s W K hK
    gi_wp2
    exact hK
  · intro hi s A B hh h hk
    exact ⟨h.1, h.2.trans (hk.mono (fun k _ h => .inl h))⟩
  · intro c hi s A B hh h hk
    have := HB4.out
    obtain ⟨rfl, pre0, sl, q1, q2, q3, q4, q5, q6, q7, q8⟩ := h
    exact ⟨rfl, pre0, sl, q1, q2, q3, hk.heap q4 (.inl (by omega)), hk.heap q5 (.inl (by omega)), q6, own_keep q7 hk (fun i hi => .inr hi), q8.trans (hk.mono (fun k _ h => .inl h.1))⟩
  · intro hi hh
    exact ⟨by simp, Keep.refl _ _⟩
  case body =>
    rintro l hi pre s W hh hhW ⟨hA, hKp⟩ hpre hsl hown
    have hB4 := HB4.out
    have HXW : Hid (Ext w W) := ext_keep HX4.out hKp (fun i hi => by omega)
    have HTW : Hid (TBox W w.heap.size t) := hKp.heap HTB4.out (by omega)
    have HBlW : Hid (W.heap[w.heap.size + 1]? = some (.cells #[.slice (some ⟨bl, ol, none⟩) ll.length lc] 25 (0, 0))) := hKp.heap HBl4.out (by omega)
    have HBW : Hid (W.heap[w.heap.size + 1 + 1]? = some (.cells #[.slice none 0 0] 25 (0, 0)) ∧ W.heap[w.heap.size + 1 + 1 + 1]? = some (.cells #[.int .i64 0] 33 (0, 0))) := ⟨hKp.heap hB4.1 (by omega), hKp.heap hB4.2.1 (by omega)⟩
    have hmem := mem_of_prefix hpre
    have HRd := Lib.hid (allR_rd HK.out hmem)
    have HIs := Lib.hid (own_sl hown hsl)
    have HOs := Lib.hid hown
    have HSl := Lib.hid hsl
    have HA := Lib.hid hA
    have HKp := Lib.hid hKp
    clear hpre hown hmem hA hKp
    have c0 := cell_at HTW.out 0
    have c1 := cell_at HTW.out 1
    have c2 := cell_at HTW.out 2
    have c3 := cell_at HTW.out 3
    have c4 := cell_at HTW.out 4
    simp only [List.getElem?_toArray, List.getElem?_cons_succ, List.getElem?_cons_zero] at c0 c1 c2 c3 c4
    gi_wp2_with (refine ⟨trivial, ?_⟩; gi_at_call 33; refine (CallsIn.inRound l (callsIn_wide.2 (read_any t s W (HT.out.ext HXW.out) HK.out HIs.out HRd.out))).mono ?_; clear c0 c1 c2 c3 c4; rintro e v1 ⟨p, rfl, hw1, hx1⟩; have HW1 := Lib.hid hw1; have HY1 := Lib.hid hx1; have c4 := cell_at (hx1.block HTW.out) 4; simp only [List.getElem?_toArray, List.getElem?_cons_succ, List.getElem?_cons_zero] at c4; clear hw1 hx1)
    have HTW1 : Hid (Ext w v1) := HXW.out.trans HY1.out
    have HBlV : Hid (v1.heap[w.heap.size + 1]? = some (.cells #[.slice (some ⟨bl, ol, none⟩) ll.length lc] 25 (0, 0))) := HY1.out.block HBlW.out
    have HBV : Hid (v1.heap[w.heap.size + 1 + 1]? = some (.cells #[.slice none 0 0] 25 (0, 0)) ∧ v1.heap[w.heap.size + 1 + 1 + 1]? = some (.cells #[.int .i64 0] 33 (0, 0))) := ⟨HY1.out.block HBW.out.1, HY1.out.block HBW.out.2⟩
    clear c4
    have hmx : Tryz.prog.follows .mixedOrders = true := by kernel_rfl
    gi_loopw [39] (fun i wr => ∃ k : Nat, k ≤ t.legs.l.length ∧ i = .int .i64 (k : Int) ∧ Hid (∀ j, j < k → leadsOf t s.l j ((ll[j]?).getD 0) ((ll[j + 1]?).getD 0) = true) ∧ Hid (Ext v1 wr)) (fun i _ => t.legs.l.length - (intOf i).toNat)
    case atStart => exact ⟨0, Nat.zero_le _, rfl, fun j hj => by omega, Ext.refl _⟩
    case round =>
      obtain ⟨wo, rfl⟩ : ∃ wo : World, wo = wr := ⟨_, rfl⟩
      obtain ⟨k, hk, rfl, HLd, HX⟩ := hrel
      by_cases hlt : k < t.legs.l.length
      · have dk : decide ((k : Int) < (t.legs.l.length : Int)) = true := decide_eq_true (by omega)
        have EX := HTW1.out.trans HX.out
        have a0 := EX.cell (HCl.out k (by omega))
        have a1 := EX.cell (HCl.out (k + 1) (by omega))
        have b0 : wo.cell? ⟨w.heap.size + 1, 0, none⟩ = some (.slice (some ⟨bl, ol, none⟩) ll.length lc) := (cell_at (HX.out.block HBlV.out) 0).trans rfl
        have hl0 : (ll[k]?).getD 0 < 12 := by
          have h1 : k < ll.length := by have := HLl.out; omega
          rw [List.getElem?_eq_getElem h1]; have := HLt'.out _ (List.getElem_mem h1); have := HK.out.p2; simp only [Option.getD_some]; omega
        have hl1 : (ll[k + 1]?).getD 0 < 12 := by
          have h1 : k + 1 < ll.length := by have := HLl.out; omega
          rw [List.getElem?_eq_getElem h1]; have := HLt'.out _ (List.getElem_mem h1); have := HK.out.p2; simp only [Option.getD_some]; omega
        have HC := Lib.hid (fun n => canLead_any p t (leadsOf t s.l) k ((ll[k]?).getD 0) ((ll[k + 1]?).getD 0) (wo.drewN n) ((HW1.out.ext HX.out).ext ((Ext.refl wo).drewN n)) (by omega) hl0 hl1)
        have hll2 : (k : Int) + 1 < (ll.length : Int) := by have := HLl.out; omega
        have k0 : (0 : Int) ≤ k := by omega
        have k1 : (k : Int) < (ll.length : Int) := by omega
        have k2 : (k : Int) < 10 := by omega
        have k3 : (0 : Int) ≤ (k : Int) + 1 := by omega
        have hwr : IntKind.i64.wrap ((k : Int) + 1) = (k : Int) + 1 := IntWalk.i64_in _ (by omega)
        have htn : ((k : Int) + 1).toNat = k + 1 := by omega
        have HLk : Hid (leadsOf t s.l k ((ll[k]?).getD 0) ((ll[k + 1]?).getD 0) = true → ∀ j, j < k + 1 → leadsOf t s.l j ((ll[j]?).getD 0) ((ll[j + 1]?).getD 0) = true) := fun h j hj => by
          by_cases e : j = k
          · subst e; exact h
          · exact HLd.out j (by omega)
        have HLn : Hid (leadsOf t s.l k ((ll[k]?).getD 0) ((ll[k + 1]?).getD 0) = false → agB t ll s.l = false) := fun h => by
          unfold agB
          rw [List.all_eq_false]
          exact ⟨k, by simpa using hlt, by simp [h]⟩
        generalize (ll[k]?).getD 0 = f at *
        generalize (ll[k + 1]?).getD 0 = g at *
        have f0 : (0 : Int) ≤ f := by omega
        rcases hC : leadsOf t s.l k f g with _ | _
        · rw [hC] at HC
          have HLf : Hid (agB t ll s.l = false) := HLn.out hC
          clear HLk HLn hC
          gi_wp2_with fail
          refine round_quiet (by kernel_rfl) (by kernel_rfl) (by kernel_rfl) ?_
          repeat (quiet_step ((go_at_call 45; exact quiet_same (HC.out _))))
          refine wpQuiet_nil ?_
          intro _ hw'
          obtain ⟨nq, hw2⟩ := hw'
          subst hw2
          gi_wp2_with fail
          have EW : Ext W (wo.drewN nq) := HY1.out.trans (HX.out.trans ((Ext.refl wo).drewN nq))
          refine ⟨Keep.of_ext EW, fun r hr => ?_, HKp.out.ext EW⟩
          rcases List.mem_append.1 hr with hr | hr
          · exact HA.out r hr
          · simp only [List.mem_singleton] at hr; rw [hr]; exact HLf.out
        · rw [hC] at HC
          have HLt2 : Hid (∀ j, j < k + 1 → leadsOf t s.l j ((ll[j]?).getD 0) ((ll[j + 1]?).getD 0) = true) := HLk.out hC
          clear HLk HLn hC
          gi_wp2_with fail
          refine round_quiet (by kernel_rfl) (by kernel_rfl) (by kernel_rfl) ?_
          repeat (quiet_step ((go_at_call 45; exact quiet_same (HC.out _))))
          refine wpQuiet_nil ?_
          intro _ hw'
          obtain ⟨nq, hw2⟩ := hw'
          subst hw2
          gi_wp2_with fail
          go_roundw
          case rel => exact ⟨k + 1, by omega, by go_num, HLt2, HX.out.drewN nq⟩
          case measure => simp [intOf]; omega
      · have hke : k = t.legs.l.length := by omega
        subst hke
        have HAg : Hid (agB t ll s.l = true) := by
          show _ = _; unfold agB; rw [List.all_eq_true]
          intro j hj; exact HLd.out j (by simpa using hj)
        have hB := HX.out.block HBV.out.1
        have hB5 := HX.out.block HBV.out.2
        have c4 : wo.cell? ⟨w.heap.size + 1 + 1, 0, none⟩ = some (.slice none 0 0) := (cell_at hB 0).trans rfl
        have c5 : wo.cell? ⟨w.heap.size + 1 + 1 + 1, 0, none⟩ = some (.int .i64 0) := (cell_at hB5 0).trans rfl
        have f4 : wo.frozen? ⟨w.heap.size + 1 + 1, 0, none⟩ = false := by simp [World.frozen?, hB]
        have f5 : wo.frozen? ⟨w.heap.size + 1 + 1 + 1, 0, none⟩ = false := by simp [World.frozen?, hB5]
        have HBo := Lib.hid hB; have HB5o := Lib.hid hB5; clear hB hB5
        have e12 : ¬ w.heap.size + 1 + 1 = w.heap.size + 1 + 1 + 1 := by omega
        have e21 : ¬ w.heap.size + 1 + 1 + 1 = w.heap.size + 1 + 1 := by omega
        gi_wp2_with fail
        have K1 : Keep (But2 w4.heap.size (w.heap.size + 1 + 1) (w.heap.size + 1 + 1 + 1)) W ((wo.setCell ⟨w.heap.size + 1 + 1, 0, none⟩ s.v).setCell ⟨w.heap.size + 1 + 1 + 1, 0, none⟩ (.int .i64 0)) :=
          ((Keep.of_ext (HY1.out.trans HX.out)).setCell _ _ (fun _ h => h.2.1 rfl)).setCell _ _ (fun _ h => h.2.2 rfl)
        have K2 : Keep (Inn w4.heap.size (fun k => k ≠ w.heap.size + 1 + 1 ∧ k ≠ w.heap.size + 1 + 1 + 1) w4.heap.size hi) W ((wo.setCell ⟨w.heap.size + 1 + 1, 0, none⟩ s.v).setCell ⟨w.heap.size + 1 + 1 + 1, 0, none⟩ (.int .i64 0)) :=
          ((Keep.of_ext (HY1.out.trans HX.out)).setCell _ _ (fun _ h => by rcases h with h | h; exact h.2.1 rfl; have := h.1; simp only at this; omega)).setCell _ _ (fun _ h => by rcases h with h | h; exact h.2.2 rfl; have := h.1; simp only at this; omega)
        have b4 : (wo.setCell ⟨w.heap.size + 1 + 1, 0, none⟩ s.v).heap[w.heap.size + 1 + 1]? = some (.cells #[s.v] 25 (0, 0)) := heap_setCell_same HBo.out s.v
        have b5 : (wo.setCell ⟨w.heap.size + 1 + 1, 0, none⟩ s.v).heap[w.heap.size + 1 + 1 + 1]? = some (.cells #[.int .i64 0] 33 (0, 0)) := (Below.heap_setCell _ _ _ _ (by show w.heap.size + 1 + 1 + 1 ≠ _; omega)).trans HB5o.out
        refine ⟨K2, rfl, pre, s, rfl, HA.out, HAg.out, (Below.heap_setCell _ _ _ _ (by show w.heap.size + 1 + 1 ≠ w.heap.size + 1 + 1 + 1; omega)).trans b4, heap_setCell_same b5 _, HSl.out, own_set (own_set (own_ext HOs.out (HY1.out.trans HX.out)) (by omega) _) (by omega) _, ?_⟩
        exact (HKp.out.mono (fun k _ h => h.1)).trans K1
  case stop =>
    rintro hi c pre W hh hp ⟨rfl, pre0, s, hpr, q2, q3, q4, q5, q6, q7, q8⟩ hD
    have h1 := List.find?_eq_none.1 HF.out s.l (hp.subset (by rw [hpr]; simp))
    exact absurd q3 h1
  case done =>
    rintro hi W hh ⟨hA, hKp⟩ hD
    have hB4 := HB4.out
    have h4W : W.heap[w.heap.size + 1 + 1]? = some (.cells #[.slice none 0 0] 25 (0, 0)) := hKp.heap hB4.1 (by omega)
    have h5W : W.heap[w.heap.size + 1 + 1 + 1]? = some (.cells #[.int .i64 0] 33 (0, 0)) := hKp.heap hB4.2.1 (by omega)
    have HFin : Hid (∃ Wf, (Instr.takeDeferred w4.heap.size).run Tryz.prog ((W.setCell ⟨w.heap.size + 1 + 1, 0, none⟩ (.slice none 0 0)).setCell ⟨w.heap.size + 1 + 1 + 1, 0, none⟩ (.int .i64 7)) = .ok [] Wf ∧ Wf.cell? ⟨w.heap.size + 1 + 1, 0, none⟩ = some (.slice none 0 0) ∧ Wf.cell? ⟨w.heap.size + 1 + 1 + 1, 0, none⟩ = some (.int .i64 7) ∧ Ext w Wf) := by
      have e1 : ((W.setCell ⟨w.heap.size + 1 + 1, 0, none⟩ (.slice none 0 0)).setCell ⟨w.heap.size + 1 + 1 + 1, 0, none⟩ (.int .i64 7)).heap[w4.heap.size]? = some (.deferred (some [])) := by
        rw [Below.heap_setCell _ _ _ _ (by show w4.heap.size ≠ w.heap.size + 1 + 1 + 1; omega), Below.heap_setCell _ _ _ _ (by show w4.heap.size ≠ w.heap.size + 1 + 1; omega)]; exact hD
      have b4 : (W.setCell ⟨w.heap.size + 1 + 1, 0, none⟩ (.slice none 0 0)).heap[w.heap.size + 1 + 1]? = some (.cells #[.slice none 0 0] 25 (0, 0)) := heap_setCell_same h4W _
      have b4' : ((W.setCell ⟨w.heap.size + 1 + 1, 0, none⟩ (.slice none 0 0)).setCell ⟨w.heap.size + 1 + 1 + 1, 0, none⟩ (.int .i64 7)).heap[w.heap.size + 1 + 1]? = some (.cells #[.slice none 0 0] 25 (0, 0)) := by
        rw [Below.heap_setCell _ _ _ _ (by show w.heap.size + 1 + 1 ≠ w.heap.size + 1 + 1 + 1; omega)]; exact b4
      have b5 : (W.setCell ⟨w.heap.size + 1 + 1, 0, none⟩ (.slice none 0 0)).heap[w.heap.size + 1 + 1 + 1]? = some (.cells #[.int .i64 0] 33 (0, 0)) := by
        rw [Below.heap_setCell _ _ _ _ (by show w.heap.size + 1 + 1 + 1 ≠ w.heap.size + 1 + 1; omega)]; exact h5W
      have b5' : ((W.setCell ⟨w.heap.size + 1 + 1, 0, none⟩ (.slice none 0 0)).setCell ⟨w.heap.size + 1 + 1 + 1, 0, none⟩ (.int .i64 7)).heap[w.heap.size + 1 + 1 + 1]? = some (.cells #[.int .i64 7] 33 (0, 0)) := heap_setCell_same b5 _
      have KD : Keep (fun k => k ≠ w.heap.size + 1 + 1 ∧ k ≠ w.heap.size + 1 + 1 + 1 ∧ k ≠ w4.heap.size) W (((W.setCell ⟨w.heap.size + 1 + 1, 0, none⟩ (.slice none 0 0)).setCell ⟨w.heap.size + 1 + 1 + 1, 0, none⟩ (.int .i64 7)).putObj w4.heap.size (.deferred none)) :=
        (((Keep.refl _ W).setCell _ _ (fun _ h => h.1 rfl)).setCell _ _ (fun _ h => h.2.1 rfl)).putObj _ _ (fun h => h.2.2 rfl)
      refine ⟨_, run_takeDeferred e1, (cell_at ((World.putObj_heap_other (by omega)).trans b4') 0).trans rfl, (cell_at ((World.putObj_heap_other (by omega)).trans b5') 0).trans rfl, ?_⟩
      exact ext_keep (ext_keep HX4.out hKp (fun i hi => by omega)) KD (fun i hi => ⟨by omega, by omega, by omega⟩)
    have hc4 : W.cell? ⟨w.heap.size + 1 + 1, 0, none⟩ = some (.slice none 0 0) := (cell_at h4W 0).trans rfl
    have hc5 : W.cell? ⟨w.heap.size + 1 + 1 + 1, 0, none⟩ = some (.int .i64 0) := (cell_at h5W 0).trans rfl
    have hf4 : W.frozen? ⟨w.heap.size + 1 + 1, 0, none⟩ = false := by simp [World.frozen?, h4W]
    have hf5 : W.frozen? ⟨w.heap.size + 1 + 1 + 1, 0, none⟩ = false := by simp [World.frozen?, h5W]
    clear hD h4W h5W hKp hA hB4
    have e12 : ¬ w.heap.size + 1 + 1 = w.heap.size + 1 + 1 + 1 := by omega
    have e21 : ¬ w.heap.size + 1 + 1 + 1 = w.heap.size + 1 + 1 := by omega
    simp only [Exit.inBlock, Exit.then]
    go_wp2_with fail
    obtain ⟨Wf, f1, f2, f3, f6⟩ := HFin.out
    refine ⟨by simp, .inl ⟨_, _, rfl, f1, ?_⟩⟩
    exact ⟨_, res2 rfl _ _ ⟨w.heap.size + 1 + 1, 0, none⟩ ⟨w.heap.size + 1 + 1 + 1, 0, none⟩ rfl rfl _ _ (load24 _ _ _ f2) (load38 _ _ _ f3), rfl, f6⟩
end Go.Proofs.YtopjjcgmcieboaaGreatDoor

namespace Go.Proofs.YtopjjcgmcieboaaGreatDoor
open Go.RowKit
attribute [local go_sem] Oper.semAt_some

/-- Twelve marks that are all unset. -/
theorem eq145n (w : World) (M : Nat → Bool) (h : ∀ x, x < 12 → M x = false) : (Op.equalIn 10000 86 (.agg #[.bool (M 0), .bool (M 1), .bool (M 2), .bool (M 3), .bool (M 4), .bool (M 5), .bool (M 6), .bool (M 7), .bool (M 8), .bool (M 9), .bool (M 10), .bool (M 11)]) (.agg #[.bool false, .bool false, .bool false, .bool false, .bool false, .bool false, .bool false, .bool false, .bool false, .bool false, .bool false, .bool false])).run Tryz.prog w = .ok true w := by
  obtain ⟨i, hi, -⟩ := info_parts info4
  rw [run_equalIn_array (w := w) 9999 _ _ Tryz.underlying86 hi, cells4, eqItems_bool w 9998 _ _ M (fun _ => false)]
  · have : ((List.range 12).all fun i => M i == false) = true := by
      rw [List.all_eq_true]; intro x hx; rw [h x (List.mem_range.1 hx)]; rfl
    rw [this]
  · intro j hj
    have hj' : j < 12 := by simpa using hj
    rcases j with _ | _ | _ | _ | _ | _ | _ | _ | _ | _ | _ | _ | j <;> first | exact ⟨rfl, rfl⟩ | omega

set_option maxRecDepth 100000 in
set_option maxHeartbeats 2000000 in
theorem Ends_none (t : TV) (w : World) (ht : IsT w t) (hk : OkT t) (hne : ∀ x, x < 12 → metR t (allR (cntR t)) 0 x = false) :
    Calls Tryz.prog 19 #[t.v] w fun e w' => e = .returned (.tuple #[.slice none 0 0, .int .i64 7]) ∧ Ext w w' := by
  have HT := Lib.hid ht; clear ht
  have HK := Lib.hid hk; clear hk
  have HNe := Lib.hid hne; clear hne
  refine callsIn_wide.1 (callsIn_of_wp_marks (n := 3) Tryz.func19 rfl trivial ?_ rfl)
  simp only [Tryz.ntmps19, List.size_toArray, List.length_cons, List.length_nil, Nat.reduceAdd, Nat.reduceSub, Array.replicate_succ, Array.replicate_zero, List.push_toArray, List.append_toArray, List.nil_append, List.cons_append]
  refine wpIn_wide.2 ?_
  go_wp2_with fail
  refine (check_ok t _ (HT.out.ext ((Ext.refl w).alloc _)) HK.out).mono ?_
  rintro e w1 ⟨rfl, hx1⟩
  have hb1 := hx1.block (World.alloc_heap_new w _)
  have HX1 : Hid (Ext w w1) := ((Ext.refl w).alloc _).trans hx1
  have HTB1 : Hid (TBox w1 w.heap.size t) := hb1
  have hlt1 : w.heap.size < w1.heap.size := by have := hx1.size; rw [World.size_alloc] at this; omega
  have HLt := Lib.hid hlt1
  clear hx1
  have c0 := cell_at hb1 0
  have c1 := cell_at hb1 1
  have c2 := cell_at hb1 2
  have c3 := cell_at hb1 3
  have c4 := cell_at hb1 4
  simp only [List.getElem?_toArray, List.getElem?_cons_succ, List.getElem?_cons_zero] at c0 c1 c2 c3 c4
  clear hb1
  go_wp2_with fail
  clear c0 c1 c2 c3 c4
  have hM2 := zeroMrk w1
  have HX2 : Hid (Ext w1 (w1.alloc (.cells Tryz.zeroCells88 88))) := (Ext.refl w1).alloc _
  have hs2 : (w1.alloc (.cells Tryz.zeroCells88 88)).heap.size = w1.heap.size + 1 := World.size_alloc _ _
  generalize w1.alloc (.cells Tryz.zeroCells88 88) = w2 at *
  refine (readings_any t w2).mono ?_
  rintro e w3 ⟨rfl, hx3, hB3, hs3⟩
  have HX3 : Hid (Ext w2 w3) := hx3
  have HM3 : Hid (Mrk w3 w1.heap.size (fun _ _ => false)) := hM2.ext hx3
  have HB3 := Lib.hid hB3
  have HS : Hid (w2.heap.size = w1.heap.size + 1 ∧ w3.heap.size = w1.heap.size + 2) := ⟨hs2, by omega⟩
  clear hx3 hM2 hB3 hs2 hs3
  go_wp2_with fail
  refine (wpIn_wide (n := 3)).1 ?_
  refine wp_rangeFuncT (a₁ := ?a1) rfl enters_71 (readings1_gives t w2.heap.size w w3 (fun k => k ≠ w1.heap.size) HT.out HK.out (HX1.out.trans (HX2.out.trans HX3.out)) HB3.out (fun k h => by have := HLt.out; omega) (by have := HS.out; omega)) rfl
    (fun hi pre W => Mrk W w1.heap.size (metR t pre) ∧ Keep (But w3.heap.size w1.heap.size) w3 W) (fun _ _ _ _ => False)
    ?_ (fun _ _ _ _ _ _ h _ => h) ?_ ?assign ?body ?done ?stop
  case assign =>
    intro l s W K hK
    gi_wp2
    exact hK
  · intro hi s A B hh h hk
    have := HS.out
    exact ⟨h.1.keep hk (.inl (by omega)), h.2.trans (hk.mono (fun k _ h => .inl h.1))⟩
  · intro hi hh
    exact ⟨HM3.out, Keep.refl _ _⟩
  case body =>
    rintro l hi pre s W hh hhW ⟨hC, hKp⟩ hpre hsl hown
    have hS := HS.out
    have hLt := HLt.out
    have hXw : Ext w w3 := HX1.out.trans (HX2.out.trans HX3.out)
    have HXW : Hid (Ext w W) := ext_keep hXw hKp (fun i hi => ⟨by omega, by omega⟩)
    have HTW : Hid (TBox W w.heap.size t) := hKp.heap ((HX2.out.trans HX3.out).block HTB1.out) ⟨by omega, by omega⟩
    have hmem := mem_of_prefix hpre
    have HRd := Lib.hid (allR_rd HK.out hmem)
    have HIs := Lib.hid (own_sl hown hsl)
    clear hpre hown hmem hXw
    have c0 := cell_at HTW.out 0
    have c1 := cell_at HTW.out 1
    have c2 := cell_at HTW.out 2
    have c3 := cell_at HTW.out 3
    have c4 := cell_at HTW.out 4
    simp only [List.getElem?_toArray, List.getElem?_cons_succ, List.getElem?_cons_zero] at c0 c1 c2 c3 c4
    have HC := Lib.hid hC; clear hC
    have HKp := Lib.hid hKp; clear hKp
    gi_wp2_with (first
      | (refine ⟨trivial, ?_⟩; gi_at_call 33; refine (CallsIn.inRound l (callsIn_wide.2 (read_any t s W (HT.out.ext HXW.out) HK.out HIs.out HRd.out))).mono ?_; clear c0 c1 c2 c3 c4; rintro e v1 ⟨p, rfl, hw1, hx1⟩; have HW1 := Lib.hid hw1; have HY1 := Lib.hid hx1; clear hw1 hx1)
      | (refine ⟨trivial, ?_⟩; gi_at_call 49; refine (CallsIn.inRound l (callsIn_wide.2 (ends_any p t (leadsOf t s.l) v1 HW1.out (HT.out.ext (HXW.out.trans HY1.out)).starts HK.out))).mono ?_; rintro e v2 ⟨cs, rfl, hsz, hce, hx2⟩; have HY2 : Hid (Ext W v2) := HY1.out.trans hx2; have HSz := Lib.hid hsz; have HCe := Lib.hid hce; clear hsz hce hx2)
      | (refine ⟨trivial, ?_⟩; gi_at_call 48; refine (CallsIn.inRound l (callsIn_wide.2 (add_any w1.heap.size _ _ cs v2 (HC.out.ext HY2.out) HSz.out HCe.out))).mono ?_; rintro e v3 ⟨rfl, hm3, hk3⟩; have HM := Lib.hid hm3; have HK3 := Lib.hid hk3; clear hm3 hk3))
    refine ⟨((Keep.of_ext HY2.out).trans (HK3.out.mono (fun k _ h => by rcases h with h | h; exact h.2; omega))), ?_, (HKp.out.ext HY2.out).trans (HK3.out.mono (fun k _ h => h.2))⟩
    have e : metR t (pre ++ [s.l]) = fun f p => metR t pre f p || endsB t (leadsOf t s.l) f p := by
      funext f p; simp [metR]
    rw [e]; exact HM.out
  case stop =>
    rintro hi c pre W hh hp h
    exact h.elim
  case done =>
    rintro hi W hh ⟨hC, hKp⟩ hD
    have hS := HS.out
    have hLt := HLt.out
    have d0 := hC.cell 0 0 (by omega) (by omega)
    have d1 := hC.cell 0 1 (by omega) (by omega)
    have d2 := hC.cell 0 2 (by omega) (by omega)
    have d3 := hC.cell 0 3 (by omega) (by omega)
    have d4 := hC.cell 0 4 (by omega) (by omega)
    have d5 := hC.cell 0 5 (by omega) (by omega)
    have d6 := hC.cell 0 6 (by omega) (by omega)
    have d7 := hC.cell 0 7 (by omega) (by omega)
    have d8 := hC.cell 0 8 (by omega) (by omega)
    have d9 := hC.cell 0 9 (by omega) (by omega)
    have d10 := hC.cell 0 10 (by omega) (by omega)
    have d11 := hC.cell 0 11 (by omega) (by omega)
    simp only [Nat.zero_mul, Nat.zero_add] at d0 d1 d2 d3 d4 d5 d6 d7 d8 d9 d10 d11
    have hEq := eq145n W (metR t (allR (cntR t)) 0) HNe.out
    generalize hMM : metR t (allR (cntR t)) 0 = M0 at *
    have HMM := Lib.hid hMM; clear hMM
    have hXw : Ext w w3 := HX1.out.trans (HX2.out.trans HX3.out)
    have HXW : Hid (Ext w W) := ext_keep hXw hKp (fun i hi => ⟨by omega, by omega⟩)
    have HTW : Hid (TBox W w.heap.size t) := hKp.heap ((HX2.out.trans HX3.out).block HTB1.out) ⟨by omega, by omega⟩
    have hbw : w.heap.size < W.heap.size := (Array.getElem?_eq_some_iff.1 HTW.out).1
    have c4 := cell_at HTW.out 4
    simp only [List.getElem?_toArray, List.getElem?_cons_succ, List.getElem?_cons_zero] at c4
    have HC := Lib.hid hC; clear hC
    have HD : Hid (W.heap[w3.heap.size]? = some (.deferred (some []))) := hD
    have HLd := (Array.getElem?_eq_some_iff.1 hD).1
    have HLd' := Lib.hid HLd
    clear hD hKp hXw HLd hS hh
    simp only [Exit.inBlock, Exit.then]
    go_wp2_with fail
    have hD2 : W.heap[w3.heap.size]? = some (.deferred (some [])) := HD.out
    refine ⟨by simp, .inl ⟨_, _, rfl, run_takeDeferred hD2, ?_⟩⟩
    have KP : Keep (fun x => x ≠ w3.heap.size) W (W.putObj w3.heap.size (.deferred none)) := (Keep.refl _ W).putObj _ _ (fun h => h rfl)
    exact ⟨_, results_tmp2 rfl _ _ _, rfl, ext_keep HXW.out KP (fun i hi => by have := HLt.out; have := HS.out; omega)⟩
end Go.Proofs.YtopjjcgmcieboaaGreatDoor
