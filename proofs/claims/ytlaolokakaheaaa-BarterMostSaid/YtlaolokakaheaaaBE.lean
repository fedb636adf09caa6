/-
  Exchanges by order, as mathematics: what the North gets, that none of it is a waste, and that one stretch is cut at most. Nothing is claimed of the program here.
-/
import Derived.Test.YtlaolokakaheaaaBO
namespace Go.Proofs.Ytlaolokakaheaaa

def cntF (b : Bool) (x : St) : Nat := if b then x.n + x.s else x.n
/-- How many first ones of a list are full with so many. -/
def firstF : List Nat → Nat → Nat
  | [], _ => 0
  | c :: r, m => if c ≤ m then firstF r (m - c) + 1 else 0
theorem first_spec : ∀ (l : List Nat) (m : Nat), firstF l m ≤ l.length ∧ (l.take (firstF l m)).sum ≤ m ∧ (firstF l m < l.length → m < (l.take (firstF l m)).sum + (l[firstF l m]?.getD 0))
  | [], m => ⟨Nat.le_refl _, Nat.zero_le _, fun h => by simp at h⟩
  | c :: r, m => by
    unfold firstF
    by_cases h : c ≤ m
    · obtain ⟨h1, h2, h3⟩ := first_spec r (m - c)
      rw [if_pos h]
      refine ⟨by simp; exact h1, by rw [List.take_succ_cons, List.sum_cons]; omega, fun hl => ?_⟩
      rw [List.take_succ_cons, List.sum_cons, List.getElem?_cons_succ]
      have := h3 (by simpa using hl)
      omega
    · rw [if_neg h]
      exact ⟨Nat.zero_le _, Nat.zero_le _, fun _ => by simp; omega⟩
def ownF (L : List St) (b : Bool) (own : Nat) : Nat := (((freeF L).filter fun i => decide ((at' L i).o = own)).map fun i => cntF b (at' L i)).sum
/-- None is cut: the North has so many first ones of a list. -/
def uncutF (L : List St) (l : List Nat) (f : Nat) : List Nat := (List.range L.length).map fun i => if (at' L i).free then (if i ∈ l.take f then 1 else 0) else nowF (at' L i)
def worthsF (L : List St) (b : Bool) (l : List Nat) : List Nat := l.map fun i => cntF b (at' L i)
/-- The exchange by order by which the North gets so much more than it gives. -/
def byOrderF (L : List St) (b : Bool) (more : Int) : Option (Nat × List Nat) :=
  if (ownF L b 1 : Int) < more then none else
    let m := (more + (ownF L b 0 : Int)).toNat
    let l := orderF L
    let ws := worthsF L b l
    let f := firstF ws m
    let r := m - (ws.take f).sum
    let c := ws[f]?.getD 0
    if r = 0 then some (1, uncutF L l f) else some (c / Nat.gcd r c, ((uncutF L l f).map (c / Nat.gcd r c * ·)).set (l[f]?.getD 0) (r / Nat.gcd r c))
section
variable {L : List St} {b : Bool}
theorem mem_take {l : List Nat} (hn : l.Nodup) {q f : Nat} (hq : q < l.length) : l[q] ∈ l.take f ↔ q < f := by
  constructor
  · intro h
    obtain ⟨p, hp, e⟩ := List.getElem_of_mem h
    rw [List.getElem_take] at e
    rw [List.length_take] at hp
    have := (List.getElem_inj hn).1 e
    omega
  · intro h
    rw [List.mem_iff_getElem]
    exact ⟨q, by rw [List.length_take]; omega, by rw [List.getElem_take]⟩
theorem uncut_pt {l : List Nat} {f i : Nat} (hi : i < L.length) : pt (uncutF L l f) i = if (at' L i).free then (if i ∈ l.take f then 1 else 0) else nowF (at' L i) := by
  unfold pt uncutF
  rw [List.getElem?_map, List.getElem?_range hi]
  rfl
theorem uncut_len {l : List Nat} {f : Nat} : (uncutF L l f).length = L.length := by unfold uncutF; rw [List.length_map, List.length_range]
/-- What an exchange by order is: whole, parts, and how the free stretches share them, in their order. -/
structure ByO (L : List St) (b : Bool) (m W : Nat) (P : List Nat) (f r : Nat) : Prop where
  len : P.length = L.length
  w1 : 1 ≤ W
  f1 : f ≤ (orderF L).length
  bound : ∀ i, i < L.length → (at' L i).free = false → pt P i = W * nowF (at' L i)
  ahead : ∀ q, (h : q < (orderF L).length) → q < f → pt P (orderF L)[q] = W
  behind : ∀ q, (h : q < (orderF L).length) → f < q → pt P (orderF L)[q] = 0
  at_ : (h : f < (orderF L).length) → pt P (orderF L)[f] = r ∧ r < W
  none_ : f = (orderF L).length → r = 0
  sum : (((worthsF L b (orderF L)).take f).sum) * W + ((worthsF L b (orderF L))[f]?.getD 0) * r = m * W
  uncut : r = 0 → W = 1
  wb : W ≤ 2000
theorem order_lt {i : Nat} (h : i ∈ orderF L) : i < L.length ∧ (at' L i).free = true := mem_free.1 (order_perm.mem_iff.1 h)
theorem order_nodup : (orderF L).Nodup := order_perm.nodup_iff.2 free_nodup
theorem by_order (h : OkS L) {more : Int} {W : Nat} {P : List Nat} (hb : byOrderF L b more = some (W, P)) (hm : (more + (ownF L b 0 : Int)).toNat ≤ ((worthsF L b (orderF L)).sum)) : ∃ f r, ByO L b (more + (ownF L b 0 : Int)).toNat W P f r := by
  unfold byOrderF at hb
  split at hb
  · cases hb
  generalize (more + (ownF L b 0 : Int)).toNat = m at *
  dsimp only at hb
  obtain ⟨s1, s2, s3⟩ := first_spec (worthsF L b (orderF L)) m
  have hwl : (worthsF L b (orderF L)).length = (orderF L).length := by unfold worthsF; rw [List.length_map]
  generalize hf : firstF (worthsF L b (orderF L)) m = f at *
  rw [hwl] at s1 s3
  by_cases hr : m - ((worthsF L b (orderF L)).take f).sum = 0
  · rw [if_pos hr] at hb
    cases hb
    refine ⟨f, 0, uncut_len, Nat.le_refl _, s1, fun i hi hfr => ?_, fun q hq hqf => ?_, fun q hq hqf => ?_, fun hq => ⟨?_, Nat.lt_succ_self 0⟩, fun _ => rfl, by omega, fun _ => rfl, by omega⟩
    · rw [uncut_pt hi, hfr, Nat.one_mul]; rfl
    · have := order_lt (List.getElem_mem hq)
      rw [uncut_pt this.1, this.2, if_pos rfl, if_pos ((mem_take order_nodup hq).2 hqf)]
    · have := order_lt (List.getElem_mem hq)
      rw [uncut_pt this.1, this.2, if_pos rfl, if_neg (fun hh => by have := (mem_take order_nodup hq).1 hh; omega)]
    · have := order_lt (List.getElem_mem hq)
      rw [uncut_pt this.1, this.2, if_pos rfl, if_neg (fun hh => by have := (mem_take order_nodup hq).1 hh; omega)]
  · rw [if_neg hr] at hb
    have hfl : f < (orderF L).length := by
      rcases Nat.lt_or_ge f (orderF L).length with h' | h'
      · exact h'
      · exfalso
        rw [List.take_of_length_le (by rw [hwl]; exact h')] at hr
        omega
    have hc := s3 hfl
    have hq := order_lt (List.getElem_mem hfl)
    have e1 : (worthsF L b (orderF L))[f]?.getD 0 = cntF b (at' L (orderF L)[f]) := by
      unfold worthsF
      rw [List.getElem?_map, List.getElem?_eq_getElem hfl]
      rfl
    have e2 : (orderF L)[f]?.getD 0 = (orderF L)[f] := by rw [List.getElem?_eq_getElem hfl, Option.getD_some]
    rw [e2] at hb
    have hcb : cntF b (at' L (orderF L)[f]) ≤ 2000 := by
      have := h _ (at_mem hq.1)
      unfold cntF
      split <;> omega
    rw [← e1] at hcb
    generalize hcc : (worthsF L b (orderF L))[f]?.getD 0 = c at *
    obtain ⟨r0, hr0⟩ : ∃ r0, m - ((worthsF L b (orderF L)).take f).sum = r0 := ⟨_, rfl⟩
    rw [hr0] at hb hr
    have g0 : 0 < Nat.gcd r0 c := Nat.gcd_pos_of_pos_left _ (by omega)
    obtain ⟨x, hx⟩ := Nat.gcd_dvd_left r0 c
    obtain ⟨y, hy⟩ := Nat.gcd_dvd_right r0 c
    have ex : r0 / Nat.gcd r0 c = x := Nat.div_eq_of_eq_mul_right g0 hx
    have ey : c / Nat.gcd r0 c = y := Nat.div_eq_of_eq_mul_right g0 hy
    rw [ex, ey] at hb
    cases hb
    generalize hg : Nat.gcd r0 c = g at *
    have hx0 : x ≠ 0 := fun e => by rw [e] at hx; omega
    have hxy : x < W := by
      have : g * x < g * W := by omega
      exact Nat.lt_of_mul_lt_mul_left this
    have hlen : ((uncutF L (orderF L) f).map (W * ·)).length = L.length := by rw [List.length_map]; exact uncut_len
    have hat : (orderF L)[f] < ((uncutF L (orderF L) f).map (W * ·)).length := by rw [hlen]; exact hq.1
    refine ⟨f, x, by rw [List.length_set]; exact hlen, by omega, s1, fun i hi hfr => ?_, fun q hq' hqf => ?_, fun q hq' hqf => ?_, fun _ => ⟨?_, hxy⟩, fun e => by omega, ?_, fun e => absurd e hx0, ?_⟩
    · rw [pt_set hat, if_neg (fun e => by rw [e, hq.2] at hfr; cases hfr), pt_map, uncut_pt hi, hfr]; rfl
    · have hz := order_lt (List.getElem_mem hq')
      rw [pt_set hat, if_neg (fun e => by have := (List.getElem_inj order_nodup).1 e; omega), pt_map, uncut_pt hz.1, hz.2, if_pos rfl, if_pos ((mem_take order_nodup hq').2 hqf), Nat.mul_one]
    · have hz := order_lt (List.getElem_mem hq')
      rw [pt_set hat, if_neg (fun e => by have := (List.getElem_inj order_nodup).1 e; omega), pt_map, uncut_pt hz.1, hz.2, if_pos rfl, if_neg (fun hh => by have := (mem_take order_nodup hq').1 hh; omega), Nat.mul_zero]
    · rw [pt_set hat, if_pos rfl]
    · have e3 : c * x = r0 * W := by rw [hy, hx, Nat.mul_assoc, Nat.mul_assoc, Nat.mul_comm W x]
      rw [hcc, e3, ← Nat.add_mul]
      congr 1
      omega
    · have : W ≤ g * W := Nat.le_mul_of_pos_left W g0
      omega
theorem free_pos {i : Nat} (hi : i < L.length) (hf : (at' L i).free = true) : ∃ q, ∃ h : q < (orderF L).length, (orderF L)[q] = i := by
  have := order_perm.mem_iff.2 (mem_free.2 ⟨hi, hf⟩)
  obtain ⟨q, hq, e⟩ := List.getElem_of_mem this
  exact ⟨q, hq, e⟩
theorem now_le (x : St) : nowF x ≤ 1 := by unfold nowF; split <;> omega
theorem ByO.le {m W : Nat} {P : List Nat} {f r : Nat} (h : ByO L b m W P f r) {i : Nat} (hi : i < L.length) : pt P i ≤ W := by
  cases hf : (at' L i).free with
  | false =>
    rw [h.bound i hi hf]
    exact Nat.le_trans (Nat.mul_le_mul_left W (now_le _)) (Nat.le_of_eq (Nat.mul_one W))
  | true =>
    obtain ⟨q, hq, rfl⟩ := free_pos hi hf
    rcases Nat.lt_trichotomy q f with h1 | h1 | h1
    · rw [h.ahead q hq h1]; exact Nat.le_refl _
    · subst h1
      have := h.at_ hq
      omega
    · rw [h.behind q hq h1]; exact Nat.zero_le _
theorem ByO.allows {m W : Nat} {P : List Nat} {f r : Nat} (h : ByO L b m W P f r) : allowsF L W P = true := by
  unfold allowsF
  rw [List.all_eq_true]
  intro i hi
  have hi := List.mem_range.1 hi
  cases hf : (at' L i).free with
  | true => rfl
  | false => rw [h.bound i hi hf]; simp
/-- Nothing of it is a waste. -/
theorem ByO.best {m W : Nat} {P : List Nat} {f r : Nat} (hs : OkS L) (h : ByO L b m W P f r) : bestF L W P = true := by
  unfold bestF
  rw [Bool.and_eq_true, Option.isNone_iff_eq_none]
  refine ⟨h.allows, ?_⟩
  cases hw : wasteF L W P with
  | none => rfl
  | some ab =>
    exfalso
    obtain ⟨x, y⟩ := ab
    obtain ⟨h1, h2, h3⟩ := waste_some hw
    have h1 := mem_free.1 h1
    have h2 := mem_free.1 h2
    obtain ⟨q, hq, rfl⟩ := free_pos h1.1 h1.2
    obtain ⟨p, hp, rfl⟩ := free_pos h2.1 h2.2
    unfold isWaste at h3
    simp only [Bool.and_eq_true, decide_eq_true_eq] at h3
    obtain ⟨⟨w1, w2⟩, w3⟩ := h3
    have q1 : f ≤ q := by
      rcases Nat.lt_or_ge q f with h4 | h4
      · rw [h.ahead q hq h4] at w1; omega
      · exact h4
    have q2 : p ≤ f := by
      rcases Nat.lt_or_ge f p with h4 | h4
      · rw [h.behind p hp h4] at w2; omega
      · exact h4
    have hpq := hs _ (at_mem h1.1)
    rcases Nat.lt_or_ge p q with h4 | h4
    · have ho := List.pairwise_iff_getElem.1 (order_ordered hs) p q hp hq h4
      rw [ho] at w3
      cases w3
    · obtain rfl : p = q := by omega
      have := ahead_not hpq.1.1 hpq.1.1 w3
      rw [this] at w3
      cases w3
/-- One free stretch is cut at most. -/
theorem ByO.cut {m W : Nat} {P : List Nat} {f r : Nat} (h : ByO L b m W P f r) {i : Nat} (hi : i < L.length) (h1 : 0 < pt P i) (h2 : pt P i < W) : ∃ hf : f < (orderF L).length, i = (orderF L)[f] := by
  cases hf : (at' L i).free with
  | false =>
    exfalso
    rw [h.bound i hi hf] at h1 h2
    have := now_le (at' L i)
    rcases (show nowF (at' L i) = 0 ∨ nowF (at' L i) = 1 by omega) with e | e <;> rw [e] at h1 h2 <;> omega
  | true =>
    obtain ⟨q, hq, rfl⟩ := free_pos hi hf
    rcases Nat.lt_trichotomy q f with h3 | h3 | h3
    · rw [h.ahead q hq h3] at h2; omega
    · subst h3; exact ⟨hq, rfl⟩
    · rw [h.behind q hq h3] at h1; omega
theorem sum_filter (p : Nat → Bool) (g : Nat → Nat) (n : Nat) : (((List.range n).filter p).map g).sum = sumF (fun i => if p i then g i else 0) n := by
  induction n with
  | zero => rfl
  | succ n ih =>
    rw [List.range_succ, List.filter_append, List.map_append, List.sum_append, ih]
    show _ = sumF (fun i => if p i then g i else 0) n + (if p n then g n else 0)
    cases h : p n <;> simp [h]
theorem perm_sum {l m : List Nat} (h : l.Perm m) : l.sum = m.sum := by
  induction h with
  | nil => rfl
  | cons x _ ih => rw [List.sum_cons, List.sum_cons, ih]
  | swap x y l => simp only [List.sum_cons]; omega
  | trans _ _ h1 h2 => exact h1.trans h2
theorem sum_order (g : Nat → Nat) : ((orderF L).map g).sum = sumF (fun i => if (at' L i).free then g i else 0) L.length := by
  have h := (order_perm (L := L)).map g
  rw [perm_sum h]
  exact sum_filter _ g _
theorem sum_zero (l : List Nat) (g : Nat → Nat) (h : ∀ i ∈ l, g i = 0) : (l.map g).sum = 0 := by
  induction l with
  | nil => rfl
  | cons x r ih => rw [List.map_cons, List.sum_cons, h x (List.mem_cons_self ..), ih (fun i hi => h i (List.mem_cons_of_mem _ hi))]
theorem sum_times (l : List Nat) (g c : Nat → Nat) (W : Nat) (h : ∀ i ∈ l, g i = c i * W) : (l.map g).sum = (l.map c).sum * W := by
  induction l with
  | nil => simp
  | cons x r ih => rw [List.map_cons, List.sum_cons, List.map_cons, List.sum_cons, h x (List.mem_cons_self ..), ih (fun i hi => h i (List.mem_cons_of_mem _ hi)), Nat.add_mul]
/-- What the free stretches count in all, by the North's parts of them. -/
theorem ByO.total {m W : Nat} {P : List Nat} {f r : Nat} (h : ByO L b m W P f r) : sumF (fun i => if (at' L i).free then cntF b (at' L i) * pt P i else 0) L.length = m * W := by
  rw [← sum_order, ← h.sum]
  generalize hg : (fun i => cntF b (at' L i) * pt P i) = g
  conv => lhs; rw [← List.take_append_drop f (orderF L), List.map_append, List.sum_append]
  congr 1
  · unfold worthsF
    rw [← List.map_take]
    refine sum_times _ _ _ _ fun i hi => ?_
    obtain ⟨q, hq, rfl⟩ := List.getElem_of_mem hi
    rw [List.length_take] at hq
    rw [← hg, List.getElem_take]
    dsimp only
    rw [h.ahead q (by omega) (by omega)]
  · rcases Nat.lt_or_ge f (orderF L).length with hf | hf
    · rw [List.drop_eq_getElem_cons hf, List.map_cons, List.sum_cons, sum_zero]
      · unfold worthsF
        rw [List.getElem?_map, List.getElem?_eq_getElem hf, ← hg]
        dsimp only
        rw [(h.at_ hf).1]
        rfl
      · intro i hi
        obtain ⟨q, hq, rfl⟩ := List.getElem_of_mem hi
        rw [List.length_drop] at hq
        rw [← hg, List.getElem_drop]
        dsimp only
        rw [h.behind (f + 1 + q) (by omega) (by omega), Nat.mul_zero]
    · have hr := h.none_ (Nat.le_antisymm h.f1 hf)
      rw [List.drop_of_length_le hf, hr]
      rfl
/-- What both owners have of the free stretches is all of them. -/
theorem own_sum (ho : ∀ x ∈ L, x.o ≤ 1) : ownF L b 0 + ownF L b 1 = (worthsF L b (orderF L)).sum := by
  unfold worthsF
  rw [perm_sum ((order_perm (L := L)).map fun i => cntF b (at' L i))]
  unfold ownF
  have hl : ∀ i ∈ freeF L, (at' L i).o ≤ 1 := fun i hi => ho _ (at_mem (mem_free.1 hi).1)
  generalize freeF L = l at *
  induction l with
  | nil => rfl
  | cons x r ih =>
    have h1 := ih (fun i hi => hl i (List.mem_cons_of_mem _ hi))
    have h2 := hl x (List.mem_cons_self ..)
    rw [List.map_cons, List.sum_cons, ← h1]
    rcases (show (at' L x).o = 0 ∨ (at' L x).o = 1 by omega) with e | e
    · rw [List.filter_cons_of_pos (by simp [e]), List.filter_cons_of_neg (by simp [e]), List.map_cons, List.sum_cons]
      omega
    · rw [List.filter_cons_of_neg (by simp [e]), List.filter_cons_of_pos (by simp [e]), List.map_cons, List.sum_cons]
      omega
end
end Go.Proofs.Ytlaolokakaheaaa
