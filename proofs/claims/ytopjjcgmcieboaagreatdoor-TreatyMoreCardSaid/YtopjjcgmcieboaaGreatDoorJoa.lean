/-
  Several texts in one. Floors are the greatest table that holds, and the least of its last row is how many legs yield. Nothing is claimed of the program here. Words for TreatyProved: what is as it was but for a deck, tables under a deal, a store into a table of one's own. Nothing is claimed of the program here.
-/
import Derived.Test.YtopjjcgmcieboaaGreatDoorVb
import Derived.Test.YtopjjcgmcieboaaGreatDoorU
import Derived.Test.YtopjjcgmcieboaaGreatDoorJi
import Derived.Test.YtopjjcgmcieboaaGreatDoorDa
namespace Go.Proofs.YtopjjcgmcieboaaGreatDoor
open Go.RowKit

theorem LeastOf.eq {l : List Nat} {a b : Nat} (h : LeastOf l a) (k : LeastOf l b) : a = b := Nat.le_antisymm (h.2 b k.1) (k.2 a h.1)

section
variable (L : Nat → Nat → Nat → Bool) (P : Nat) (st : List Nat)

theorem flrT_row (N k : Nat) (hk : k ≤ N) : (flrT L P st N)[k]?.getD [] = (List.range P).map (flr L P st k) := by
  unfold flrT
  rw [List.getElem?_map, List.getElem?_range (by omega)]; rfl

theorem yield_len (N m : Nat) (hs : ∃ s ∈ st, s < P) (hN : N ≤ 10) (h : LeastOf ((flrT L P st N)[N]?.getD []) m) : (yieldL L P st N).length = m := by
  rw [flrT_row _ _ _ _ _ (Nat.le_refl N)] at h
  obtain ⟨s, hs, hsP⟩ := hs
  obtain ⟨g, hg, hgN⟩ := flr_small L P st s hs hsP N
  have hm : m ≤ 10 := Nat.le_trans (h.2 _ (List.mem_map.2 ⟨g, by simpa using hg, rfl⟩)) (by omega)
  have hl : leastF L P st N = m := (leastF_of L P st N m (by omega) h).symm
  obtain ⟨x, hx, hxm⟩ := List.mem_map.1 h.1
  have hf : ∃ y, (List.range P).find? (fun g => flr L P st N g == leastF L P st N) = some y := by
    cases hq : (List.range P).find? (fun g => flr L P st N g == leastF L P st N) with
    | none => have := List.find?_eq_none.1 hq x hx; simp [hxm, hl] at this
    | some y => exact ⟨y, rfl⟩
  obtain ⟨y, hy⟩ := hf
  have hy2 := List.find?_some hy
  have hyl : flr L P st N y = m := by rw [← hl]; exact beq_iff_eq.1 hy2
  have he : firstF L P st N = y := by unfold firstF; rw [hy]; rfl
  unfold yieldL
  rw [he, yl_length _ _ _ _ _ (by omega), hyl]
end

theorem at2_floor {L : Nat → Nat → Nat → Bool} {P : Nat} {st : List Nat} {N : Nat} {rows : List (SL Nat)} (hr : rows.map (fun r => r.l) = flrT L P st N) (k i : Nat) (hk : k ≤ N) (hi : i < P) : at2 rows k i = flr L P st k i := by
  unfold at2
  rw [hr, flrT_row _ _ _ _ _ hk, List.getElem?_map, List.getElem?_range hi]; rfl

theorem floors_hold (t : TV) (hk : OkT t) (L : Nat → Nat → Nat → Bool) (rows : List (SL Nat)) (hr : rows.map (fun r => r.l) = flrT L t.P t.starts.l t.legs.l.length) : HoldP t L rows := by
  refine ⟨?_, fun k hkN f hf g hg => ?_⟩
  · rw [List.all_eq_true]
    intro x hx
    rw [at2_floor hr 0 x (Nat.zero_le _) (hk.start.1 x hx), flr_zero]
    simp [hx]
  · rw [at2_floor hr (k + 1) g (by omega) hg, at2_floor hr k f (by omega) hf]
    exact flr_step _ _ _ k f g hf

theorem hold_le (t : TV) (L : Nat → Nat → Nat → Bool) (rows : List (SL Nat)) (h : HoldP t L rows) (h11 : ∀ k i, at2 rows k i ≤ 11) : ∀ k i, k ≤ t.legs.l.length → i < t.P → at2 rows k i ≤ flr L t.P t.starts.l k i
  | 0, i, _, hi => by
    rw [flr_zero]
    split
    · rename_i hc
      have := List.all_eq_true.1 h.1 i (by simpa using hc)
      have := beq_iff_eq.1 this
      omega
    · exact h11 0 i
  | k + 1, i, hk, hi => by
    rw [flr_succ]
    refine fmin_ge _ _ _ _ (h11 _ _) (fun f hf => ?_)
    have hfP : f < t.P := by simpa using hf
    have h1 := h.2 k (by omega) f hfP i hi
    have h2 := hold_le t L rows h h11 k f (by omega) hfP
    omega

theorem least_le {t : TV} {L : Nat → Nat → Nat → Bool} {rows : List (SL Nat)} (h : HoldP t L rows) (h11 : ∀ k i, at2 rows k i ≤ 11) (hlen : rows.length = t.legs.l.length + 1) (hP : ∀ r ∈ rows, r.l.length = t.P) {m n : Nat}
    (hm : LeastOf ((rows.map (fun r => r.l))[t.legs.l.length]?.getD []) m) (hn : LeastOf ((flrT L t.P t.starts.l t.legs.l.length)[t.legs.l.length]?.getD []) n) : m ≤ n := by
  rw [flrT_row _ _ _ _ _ (Nat.le_refl _)] at hn
  obtain ⟨i, hi, rfl⟩ := List.mem_map.1 hn.1
  have hi' : i < t.P := by simpa using hi
  have h1 := hold_le t L rows h h11 t.legs.l.length i (Nat.le_refl _) hi'
  refine Nat.le_trans (hm.2 _ ?_) h1
  have hk : t.legs.l.length < rows.length := by omega
  rw [List.getElem?_map, List.getElem?_eq_getElem hk]
  have hl := hP _ (List.getElem_mem hk)
  rw [at2_eq rows _ i hk (by omega)]
  exact List.getElem_mem _

theorem not_hold (t : TV) (L : Nat → Nat → Nat → Bool) (rows : List (SL Nat)) (s : Nat) (hs : s ∈ t.starts.l) (h : at2 rows 0 s ≠ 0) : ¬ HoldP t L rows := fun hh => by
  have := List.all_eq_true.1 hh.1 s hs
  exact h (beq_iff_eq.1 this)
end Go.Proofs.YtopjjcgmcieboaaGreatDoor

namespace Go.Proofs.YtopjjcgmcieboaaGreatDoor
open Go.RowKit

/-- What was there before a deck is as it was, whatever the deck does. -/
theorem Ext.dext {a b c : World} {D : Nat} (h : Ext a b) (k : DExt D b c) (hD : a.heap.size ≤ D) : Ext a c :=
  Ext.of ⟨k.os.trans (Below.os h), k.tape.trans (Below.tape h), k.output.trans (Below.output h), Nat.le_trans (Below.size h) k.size, fun i hi => (k.block i (Nat.lt_of_lt_of_le hi (Below.size h)) (fun e => by cases e; omega)).trans (Below.block h i hi)⟩
theorem Row.dext {D : Nat} {w w' : World} {g : Nat} {L : List Nat} {cap : Nat} (h : Row w g L cap) (k : DExt D w w') (hne : g ≠ D) : Row w' g L cap := by
  obtain ⟨cur, h1, h2⟩ := h
  exact ⟨cur, (k.block g (Array.getElem?_eq_some_iff.1 h1).1 (fun e => hne (by cases e; rfl))).trans h1, h2⟩
theorem Hd.dext {D : Nat} {w w' : World} {B n : Nat} {rows : List RW} (h : Hd w B n rows) (k : DExt D w w') (hne : B ≠ D) : Hd w' B n rows := by
  obtain ⟨cs, T, h1, h2⟩ := h
  exact ⟨cs, T, (k.block B (Array.getElem?_eq_some_iff.1 h1).1 (fun e => hne (by cases e; rfl))).trans h1, h2⟩
theorem Tbl.dext {D : Nat} {w w' : World} {base B n : Nat} {rows : List RW} (h : Tbl w base B n rows) (k : DExt D w w') (hD : D < base) : Tbl w' base B n rows :=
  ⟨h.hd.dext k (by have := h.low; omega), h.low, fun r hr => ⟨(h.row r hr).1.dext k (by have := (h.row r hr).2.1; omega), (h.row r hr).2⟩, h.apart⟩

/-- A store into a block. -/
theorem grown_cell (w : World) (b i : Nat) (v : Value) : w.grownBy (w.setCell ⟨b, i, none⟩ v) (some b) :=
  ⟨rfl, rfl, rfl, by simp [World.setCell], fun k _ hne => Below.heap_setCell _ _ _ _ (fun e => hne (by rw [e]))⟩
theorem DExt.set {D : Nat} {a w : World} (h : DExt D a w) (b i : Nat) (v : Value) (hb : a.heap.size ≤ b) : DExt D a (w.setCell ⟨b, i, none⟩ v) :=
  h.grown (grown_cell w b i v) (fun i e => by cases e; exact hb)
theorem IsDeck.set {w : World} {D : Nat} {a : Option Addr} {n c k : Nat} (h : IsDeck w D a n c k) (b i : Nat) (v : Value) (hD : b ≠ D) (hb : ∀ x off, a = some ⟨x, off, none⟩ → 0 < n → x ≠ b) : IsDeck (w.setCell ⟨b, i, none⟩ v) D a n c k :=
  h.step (grown_cell w b i v) (fun i e => by cases e; exact ⟨hD, hb⟩)

/-- The rows of a table after a store in row k: still of P numbers, none of them above 11. -/
theorem mrows_set {rows : List RW} {P : Nat} (h : ∀ r ∈ rows, r.l.length = P ∧ ∀ x ∈ r.l, x ≤ 11) (k i x : Nat) (hk : k < rows.length) (hx : x ≤ 11) : ∀ r ∈ rows.set k ⟨rows[k].b, rows[k].l.set i x, rows[k].c⟩, r.l.length = P ∧ ∀ x ∈ r.l, x ≤ 11 := by
  intro r hr
  rcases List.mem_or_eq_of_mem_set hr with hr | rfl
  · exact h r hr
  · have hm := h _ (List.getElem_mem hk)
    refine ⟨by simpa using hm.1, fun y hy => ?_⟩
    rcases List.mem_or_eq_of_mem_set hy with hy | rfl
    · exact hm.2 y hy
    · exact hx

/-- Rows that have the same numbers as others. -/
theorem mrows_of {rs rows : List RW} {P : Nat} (he : rs.map (fun r => r.l) = rows.map (fun r => r.l)) (h : ∀ r ∈ rows, r.l.length = P ∧ ∀ x ∈ r.l, x ≤ 11) : ∀ r ∈ rs, r.l.length = P ∧ ∀ x ∈ r.l, x ≤ 11 := by
  intro r hr
  have : r.l ∈ rows.map (fun r => r.l) := by rw [← he]; exact List.mem_map.2 ⟨r, hr, rfl⟩
  obtain ⟨q, hq, e⟩ := List.mem_map.1 this
  rw [← e]; exact h q hq
theorem mrows_len {rs rows : List RW} (he : rs.map (fun r => r.l) = rows.map (fun r => r.l)) : rs.length = rows.length := by
  have := congrArg List.length he; simpa using this

theorem bytes_lt {w : World} {a : Option Addr} {n c : Nat} (h : IsBytes w a n c) : ∀ b off, a = some ⟨b, off, none⟩ → 0 < n → b < w.heap.size := by
  intro b off ha hn
  obtain ⟨b', off', ha', hc⟩ := h.2.2.resolve_left (by omega)
  rw [ha] at ha'
  cases ha'
  obtain ⟨v, _, hv⟩ := hc 0 hn
  exact lt_of_cell hv
theorem bytes_dext {D : Nat} {w w' : World} {a : Option Addr} {n c : Nat} (h : IsBytes w a n c) (k : DExt D w w') (hD : w.heap.size ≤ D) : IsBytes w' a n c := by
  have hlt := bytes_lt h
  obtain ⟨h1, h2, h3⟩ := h
  refine ⟨h1, h2, ?_⟩
  rcases h3 with h3 | ⟨b, off, ha, hc⟩
  · exact .inl h3
  · by_cases hn : n = 0
    · exact .inl hn
    · refine .inr ⟨b, off, ha, fun i hi => ?_⟩
      obtain ⟨v, hv, hcell⟩ := hc i hi
      exact ⟨v, hv, k.cell hcell (by have := hlt b off ha (by omega); show b ≠ D; omega)⟩
theorem deck_bytes {w : World} {D : Nat} {a : Option Addr} {n c k : Nat} (h : IsDeck w D a n c k) : IsBytes w a n c := by
  obtain ⟨s, _, _, h, _⟩ := h; exact h
end Go.Proofs.YtopjjcgmcieboaaGreatDoor
