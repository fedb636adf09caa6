/-
  Several texts in one. Tables of numbers in memory of the call's own: a row of slices, each of which has a row of numbers of its own. What stores do to them. Nothing is claimed of the program here. Floors of a treaty: the greatest table that holds. Legs that a line breaks which breaks the fewest. Nothing is claimed of the program here.
-/
import Derived.Test.YtopjjcgmcieboaaGreatDoorQ
namespace Go.Proofs.YtopjjcgmcieboaaGreatDoor
open Go.RowKit

/-- A row of a table: its block, its numbers, its capacity. -/
structure RW where
  b : Nat
  l : List Nat
  c : Nat
/-- The row as a value. -/
abbrev RW.v (r : RW) : Value := .slice (some ⟨r.b, 0, none⟩) r.l.length r.c
/-- The row as a slice. -/
abbrev RW.s (r : RW) : SL Nat := ⟨some ⟨r.b, 0, none⟩, r.c, r.l⟩

/-- Block B has at least n cells, the first of which are the slices of rows. -/
def Hd (w : World) (B n : Nat) (rows : List RW) : Prop :=
  ∃ (cs : Array Value) (T : TypeId), w.heap[B]? = some (.cells cs T (0, 0)) ∧ n ≤ cs.size ∧ rows.length ≤ n ∧ ∀ k (h : k < rows.length), cs[k]? = some rows[k].v
theorem Hd.ext {w w' : World} {B n : Nat} {rows : List RW} (h : Hd w B n rows) (k : Ext w w') : Hd w' B n rows := by
  obtain ⟨cs, T, h1, h2⟩ := h; exact ⟨cs, T, k.block h1, h2⟩
theorem Hd.cell {w : World} {B n : Nat} {rows : List RW} (h : Hd w B n rows) (k : Nat) (hk : k < rows.length) : w.cell? ⟨B, k, none⟩ = some rows[k].v := by
  obtain ⟨cs, T, h1, h2, h3, h4⟩ := h; rw [cell_at h1, h4 k hk]
theorem Hd.some {w : World} {B n : Nat} {rows : List RW} (h : Hd w B n rows) (k : Nat) (hk : k < n) : ∃ v, w.cell? ⟨B, k, none⟩ = some v := by
  obtain ⟨cs, T, h1, h2, h3, h4⟩ := h; rw [cell_at h1]; exact ⟨_, Array.getElem?_eq_getElem (by omega)⟩
theorem Hd.frozen {w : World} {B n : Nat} {rows : List RW} (h : Hd w B n rows) (i : Nat) : w.frozen? ⟨B, i, none⟩ = false := by
  obtain ⟨cs, T, h1, h2⟩ := h; simp [World.frozen?, h1]
theorem Hd.lt {w : World} {B n : Nat} {rows : List RW} (h : Hd w B n rows) : B < w.heap.size := by
  obtain ⟨cs, T, h1, h2⟩ := h; exact (Array.getElem?_eq_some_iff.1 h1).1

/-- A table of one's own: its rows' slices lie in block B, of n cells; each row in a block of its own; all blocks are new, from base on. -/
structure Tbl (w : World) (base B n : Nat) (rows : List RW) : Prop where
  hd : Hd w B n rows
  low : base ≤ B
  row : ∀ r ∈ rows, Row w r.b r.l r.c ∧ base ≤ r.b ∧ r.b ≠ B
  apart : (rows.map fun r : RW => r.b).Nodup

theorem Tbl.ext {w w' : World} {base B n : Nat} {rows : List RW} (h : Tbl w base B n rows) (k : Ext w w') : Tbl w' base B n rows :=
  ⟨h.hd.ext k, h.low, fun r hr => ⟨(h.row r hr).1.ext k, (h.row r hr).2⟩, h.apart⟩

theorem Row.other {w : World} {g : Nat} {L : List Nat} {cap b i : Nat} (h : Row w g L cap) (v : Value) (hne : g ≠ b) : Row (w.setCell ⟨b, i, none⟩ v) g L cap := by
  obtain ⟨cur, h1, h2⟩ := h
  exact ⟨cur, by rw [Below.heap_setCell _ _ _ _ hne]; exact h1, h2⟩

/-- A slice is laid behind the others. -/
theorem Tbl.put {w : World} {base B n : Nat} {rows : List RW} (h : Tbl w base B n rows) (r : RW) (hr : Row w r.b r.l r.c) (hb : base ≤ r.b) (hB : r.b ≠ B) (hnew : r.b ∉ rows.map fun r : RW => r.b) (hn : rows.length < n) :
    Tbl (w.setCell ⟨B, rows.length, none⟩ r.v) base B n (rows ++ [r]) := by
  obtain ⟨⟨cs, T, h1, h2, h3, h4⟩, h5, h6, h7⟩ := h
  refine ⟨⟨_, T, YtopjjcgmcieboaaGreatDoor.heap_setCell_same h1 _, by simpa using h2, by simp; omega, fun k hk => ?_⟩, h5, fun x hx => ?_, ?_⟩
  · rw [Array.getElem?_setIfInBounds]
    simp only [List.length_append, List.length_cons, List.length_nil] at hk
    by_cases e : rows.length = k
    · subst e; rw [if_pos rfl, if_pos (by omega)]; simp
    · rw [if_neg e, h4 k (by omega)]
      rw [List.getElem_append_left]
  · rcases List.mem_append.1 hx with hx | hx
    · exact ⟨(h6 x hx).1.other _ (h6 x hx).2.2, (h6 x hx).2⟩
    · rw [List.mem_singleton] at hx; subst hx; exact ⟨hr.other _ hB, hb, hB⟩
  · rw [List.map_append, List.nodup_append]
    refine ⟨h7, by simp, fun a ha b hb' => ?_⟩
    simp only [List.map_cons, List.map_nil, List.mem_singleton] at hb'
    subst hb'
    exact fun e => hnew (e ▸ ha)

/-- A number is stored in a row. -/
theorem Tbl.set {w : World} {base B n : Nat} {rows : List RW} (h : Tbl w base B n rows) (k i x : Nat) (hk : k < rows.length) (hi : i < rows[k].l.length) :
    Tbl (w.setCell ⟨rows[k].b, i, none⟩ (.int .i64 (x : Int))) base B n (rows.set k ⟨rows[k].b, rows[k].l.set i x, rows[k].c⟩) := by
  obtain ⟨⟨cs, T, h1, h2, h3, h4⟩, h5, h6, h7⟩ := h
  have hm := List.getElem_mem hk
  refine ⟨⟨cs, T, ?_, h2, by simpa using h3, fun j hj => ?_⟩, h5, fun r hr => ?_, ?_⟩
  · rw [Below.heap_setCell _ _ _ _ (fun e => (h6 _ hm).2.2 e.symm)]; exact h1
  · simp only [List.length_set] at hj
    rw [h4 j hj, List.getElem_set]
    split
    · rename_i e; subst e; simp [RW.v]
    · rfl
  · obtain ⟨j, hj, rfl⟩ := List.mem_iff_getElem.1 hr
    simp only [List.length_set] at hj
    rw [List.getElem_set]
    split
    · exact ⟨(h6 _ hm).1.set i x hi, (h6 _ hm).2⟩
    · rename_i e
      have hne : rows[j].b ≠ rows[k].b := by
        intro eb
        refine e ?_
        have hk' : k < (rows.map fun r : RW => r.b).length := by simpa using hk
        have hj' : j < (rows.map fun r : RW => r.b).length := by simpa using hj
        exact (List.getElem_inj (h₀ := hk') (h₁ := hj') h7).1 (by simp [eb])
      exact ⟨(h6 _ (List.getElem_mem hj)).1.other _ hne, (h6 _ (List.getElem_mem hj)).2⟩
  · rw [List.map_set]
    have : (rows.map fun r : RW => r.b).set k rows[k].b = rows.map fun r : RW => r.b := by
      apply List.ext_getElem
      · simp
      · intro j hj1 hj2
        rw [List.getElem_set]; split
        · rename_i e; subst e; simp
        · rfl
    rw [this]; exact h7

/-- The table as a slice of slices. -/
abbrev tblS (B c : Nat) (rows : List RW) : SL (SL Nat) := ⟨some ⟨B, 0, none⟩, c, rows.map RW.s⟩

theorem Tbl.is {w : World} {base B n c : Nat} {rows : List RW} (h : Tbl w base B n rows) (hc : rows.length ≤ c) (hl : rows.length ≤ 1000000) (hr : ∀ r ∈ rows, r.l.length ≤ 1000000) : IsTbl w (tblS B c rows) := by
  refine ⟨⟨by simpa using hc, by simpa using hl, .inr ⟨B, 0, rfl, fun i hi j hj => ?_⟩⟩, fun r hr' => ?_⟩
  · obtain rfl : j = 0 := by omega
    simp only [List.length_map] at hi
    have := h.hd.cell i hi
    simpa [slC, SL.v] using this
  · simp only [List.mem_map] at hr'
    obtain ⟨q, hq, rfl⟩ := hr'
    have hrow := (h.row q hq).1
    refine ⟨hrow.le, hr q hq, .inr ⟨q.b, 0, rfl, fun i hi j hj => ?_⟩⟩
    obtain rfl : j = 0 := by omega
    have := hrow.cell i hi
    simpa [num] using this

theorem Tbl.lt {w : World} {base B n : Nat} {rows : List RW} (h : Tbl w base B n rows) (r : RW) (hr : r ∈ rows) : r.b < w.heap.size := (h.row r hr).1.lt
end Go.Proofs.YtopjjcgmcieboaaGreatDoor

namespace Go.Proofs.YtopjjcgmcieboaaGreatDoor
open Go.RowKit

theorem fmin_le_init (h : Nat → Nat) : ∀ (l : List Nat) (a : Nat), l.foldl (fun m f => min m (h f)) a ≤ a
  | [], a => Nat.le_refl a
  | _ :: r, _ => Nat.le_trans (fmin_le_init h r _) (Nat.min_le_left _ _)
theorem fmin_le (h : Nat → Nat) : ∀ (l : List Nat) (a f : Nat), f ∈ l → l.foldl (fun m f => min m (h f)) a ≤ h f
  | x :: r, a, f, hf => by
    rcases List.mem_cons.1 hf with rfl | hf
    · exact Nat.le_trans (fmin_le_init h r _) (Nat.min_le_right _ _)
    · exact fmin_le h r _ f hf
theorem fmin_hits (h : Nat → Nat) : ∀ (l : List Nat) (a : Nat), l.foldl (fun m f => min m (h f)) a = a ∨ ∃ f ∈ l, l.foldl (fun m f => min m (h f)) a = h f
  | [], a => .inl rfl
  | x :: r, a => by
    simp only [List.foldl_cons]
    rcases fmin_hits h r (min a (h x)) with e | ⟨f, hf, e⟩
    · by_cases hx : a ≤ h x
      · left; rw [e]; omega
      · right; exact ⟨x, by simp, by rw [e]; omega⟩
    · exact .inr ⟨f, List.mem_cons_of_mem _ hf, e⟩
theorem fmin_ge (h : Nat → Nat) (x : Nat) : ∀ (l : List Nat) (a : Nat), x ≤ a → (∀ f ∈ l, x ≤ h f) → x ≤ l.foldl (fun m f => min m (h f)) a
  | [], a, ha, _ => ha
  | y :: r, a, ha, hl => fmin_ge h x r _ (Nat.le_min.2 ⟨ha, hl y (by simp)⟩) fun f hf => hl f (List.mem_cons_of_mem _ hf)

/-- How many legs a line must break at least to come to place g behind k legs; 11 where none comes. -/
def flr (L : Nat → Nat → Nat → Bool) (P : Nat) (st : List Nat) : Nat → Nat → Nat
  | 0, i => if st.contains i then 0 else 11
  | k + 1, g => (List.range P).foldl (fun m f => min m (flr L P st k f + cost (L k f g))) 11
/-- The table of floors. -/
def flrT (L : Nat → Nat → Nat → Bool) (P : Nat) (st : List Nat) (N : Nat) : List (List Nat) := (List.range (N + 1)).map fun k => (List.range P).map (flr L P st k)

section
variable (L : Nat → Nat → Nat → Bool) (P : Nat) (st : List Nat)
theorem flr_zero (i : Nat) : flr L P st 0 i = if st.contains i then 0 else 11 := rfl
theorem flr_succ (k g : Nat) : flr L P st (k + 1) g = (List.range P).foldl (fun m f => min m (flr L P st k f + cost (L k f g))) 11 := rfl
theorem flr_le (k g : Nat) : flr L P st k g ≤ 11 := by
  cases k with
  | zero => rw [flr_zero]; split <;> omega
  | succ k => exact fmin_le_init _ _ _
theorem flr_step (k f g : Nat) (hf : f < P) : flr L P st (k + 1) g ≤ flr L P st k f + cost (L k f g) := by
  rw [flr_succ]; exact fmin_le (fun f => flr L P st k f + cost (L k f g)) _ _ f (by simpa using hf)
theorem flr_hits (k g : Nat) (h : flr L P st (k + 1) g ≤ 10) : ∃ f, f < P ∧ flr L P st (k + 1) g = flr L P st k f + cost (L k f g) := by
  rcases fmin_hits (fun f => flr L P st k f + cost (L k f g)) (List.range P) 11 with e | ⟨f, hf, e⟩
  · rw [flr_succ, e] at h; omega
  · exact ⟨f, by simpa using hf, by rw [flr_succ, e]⟩
theorem flr_small (s : Nat) (hs : s ∈ st) (hsP : s < P) : ∀ k, ∃ g, g < P ∧ flr L P st k g ≤ k
  | 0 => ⟨s, hsP, by rw [flr_zero]; simp [hs]⟩
  | k + 1 => by
    obtain ⟨f, hf, e⟩ := flr_small s hs hsP k
    refine ⟨s, hsP, ?_⟩
    have := flr_step L P st k f s hf
    have : cost (L k f s) ≤ 1 := by unfold cost; split <;> omega
    omega

/-- From which place one comes. -/
def fromOf (k g : Nat) : Nat := ((List.range P).find? fun f => flr L P st k f + cost (L k f g) == flr L P st (k + 1) g).getD 0
theorem fromOf_ok (k g : Nat) (h : flr L P st (k + 1) g ≤ 10) :
    fromOf L P st k g < P ∧ flr L P st (k + 1) g = flr L P st k (fromOf L P st k g) + cost (L k (fromOf L P st k g) g) ∧ ∀ f, f < fromOf L P st k g → flr L P st k f + cost (L k f g) ≠ flr L P st (k + 1) g := by
  obtain ⟨f, hf, e⟩ := flr_hits L P st k g h
  unfold fromOf
  cases hq : (List.range P).find? fun f => flr L P st k f + cost (L k f g) == flr L P st (k + 1) g with
  | none =>
    have := List.find?_eq_none.1 hq f (by simpa using hf)
    simp [e] at this
  | some x =>
    have h1 := List.mem_of_find?_eq_some hq
    have h2 := List.find?_some hq
    refine ⟨by simpa using h1, by simpa using (beq_iff_eq.1 h2).symm, fun f' hf' => ?_⟩
    obtain ⟨i, hi, hxi, hall⟩ := List.find?_eq_some_iff_getElem.1 hq |>.2
    simp only [List.getElem_range] at hxi
    simp only [Option.getD_some] at hf'
    have := hall f' (by omega)
    simpa using this

/-- The legs that break on the way to place g behind k legs. -/
def yl : Nat → Nat → List Nat
  | 0, _ => []
  | k + 1, g => yl k (fromOf L P st k g) ++ (if L k (fromOf L P st k g) g then [] else [k])
theorem yl_succ (k g : Nat) : yl L P st (k + 1) g = yl L P st k (fromOf L P st k g) ++ (if L k (fromOf L P st k g) g then [] else [k]) := rfl
theorem yl_length : ∀ k g, flr L P st k g ≤ 10 → (yl L P st k g).length = flr L P st k g
  | 0, g, h => by
    rw [flr_zero] at h ⊢
    split at h
    · rename_i e; rw [if_pos e]; rfl
    · omega
  | k + 1, g, h => by
    obtain ⟨h1, h2, _⟩ := fromOf_ok L P st k g h
    rw [yl_succ, List.length_append, h2]
    have := yl_length k (fromOf L P st k g) (by omega)
    rw [this]
    unfold cost
    split <;> simp
theorem yl_lt : ∀ k g, ∀ x ∈ yl L P st k g, x < k
  | 0, g, x, h => by simp [yl] at h
  | k + 1, g, x, h => by
    rw [yl_succ] at h
    rcases List.mem_append.1 h with h | h
    · have := yl_lt k _ x h; omega
    · split at h
      · simp at h
      · simp at h; omega

/-- The least of the floors behind the last leg. -/
def leastF (N : Nat) : Nat := (List.range P).foldl (fun m f => min m (flr L P st N f)) 11
theorem leastF_of (N m : Nat) (_hP : 0 < P) (h : LeastOf ((List.range P).map (flr L P st N)) m) : m = leastF L P st N := by
  obtain ⟨h1, h2⟩ := h
  simp only [List.mem_map, List.mem_range] at h1 h2
  obtain ⟨g, hg, rfl⟩ := h1
  apply Nat.le_antisymm
  · exact fmin_ge _ _ _ _ (flr_le _ _ _ _ _) fun f hf => h2 _ ⟨f, by simpa using hf, rfl⟩
  · exact fmin_le (flr L P st N) _ _ g (by simpa using hg)
end

theorem at2_flr (L : Nat → Nat → Nat → Bool) (P : Nat) (st : List Nat) (N : Nat) (rows : List (SL Nat)) (h : rows.map (·.l) = flrT L P st N) (k i : Nat) (hk : k ≤ N) (hi : i < P) : at2 rows k i = flr L P st k i := by
  unfold at2; rw [h]; unfold flrT
  rw [List.getElem?_map, List.getElem?_range (by omega)]
  simp only [Option.map_some, Option.getD_some]
  rw [List.getElem?_map, List.getElem?_range hi]
  rfl

/-- Floors hold. -/
theorem flr_hold (t : TV) (hk : OkT t) (L : Nat → Nat → Nat → Bool) (rows : List (SL Nat)) (h : rows.map (·.l) = flrT L t.P t.starts.l t.legs.l.length) : HoldP t L rows := by
  refine ⟨List.all_eq_true.2 fun x hx => ?_, fun k hk' f hf g hg => ?_⟩
  · rw [at2_flr L _ _ _ rows h 0 x (Nat.zero_le _) (hk.start.1 x hx), flr_zero]
    simp [hx]
  · rw [at2_flr L _ _ _ rows h (k + 1) g hk' hg, at2_flr L _ _ _ rows h k f (by omega) hf]
    exact flr_step _ _ _ _ _ _ hf

/-- No table that holds has a greater number anywhere. -/
theorem flr_top (t : TV) (L : Nat → Nat → Nat → Bool) (rows : List (SL Nat)) (hh : HoldP t L rows) (h11 : ∀ k i, k ≤ t.legs.l.length → i < t.P → at2 rows k i ≤ 11) :
    ∀ k, k ≤ t.legs.l.length → ∀ g, g < t.P → at2 rows k g ≤ flr L t.P t.starts.l k g
  | 0, _, g, hg => by
    rw [flr_zero]
    split
    · rename_i e
      have := List.all_eq_true.1 hh.1 g (by simpa using e)
      simp at this; omega
    · exact h11 0 g (Nat.zero_le _) hg
  | k + 1, hk, g, hg => by
    rw [flr_succ]
    refine fmin_ge _ _ _ _ (h11 _ _ hk hg) fun f hf => ?_
    have h1 := flr_top t L rows hh h11 k (by omega) f (by simpa using hf)
    have h2 := hh.2 k hk f (by simpa using hf) g hg
    omega
end Go.Proofs.YtopjjcgmcieboaaGreatDoor
