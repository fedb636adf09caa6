/-
  Words on how floors of package treaty fills its rows. Nothing is claimed of the program here.
-/
import Derived.Test.YtopjjcgmcieboaaGreatDoorY
import Derived.Test.YtopjjcgmcieboaaGreatDoorZ
namespace Go.Proofs.YtopjjcgmcieboaaGreatDoor
open Go.RowKit

/-- The first row, when k starts are behind. -/
def startL (P : Nat) (st : List Nat) (k : Nat) : List Nat := (List.range P).map fun j => if (st.take k).contains j then 0 else 11
theorem startL_length (P : Nat) (st : List Nat) (k : Nat) : (startL P st k).length = P := by simp [startL]
theorem startL_zero (P : Nat) (st : List Nat) : startL P st 0 = List.replicate P 11 := by
  apply List.ext_getElem (by simp [startL]); intro i h1 h2; simp [startL]
theorem startL_succ (P : Nat) (st : List Nat) (k : Nat) (hk : k < st.length) : (startL P st k).set st[k] 0 = startL P st (k + 1) := by
  apply List.ext_getElem (by simp [startL])
  intro i h1 h2
  rw [List.getElem_set]
  simp only [startL, List.getElem_map, List.getElem_range, List.take_succ_eq_append_getElem hk, List.contains_append]
  by_cases e : st[k] = i
  · subst e; simp
  · rw [if_neg e]
    have e' : (List.contains [st[k]] i) = false := by simp; exact fun h => e h.symm
    rw [e', Bool.or_false]
theorem startL_all (L : Nat → Nat → Nat → Bool) (P : Nat) (st : List Nat) : startL P st st.length = (List.range P).map (flr L P st 0) := by
  unfold startL; rw [List.take_length]; rfl

/-- The least over the first f places. -/
def accF (L : Nat → Nat → Nat → Bool) (P : Nat) (st : List Nat) (k f j : Nat) : Nat := (List.range f).foldl (fun m f' => min m (flr L P st k f' + cost (L k f' j))) 11
theorem accF_succ (L : Nat → Nat → Nat → Bool) (P : Nat) (st : List Nat) (k f j : Nat) : accF L P st k (f + 1) j = min (accF L P st k f j) (flr L P st k f + cost (L k f j)) := by
  unfold accF; rw [List.range_succ, List.foldl_append]; rfl
theorem accF_le (L : Nat → Nat → Nat → Bool) (P : Nat) (st : List Nat) (k f j : Nat) : accF L P st k f j ≤ 11 := fmin_le_init _ _ _
/-- The row that is being filled: f places are behind, and of the next one g places to go to. -/
def rowA (L : Nat → Nat → Nat → Bool) (P : Nat) (st : List Nat) (k f g : Nat) : List Nat := (List.range P).map fun j => if j < g then accF L P st k (f + 1) j else accF L P st k f j
theorem rowA_length (L : Nat → Nat → Nat → Bool) (P : Nat) (st : List Nat) (k f g : Nat) : (rowA L P st k f g).length = P := by simp [rowA]
theorem rowA_at (L : Nat → Nat → Nat → Bool) (P : Nat) (st : List Nat) (k f g : Nat) (h : g < (rowA L P st k f g).length) : (rowA L P st k f g)[g] = accF L P st k f g := by simp [rowA]
theorem rowA_zero (L : Nat → Nat → Nat → Bool) (P : Nat) (st : List Nat) (k : Nat) : rowA L P st k 0 0 = List.replicate P 11 := by
  apply List.ext_getElem (by simp [rowA]); intro i h1 h2; simp [rowA, accF]
theorem rowA_next (L : Nat → Nat → Nat → Bool) (P : Nat) (st : List Nat) (k f : Nat) : rowA L P st k f P = rowA L P st k (f + 1) 0 := by
  apply List.ext_getElem (by simp [rowA]); intro i h1 h2
  simp only [rowA, List.length_map, List.length_range] at h1
  simp [rowA, h1]
theorem rowA_all (L : Nat → Nat → Nat → Bool) (P : Nat) (st : List Nat) (k : Nat) : rowA L P st k P 0 = (List.range P).map (flr L P st (k + 1)) := by
  apply List.ext_getElem (by simp [rowA]); intro i h1 h2; simp [rowA, accF, flr_succ]
theorem rowA_set (L : Nat → Nat → Nat → Bool) (P : Nat) (st : List Nat) (k f g : Nat) : (rowA L P st k f g).set g (min (accF L P st k f g) (flr L P st k f + cost (L k f g))) = rowA L P st k f (g + 1) := by
  apply List.ext_getElem (by simp [rowA]); intro i h1 h2
  rw [List.getElem_set]
  simp only [rowA, List.getElem_map, List.getElem_range]
  by_cases e : g = i
  · subst e; rw [if_pos rfl, if_pos (by omega), accF_succ]
  · rw [if_neg e]
    by_cases e2 : i < g
    · rw [if_pos e2, if_pos (by omega)]
    · rw [if_neg e2, if_neg (by omega)]

theorem flrT_succ (L : Nat → Nat → Nat → Bool) (P : Nat) (st : List Nat) (k : Nat) : flrT L P st (k + 1) = flrT L P st k ++ [(List.range P).map (flr L P st (k + 1))] := by
  unfold flrT; rw [List.range_succ (n := k + 1), List.map_append]; rfl
theorem flrT_length (L : Nat → Nat → Nat → Bool) (P : Nat) (st : List Nat) (k : Nat) : (flrT L P st k).length = k + 1 := by simp [flrT]
theorem flrT_get (L : Nat → Nat → Nat → Bool) (P : Nat) (st : List Nat) (N k : Nat) (h : k < (flrT L P st N).length) : (flrT L P st N)[k] = (List.range P).map (flr L P st k) := by simp [flrT]

/-- The rows of a table that is the floors' table. -/
theorem rows_get {L : Nat → Nat → Nat → Bool} {P : Nat} {st : List Nat} {N : Nat} {rows : List RW} (h : rows.map (fun r => r.l) = flrT L P st N) (k : Nat) (hk : k < rows.length) : rows[k].l = (List.range P).map (flr L P st k) := by
  have h1 : (rows.map (fun r => r.l))[k]'(by simpa using hk) = rows[k].l := by simp
  rw [← h1]
  simp only [h]
  exact flrT_get _ _ _ _ _ _
theorem rows_len {L : Nat → Nat → Nat → Bool} {P : Nat} {st : List Nat} {N : Nat} {rows : List RW} (h : rows.map (fun r => r.l) = flrT L P st N) : rows.length = N + 1 := by
  have := congrArg List.length h; simpa [flrT_length] using this

theorem tbl_nil {w : World} {base B n : Nat} {cs : Array Value} {T : TypeId} (h : w.heap[B]? = some (.cells cs T (0, 0))) (hn : n ≤ cs.size) (hb : base ≤ B) : Tbl w base B n [] :=
  ⟨⟨cs, T, h, hn, Nat.zero_le _, fun k hk => by simp at hk⟩, hb, fun r hr => by simp at hr, by simp⟩
theorem info25 : (Tryz.prog.info? 25).map (fun i => (i.zero, i.size, i.bytes)) = some (some (.slice none 0 0), 1, 24) := by kernel_rfl
end Go.Proofs.YtopjjcgmcieboaaGreatDoor
