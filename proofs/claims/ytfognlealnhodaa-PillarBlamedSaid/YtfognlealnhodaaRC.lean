/-
  A book's table of ways is cleared, and read row by row; finds are put into a book. Nothing is claimed of the program here.
-/
import Derived.Test.YtfognlealnhodaaLE
import Derived.Deep.MidRow
namespace Go.Proofs.Ytfognlealnhodaa
open Go.RowKit

theorem put_cells (g : Nat) (T : TypeId) (fr : Nat × Nat) : ∀ (vs : List Value) (o : Nat) (w : World) (cur : Array Value), w.heap[g]? = some (.cells cur T fr) → ∃ cur' : Array Value, (w.setCells g o vs).heap[g]? = some (.cells cur' T fr) ∧ cur'.size = cur.size ∧ ∀ i, cur'[i]? = if o ≤ i ∧ i < o + vs.length ∧ i < cur.size then vs[i - o]? else cur[i]?
  | [], o, w, cur, h => ⟨cur, h, rfl, fun i => by rw [if_neg (by simp; omega)]⟩
  | v :: r, o, w, cur, h => by
    obtain ⟨c2, h1, h2, h3⟩ := put_cells g T fr r (o + 1) _ _ (heap_setCell_same (i := o) h v)
    rw [Array.size_setIfInBounds] at h2 h3
    refine ⟨c2, h1, h2, fun i => ?_⟩
    rw [h3 i]
    simp only [List.length_cons]
    by_cases e : o + 1 ≤ i ∧ i < o + 1 + r.length ∧ i < cur.size
    · rw [if_pos e, if_pos (by omega), show i - o = (i - (o + 1)) + 1 by omega, List.getElem?_cons_succ]
    · rw [if_neg e, Array.getElem?_setIfInBounds]
      by_cases e2 : o = i
      · subst e2
        by_cases e3 : o < cur.size
        · rw [if_pos rfl, if_pos e3, if_pos (by omega)]; simp
        · rw [if_pos rfl, if_neg e3, if_neg (by omega)]; rw [Array.getElem?_eq_none (by omega)]
      · rw [if_neg e2, if_neg (by omega)]
theorem BkB.setF {w : World} {B P : Nat} {f : FV} {ap : Nat → Nat → Nat × Nat} {wy : Nat → Nat → Nat} (h : BkB w B f P ap wy) (f' : FV) :
    BkB ((w.setCell ⟨B, 0, none⟩ (.slice f'.gp.a f'.gp.l.length f'.gp.c)).setCell ⟨B, 1, none⟩ (.slice f'.nm.a f'.nm.l.length f'.nm.c)) B f' P ap wy := by
  obtain ⟨cs, h1, h2⟩ := h
  refine ⟨_, heap_setCell_same (heap_setCell_same h1 _) _, ?_⟩
  have hsz := h2.sz
  have hq : ∀ k, 2 ≤ k → ((cs.setIfInBounds 0 (.slice f'.gp.a f'.gp.l.length f'.gp.c)).setIfInBounds 1 (.slice f'.nm.a f'.nm.l.length f'.nm.c))[k]? = cs[k]? := fun k hk => by
    rw [Array.getElem?_setIfInBounds, if_neg (by omega), Array.getElem?_setIfInBounds, if_neg (by omega)]
  refine ⟨by simpa using h2.sz, ?_, ?_, by rw [hq 2 (by omega), h2.c2], fun i j hi hj => by rw [hq _ (by omega), hq _ (by omega)]; exact h2.ca i j hi hj, fun i j hi hj => by rw [hq _ (by omega)]; exact h2.cw i j hi hj⟩
  · rw [Array.getElem?_setIfInBounds, if_neg (by omega), Array.getElem?_setIfInBounds, if_pos rfl, if_pos (by omega)]
  · rw [Array.getElem?_setIfInBounds, if_pos rfl, if_pos (by simp; omega)]
/-- The cells of a cleared table, and of one row of it. -/
def zW : List Value := List.replicate 1600 (.int .i64 0)
theorem zW_length : zW.length = 1600 := List.length_replicate
theorem zW_get (i : Nat) (h : i < 1600) : zW[i]? = some (.int .i64 0) := by unfold zW; rw [List.getElem?_replicate, if_pos h]
theorem zW_mem (v : Value) (h : v ∈ zW) : v = .int .i64 0 := List.eq_of_mem_replicate h
def zR : Array Value := Array.replicate 40 (.int .i64 0)
theorem zR_size : zR.size = 40 := Array.size_replicate
theorem zR_get (i : Nat) (h : i < 40) : zR[i]! = .int .i64 0 := by
  unfold zR
  rw [getElem!_pos _ i (by simpa using h), Array.getElem_replicate]
theorem BkB.clear {w : World} {B P : Nat} {f : FV} {ap : Nat → Nat → Nat × Nat} {wy : Nat → Nat → Nat} (h : BkB w B f P ap wy) : BkB (w.setCells B 3203 zW) B f P ap (fun _ _ => 0) := by
  obtain ⟨cs, h1, h2⟩ := h
  obtain ⟨cur, h3, h4, h5⟩ := put_cells B 128 (0, 0) zW 3203 w cs h1
  have hsz := h2.sz
  have hq : ∀ k, k < 3203 → cur[k]? = cs[k]? := fun k hk => by rw [h5, if_neg (by omega)]
  refine ⟨cur, h3, by omega, by rw [hq 0 (by omega), h2.c0], by rw [hq 1 (by omega), h2.c1], by rw [hq 2 (by omega), h2.c2], fun i j hi hj => by rw [hq _ (by omega), hq _ (by omega)]; exact h2.ca i j hi hj, fun i j hi hj => ?_⟩
  rw [h5, if_pos (by rw [zW_length]; omega), zW_get _ (by omega)]
  rfl
theorem keep_setCells {D : Nat → Prop} {a : World} (g : Nat) (hg : g < a.heap.size → ¬ D g) : ∀ (vs : List Value) (o : Nat) (w : World), Keep D a w → Keep D a (w.setCells g o vs)
  | [], _, _, h => h
  | v :: r, o, _, h => keep_setCells g hg r (o + 1) _ (h.setCell ⟨g, o, none⟩ v hg)
theorem zeroRow40 : (Builtin.zeroCells zR 40).toList = zW := by
  apply List.ext_getElem?
  intro i
  unfold Builtin.zeroCells
  rw [zR_size]
  by_cases hi : i < 1600
  · rw [zW_get i hi]
    rw [Array.getElem?_toList, Array.getElem?_map, Array.getElem?_range, if_pos (by omega)]
    show some (zR[i % 40]!) = _
    rw [zR_get _ (Nat.mod_lt _ (by omega))]
  · rw [List.getElem?_eq_none (by simp only [Array.length_toList, Array.size_map, Array.size_range]; omega), List.getElem?_eq_none (by rw [zW_length]; omega)]
theorem zeroRowG : (Builtin.zeroCells (Value.agg zR).cells 40).toList = zW := zeroRow40
theorem zeroValue125 (w : World) : (zeroValue 125).run Try.prog w = .ok (.agg zR) w := by kernel_rfl
theorem clear_run {P : Program} {w w' : World} {b o c m : Nat} {t e ty : TypeId} {R : Array Value} {L : List Value} (hu : ∀ w, (underlying t).run P w = .ok (.slice e) w) (hz : (zeroValue e).run P w = .ok (.agg R) w) (hL : (Builtin.zeroCells (Value.agg R).cells (m + 1)).toList = L) (hst : (storeCells ⟨b, o, none⟩ L).run P w = .ok () w') :
    (Builtin.clear_ #[t] ty #[.slice (some ⟨b, o, none⟩) (m + 1) c]).run P w = .ok (.tuple #[]) w' := by
  simp [Builtin.clear_, hu, hz, hL, hst]
/-- clear of a book's table of ways. -/
theorem clear_ways {w : World} {B P : Nat} {f : FV} {ap : Nat → Nat → Nat × Nat} {wy : Nat → Nat → Nat} (h : BkB w B f P ap wy) (ty : TypeId) :
    (Builtin.clear_ #[130] ty #[.slice (some ⟨B, 3203, none⟩) 40 40]).run Try.prog w = .ok (.tuple #[]) (w.setCells B 3203 zW) := by
  have hst := run_storeCells_cells (P := Try.prog) B 3203 zW 0 w
    (fun j hj => by
      rw [zW_length] at hj
      have := h.way (i := j / 40) (j := j % 40) (by omega) (by omega)
      rw [show 3203 + j / 40 * 40 + j % 40 = 3203 + (0 + j) by omega] at this
      simp only [Nat.zero_add] at this ⊢
      rw [this]; rfl) (fun j hj => h.frozen _) (by intro v hv; rw [zW_mem v hv]; rfl)
  simp only [Nat.add_zero] at hst
  exact clear_run (m := 39) (fun w => run_underlying Try.underlying130 w) (zeroValue125 w) zeroRowG hst
/-- A row of the table of ways, as it is loaded. -/
def rowA (wy : Nat → Nat → Nat) (k : Nat) : List Value := (List.range 40).map fun q => .int .i64 (wy k q : Int)
theorem rowA_get (wy : Nat → Nat → Nat) (k q : Nat) (hq : q < 40) : (rowA wy k).toArray[q]? = some (.int .i64 (wy k q : Int)) := by simp [rowA, hq]
theorem rowA_size (wy : Nat → Nat → Nat) (k : Nat) : (rowA wy k).toArray.size = 40 := by simp [rowA]
theorem rowA_len (wy : Nat → Nat → Nat) (k : Nat) : (rowA wy k).length = 40 := by simp [rowA]
theorem info125 : (Try.prog.info? 125).map (·.size) = some 40 := by kernel_rfl
theorem row_range {w : World} {B P : Nat} {f : FV} {ap : Nat → Nat → Nat × Nat} {wy : Nat → Nat → Nat} (h : BkB w B f P ap wy) (k : Nat) (hk : k < 40) : w.rangeAt B (3203 + k * 40) (rowA wy k) := fun j v hv => by
  have hj : j < 40 := by have := (List.getElem?_eq_some_iff.1 hv).1; simpa [rowA] using this
  have e := h.way (i := k) (j := j) hk hj
  have e2 : v = .int .i64 (wy k j : Int) := by simp [rowA, hj] at hv; exact hv.symm
  rw [e, e2]
theorem load_row {w : World} {B P : Nat} {f : FV} {ap : Nat → Nat → Nat × Nat} {wy : Nat → Nat → Nat} (h : BkB w B f P ap wy) (k : Nat) (hk : k < 40) :
    (Instr.loadAt 125 (.pointer (some ⟨B, 3203 + k * 40, none⟩))).run Try.prog w = .ok (.agg (rowA wy k).toArray) w := by
  refine run_loadAt_mid w B _ 125 (rowA wy k) _ (fun j v hv => ?_) Try.underlying125 rfl (by simp only [rowA, List.length_map, List.length_range]; kernel_rfl)
  have hj : j < 40 := by have := (List.getElem?_eq_some_iff.1 hv).1; simpa [rowA] using this
  have e := h.way (i := k) (j := j) hk hj
  have e2 : v = .int .i64 (wy k j : Int) := by simp [rowA, hj] at hv; exact hv.symm
  rw [e, e2]
theorem run_index125 (cs : Array Value) (p : Nat) (v : Value) (hp : p < 40) (hv : cs[p]? = some v) (w : World) : (Instr.index 125 (.agg cs) (.int .i64 (p : Int))).run Try.prog w = .ok v w := by
  have h4 : (sizeOf 3).run Try.prog w = .ok 1 w := by kernel_rfl
  simp [Instr.index, asIntOf, run_underlying Try.underlying125, Go.part, h4, hv, hp]
theorem Keep.trans' {D D' : Nat → Prop} {a b c : World} (h : Keep D a b) (k : Keep D' b c) (hd : ∀ i, i < a.heap.size → D i → D' i) : Keep D a c :=
  ⟨k.os.trans h.os, k.tape.trans h.tape, k.output.trans h.output, Nat.le_trans h.size k.size, fun i hi h' => (k.block i (Nat.lt_of_lt_of_le hi h.size) (hd i hi h')).trans (h.block i hi h')⟩
theorem Shut.keepD {lo : Nat} {w0 w w' : World} {D : Nat → Prop} (h : Keep D w0 w) (k : Shut lo w w') (hl : w0.heap.size ≤ lo) : Keep D w0 w' :=
  ⟨k.os.trans h.os, k.tape.trans h.tape, k.output.trans h.output, Nat.le_trans h.size k.size, fun i hi hd => (k.block i (.inl (by omega))).trans (h.block i hi hd)⟩
theorem Shut.bkb {lo : Nat} {w w' : World} {B P : Nat} {f : FV} {ap : Nat → Nat → Nat × Nat} {wy : Nat → Nat → Nat} (k : Shut lo w w') (h : BkB w B f P ap wy) : BkB w' B f P ap wy := by
  obtain ⟨cs, h1, h2⟩ := h; exact ⟨cs, k.cells h1, h2⟩
end Go.Proofs.Ytfognlealnhodaa
