/-
  Memory in parts while something is made of a deck: rows of one's own, blocks with their contents, and the deck; what each step makes of them. Nothing is claimed of the program here.
-/
import Derived.Test.YtlaolokakaheaaaEB
namespace Go.Proofs.Ytlaolokakaheaaa
open Go.RowKit

theorem intsV_append (l m : List Int) : intsV (l ++ m) = intsV l ++ intsV m := by simp [intsV]
/-- A row of one's own: its elements' type and cells, where it is, how long it is, and what is in it. -/
structure Rw where
  e : TypeId
  sz : Nat
  v : Value
  n : Nat
  xs : List Value
/-- Rows and blocks made since a world, apart from each other, and the deck; all else is as it was. -/
structure Held (w0 : World) (D : Nat) (a : Option Addr) (n c k : Nat) (rows : List Rw) (blks : List (Nat × Obj)) (V : World) : Prop where
  deck : IsDeck V D a n c k
  dlt : D < w0.heap.size
  by' : ∀ b off, a = some ⟨b, off, none⟩ → 0 < n → b < w0.heap.size
  keep : Keep (fun b => b ≠ D) w0 V
  row : ∀ (i : Nat) (r : Rw), rows[i]? = some r → V.ownsRow w0.heap.size r.e r.sz r.v r.n r.xs
  apart : ∀ (i j : Nat) (r s : Rw), i ≠ j → rows[i]? = some r → rows[j]? = some s → ∀ b, r.v.ownBlock = some b → s.v.ownBlock ≠ some b
  blk : ∀ (i : Nat) (b : Nat × Obj), blks[i]? = some b → w0.heap.size ≤ b.1 ∧ V.heap[b.1]? = some b.2
  off : ∀ (i : Nat) (b : Nat × Obj), blks[i]? = some b → ∀ (j : Nat) (r : Rw), rows[j]? = some r → r.v.ownBlock ≠ some b.1
  dis : ∀ (i j : Nat) (b b' : Nat × Obj), i ≠ j → blks[i]? = some b → blks[j]? = some b' → b.1 ≠ b'.1
section
variable {w0 V V' : World} {D n c k : Nat} {a : Option Addr} {rows : List Rw} {blks : List (Nat × Obj)}
theorem Held.start (hd : IsDeck w0 D a n c k) : Held w0 D a n c k [] [] w0 :=
  ⟨hd, hd.lt, hd.bytes, Keep.refl _ _, fun i r h => by simp at h, fun i j r s _ h => by simp at h, fun i b h => by simp at h, fun i b h => by simp at h, fun i j b b' _ h => by simp at h⟩
theorem Held.ext (h : Held w0 D a n c k rows blks V) (x : Ext V V') : Held w0 D a n c k rows blks V' :=
  ⟨h.deck.ext x, h.dlt, h.by', h.keep.ext x, fun i r hr => own_ext (h.row i r hr) x, h.apart, fun i b hb => ⟨(h.blk i b hb).1, x.block (h.blk i b hb).2⟩, h.off, h.dis⟩
theorem Held.dealt (h : Held w0 D a n c k rows blks V) {k' : Nat} (hd : IsDeck V' D a n c k') (g : V.grownBy V' (some D)) : Held w0 D a n c k' rows blks V' :=
  ⟨hd, h.dlt, h.by', h.keep.grown g (fun _ e _ hn => by cases e; exact hn rfl), fun i r hr => own_grown (h.row i r hr) g (fun b e e2 => by cases e2; have := (own_type (h.row i r hr) e).1; have := h.dlt; omega), h.apart,
    fun i b hb => ⟨(h.blk i b hb).1, blk_grown g (h.blk i b hb).2 (fun e => by cases e; have := (h.blk i b hb).1; have := h.dlt; omega)⟩, h.off, h.dis⟩
theorem get_snoc {α : Type} {L : List α} {x y : α} {i : Nat} (h : (L ++ [x])[i]? = some y) : L[i]? = some y ∨ (i = L.length ∧ x = y) := by
  by_cases e : i < L.length
  · rw [List.getElem?_append_left e] at h; exact .inl h
  · rw [List.getElem?_append_right (by omega)] at h
    obtain ⟨h1, h2⟩ := List.getElem?_eq_some_iff.1 h
    simp only [List.length_singleton] at h1
    refine .inr ⟨by omega, ?_⟩
    rw [← h2]
    simp
theorem Held.blt (h : Held w0 D a n c k rows blks V) {i : Nat} {b : Nat × Obj} (hb : blks[i]? = some b) : b.1 < V.heap.size := (Array.getElem?_eq_some_iff.1 (h.blk i b hb).2).1
theorem Held.rlt (h : Held w0 D a n c k rows blks V) {i : Nat} {r : Rw} (hr : rows[i]? = some r) {b : Nat} (hb : r.v.ownBlock = some b) : b < V.heap.size := (own_type (h.row i r hr) hb).2.1
/-- A block more. -/
theorem Held.new (h : Held w0 D a n c k rows blks V) (o : Obj) : Held w0 D a n c k rows (blks ++ [(V.heap.size, o)]) (V.alloc o) := by
  have hx := h.ext ((Ext.refl V).alloc o)
  refine ⟨hx.deck, hx.dlt, hx.by', hx.keep, hx.row, hx.apart, fun i b hb => ?_, fun i b hb j r hr e => ?_, fun i j b b' hij hb hb' => ?_⟩
  · rcases get_snoc hb with hb | ⟨rfl, rfl⟩
    · exact hx.blk i b hb
    · exact ⟨h.keep.size, World.alloc_heap_new _ _⟩
  · rcases get_snoc hb with hb | ⟨rfl, rfl⟩
    · exact h.off i b hb j r hr e
    · have := h.rlt hr e; dsimp only at this; omega
  · rcases get_snoc hb with hb | ⟨rfl, rfl⟩ <;> rcases get_snoc hb' with hb' | ⟨rfl, rfl⟩
    · exact h.dis i j b b' hij hb hb'
    · have := h.blt hb; show b.1 ≠ V.heap.size; omega
    · have := h.blt hb'; show V.heap.size ≠ b'.1; omega
    · exact absurd rfl hij
/-- A row more, in new memory. -/
theorem Held.addRow (h : Held w0 D a n c k rows blks V) (x : Ext V V') {e : TypeId} {sz : Nat} {v : Value} {m : Nat} {xs : List Value} (ho : V'.ownsRow V.heap.size e sz v m xs) : Held w0 D a n c k (rows ++ [⟨e, sz, v, m, xs⟩]) blks V' := by
  have hx := h.ext x
  refine ⟨hx.deck, hx.dlt, hx.by', hx.keep, fun i r hr => ?_, fun i j r s hij hr hs b hb hb' => ?_, hx.blk, fun i b hb j r hr e => ?_, hx.dis⟩
  · rcases get_snoc hr with hr | ⟨rfl, rfl⟩
    · exact hx.row i r hr
    · exact own_mono ho h.keep.size
  · rcases get_snoc hr with hr | ⟨rfl, rfl⟩ <;> rcases get_snoc hs with hs | ⟨rfl, rfl⟩
    · exact h.apart i j r s hij hr hs b hb hb'
    · have := h.rlt hr hb; have := (own_type ho hb').1; omega
    · have := h.rlt hs hb'; have := (own_type ho hb).1; omega
    · exact absurd rfl hij
  · rcases get_snoc hr with hr | ⟨rfl, rfl⟩
    · exact h.off i b hb j r hr e
    · have := h.blt hb; have := (own_type ho e).1; omega
/-- No row yet. -/
theorem Held.nilRow (h : Held w0 D a n c k rows blks V) (e : TypeId) (sz : Nat) : Held w0 D a n c k (rows ++ [⟨e, sz, .slice none 0 0, 0, []⟩]) blks V := h.addRow (Ext.refl V) (World.ownsRow_nil _ _ _ _)
theorem set_get {α : Type} {L : List α} {i j : Nat} {x y : α} (h : (L.set i x)[j]? = some y) : (i ≠ j ∧ L[j]? = some y) ∨ (i = j ∧ x = y) := by
  rw [List.getElem?_set] at h
  by_cases e : i = j
  · rw [if_pos e] at h
    split at h
    · exact .inr ⟨e, by simpa using h⟩
    · cases h
  · rw [if_neg e] at h; exact .inl ⟨e, h⟩
/-- A row is written anew, where it was or in new memory. -/
theorem Held.turned (h : Held w0 D a n c k rows blks V) {i : Nat} {r : Rw} (hr : rows[i]? = some r) (hk : Keep (fun b => r.v.ownBlock ≠ some b) V V') {v : Value} {m : Nat} {xs : List Value} (ho : V'.ownsRow w0.heap.size r.e r.sz v m xs) (hl : ∀ b, v.ownBlock = some b → r.v.ownBlock = some b ∨ V.heap.size ≤ b) :
    Held w0 D a n c k (rows.set i ⟨r.e, r.sz, v, m, xs⟩) blks V' := by
  have hd := h.dlt
  refine ⟨h.deck.keepD hk (fun e => by have := (own_type (h.row i r hr) e).1; omega) (fun b off ha hn e => by have := (own_type (h.row i r hr) e).1; have := h.by' b off ha hn; omega), hd, h.by', h.keep.transD hk (fun b hb _ e => by have := (own_type (h.row i r hr) e).1; omega), fun j s hs => ?_, fun j l s t hjl hs ht b hb hb' => ?_, fun j b hb => ⟨(h.blk j b hb).1, hk.heap (h.blk j b hb).2 (h.off j b hb i r hr)⟩, fun j b hb l s hs e => ?_, h.dis⟩
  · rcases set_get hs with ⟨hij, hs⟩ | ⟨rfl, rfl⟩
    · exact own_keepB (h.row j s hs) hk (fun b hb => h.apart j i s r (Ne.symm hij) hs hr b hb)
    · exact ho
  · rcases set_get hs with ⟨hij, hs⟩ | ⟨rfl, rfl⟩ <;> rcases set_get ht with ⟨hil, ht⟩ | ⟨rfl, rfl⟩
    · exact h.apart j l s t hjl hs ht b hb hb'
    · rcases hl b hb' with hb' | hb'
      · exact h.apart j _ s r hjl hs hr b hb hb'
      · have := h.rlt hs hb; omega
    · rcases hl b hb with hb | hb
      · exact h.apart _ l r t hjl hr ht b hb hb'
      · have := h.rlt ht hb'; omega
    · exact absurd rfl hjl
  · rcases set_get hs with ⟨hil, hs⟩ | ⟨rfl, rfl⟩
    · exact h.off j b hb l s hs e
    · rcases hl b.1 e with e | e
      · exact h.off j b hb _ r hr e
      · have := h.blt hb; omega
/-- An append. -/
theorem Held.grown (h : Held w0 D a n c k rows blks V) {i : Nat} {r : Rw} (hr : rows[i]? = some r) {g : Nat} {cap m : Nat} {xs : List Value} (ho : V'.ownsRow w0.heap.size r.e r.sz (.slice (some ⟨g, 0, none⟩) m cap) m xs) (hg : V.grownBy V' r.v.ownBlock) (hl : r.v.ownBlock = some g ∨ g = V.heap.size) :
    Held w0 D a n c k (rows.set i ⟨r.e, r.sz, .slice (some ⟨g, 0, none⟩) m cap, m, xs⟩) blks V' :=
  h.turned hr ((Keep.refl _ V).grown hg (fun b e _ hn => hn e)) ho (fun b hb => by cases hb; rcases hl with hl | rfl; exact .inl hl; exact .inr (Nat.le_refl _))
/-- A store into a block. -/
theorem Held.put (h : Held w0 D a n c k rows blks V) {i p : Nat} {o o' : Obj} (hb : blks[i]? = some (p, o)) (hk : Keep (fun b => b ≠ p) V V') (ho : V'.heap[p]? = some o') : Held w0 D a n c k rows (blks.set i (p, o')) V' := by
  have hp := (h.blk i _ hb).1
  have hd := h.dlt
  dsimp only at hp
  refine ⟨h.deck.keepD hk (by omega) (fun b off ha hn => by have := h.by' b off ha hn; omega), hd, h.by', h.keep.transD hk (fun b hb _ => by omega), fun j r hr => own_keepB (h.row j r hr) hk (fun b e e2 => by subst e2; exact h.off i _ hb j r hr e), h.apart, fun j b hj => ?_, fun j b hj l r hr => ?_, fun j l b b' hjl hj hl => ?_⟩
  · rcases set_get hj with ⟨hij, hj⟩ | ⟨rfl, rfl⟩
    · exact ⟨(h.blk j b hj).1, hk.heap (h.blk j b hj).2 (h.dis j i b _ (Ne.symm hij) hj hb)⟩
    · exact ⟨hp, ho⟩
  · rcases set_get hj with ⟨hij, hj⟩ | ⟨rfl, rfl⟩
    · exact h.off j b hj l r hr
    · exact h.off _ _ hb l r hr
  · rcases set_get hj with ⟨hij, hj⟩ | ⟨rfl, rfl⟩ <;> rcases set_get hl with ⟨hil, hl⟩ | ⟨rfl, rfl⟩
    · exact h.dis j l b b' hjl hj hl
    · exact h.dis j _ b (p, o) hjl hj hb
    · exact h.dis _ l (p, o) b' hjl hb hl
    · exact absurd rfl hjl
/-- What is no longer wanted. -/
theorem Held.drop (x : List (Nat × Obj)) (h : Held w0 D a n c k rows (blks ++ x) V) : Held w0 D a n c k rows blks V := by
  have hh : ∀ {i : Nat} {b : Nat × Obj}, blks[i]? = some b → (blks ++ x)[i]? = some b := fun {i b} e => by
    rw [List.getElem?_append_left (List.getElem?_eq_some_iff.1 e).1]; exact e
  exact ⟨h.deck, h.dlt, h.by', h.keep, h.row, h.apart, fun i b hb => h.blk i b (hh hb), fun i b hb => h.off i b (hh hb), fun i j b b' hij hb hb' => h.dis i j b b' hij (hh hb) (hh hb')⟩
/-- What lies in a block. -/
theorem Held.heap (h : Held w0 D a n c k rows blks V) (i : Nat) {p : Nat} {o : Obj} (hb : blks[i]? = some (p, o)) : V.heap[p]? = some o := (h.blk i _ hb).2
theorem Held.cell (h : Held w0 D a n c k rows blks V) (i : Nat) {p j : Nat} {cs : Array Value} {T : TypeId} {fr : Nat × Nat} (hb : blks[i]? = some (p, .cells cs T fr)) {v : Value} (hv : cs[j]? = some v) : V.cell? ⟨p, j, none⟩ = some v := (cell_at (h.heap i hb) j).trans hv
theorem Held.frozen (h : Held w0 D a n c k rows blks V) (i : Nat) {p j : Nat} {cs : Array Value} {T : TypeId} (hb : blks[i]? = some (p, .cells cs T (0, 0))) : V.frozen? ⟨p, j, none⟩ = false := by simp [World.frozen?, h.heap i hb]
/-- What lies in a row of numbers. -/
theorem Held.num (h : Held w0 D a n c k rows blks V) (i : Nat) {g m cap : Nat} {l : List Nat} (hr : rows[i]? = some ⟨3, 1, .slice (some ⟨g, 0, none⟩) m cap, m, nums l⟩) (hl : l.length = m) (hm : m ≤ 1000000) {q : Nat} (hq : q < m) : V.cell? ⟨g, q, none⟩ = some (.int .i64 ((l[q]?.getD 0 : Nat) : Int)) := by
  have ho := h.row i _ hr
  subst hl
  obtain ⟨-, -, hs⟩ := own_sl ho hm
  rcases hs with hs | ⟨b, off, ha, hc⟩
  · dsimp only at hs; omega
  · cases ha
    have := hc q hq 0 (by omega)
    rw [List.getElem?_eq_getElem hq, Option.getD_some]
    simpa [Ytlaolokakaheaaa.num] using this
theorem Held.cap (h : Held w0 D a n c k rows blks V) (i : Nat) {g m cap : Nat} {l : List Nat} (hr : rows[i]? = some ⟨3, 1, .slice (some ⟨g, 0, none⟩) m cap, m, nums l⟩) (hl : l.length = m) (hm : m ≤ 1000000) : m ≤ cap := by
  have ho := h.row i _ hr
  subst hl
  exact (own_sl ho hm).1
/-- A store of one cell into a block. -/
theorem Held.cellPut (h : Held w0 D a n c k rows blks V) (i : Nat) {p j : Nat} {cs : Array Value} {T : TypeId} {fr : Nat × Nat} (hb : blks[i]? = some (p, .cells cs T fr)) (v : Value) : Held w0 D a n c k rows (blks.set i (p, .cells (cs.setIfInBounds j v) T fr)) (V.setCell ⟨p, j, none⟩ v) :=
  h.put hb ((Keep.refl _ _).setCell _ _ (fun _ h => h rfl)) (heap_setCell_same (h.heap i hb) v)
end
end Go.Proofs.Ytlaolokakaheaaa
