/-
  A region that draws its order, whose last stores hit cells that the region loads: loads may be taken first as long as only stores that wait for them, or for one another, turn what they read. Nothing is claimed of the program here.
  Memory in parts while something is made of a deck: rows of one's own, blocks with their contents, and the deck; what each step makes of them. Nothing is claimed of the program here.
  Memory in parts: rows of one's own, blocks with their contents; what each step makes of them. Nothing is claimed of the program here.
  What walks share: the code from a region on; spans that are narrowed; Between and span where they deal from a deck beside other memory. Nothing is claimed of the program here.
-/
import Derived.Deep.RegionHeld3
import Derived.Test.YtfognlealnhodaaMC
import Derived.Test.YtfognlealnhodaaIV
namespace Go.Proofs.Ytfognlealnhodaa

section
variable {P : Program} {ops : Array Oper} {Q : Exit → Act → World → Prop} {md : Region.Mode} {S : World → Prop} {F : List Nat}

/-- Whatever order is picked from here on, and S holds behind every operation that is carried out, but for the last ones, F. -/
def wpAnyF (P : Program) (md : Region.Mode) (ops : Array Oper) (Q : Exit → Act → World → Prop) (S : World → Prop) (F : List Nat) : Nat → Array Bool → Act → World → Prop
  | 0, listed, a, w => Region.ready md ops listed = [] ∧ Q .normal a w
  | fuel + 1, listed, a, w =>
    (Region.ready md ops listed = [] → Q .normal a w) ∧
    ∀ i ∈ Region.ready md ops listed, wpOp P ops Q i (fun a' w' => (i ∉ F → S w') ∧ wpAnyF P md ops Q S F fuel (listed.setIfInBounds i true) a' w') a w

theorem wpAny_of_last : ∀ (fuel : Nat) (listed : Array Bool) (a : Act) (w : World), wpAnyF P md ops Q S F fuel listed a w → wpAny P md ops Q fuel listed a w
  | 0, _, _, _, h => h
  | fuel + 1, _, _, _, h => ⟨h.1, fun i hi => wpOp_mono (fun a' w' h' => wpAny_of_last fuel _ a' w' h'.2) (h.2 i hi)⟩

/-- Does operation f wait for operation i? -/
def waitsB (md : Region.Mode) (ops : Array Oper) (f i : Nat) : Bool := match ops[f]? with
  | none => true
  | some o => o.after.any fun e => Region.binds md e && decide (e.on = i)
theorem waits_spec {f i : Nat} {o : Oper} (h : waitsB md ops f i = true) (ho : ops[f]? = some o) : ∃ e ∈ o.after, Region.binds md e = true ∧ e.on = i := by
  unfold waitsB at h
  rw [ho] at h
  simp only [Array.any_eq_true] at h
  obtain ⟨k, hk, h⟩ := h
  simp only [Bool.and_eq_true, decide_eq_true_eq] at h
  exact ⟨_, Array.getElem_mem hk, h.1, h.2⟩
/-- All of W wait for the load, or for one of W; none of them is done; the last ones are among them. -/
def lastB (md : Region.Mode) (ops : Array Oper) (F W : List Nat) (i : Nat) (listed : Array Bool) : Bool := (W.all fun f => (!listed.getD f true) && (waitsB md ops f i || W.any fun f' => waitsB md ops f f')) && F.all fun f => W.contains f
theorem last_spec {W : List Nat} {i : Nat} {listed : Array Bool} (h : lastB md ops F W i listed = true) : (∀ f ∈ W, listed.getD f true = false ∧ (waitsB md ops f i = true ∨ ∃ f' ∈ W, waitsB md ops f f' = true)) ∧ ∀ f ∈ F, f ∈ W := by
  unfold lastB at h
  rw [Bool.and_eq_true, List.all_eq_true, List.all_eq_true] at h
  refine ⟨fun f hf => ?_, fun f hf => by simpa using h.2 f hf⟩
  have := h.1 f hf
  simp only [Bool.and_eq_true, Bool.not_eq_true', Bool.or_eq_true, List.any_eq_true] at this
  exact this

theorem wpAnyF_first {i : Nat} {oi : Oper} {v : Value} (hi : ops[i]? = some oi) (hsel : ∀ (j : Nat) (o : Oper) cs b, ops[j]? = some o → o.op ≠ .select cs b)
    (hQ : ∀ c a w, Q (.panic c) (a.put oi.dst v) w → Q (.panic c) a w) (W : List Nat) (hwait : ∀ f ∈ W, waitsB md ops f i = true ∨ ∃ f' ∈ W, waitsB md ops f f' = true) (hFW : ∀ f ∈ F, f ∈ W) :
    ∀ (fuel : Nat) (listed : Array Bool) (a : Act) (w : World),
      (∀ f ∈ W, listed.getD f true = false) →
      (∀ j oj, ops[j]? = some oj → j ≠ i → listed.getD j true = false → (∀ e ∈ oj.after, Region.binds md e = true → e.on ≠ i) → oi.apart ops oj = true) →
      i ∈ Region.ready md ops listed → YieldsIf P ops S oi v a → S w →
      wpAnyF P md ops Q S F fuel (listed.setIfInBounds i true) (a.put oi.dst v) w → wpAnyF P md ops Q S F (fuel + 1) listed a w := by
  intro fuel
  induction fuel with
  | zero =>
    intro listed a w _ _ hr hy hS H
    refine ⟨fun h => (by rw [h] at hr; cases hr), fun j hj => ?_⟩
    by_cases hji : j = i
    · subst hji; exact hy.wpOp hi hS ⟨fun _ => hS, H⟩
    · have := ready_mono hj hji
      rw [H.1] at this
      cases this
  | succ fuel ih =>
    intro listed a w hun0 hfree hr hy hS H
    refine ⟨fun h => (by rw [h] at hr; cases hr), fun j hj => ?_⟩
    by_cases hji : j = i
    · subst hji; exact hy.wpOp hi hS ⟨fun _ => hS, H⟩
    · have h1 := H.2 j (ready_mono hj hji)
      obtain ⟨hjun, oj, hoj, hall⟩ := mem_ready.1 hj
      have hoff : ∀ k, listed.getD k true = false → ∀ e ∈ oj.after, Region.binds md e = true → e.on ≠ k := fun k h0 e he hb heq => by
        have h1 := hall e he hb
        rw [heq] at h1
        rcases Nat.lt_or_ge k listed.size with h' | h'
        · simp [h'] at h0 h1; rw [h0] at h1; cases h1
        · simp [Array.getElem?_eq_none h'] at h1
      have hnot := hoff i (mem_ready.1 hr).1
      have hjw : j ∉ W := fun hm => by
        rcases hwait j hm with hw | ⟨f', hf', hw⟩
        · obtain ⟨e, he, hb, heq⟩ := waits_spec hw hoj
          exact hnot e he hb heq
        · obtain ⟨e, he, hb, heq⟩ := waits_spec hw hoj
          exact hoff f' (hun0 f' hf') e he hb heq
      have hjf : j ∉ F := fun hm => hjw (hFW j hm)
      have h2 := wpOp_putIf hoj (hfree j oj hoj hji hjun hnot) (fun cs b => hsel i oi cs b hi) (fun cs b => hsel j oj cs b hoj) hQ hy h1
      have hun' : ∀ f ∈ W, (listed.setIfInBounds j true).getD f true = false := fun f hf => by
        rw [getD_set_ne true (fun e : j = f => hjw (e ▸ hf))]
        exact hun0 f hf
      have hfree' : ∀ k ok, ops[k]? = some ok → k ≠ i → (listed.setIfInBounds j true).getD k true = false →
          (∀ e ∈ ok.after, Region.binds md e = true → e.on ≠ i) → oi.apart ops ok = true := fun k ok hk hki hun hno => by
        refine hfree k ok hk hki ?_ hno
        by_cases hjk : j = k
        · subst hjk; exact hjun
        · rw [getD_set_ne true hjk] at hun; exact hun
      refine wpOp_mono (fun a' w' h3 => ⟨fun _ => h3.2.1 hjf, ih (listed.setIfInBounds j true) a' w' hun' hfree' (ready_mono hr (Ne.symm hji)) h3.1 (h3.2.1 hjf) ?_⟩) h2
      rw [Array.setIfInBounds_comm _ _ hji]
      exact h3.2.2

theorem wpAnyF_take (W : List Nat) {i : Nat} {oi : Oper} {v : Value} {fuel : Nat} {listed : Array Bool} {a : Act} {w : World} (hi : ops[i]? = some oi)
    (hs : Region.noSelect ops = true) (hf : Region.free md ops listed i = true) (hr : (Region.ready md ops listed).contains i = true) (hwait : lastB md ops F W i listed = true)
    (hQ : ∀ c a w, Q (.panic c) (a.put oi.dst v) w → Q (.panic c) a w) (hy : YieldsIf P ops S oi v a) (hS : S w)
    (h : wpAnyF P md ops Q S F fuel (listed.setIfInBounds i true) (a.put oi.dst v) w) : wpAnyF P md ops Q S F (fuel + 1) listed a w :=
  wpAnyF_first hi (Region.noSelect_spec hs) hQ W (fun f hm => ((last_spec hwait).1 f hm).2) (last_spec hwait).2 fuel listed a w (fun f hm => ((last_spec hwait).1 f hm).1) (Region.free_spec hi hf) (by simpa using hr) hy hS h

/-- All that may come up do so. -/
def AllReadyF (P : Program) (md : Region.Mode) (ops : Array Oper) (Q : Exit → Act → World → Prop) (S : World → Prop) (F : List Nat) (fuel : Nat) (listed : Array Bool) (a : Act) (w : World) (rs : List Nat) : Prop :=
  ∀ i ∈ rs, wpOp P ops Q i (fun a' w' => (i ∉ F → S w') ∧ wpAnyF P md ops Q S F fuel (listed.setIfInBounds i true) a' w') a w
theorem AllReadyF.nil {fuel : Nat} {listed : Array Bool} {a : Act} {w : World} : AllReadyF P md ops Q S F fuel listed a w [] := fun _ h => by cases h
theorem AllReadyF.cons {fuel : Nat} {listed : Array Bool} {a : Act} {w : World} {i : Nat} {o : Oper} {rs : List Nat} (ho : ops[i]? = some o)
    (h : ∀ K' : Act → World → Prop, Go.Shut (∀ a w, S w → (S w → wpAnyF P md ops Q S F fuel (listed.setIfInBounds i true) a w) → K' a w) → if Region.wanted o (Go.yielded ops a.tmps) = true then Oper.wp P o a w K' Q else K' (a.put o.dst undef) w)
    (hs : AllReadyF P md ops Q S F fuel listed a w rs) : AllReadyF P md ops Q S F fuel listed a w (i :: rs) := fun j hj => by
  rcases List.mem_cons.1 hj with rfl | hj
  · exact wpOp_step ho (fun K' hK => h K' (fun a w hS hW => hK a w ⟨fun _ => hS, hW hS⟩))
  · exact hs j hj
theorem AllReadyF.last {fuel : Nat} {listed : Array Bool} {a : Act} {w : World} {i : Nat} {o : Oper} {rs : List Nat} (ho : ops[i]? = some o) (hF : F.contains i = true)
    (h : ∀ K' : Act → World → Prop, Go.Shut (∀ a w, wpAnyF P md ops Q S F fuel (listed.setIfInBounds i true) a w → K' a w) → if Region.wanted o (Go.yielded ops a.tmps) = true then Oper.wp P o a w K' Q else K' (a.put o.dst undef) w)
    (hs : AllReadyF P md ops Q S F fuel listed a w rs) : AllReadyF P md ops Q S F fuel listed a w (i :: rs) := fun j hj => by
  rcases List.mem_cons.1 hj with rfl | hj
  · exact wpOp_step ho (fun K' hK => h K' (fun a w hW => hK a w ⟨fun e => absurd (by simpa using hF) e, hW⟩))
  · exact hs j hj
theorem wpAnyF_ready {rs : List Nat} {fuel : Nat} {listed : Array Bool} {a : Act} {w : World} (hr : Region.ready md ops listed = rs) (hne : rs.isEmpty = false)
    (h : AllReadyF P md ops Q S F fuel listed a w rs) : wpAnyF P md ops Q S F (fuel + 1) listed a w := ⟨fun h0 => (by rw [hr] at h0; subst h0; simp at hne), hr ▸ h⟩
theorem wpAnyF_done {fuel : Nat} {listed : Array Bool} {a : Act} {w : World} (hr : Region.ready md ops listed = []) (h : Q .normal a w) : wpAnyF P md ops Q S F fuel listed a w := by
  cases fuel with
  | zero => exact ⟨hr, h⟩
  | succ n => exact ⟨fun _ => h, by rw [hr]; intro i hi; cases hi⟩
theorem wp_region_last {id : Nat} {a : Act} {w : World} (F : List Nat) (S : World → Prop) (hm : P.follows .mixedOrders = true) (hS : S w.drew)
    (h : S w.drew → wpAnyF P .any ops Q S F ops.size (Array.replicate ops.size false) a w.drew) : (Code.region id ops true).wp P Q a w :=
  wp_region_any hm (wpAny_of_last _ _ _ _ (h hS))
end
end Go.Proofs.Ytfognlealnhodaa

namespace Go.Proofs.Ytfognlealnhodaa
open Go.RowKit

theorem intsV_append (l m : List Int) : intsV (l ++ m) = intsV l ++ intsV m := by simp [intsV]
/-- A row of one's own: its elements' type and cells, where it is, how long it is, and what is in it. -/
structure Rw where
  e : TypeId
  sz : Nat
  v : Value
  n : Nat
  xs : List Value
/-- Rows and blocks made since a world, apart from each other, and the deck; all else is as it was. -/
structure Held (w0 : World) (D : Nat) (a : Option Addr) (n c k : Nat) (rows : List Rw) (blks : List (Nat × Obj)) (V : World) : Prop where
  deck : IsDeck V D a n c k
  dlt : D < w0.heap.size
  by' : ∀ b off, a = some ⟨b, off, none⟩ → 0 < n → b < w0.heap.size
  keep : Keep (fun b => b ≠ D) w0 V
  row : ∀ (i : Nat) (r : Rw), rows[i]? = some r → V.ownsRow w0.heap.size r.e r.sz r.v r.n r.xs
  apart : ∀ (i j : Nat) (r s : Rw), i ≠ j → rows[i]? = some r → rows[j]? = some s → ∀ b, r.v.ownBlock = some b → s.v.ownBlock ≠ some b
  blk : ∀ (i : Nat) (b : Nat × Obj), blks[i]? = some b → w0.heap.size ≤ b.1 ∧ V.heap[b.1]? = some b.2
  off : ∀ (i : Nat) (b : Nat × Obj), blks[i]? = some b → ∀ (j : Nat) (r : Rw), rows[j]? = some r → r.v.ownBlock ≠ some b.1
  dis : ∀ (i j : Nat) (b b' : Nat × Obj), i ≠ j → blks[i]? = some b → blks[j]? = some b' → b.1 ≠ b'.1
section
variable {w0 V V' : World} {D n c k : Nat} {a : Option Addr} {rows : List Rw} {blks : List (Nat × Obj)}
theorem Held.start (hd : IsDeck w0 D a n c k) : Held w0 D a n c k [] [] w0 :=
  ⟨hd, hd.lt, hd.bytes, Keep.refl _ _, fun i r h => by simp at h, fun i j r s _ h => by simp at h, fun i b h => by simp at h, fun i b h => by simp at h, fun i j b b' _ h => by simp at h⟩
theorem Held.ext (h : Held w0 D a n c k rows blks V) (x : Ext V V') : Held w0 D a n c k rows blks V' :=
  ⟨h.deck.ext x, h.dlt, h.by', h.keep.ext x, fun i r hr => own_ext (h.row i r hr) x, h.apart, fun i b hb => ⟨(h.blk i b hb).1, x.block (h.blk i b hb).2⟩, h.off, h.dis⟩
theorem Held.dealt (h : Held w0 D a n c k rows blks V) {k' : Nat} (hd : IsDeck V' D a n c k') (g : V.grownBy V' (some D)) : Held w0 D a n c k' rows blks V' :=
  ⟨hd, h.dlt, h.by', h.keep.grown g (fun _ e _ hn => by cases e; exact hn rfl), fun i r hr => own_grown (h.row i r hr) g (fun b e e2 => by cases e2; have := (own_type (h.row i r hr) e).1; have := h.dlt; omega), h.apart,
    fun i b hb => ⟨(h.blk i b hb).1, blk_grown g (h.blk i b hb).2 (fun e => by cases e; have := (h.blk i b hb).1; have := h.dlt; omega)⟩, h.off, h.dis⟩
theorem get_snoc {α : Type} {L : List α} {x y : α} {i : Nat} (h : (L ++ [x])[i]? = some y) : L[i]? = some y ∨ (i = L.length ∧ x = y) := by
  by_cases e : i < L.length
  · rw [List.getElem?_append_left e] at h; exact .inl h
  · rw [List.getElem?_append_right (by omega)] at h
    obtain ⟨h1, h2⟩ := List.getElem?_eq_some_iff.1 h
    simp only [List.length_singleton] at h1
    refine .inr ⟨by omega, ?_⟩
    rw [← h2]
    simp
theorem Held.blt (h : Held w0 D a n c k rows blks V) {i : Nat} {b : Nat × Obj} (hb : blks[i]? = some b) : b.1 < V.heap.size := (Array.getElem?_eq_some_iff.1 (h.blk i b hb).2).1
theorem Held.rlt (h : Held w0 D a n c k rows blks V) {i : Nat} {r : Rw} (hr : rows[i]? = some r) {b : Nat} (hb : r.v.ownBlock = some b) : b < V.heap.size := (own_type (h.row i r hr) hb).2.1
/-- A block more. -/
theorem Held.new (h : Held w0 D a n c k rows blks V) (o : Obj) : Held w0 D a n c k rows (blks ++ [(V.heap.size, o)]) (V.alloc o) := by
  have hx := h.ext ((Ext.refl V).alloc o)
  refine ⟨hx.deck, hx.dlt, hx.by', hx.keep, hx.row, hx.apart, fun i b hb => ?_, fun i b hb j r hr e => ?_, fun i j b b' hij hb hb' => ?_⟩
  · rcases get_snoc hb with hb | ⟨rfl, rfl⟩
    · exact hx.blk i b hb
    · exact ⟨h.keep.size, World.alloc_heap_new _ _⟩
  · rcases get_snoc hb with hb | ⟨rfl, rfl⟩
    · exact h.off i b hb j r hr e
    · have := h.rlt hr e; dsimp only at this; omega
  · rcases get_snoc hb with hb | ⟨rfl, rfl⟩ <;> rcases get_snoc hb' with hb' | ⟨rfl, rfl⟩
    · exact h.dis i j b b' hij hb hb'
    · have := h.blt hb; show b.1 ≠ V.heap.size; omega
    · have := h.blt hb'; show V.heap.size ≠ b'.1; omega
    · exact absurd rfl hij
/-- A row more, in new memory. -/
theorem Held.addRow (h : Held w0 D a n c k rows blks V) (x : Ext V V') {e : TypeId} {sz : Nat} {v : Value} {m : Nat} {xs : List Value} (ho : V'.ownsRow V.heap.size e sz v m xs) : Held w0 D a n c k (rows ++ [⟨e, sz, v, m, xs⟩]) blks V' := by
  have hx := h.ext x
  refine ⟨hx.deck, hx.dlt, hx.by', hx.keep, fun i r hr => ?_, fun i j r s hij hr hs b hb hb' => ?_, hx.blk, fun i b hb j r hr e => ?_, hx.dis⟩
  · rcases get_snoc hr with hr | ⟨rfl, rfl⟩
    · exact hx.row i r hr
    · exact own_mono ho h.keep.size
  · rcases get_snoc hr with hr | ⟨rfl, rfl⟩ <;> rcases get_snoc hs with hs | ⟨rfl, rfl⟩
    · exact h.apart i j r s hij hr hs b hb hb'
    · have := h.rlt hr hb; have := (own_type ho hb').1; omega
    · have := h.rlt hs hb'; have := (own_type ho hb).1; omega
    · exact absurd rfl hij
  · rcases get_snoc hr with hr | ⟨rfl, rfl⟩
    · exact h.off i b hb j r hr e
    · have := h.blt hb; have := (own_type ho e).1; omega
/-- No row yet. -/
theorem Held.nilRow (h : Held w0 D a n c k rows blks V) (e : TypeId) (sz : Nat) : Held w0 D a n c k (rows ++ [⟨e, sz, .slice none 0 0, 0, []⟩]) blks V := h.addRow (Ext.refl V) (World.ownsRow_nil _ _ _ _)
theorem set_get {α : Type} {L : List α} {i j : Nat} {x y : α} (h : (L.set i x)[j]? = some y) : (i ≠ j ∧ L[j]? = some y) ∨ (i = j ∧ x = y) := by
  rw [List.getElem?_set] at h
  by_cases e : i = j
  · rw [if_pos e] at h
    split at h
    · exact .inr ⟨e, by simpa using h⟩
    · cases h
  · rw [if_neg e] at h; exact .inl ⟨e, h⟩
/-- A row is written anew, where it was or in new memory. -/
theorem Held.turned (h : Held w0 D a n c k rows blks V) {i : Nat} {r : Rw} (hr : rows[i]? = some r) (hk : Keep (fun b => r.v.ownBlock ≠ some b) V V') {v : Value} {m : Nat} {xs : List Value} (ho : V'.ownsRow w0.heap.size r.e r.sz v m xs) (hl : ∀ b, v.ownBlock = some b → r.v.ownBlock = some b ∨ V.heap.size ≤ b) :
    Held w0 D a n c k (rows.set i ⟨r.e, r.sz, v, m, xs⟩) blks V' := by
  have hd := h.dlt
  refine ⟨h.deck.keepD hk (fun e => by have := (own_type (h.row i r hr) e).1; omega) (fun b off ha hn e => by have := (own_type (h.row i r hr) e).1; have := h.by' b off ha hn; omega), hd, h.by', h.keep.transD hk (fun b hb _ e => by have := (own_type (h.row i r hr) e).1; omega), fun j s hs => ?_, fun j l s t hjl hs ht b hb hb' => ?_, fun j b hb => ⟨(h.blk j b hb).1, hk.heap (h.blk j b hb).2 (h.off j b hb i r hr)⟩, fun j b hb l s hs e => ?_, h.dis⟩
  · rcases set_get hs with ⟨hij, hs⟩ | ⟨rfl, rfl⟩
    · exact own_keepB (h.row j s hs) hk (fun b hb => h.apart j i s r (Ne.symm hij) hs hr b hb)
    · exact ho
  · rcases set_get hs with ⟨hij, hs⟩ | ⟨rfl, rfl⟩ <;> rcases set_get ht with ⟨hil, ht⟩ | ⟨rfl, rfl⟩
    · exact h.apart j l s t hjl hs ht b hb hb'
    · rcases hl b hb' with hb' | hb'
      · exact h.apart j _ s r hjl hs hr b hb hb'
      · have := h.rlt hs hb; omega
    · rcases hl b hb with hb | hb
      · exact h.apart _ l r t hjl hr ht b hb hb'
      · have := h.rlt ht hb'; omega
    · exact absurd rfl hjl
  · rcases set_get hs with ⟨hil, hs⟩ | ⟨rfl, rfl⟩
    · exact h.off j b hb l s hs e
    · rcases hl b.1 e with e | e
      · exact h.off j b hb _ r hr e
      · have := h.blt hb; omega
/-- An append. -/
theorem Held.grown (h : Held w0 D a n c k rows blks V) {i : Nat} {r : Rw} (hr : rows[i]? = some r) {g : Nat} {cap m : Nat} {xs : List Value} (ho : V'.ownsRow w0.heap.size r.e r.sz (.slice (some ⟨g, 0, none⟩) m cap) m xs) (hg : V.grownBy V' r.v.ownBlock) (hl : r.v.ownBlock = some g ∨ g = V.heap.size) :
    Held w0 D a n c k (rows.set i ⟨r.e, r.sz, .slice (some ⟨g, 0, none⟩) m cap, m, xs⟩) blks V' :=
  h.turned hr ((Keep.refl _ V).grown hg (fun b e _ hn => hn e)) ho (fun b hb => by cases hb; rcases hl with hl | rfl; exact .inl hl; exact .inr (Nat.le_refl _))
/-- A store into a block. -/
theorem Held.put (h : Held w0 D a n c k rows blks V) {i p : Nat} {o o' : Obj} (hb : blks[i]? = some (p, o)) (hk : Keep (fun b => b ≠ p) V V') (ho : V'.heap[p]? = some o') : Held w0 D a n c k rows (blks.set i (p, o')) V' := by
  have hp := (h.blk i _ hb).1
  have hd := h.dlt
  dsimp only at hp
  refine ⟨h.deck.keepD hk (by omega) (fun b off ha hn => by have := h.by' b off ha hn; omega), hd, h.by', h.keep.transD hk (fun b hb _ => by omega), fun j r hr => own_keepB (h.row j r hr) hk (fun b e e2 => by subst e2; exact h.off i _ hb j r hr e), h.apart, fun j b hj => ?_, fun j b hj l r hr => ?_, fun j l b b' hjl hj hl => ?_⟩
  · rcases set_get hj with ⟨hij, hj⟩ | ⟨rfl, rfl⟩
    · exact ⟨(h.blk j b hj).1, hk.heap (h.blk j b hj).2 (h.dis j i b _ (Ne.symm hij) hj hb)⟩
    · exact ⟨hp, ho⟩
  · rcases set_get hj with ⟨hij, hj⟩ | ⟨rfl, rfl⟩
    · exact h.off j b hj l r hr
    · exact h.off _ _ hb l r hr
  · rcases set_get hj with ⟨hij, hj⟩ | ⟨rfl, rfl⟩ <;> rcases set_get hl with ⟨hil, hl⟩ | ⟨rfl, rfl⟩
    · exact h.dis j l b b' hjl hj hl
    · exact h.dis j _ b (p, o) hjl hj hb
    · exact h.dis _ l (p, o) b' hjl hb hl
    · exact absurd rfl hjl
/-- What is no longer wanted. -/
theorem Held.drop (x : List (Nat × Obj)) (h : Held w0 D a n c k rows (blks ++ x) V) : Held w0 D a n c k rows blks V := by
  have hh : ∀ {i : Nat} {b : Nat × Obj}, blks[i]? = some b → (blks ++ x)[i]? = some b := fun {i b} e => by
    rw [List.getElem?_append_left (List.getElem?_eq_some_iff.1 e).1]; exact e
  exact ⟨h.deck, h.dlt, h.by', h.keep, h.row, h.apart, fun i b hb => h.blk i b (hh hb), fun i b hb => h.off i b (hh hb), fun i j b b' hij hb hb' => h.dis i j b b' hij (hh hb) (hh hb')⟩
/-- What lies in a block. -/
theorem Held.heap (h : Held w0 D a n c k rows blks V) (i : Nat) {p : Nat} {o : Obj} (hb : blks[i]? = some (p, o)) : V.heap[p]? = some o := (h.blk i _ hb).2
theorem Held.cell (h : Held w0 D a n c k rows blks V) (i : Nat) {p j : Nat} {cs : Array Value} {T : TypeId} {fr : Nat × Nat} (hb : blks[i]? = some (p, .cells cs T fr)) {v : Value} (hv : cs[j]? = some v) : V.cell? ⟨p, j, none⟩ = some v := (cell_at (h.heap i hb) j).trans hv
theorem Held.frozen (h : Held w0 D a n c k rows blks V) (i : Nat) {p j : Nat} {cs : Array Value} {T : TypeId} (hb : blks[i]? = some (p, .cells cs T (0, 0))) : V.frozen? ⟨p, j, none⟩ = false := by simp [World.frozen?, h.heap i hb]
/-- What lies in a row of numbers. -/
theorem Held.num (h : Held w0 D a n c k rows blks V) (i : Nat) {g m cap : Nat} {l : List Nat} (hr : rows[i]? = some ⟨3, 1, .slice (some ⟨g, 0, none⟩) m cap, m, nums l⟩) (hl : l.length = m) (hm : m ≤ 1000000) {q : Nat} (hq : q < m) : V.cell? ⟨g, q, none⟩ = some (.int .i64 ((l[q]?.getD 0 : Nat) : Int)) := by
  have ho := h.row i _ hr
  subst hl
  obtain ⟨-, -, hs⟩ := own_sl ho hm
  rcases hs with hs | ⟨b, off, ha, hc⟩
  · dsimp only at hs; omega
  · cases ha
    have := hc q hq 0 (by omega)
    rw [List.getElem?_eq_getElem hq, Option.getD_some]
    simpa [Ytfognlealnhodaa.num] using this
theorem Held.cap (h : Held w0 D a n c k rows blks V) (i : Nat) {g m cap : Nat} {l : List Nat} (hr : rows[i]? = some ⟨3, 1, .slice (some ⟨g, 0, none⟩) m cap, m, nums l⟩) (hl : l.length = m) (hm : m ≤ 1000000) : m ≤ cap := by
  have ho := h.row i _ hr
  subst hl
  exact (own_sl ho hm).1
/-- A store of one cell into a block. -/
theorem Held.cellPut (h : Held w0 D a n c k rows blks V) (i : Nat) {p j : Nat} {cs : Array Value} {T : TypeId} {fr : Nat × Nat} (hb : blks[i]? = some (p, .cells cs T fr)) (v : Value) : Held w0 D a n c k rows (blks.set i (p, .cells (cs.setIfInBounds j v) T fr)) (V.setCell ⟨p, j, none⟩ v) :=
  h.put hb ((Keep.refl _ _).setCell _ _ (fun _ h => h rfl)) (heap_setCell_same (h.heap i hb) v)
end
end Go.Proofs.Ytfognlealnhodaa

namespace Go.Proofs.Ytfognlealnhodaa
open Go.RowKit

/-- Rows and blocks made since a world, apart from each other; all else is as it was. -/
structure Mm (w0 : World) (rows : List Rw) (blks : List (Nat × Obj)) (V : World) : Prop where
  keep : Keep (fun _ => True) w0 V
  row : ∀ (i : Nat) (r : Rw), rows[i]? = some r → V.ownsRow w0.heap.size r.e r.sz r.v r.n r.xs
  apart : ∀ (i j : Nat) (r s : Rw), i ≠ j → rows[i]? = some r → rows[j]? = some s → ∀ b, r.v.ownBlock = some b → s.v.ownBlock ≠ some b
  blk : ∀ (i : Nat) (b : Nat × Obj), blks[i]? = some b → w0.heap.size ≤ b.1 ∧ V.heap[b.1]? = some b.2
  off : ∀ (i : Nat) (b : Nat × Obj), blks[i]? = some b → ∀ (j : Nat) (r : Rw), rows[j]? = some r → r.v.ownBlock ≠ some b.1
  dis : ∀ (i j : Nat) (b b' : Nat × Obj), i ≠ j → blks[i]? = some b → blks[j]? = some b' → b.1 ≠ b'.1
section
variable {w0 V V' : World} {rows : List Rw} {blks : List (Nat × Obj)}
theorem Mm.start : Mm w0 [] [] w0 :=
  ⟨Keep.refl _ _, fun i r h => by simp at h, fun i j r s _ h => by simp at h, fun i b h => by simp at h, fun i b h => by simp at h, fun i j b b' _ h => by simp at h⟩
theorem Mm.to_ext (h : Mm w0 rows blks V) : Ext w0 V := h.keep.to_ext fun _ _ => trivial
theorem Mm.ext (h : Mm w0 rows blks V) (x : Ext V V') : Mm w0 rows blks V' :=
  ⟨h.keep.ext x, fun i r hr => own_ext (h.row i r hr) x, h.apart, fun i b hb => ⟨(h.blk i b hb).1, x.block (h.blk i b hb).2⟩, h.off, h.dis⟩
theorem Mm.blt (h : Mm w0 rows blks V) {i : Nat} {b : Nat × Obj} (hb : blks[i]? = some b) : b.1 < V.heap.size := (Array.getElem?_eq_some_iff.1 (h.blk i b hb).2).1
theorem Mm.rlt (h : Mm w0 rows blks V) {i : Nat} {r : Rw} (hr : rows[i]? = some r) {b : Nat} (hb : r.v.ownBlock = some b) : b < V.heap.size := (own_type (h.row i r hr) hb).2.1
/-- A block more. -/
theorem Mm.new (h : Mm w0 rows blks V) (o : Obj) : Mm w0 rows (blks ++ [(V.heap.size, o)]) (V.alloc o) := by
  have hx := h.ext ((Ext.refl V).alloc o)
  refine ⟨hx.keep, hx.row, hx.apart, fun i b hb => ?_, fun i b hb j r hr e => ?_, fun i j b b' hij hb hb' => ?_⟩
  · rcases get_snoc hb with hb | ⟨rfl, rfl⟩
    · exact hx.blk i b hb
    · exact ⟨h.keep.size, World.alloc_heap_new _ _⟩
  · rcases get_snoc hb with hb | ⟨rfl, rfl⟩
    · exact h.off i b hb j r hr e
    · have := h.rlt hr e; dsimp only at this; omega
  · rcases get_snoc hb with hb | ⟨rfl, rfl⟩ <;> rcases get_snoc hb' with hb' | ⟨rfl, rfl⟩
    · exact h.dis i j b b' hij hb hb'
    · have := h.blt hb; show b.1 ≠ V.heap.size; omega
    · have := h.blt hb'; show V.heap.size ≠ b'.1; omega
    · exact absurd rfl hij
/-- A row more, in new memory. -/
theorem Mm.addRow (h : Mm w0 rows blks V) (x : Ext V V') {e : TypeId} {sz : Nat} {v : Value} {m : Nat} {xs : List Value} (ho : V'.ownsRow V.heap.size e sz v m xs) : Mm w0 (rows ++ [⟨e, sz, v, m, xs⟩]) blks V' := by
  have hx := h.ext x
  refine ⟨hx.keep, fun i r hr => ?_, fun i j r s hij hr hs b hb hb' => ?_, hx.blk, fun i b hb j r hr e => ?_, hx.dis⟩
  · rcases get_snoc hr with hr | ⟨rfl, rfl⟩
    · exact hx.row i r hr
    · exact own_mono ho h.keep.size
  · rcases get_snoc hr with hr | ⟨rfl, rfl⟩ <;> rcases get_snoc hs with hs | ⟨rfl, rfl⟩
    · exact h.apart i j r s hij hr hs b hb hb'
    · have := h.rlt hr hb; have := (own_type ho hb').1; omega
    · have := h.rlt hs hb'; have := (own_type ho hb).1; omega
    · exact absurd rfl hij
  · rcases get_snoc hr with hr | ⟨rfl, rfl⟩
    · exact h.off i b hb j r hr e
    · have := h.blt hb; have := (own_type ho e).1; omega
/-- No row yet. -/
theorem Mm.nilRow (h : Mm w0 rows blks V) (e : TypeId) (sz : Nat) : Mm w0 (rows ++ [⟨e, sz, .slice none 0 0, 0, []⟩]) blks V := h.addRow (Ext.refl V) (World.ownsRow_nil _ _ _ _)
/-- A row is written anew, where it was or in new memory. -/
theorem Mm.turned (h : Mm w0 rows blks V) {i : Nat} {r : Rw} (hr : rows[i]? = some r) (hk : Keep (fun b => r.v.ownBlock ≠ some b) V V') {v : Value} {m : Nat} {xs : List Value} (ho : V'.ownsRow w0.heap.size r.e r.sz v m xs) (hl : ∀ b, v.ownBlock = some b → r.v.ownBlock = some b ∨ V.heap.size ≤ b) :
    Mm w0 (rows.set i ⟨r.e, r.sz, v, m, xs⟩) blks V' := by
  refine ⟨h.keep.transD hk (fun b hb _ e => by have := (own_type (h.row i r hr) e).1; omega), fun j s hs => ?_, fun j l s t hjl hs ht b hb hb' => ?_, fun j b hb => ⟨(h.blk j b hb).1, hk.heap (h.blk j b hb).2 (h.off j b hb i r hr)⟩, fun j b hb l s hs e => ?_, h.dis⟩
  · rcases set_get hs with ⟨hij, hs⟩ | ⟨rfl, rfl⟩
    · exact own_keepB (h.row j s hs) hk (fun b hb => h.apart j i s r (Ne.symm hij) hs hr b hb)
    · exact ho
  · rcases set_get hs with ⟨hij, hs⟩ | ⟨rfl, rfl⟩ <;> rcases set_get ht with ⟨hil, ht⟩ | ⟨rfl, rfl⟩
    · exact h.apart j l s t hjl hs ht b hb hb'
    · rcases hl b hb' with hb' | hb'
      · exact h.apart j _ s r hjl hs hr b hb hb'
      · have := h.rlt hs hb; omega
    · rcases hl b hb with hb | hb
      · exact h.apart _ l r t hjl hr ht b hb hb'
      · have := h.rlt ht hb'; omega
    · exact absurd rfl hjl
  · rcases set_get hs with ⟨hil, hs⟩ | ⟨rfl, rfl⟩
    · exact h.off j b hb l s hs e
    · rcases hl b.1 e with e | e
      · exact h.off j b hb _ r hr e
      · have := h.blt hb; omega
/-- An append. -/
theorem Mm.grown (h : Mm w0 rows blks V) {i : Nat} {r : Rw} (hr : rows[i]? = some r) {g : Nat} {cap m : Nat} {xs : List Value} (ho : V'.ownsRow w0.heap.size r.e r.sz (.slice (some ⟨g, 0, none⟩) m cap) m xs) (hg : V.grownBy V' r.v.ownBlock) (hl : r.v.ownBlock = some g ∨ g = V.heap.size) :
    Mm w0 (rows.set i ⟨r.e, r.sz, .slice (some ⟨g, 0, none⟩) m cap, m, xs⟩) blks V' :=
  h.turned hr ((Keep.refl _ V).grown hg (fun b e _ hn => hn e)) ho (fun b hb => by cases hb; rcases hl with hl | rfl; exact .inl hl; exact .inr (Nat.le_refl _))
/-- A store into a block. -/
theorem Mm.put (h : Mm w0 rows blks V) {i p : Nat} {o o' : Obj} (hb : blks[i]? = some (p, o)) (hk : Keep (fun b => b ≠ p) V V') (ho : V'.heap[p]? = some o') : Mm w0 rows (blks.set i (p, o')) V' := by
  have hp := (h.blk i _ hb).1
  dsimp only at hp
  refine ⟨h.keep.transD hk (fun b hb _ => by omega), fun j r hr => own_keepB (h.row j r hr) hk (fun b e e2 => by subst e2; exact h.off i _ hb j r hr e), h.apart, fun j b hj => ?_, fun j b hj l r hr => ?_, fun j l b b' hjl hj hl => ?_⟩
  · rcases set_get hj with ⟨hij, hj⟩ | ⟨rfl, rfl⟩
    · exact ⟨(h.blk j b hj).1, hk.heap (h.blk j b hj).2 (h.dis j i b _ (Ne.symm hij) hj hb)⟩
    · exact ⟨hp, ho⟩
  · rcases set_get hj with ⟨hij, hj⟩ | ⟨rfl, rfl⟩
    · exact h.off j b hj l r hr
    · exact h.off _ _ hb l r hr
  · rcases set_get hj with ⟨hij, hj⟩ | ⟨rfl, rfl⟩ <;> rcases set_get hl with ⟨hil, hl⟩ | ⟨rfl, rfl⟩
    · exact h.dis j l b b' hjl hj hl
    · exact h.dis j _ b (p, o) hjl hj hb
    · exact h.dis _ l (p, o) b' hjl hb hl
    · exact absurd rfl hjl
/-- What is no longer wanted. -/
theorem Mm.drop (x : List (Nat × Obj)) (h : Mm w0 rows (blks ++ x) V) : Mm w0 rows blks V := by
  have hh : ∀ {i : Nat} {b : Nat × Obj}, blks[i]? = some b → (blks ++ x)[i]? = some b := fun {i b} e => by
    rw [List.getElem?_append_left (List.getElem?_eq_some_iff.1 e).1]; exact e
  exact ⟨h.keep, h.row, h.apart, fun i b hb => h.blk i b (hh hb), fun i b hb => h.off i b (hh hb), fun i j b b' hij hb hb' => h.dis i j b b' hij (hh hb) (hh hb')⟩
/-- What lies in a block. -/
theorem Mm.heap (h : Mm w0 rows blks V) (i : Nat) {p : Nat} {o : Obj} (hb : blks[i]? = some (p, o)) : V.heap[p]? = some o := (h.blk i _ hb).2
theorem Mm.cell (h : Mm w0 rows blks V) (i : Nat) {p j : Nat} {cs : Array Value} {T : TypeId} {fr : Nat × Nat} (hb : blks[i]? = some (p, .cells cs T fr)) {v : Value} (hv : cs[j]? = some v) : V.cell? ⟨p, j, none⟩ = some v := (cell_at (h.heap i hb) j).trans hv
theorem Mm.frozen (h : Mm w0 rows blks V) (i : Nat) {p j : Nat} {cs : Array Value} {T : TypeId} (hb : blks[i]? = some (p, .cells cs T (0, 0))) : V.frozen? ⟨p, j, none⟩ = false := by simp [World.frozen?, h.heap i hb]
/-- What lies in a row of numbers. -/
theorem Mm.num (h : Mm w0 rows blks V) (i : Nat) {g m cap : Nat} {l : List Nat} (hr : rows[i]? = some ⟨3, 1, .slice (some ⟨g, 0, none⟩) m cap, m, nums l⟩) (hl : l.length = m) (hm : m ≤ 1000000) {q : Nat} (hq : q < m) : V.cell? ⟨g, q, none⟩ = some (.int .i64 ((l[q]?.getD 0 : Nat) : Int)) := by
  have ho := h.row i _ hr
  subst hl
  obtain ⟨-, -, hs⟩ := own_sl ho hm
  rcases hs with hs | ⟨b, off, ha, hc⟩
  · dsimp only at hs; omega
  · cases ha
    have := hc q hq 0 (by omega)
    rw [List.getElem?_eq_getElem hq, Option.getD_some]
    simpa [Ytfognlealnhodaa.num] using this
theorem Mm.cap (h : Mm w0 rows blks V) (i : Nat) {g m cap : Nat} {l : List Nat} (hr : rows[i]? = some ⟨3, 1, .slice (some ⟨g, 0, none⟩) m cap, m, nums l⟩) (hl : l.length = m) (hm : m ≤ 1000000) : m ≤ cap := by
  have ho := h.row i _ hr
  subst hl
  exact (own_sl ho hm).1
/-- A store of one cell into a block. -/
theorem Mm.cellPut (h : Mm w0 rows blks V) (i : Nat) {p j : Nat} {cs : Array Value} {T : TypeId} {fr : Nat × Nat} (hb : blks[i]? = some (p, .cells cs T fr)) (v : Value) : Mm w0 rows (blks.set i (p, .cells (cs.setIfInBounds j v) T fr)) (V.setCell ⟨p, j, none⟩ v) :=
  h.put hb ((Keep.refl _ _).setCell _ _ (fun _ h => h rfl)) (heap_setCell_same (h.heap i hb) v)
end
end Go.Proofs.Ytfognlealnhodaa

namespace Go.Proofs.Ytfognlealnhodaa
open Go.RowKit

/-- The code from region n on. -/
def tailT (n : Nat) : Code → Option Code
  | .seq (.region k o d) b => if k = n then some (.seq (.region k o d) b) else tailT n b
  | .seq (.seq (.region k o d) c) b => if k = n then some (.seq (.seq (.region k o d) c) b) else tailT n b
  | .seq _ b => tailT n b
  | .block _ c => tailT n c
  | .scope c => tailT n c
  | _ => none
/-- Spans that are narrower, each within its own. -/
def NarL (G L : List (Nat × Nat)) : Prop := L.length = G.length ∧ ∀ q, q < G.length → (G[q]?.getD (0, 0)).1 ≤ (L[q]?.getD (0, 0)).1 ∧ (L[q]?.getD (0, 0)).1 ≤ (L[q]?.getD (0, 0)).2 ∧ (L[q]?.getD (0, 0)).2 ≤ (G[q]?.getD (0, 0)).2
theorem getD_mem {G : List (Nat × Nat)} {q : Nat} (h : q < G.length) : G[q]?.getD (0, 0) ∈ G := by
  rw [List.getElem?_eq_getElem h]; exact List.getElem_mem h
theorem NarL.start {G : List (Nat × Nat)} (h : ∀ s ∈ G, s.1 ≤ s.2) : NarL G G := ⟨rfl, fun _ hq => ⟨Nat.le_refl _, h _ (getD_mem hq), Nat.le_refl _⟩⟩
theorem NarL.set {G L : List (Nat × Nat)} (h : NarL G L) (k : Nat) (s z : Nat × Nat) (hs : G[k]?.getD (0, 0) = s) (h1 : s.1 ≤ z.1) (h2 : z.1 ≤ z.2) (h3 : z.2 ≤ s.2) : NarL G (L.set k z) := by
  refine ⟨by rw [List.length_set]; exact h.1, fun q hq => ?_⟩
  have hl := h.1
  by_cases e : k = q
  · subst e
    rw [hs, List.getElem?_set_self (by omega)]
    exact ⟨h1, h2, h3⟩
  · rw [List.getElem?_set_ne e]
    exact h.2 q hq
theorem btw_keep (D2 n1 c1 : Nat) (a1 : Option Addr) (wq : World) (u : World) (K x y : Nat) (hd : IsDeck u D2 a1 n1 c1 K) (hk : Keep (fun b => b ≠ D2) wq u) (h1 : K ≤ 1000000) (h2 : x ≤ y) (h3 : y ≤ 1000) :
    Calls Try.prog 25 #[.pointer (some ⟨D2, 0, none⟩), .int .i64 (x : Int), .int .i64 (y : Int)] u fun e w' => ∃ r K' : Nat, e = .returned (.int .i64 (r : Int)) ∧ (x ≤ r ∧ r ≤ y) ∧ K' ≤ K + 1 ∧ IsDeck w' D2 a1 n1 c1 K' ∧ Keep (fun b => b ≠ D2) wq w' := by
  refine (dbetween_any D2 a1 n1 c1 K (x : Int) (y : Int) u hd h1 (by omega) (by omega) (by omega)).mono ?_
  rintro e w' ⟨r, K', q1, q2, q3, rfl, q4, q5⟩
  obtain ⟨r', rfl⟩ : ∃ r' : Nat, r = (r' : Int) := ⟨r.toNat, by omega⟩
  exact ⟨r', K', rfl, ⟨by omega, by omega⟩, q3, q4, hk.grown q5 (fun k e _ => by cases e; exact fun h => h rfl)⟩
theorem span_keep (D2 n1 c1 : Nat) (a1 : Option Addr) (wq : World) (u : World) (K : Nat) (x y : Int) (hd : IsDeck u D2 a1 n1 c1 K) (hk : Keep (fun b => b ≠ D2) wq u) :
    Calls Try.prog 24 #[.int .i64 x, .int .i64 y] u fun e w' => e = .returned (.agg #[.int .i64 x, .int .i64 y]) ∧ IsDeck w' D2 a1 n1 c1 K ∧ Keep (fun b => b ≠ D2) wq w' := by
  refine (span_any x y u).mono ?_
  rintro e w' ⟨rfl, rfl⟩
  exact ⟨rfl, hd.ext ((Ext.refl u).alloc _), hk.alloc _⟩
theorem IsDeck.set {w : World} {D n c K : Nat} {a : Option Addr} (h : IsDeck w D a n c K) (p : Addr) (x : Value) (hp : D ≠ p.block) (hb : ∀ b off, a = some ⟨b, off, none⟩ → 0 < n → b ≠ p.block) : IsDeck (w.setCell p x) D a n c K :=
  h.keepD (E := fun b => b ≠ p.block) ((Keep.refl _ w).setCell p x (fun _ hh => hh rfl)) hp hb
end Go.Proofs.Ytfognlealnhodaa
