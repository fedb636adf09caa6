/-
  The statements' own CloneTreaty returns a treaty of its own that reads the same, and turns nothing that was there. The treaty must lie in memory as told and be valid.
-/
import Derived.Test.YtdejaliegbmgaaaGreatYj
import Derived.Deep.RegionHeld3
import Derived.Deep.AppendLies
import Derived.Deep.CutBlock
import Derived.Deep.RegionLaw
namespace Go.Proofs.YtdejaliegbmgaaaGreat
open Go.RowKit

/-- The kinds and ends of a word's meanings. -/
def listsOf (s : SL MV) : List (List Nat × List Nat) := s.l.map fun m => (m.k.l, m.e.l)
/-- A treaty reads as another one, but for its starts and legs. -/
structure SameW (t t' : TV) : Prop where
  P : t'.P = t.P
  ways : t'.ways.l = t.ways.l
  words : t'.words.l.map listsOf = t.words.l.map listsOf
/-- A treaty reads as another one. -/
structure SameT (t t' : TV) : Prop extends SameW t t' where
  starts : t'.starts.l = t.starts.l
  legs : t'.legs.l = t.legs.l

/-- A treaty lies in memory, in blocks from lo on. -/
def IsTK (lo : Nat) (w : World) (t : TV) : Prop := ∀ w', (∀ b, lo ≤ b → b < w.heap.size → w'.heap[b]? = w.heap[b]?) → IsT w' t
/-- A treaty was copied. -/
def CloneOf (t : TV) (w : World) (e : Ending) (w' : World) : Prop := ∃ t' : TV, e = .returned t'.v ∧ IsTK w.heap.size w' t' ∧ SameT t t' ∧ Ext w w'
theorem own_range {w w' : World} {lo base : Nat} {e : TypeId} {size : Nat} {v : Value} {n : Nat} {xs : List Value} (h : w.ownsRow base e size v n xs) (hlo : lo ≤ base) (k : ∀ b, lo ≤ b → b < w.heap.size → w'.heap[b]? = w.heap[b]?) : w'.ownsRow base e size v n xs := by
  obtain ⟨h1, h2⟩ := h
  refine ⟨h1, ?_⟩
  rcases h2 with h2 | ⟨g, cap, cur, h2, hb, hh, r⟩
  · exact .inl h2
  · exact .inr ⟨g, cap, cur, h2, hb, (k g (Nat.le_trans hlo hb) (Array.getElem?_eq_some_iff.1 hh).1).trans hh, r⟩

/-- A list of one's own. -/
def LO (base : Nat) (w : World) (s : SL Nat) : Prop := w.ownsRow base 3 1 (.slice s.a s.l.length s.c) s.l.length (nums s.l)
theorem LO.ext {base : Nat} {w w' : World} {s : SL Nat} (h : LO base w s) (k : Ext w w') : LO base w' s := own_ext h k
theorem LO.grown {base : Nat} {w w' : World} {s : SL Nat} {base' sz n : Nat} {T : TypeId} {v : Value} {xs : List Value} (h : LO base w s) (g : w.grownBy w' v.ownBlock) (hv : w.ownsRow base' T sz v n xs) (hT : 3 ≠ T) : LO base w' s :=
  own_grown h g (own_apart h hv hT)
/-- A store into a block of another type leaves a row as it is. -/
theorem own_setB {w : World} {base : Nat} {e T : TypeId} {size : Nat} {v : Value} {n : Nat} {xs : List Value} {B i : Nat} {cs : Array Value} {f : Nat × Nat} (h : w.ownsRow base e size v n xs) (hB : w.heap[B]? = some (.cells cs T f)) (hT : e ≠ T) (u : Value) : (w.setCell ⟨B, i, none⟩ u).ownsRow base e size v n xs := by
  obtain ⟨h1, h2⟩ := h
  refine ⟨h1, ?_⟩
  rcases h2 with h2 | ⟨g, cap, cur, h2, hb, hh, r⟩
  · exact .inl h2
  · refine .inr ⟨g, cap, cur, h2, hb, ?_, r⟩
    have hne : g ≠ B := by
      intro e; rw [e, hB] at hh; simp at hh; exact hT hh.2.1.symm
    exact (Below.heap_setCell _ _ _ _ hne).trans hh
/-- A word of one's own. -/
def WordC (base : Nat) (w : World) (s : SL MV) : Prop := w.ownsRow base 84 2 (.slice s.a s.l.length s.c) s.l.length (flat 2 meanC s.l) ∧ ∀ m ∈ s.l, LO base w m.k ∧ LO base w m.e
theorem WordC.ext {base : Nat} {w w' : World} {s : SL MV} (h : WordC base w s) (k : Ext w w') : WordC base w' s :=
  ⟨own_ext h.1 k, fun m hm => ⟨(h.2 m hm).1.ext k, (h.2 m hm).2.ext k⟩⟩
theorem WordC.base {base base' : Nat} {w : World} {s : SL MV} (h : WordC base w s) (hb : base' ≤ base) : WordC base' w s :=
  ⟨own_mono h.1 hb, fun m hm => ⟨own_mono (h.2 m hm).1 hb, own_mono (h.2 m hm).2 hb⟩⟩
theorem WordC.grown {base : Nat} {w w' : World} {s : SL MV} {base' sz n : Nat} {T : TypeId} {v : Value} {xs : List Value} (h : WordC base w s) (g : w.grownBy w' v.ownBlock) (hv : w.ownsRow base' T sz v n xs) (hT : 84 ≠ T) (hT3 : 3 ≠ T) : WordC base w' s :=
  ⟨own_grown h.1 g (own_apart h.1 hv hT), fun m hm => ⟨(h.2 m hm).1.grown g hv hT3, (h.2 m hm).2.grown g hv hT3⟩⟩
theorem WordC.setB {base : Nat} {w : World} {s : SL MV} {B i : Nat} {cs : Array Value} {f : Nat × Nat} (h : WordC base w s) (hB : w.heap[B]? = some (.cells cs 27 f)) (u : Value) : WordC base (w.setCell ⟨B, i, none⟩ u) s :=
  ⟨own_setB h.1 hB (by decide) u, fun m hm => ⟨own_setB (h.2 m hm).1 hB (by decide) u, own_setB (h.2 m hm).2 hB (by decide) u⟩⟩
/-- A meaning was appended. -/
theorem WordC.append {base : Nat} {w w' : World} {s : SL MV} {k e : SL Nat} {g cap : Nat} (h : WordC base w s) (hk : LO base w k) (he : LO base w e)
    (hown : w'.ownsRow base 84 2 (.slice (some ⟨g, 0, none⟩) (s.l.length + 1) cap) (s.l.length + 1) (flat 2 meanC s.l ++ flat 2 meanC [⟨k, e⟩])) (hgrow : w.grownBy w' (Value.slice s.a s.l.length s.c).ownBlock) :
    WordC base w' ⟨some ⟨g, 0, none⟩, cap, s.l ++ [⟨k, e⟩]⟩ := by
  have hlen : (s.l ++ [(⟨k, e⟩ : MV)]).length = s.l.length + 1 := by simp
  refine ⟨?_, fun m hm => ?_⟩
  · show World.ownsRow _ base 84 2 (.slice _ (s.l ++ [(⟨k, e⟩ : MV)]).length cap) (s.l ++ [(⟨k, e⟩ : MV)]).length (flat 2 meanC (s.l ++ [(⟨k, e⟩ : MV)]))
    rw [flat_append, hlen]; exact hown
  · rcases List.mem_append.1 hm with hm | hm
    · exact ⟨(h.2 m hm).1.grown hgrow h.1 (by decide), (h.2 m hm).2.grown hgrow h.1 (by decide)⟩
    · simp only [List.mem_singleton] at hm; subst hm
      exact ⟨hk.grown hgrow h.1 (by decide), he.grown hgrow h.1 (by decide)⟩
/-- Words of one's own. -/
def WordsC (base : Nat) (w : World) (s : SL (SL MV)) : Prop := w.ownsRow base 82 1 (.slice s.a s.l.length s.c) s.l.length (flat 1 slC s.l) ∧ ∀ x ∈ s.l, WordC base w x
theorem WordsC.ext {base : Nat} {w w' : World} {s : SL (SL MV)} (h : WordsC base w s) (k : Ext w w') : WordsC base w' s := ⟨own_ext h.1 k, fun x hx => (h.2 x hx).ext k⟩
/-- The rows of the other fields. -/
def Own3 (base : Nat) (w : World) (t : TV) (a1 : Option Addr) (c1 : Nat) (a3 : Option Addr) (c3 : Nat) (a4 : Option Addr) (c4 : Nat) : Prop :=
  w.ownsRow base 81 3 (.slice a1 t.ways.l.length c1) t.ways.l.length (flat 3 wayC t.ways.l) ∧ w.ownsRow base 3 1 (.slice a3 t.starts.l.length c3) t.starts.l.length (nums t.starts.l) ∧ w.ownsRow base 86 2 (.slice a4 t.legs.l.length c4) t.legs.l.length (flat 2 legC t.legs.l)
theorem Own3.ext {base : Nat} {w w' : World} {t : TV} {a1 a3 a4 : Option Addr} {c1 c3 c4 : Nat} (h : Own3 base w t a1 c1 a3 c3 a4 c4) (k : Ext w w') : Own3 base w' t a1 c1 a3 c3 a4 c4 := ⟨own_ext h.1 k, own_ext h.2.1 k, own_ext h.2.2 k⟩

/-- A word was appended, and is stored. -/
theorem wordsC_leaf {B base P : Nat} {w0 v2 v3 : World} {t : TV} {a1 a3 a4 : Option Addr} {c1 c3 c4 : Nat} {wv sv lv : Value} {q : SL (SL MV)} {m : SL MV} {tmp : Obj} {g cap : Nat} (hbase : w0.heap.size ≤ base) (hB0 : w0.heap.size ≤ B)
    (HQ : WordsC base v2 q) (Hm : WordC base v2 m) (HM : MkT v2 B P wv q.v sv lv) (H3 : Own3 base v2 t a1 c1 a3 c3 a4 c4) (HX : Ext w0 v2)
    (hown : v3.ownsRow base 82 1 (.slice (some ⟨g, 0, none⟩) (q.l.length + 1) cap) (q.l.length + 1) (flat 1 slC q.l ++ flat 1 slC [m])) (hgrow : (v2.alloc tmp).grownBy v3 (Value.slice q.a q.l.length q.c).ownBlock) :
    (v3.cell? ⟨B, 2, none⟩ = some (.slice q.a q.l.length q.c) ∧ v3.frozen? ⟨B, 2, none⟩ = false) ∧
      Hid (WordsC base (v3.setCell ⟨B, 2, none⟩ (.slice (some ⟨g, 0, none⟩) (q.l.length + 1) cap)) ⟨some ⟨g, 0, none⟩, cap, q.l ++ [m]⟩) ∧
        Hid (MkT (v3.setCell ⟨B, 2, none⟩ (.slice (some ⟨g, 0, none⟩) (q.l.length + 1) cap)) B P wv (.slice (some ⟨g, 0, none⟩) (q.l.length + 1) cap) sv lv) ∧ Hid (Own3 base (v3.setCell ⟨B, 2, none⟩ (.slice (some ⟨g, 0, none⟩) (q.l.length + 1) cap)) t a1 c1 a3 c3 a4 c4) ∧ Hid (Ext w0 (v3.setCell ⟨B, 2, none⟩ (.slice (some ⟨g, 0, none⟩) (q.l.length + 1) cap))) := by
  have hx := (Ext.refl v2).alloc tmp
  have HMa : MkT (v2.alloc tmp) B P wv q.v sv lv := hx.block HM
  have HQa := HQ.ext hx
  have H3a := H3.ext hx
  have hne : ∀ i, (Value.slice q.a q.l.length q.c).ownBlock = some i → i ≠ B := fun i hi e => by
    rcases HQa.1.2 with ⟨h, -⟩ | ⟨g', cap', cur, h, hb, hh, r⟩
    · rw [h] at hi; simp [Value.ownBlock] at hi
    · rw [h] at hi
      simp only [Value.ownBlock, Option.some.injEq] at hi
      subst hi; subst e
      unfold MkT at HMa
      rw [HMa] at hh; simp at hh
  have HM3 : MkT v3 B P wv q.v sv lv := HMa.grown hgrow hne
  have hlen : (q.l ++ [m]).length = q.l.length + 1 := by simp
  have HX3 : Ext w0 v3 := ext_grown_of (HX.alloc tmp) hgrow (fun i hi => Nat.le_trans hbase (own_lt HQa.1 i hi))
  refine ⟨⟨HM3.five.2.2.1, HM3.frozen 2⟩, ⟨?_, fun x hx' => ?_⟩, HM3.set2 _, ⟨?_, ?_, ?_⟩, HX3.setCell hB0 _⟩
  · show World.ownsRow _ base 82 1 (.slice _ (q.l ++ [m]).length cap) (q.l ++ [m]).length (flat 1 slC (q.l ++ [m]))
    rw [flat_append, hlen]; exact own_setB hown HM3 (by decide) _
  · rcases List.mem_append.1 hx' with h | h
    · exact ((HQa.2 x h).grown hgrow HQa.1 (by decide) (by decide)).setB HM3 _
    · simp only [List.mem_singleton] at h; subst h
      exact ((Hm.ext hx).grown hgrow HQa.1 (by decide) (by decide)).setB HM3 _
  · exact own_setB (own_grown H3a.1 hgrow (own_apart H3a.1 HQa.1 (by decide))) HM3 (by decide) _
  · exact own_setB (own_grown H3a.2.1 hgrow (own_apart H3a.2.1 HQa.1 (by decide))) HM3 (by decide) _
  · exact own_setB (own_grown H3a.2.2 hgrow (own_apart H3a.2.2 HQa.1 (by decide))) HM3 (by decide) _

/-- The box of a treaty, not yet written. -/
abbrev boxZ : Obj := .cells #[.int .i64 0, .slice none 0 0, .slice none 0 0, .slice none 0 0, .slice none 0 0] 27
def ZB (w : World) (B : Nat) : Prop := w.heap[B]? = some boxZ
theorem ZB.ext {w w' : World} {B : Nat} (h : ZB w B) (k : Ext w w') : ZB w' B := k.block h
theorem ZB.five {w : World} {B : Nat} (h : ZB w B) : w.cell? ⟨B, 0, none⟩ = some (.int .i64 0) ∧ w.cell? ⟨B, 1, none⟩ = some (.slice none 0 0) ∧ w.cell? ⟨B, 2, none⟩ = some (.slice none 0 0) ∧ w.cell? ⟨B, 3, none⟩ = some (.slice none 0 0) ∧ w.cell? ⟨B, 4, none⟩ = some (.slice none 0 0) ∧ ∀ i, w.frozen? ⟨B, i, none⟩ = false :=
  ⟨(cell_at h 0).trans rfl, (cell_at h 1).trans rfl, (cell_at h 2).trans rfl, (cell_at h 3).trans rfl, (cell_at h 4).trans rfl, fun i => by unfold ZB at h; simp [World.frozen?, h]⟩
theorem ZB.lt {w : World} {B : Nat} (h : ZB w B) : B < w.heap.size := (Array.getElem?_eq_some_iff.1 h).1
theorem zb_set {w : World} {B : Nat} {P : Nat} {a b c d : Value} (h : ZB w B) : MkT (((((w.setCell ⟨B, 0, none⟩ (.int .i64 (P : Int))).setCell ⟨B, 1, none⟩ a).setCell ⟨B, 2, none⟩ b).setCell ⟨B, 3, none⟩ c).setCell ⟨B, 4, none⟩ d) B P a b c d :=
  heap_setCell_same (heap_setCell_same (heap_setCell_same (heap_setCell_same (heap_setCell_same h _) _) _) _) _

theorem zb_new {w v : World} (h : Ext (w.alloc boxZ) v) : ZB v w.heap.size := h.block (World.alloc_heap_new w boxZ)
theorem zb_call {w v : World} (h : Ext (w.alloc boxZ).drew v) : ZB v w.heap.size := h.block (World.alloc_heap_new w boxZ)
/-- What lies behind CloneTreaty's first statement. -/
def ClA (t : TV) (V : World) (s3 : Value) (wx : World) : Prop :=
  ∃ (B : Nat) (a1 : Option Addr) (c1 : Nat) (a3 : Option Addr) (c3 : Nat) (a4 : Option Addr) (c4 : Nat), s3 = .pointer (some ⟨B, 0, none⟩) ∧ V.heap.size ≤ B ∧ Hid (MkT wx B t.P (.slice a1 t.ways.l.length c1) (.slice none 0 0) (.slice a3 t.starts.l.length c3) (.slice a4 t.legs.l.length c4)) ∧ Hid (Own3 V.heap.size wx t a1 c1 a3 c3 a4 c4) ∧ Hid (Ext V wx)
theorem cla_set {t : TV} {V w : World} {B : Nat} {a1 a3 a4 : Option Addr} {c1 c3 c4 : Nat} (h : ZB w B) (hB : V.heap.size ≤ B) (H3 : Own3 V.heap.size w t a1 c1 a3 c3 a4 c4) (HX : Ext V w) :
    ClA t V (.pointer (some ⟨B, 0, none⟩)) (((((w.setCell ⟨B, 0, none⟩ (.int .i64 (t.P : Int))).setCell ⟨B, 1, none⟩ (.slice a1 t.ways.l.length c1)).setCell ⟨B, 2, none⟩ (.slice none 0 0)).setCell ⟨B, 3, none⟩ (.slice a3 t.starts.l.length c3)).setCell ⟨B, 4, none⟩ (.slice a4 t.legs.l.length c4)) := by
  have b0 : w.heap[B]? = some (.cells #[.int .i64 0, .slice none 0 0, .slice none 0 0, .slice none 0 0, .slice none 0 0] 27 (0, 0)) := h
  have b1 := heap_setCell_same (i := 0) b0 (.int .i64 (t.P : Int))
  have b2 := heap_setCell_same (i := 1) b1 (.slice a1 t.ways.l.length c1)
  have b3 := heap_setCell_same (i := 2) b2 (.slice none 0 0)
  have b4 := heap_setCell_same (i := 3) b3 (.slice a3 t.starts.l.length c3)
  refine ⟨B, a1, c1, a3, c3, a4, c4, rfl, hB, zb_set h, ⟨?_, ?_, ?_⟩, ((((HX.setCell hB _).setCell hB _).setCell hB _).setCell hB _).setCell hB _⟩
  · exact own_setB (own_setB (own_setB (own_setB (own_setB H3.1 b0 (by decide) _) b1 (by decide) _) b2 (by decide) _) b3 (by decide) _) b4 (by decide) _
  · exact own_setB (own_setB (own_setB (own_setB (own_setB H3.2.1 b0 (by decide) _) b1 (by decide) _) b2 (by decide) _) b3 (by decide) _) b4 (by decide) _
  · exact own_setB (own_setB (own_setB (own_setB (own_setB H3.2.2 b0 (by decide) _) b1 (by decide) _) b2 (by decide) _) b3 (by decide) _) b4 (by decide) _
theorem cla_new {t : TV} {V w : World} {a1 a3 a4 : Option Addr} {c1 c3 c4 : Nat} (H3 : Own3 V.heap.size w t a1 c1 a3 c3 a4 c4) (HX : Ext V w) :
    ClA t V (.pointer (some ⟨w.heap.size, 0, none⟩)) (w.alloc (.cells #[.int .i64 (t.P : Int), .slice a1 t.ways.l.length c1, .slice none 0 0, .slice a3 t.starts.l.length c3, .slice a4 t.legs.l.length c4] 27)) :=
  ⟨w.heap.size, a1, c1, a3, c3, a4, c4, rfl, HX.size, World.alloc_heap_new w _, H3.ext ((Ext.refl w).alloc _), HX.alloc _⟩

theorem WordsC.setB {base : Nat} {w : World} {s : SL (SL MV)} {B i : Nat} {cs : Array Value} {f : Nat × Nat} (h : WordsC base w s) (hB : w.heap[B]? = some (.cells cs 27 f)) (u : Value) : WordsC base (w.setCell ⟨B, i, none⟩ u) s :=
  ⟨own_setB h.1 hB (by decide) u, fun x hx => (h.2 x hx).setB hB u⟩
theorem Own3.setB {base : Nat} {w : World} {t : TV} {a1 a3 a4 : Option Addr} {c1 c3 c4 : Nat} {B i : Nat} {cs : Array Value} {f : Nat × Nat} (h : Own3 base w t a1 c1 a3 c3 a4 c4) (hB : w.heap[B]? = some (.cells cs 27 f)) (u : Value) : Own3 base (w.setCell ⟨B, i, none⟩ u) t a1 c1 a3 c3 a4 c4 :=
  ⟨own_setB h.1 hB (by decide) u, own_setB h.2.1 hB (by decide) u, own_setB h.2.2 hB (by decide) u⟩
theorem isT_own {base : Nat} {w w0 : World} {t : TV} {a1 a3 a4 : Option Addr} {c1 c3 c4 : Nat} {q : SL (SL MV)} (H3 : Own3 base w t a1 c1 a3 c3 a4 c4) (HQ : WordsC base w q) (ht : IsT w0 t) (hq : q.l.map listsOf = t.words.l.map listsOf) : IsT w ⟨t.P, ⟨a1, c1, t.ways.l⟩, q, ⟨a3, c3, t.starts.l⟩, ⟨a4, c4, t.legs.l⟩⟩ := by
  refine ⟨own_slG H3.1 ht.ways.2.1, own_slG HQ.1 ?_, fun s hs => ?_, own_sl H3.2.1 ht.starts.2.1, own_slG H3.2.2 ht.legs.2.1⟩
  · have := congrArg List.length hq
    simp only [List.length_map] at this
    rw [this]; exact ht.words.2.1
  · have : listsOf s ∈ t.words.l.map listsOf := by rw [← hq]; exact List.mem_map.2 ⟨s, hs, rfl⟩
    obtain ⟨p, hp, e⟩ := List.mem_map.1 this
    have hpw := ht.word p hp
    have hl : s.l.length = p.l.length := by have := congrArg List.length e; simp only [listsOf, List.length_map] at this; exact this.symm
    refine ⟨own_slG (HQ.2 s hs).1 (by rw [hl]; exact hpw.1.2.1), fun m hm => ?_⟩
    have hm' : (m.k.l, m.e.l) ∈ listsOf p := by rw [e]; exact List.mem_map.2 ⟨m, hm, rfl⟩
    obtain ⟨z, hz, e2⟩ := List.mem_map.1 hm'
    rw [Prod.mk.injEq] at e2
    have hzm := hpw.2 z hz
    exact ⟨own_sl ((HQ.2 s hs).2 m hm).1 (by rw [← e2.1]; exact hzm.1.2.1), own_sl ((HQ.2 s hs).2 m hm).2 (by rw [← e2.2]; exact hzm.2.2.1)⟩
theorem WordsC.keep {w w' : World} {lo base : Nat} {s : SL (SL MV)} (h : WordsC base w s) (hlo : lo ≤ base) (k : ∀ b, lo ≤ b → b < w.heap.size → w'.heap[b]? = w.heap[b]?) : WordsC base w' s :=
  ⟨own_range h.1 hlo k, fun x hx => ⟨own_range (h.2 x hx).1 hlo k, fun m hm => ⟨own_range ((h.2 x hx).2 m hm).1 hlo k, own_range ((h.2 x hx).2 m hm).2 hlo k⟩⟩⟩
theorem Own3.keep {w w' : World} {lo base : Nat} {t : TV} {a1 a3 a4 : Option Addr} {c1 c3 c4 : Nat} (h : Own3 base w t a1 c1 a3 c3 a4 c4) (hlo : lo ≤ base) (k : ∀ b, lo ≤ b → b < w.heap.size → w'.heap[b]? = w.heap[b]?) : Own3 base w' t a1 c1 a3 c3 a4 c4 :=
  ⟨own_range h.1 hlo k, own_range h.2.1 hlo k, own_range h.2.2 hlo k⟩
theorem clone_fin {base R : Nat} {w V wo : World} {t : TV} {a1 a3 a4 : Option Addr} {c1 c3 c4 : Nat} {q : SL (SL MV)} {u0 u1 u2 u3 u4 : Value} (h : ZB wo R) (hR : w.heap.size ≤ R) (hV : w.heap.size ≤ base) (H3 : Own3 base wo t a1 c1 a3 c3 a4 c4) (HQ : WordsC base wo q) (ht : IsT w t) (hq : q.l.map listsOf = t.words.l.map listsOf) (HX : Ext w V) (HXo : Ext V wo) :
    IsTK w.heap.size (((((wo.setCell ⟨R, 0, none⟩ u0).setCell ⟨R, 1, none⟩ u1).setCell ⟨R, 2, none⟩ u2).setCell ⟨R, 3, none⟩ u3).setCell ⟨R, 4, none⟩ u4) ⟨t.P, ⟨a1, c1, t.ways.l⟩, q, ⟨a3, c3, t.starts.l⟩, ⟨a4, c4, t.legs.l⟩⟩ ∧ Ext w (((((wo.setCell ⟨R, 0, none⟩ u0).setCell ⟨R, 1, none⟩ u1).setCell ⟨R, 2, none⟩ u2).setCell ⟨R, 3, none⟩ u3).setCell ⟨R, 4, none⟩ u4) := by
  have b0 : wo.heap[R]? = some (.cells #[.int .i64 0, .slice none 0 0, .slice none 0 0, .slice none 0 0, .slice none 0 0] 27 (0, 0)) := h
  have b1 := heap_setCell_same (i := 0) b0 u0
  have b2 := heap_setCell_same (i := 1) b1 u1
  have b3 := heap_setCell_same (i := 2) b2 u2
  have b4 := heap_setCell_same (i := 3) b3 u3
  have hx := HX.trans HXo
  exact ⟨fun w' k => isT_own (((((((H3.setB b0 _).setB b1 _).setB b2 _).setB b3 _).setB b4 _)).keep hV k) (((((((HQ.setB b0 _).setB b1 _).setB b2 _).setB b3 _).setB b4 _)).keep hV k) ht hq, ((((hx.setCell hR _).setCell hR _).setCell hR _).setCell hR _).setCell hR _⟩

set_option maxRecDepth 100000 in
set_option maxHeartbeats 4000000 in
theorem cloneT_any (t : TV) (w : World) (ht : IsT w t) (hk : OkT t) : Calls Tryz.prog 11 #[t.v] w (CloneOf t w) := by
  have HT := Lib.hid ht; clear ht
  have HK := Lib.hid hk; clear hk
  obtain ⟨i84, hi84, hz84, hs84, hb84⟩ := info_parts info84
  obtain ⟨i82, hi82, hz82, hs82, hb82⟩ := info_parts info82
  go_enter Tryz.func11, Tryz.ntmps11
  go_upto_region 1 with (fail)
  obtain ⟨V, hV⟩ : ∃ V, (w.alloc (.cells #[.int .i64 (t.P : Int), .slice t.ways.a t.ways.l.length t.ways.c, .slice t.words.a t.words.l.length t.words.c, .slice t.starts.a t.starts.l.length t.starts.c, .slice t.legs.a t.legs.l.length t.legs.c] 27)).alloc boxZ = V := ⟨_, rfl⟩
  have HX0 : Hid (Ext w V) := by rw [← hV]; exact ((Ext.refl w).alloc _).alloc _
  have HTB : Hid (TBox V w.heap.size t) := by rw [← hV]; exact ((Ext.refl _).alloc _).block (World.alloc_heap_new w _)
  have HR0 : Hid (ZB V (w.heap.size + 1)) := by rw [← hV]; have := World.alloc_heap_new (w.alloc (.cells #[.int .i64 (t.P : Int), .slice t.ways.a t.ways.l.length t.ways.c, .slice t.words.a t.words.l.length t.words.c, .slice t.starts.a t.starts.l.length t.starts.c, .slice t.legs.a t.legs.l.length t.legs.c] 27)) boxZ; rwa [World.size_alloc] at this
  rw [hV]
  clear hV
  have hwV : w.heap.size + 1 < V.heap.size := HR0.out.lt
  have KB : Hid (∀ V', Ext V V' → TBox V' w.heap.size t) := fun V' h => h.block HTB.out
  have KT : Hid (∀ V', Ext V V' → IsT V' t) := fun V' h => HT.out.ext (HX0.out.trans h)
  have KF : Hid (∀ V', Ext V V' → V'.cell? ⟨w.heap.size, 0, none⟩ = some (.int .i64 (t.P : Int)) ∧ V'.cell? ⟨w.heap.size, 1, none⟩ = some (.slice t.ways.a t.ways.l.length t.ways.c) ∧ V'.cell? ⟨w.heap.size, 3, none⟩ = some (.slice t.starts.a t.starts.l.length t.starts.c) ∧ V'.cell? ⟨w.heap.size, 4, none⟩ = some (.slice t.legs.a t.legs.l.length t.legs.c)) := fun V' h => by
    obtain ⟨f0, f1, f2, f3, f4⟩ := (show MkT V' w.heap.size t.P t.ways.v t.words.v t.starts.v t.legs.v from KB.out V' h).five; exact ⟨f0, f1, f3, f4⟩
  go_cut [3] (fun s3 wx => ClA t V s3 wx)
  case first =>
    go_region_held3 (fun V' => V'.cell? ⟨w.heap.size, 0, none⟩ = some (.int .i64 (t.P : Int)) ∧ V'.cell? ⟨w.heap.size, 1, none⟩ = some (.slice t.ways.a t.ways.l.length t.ways.c) ∧ V'.cell? ⟨w.heap.size, 3, none⟩ = some (.slice t.starts.a t.starts.l.length t.starts.c) ∧ V'.cell? ⟨w.heap.size, 4, none⟩ = some (.slice t.legs.a t.legs.l.length t.legs.c))
      ((refine KF.out _ ?_; (with_reducible repeat (first | exact Ext.refl _ | exact X3.out | exact X2.out | exact X1.out | refine Ext.drew ?_ | refine Ext.alloc ?_ _ | refine Ext.setCell ?_ (by first | exact Nat.le_refl _ | exact X1.out.size | exact X2.out.size | exact X3.out.size) _))))
      (first
        | (go_at_call 51; refine (waysClone_any _ _ _ t.ways.l _ rfl (KT.out _ (by (with_reducible repeat (first | exact Ext.refl _ | exact X3.out | exact X2.out | exact X1.out | refine Ext.drew ?_ | refine Ext.alloc ?_ _)))).ways).mono ?_; rintro e v1 ⟨a1, c1, rfl, ho1, hx1⟩; have X1 : Hid (Ext V v1) := (Ext.trans (by (with_reducible repeat (first | exact Ext.refl _ | exact X3.out | exact X2.out | exact X1.out | refine Ext.drew ?_ | refine Ext.alloc ?_ _))) hx1); have O1 : Hid (v1.ownsRow V.heap.size 81 3 (.slice a1 t.ways.l.length c1) t.ways.l.length (flat 3 wayC t.ways.l)) := (own_mono ho1 (Ext.size (by (with_reducible repeat (first | exact Ext.refl _ | exact X3.out | exact X2.out | exact X1.out | refine Ext.drew ?_ | refine Ext.alloc ?_ _))))); (try (have Z1 : Hid (ZB v1 V.heap.size) := (zb_call (by with_reducible exact hx1)))); clear hx1 ho1)
        | (go_at_call 12; refine (kitClone_any _ _ _ t.starts.l _ rfl (KT.out _ (by (with_reducible repeat (first | exact Ext.refl _ | exact X3.out | exact X2.out | exact X1.out | refine Ext.drew ?_ | refine Ext.alloc ?_ _)))).starts).mono ?_; rintro e v2 ⟨a3, c3, rfl, ho2, hx2⟩; have X2 : Hid (Ext V v2) := (Ext.trans (by (with_reducible repeat (first | exact Ext.refl _ | exact X3.out | exact X2.out | exact X1.out | refine Ext.drew ?_ | refine Ext.alloc ?_ _))) hx2); have hy2 : Ext v1 v2 := (Ext.trans (by (with_reducible repeat (first | exact Ext.refl _ | refine Ext.drew ?_ | refine Ext.alloc ?_ _))) hx2); have O2 : Hid (v2.ownsRow V.heap.size 81 3 (.slice a1 t.ways.l.length c1) t.ways.l.length (flat 3 wayC t.ways.l) ∧ v2.ownsRow V.heap.size 3 1 (.slice a3 t.starts.l.length c3) t.starts.l.length (nums t.starts.l)) := ⟨own_ext O1.out hy2, own_mono ho2 (Ext.size (by (with_reducible repeat (first | exact Ext.refl _ | exact X3.out | exact X2.out | exact X1.out | refine Ext.drew ?_ | refine Ext.alloc ?_ _))))⟩; (try (have Z2 : Hid (ZB v2 V.heap.size) := (Z1.out.ext hy2))); (try (have Z2 : Hid (ZB v2 v1.heap.size) := (zb_new (by with_reducible exact hx2)))); clear hx2 ho2 hy2)
        | (go_at_call 52; refine (legsClone_any _ _ _ t.legs.l _ rfl (KT.out _ (by (with_reducible repeat (first | exact Ext.refl _ | exact X3.out | exact X2.out | exact X1.out | refine Ext.drew ?_ | refine Ext.alloc ?_ _)))).legs).mono ?_; rintro e v3 ⟨a4, c4, rfl, ho3, hx3⟩; have X3 : Hid (Ext V v3) := (Ext.trans (by (with_reducible repeat (first | exact Ext.refl _ | exact X3.out | exact X2.out | exact X1.out | refine Ext.drew ?_ | refine Ext.alloc ?_ _))) hx3); have hy3 : Ext v2 v3 := (Ext.trans (by (with_reducible repeat (first | exact Ext.refl _ | refine Ext.drew ?_ | refine Ext.alloc ?_ _))) hx3); have O3 : Hid (Own3 V.heap.size v3 t a1 c1 a3 c3 a4 c4) := ⟨own_ext O2.out.1 hy3, own_ext O2.out.2 hy3, own_mono ho3 (Ext.size (by (with_reducible repeat (first | exact Ext.refl _ | exact X3.out | exact X2.out | exact X1.out | refine Ext.drew ?_ | refine Ext.alloc ?_ _))))⟩; (try (have Z3 := (Z2.out.ext hy3); obtain ⟨z0, z1, z2, z3, z4, zf⟩ := Z3.five; have HZ3 := Lib.hid Z3; clear Z3)); (try (have Z3 : ZB v3 v2.heap.size := (zb_new (by with_reducible exact hx3)); obtain ⟨z0, z1, z2, z3, z4, zf⟩ := Z3.five; have HZ3 := Lib.hid Z3; clear Z3)); clear hx3 ho3 hy3))
    all_goals go_wp2_with fail
    all_goals go_meet
    all_goals first
      | with_reducible exact cla_new O3.out X3.out
      | (have hB3 : V.heap.size ≤ V.heap.size := Nat.le_refl _; with_reducible exact cla_set HZ3.out hB3 O3.out X3.out)
      | (have hB3 := X1.out.size; with_reducible exact cla_set HZ3.out hB3 O3.out X3.out)
      | (have hB3 := X2.out.size; with_reducible exact cla_set HZ3.out hB3 O3.out X3.out)
  case rest =>
    obtain ⟨B, a1, c1, a3, c3, a4, c4, rfl, hB0, HM, H3, HX⟩ := hcut
    clear KF HTB
    have hw6 : t.words.l.length ≤ 6 := HK.out.words
    have f2 : wc.cell? ⟨w.heap.size, 2, none⟩ = some (.slice t.words.a t.words.l.length t.words.c) := (cell_at (KB.out _ HX.out) 2).trans rfl
    have m0 : (0 : Int) ≤ (t.words.l.length : Int) := by omega
    go_wp2
    clear f2
    go_loopw [24] (fun i wr => ∃ (j : Nat) (q : SL (SL MV)), j ≤ t.words.l.length ∧ i = .int .i64 j ∧ Hid (q.l.map listsOf = (t.words.l.take j).map listsOf) ∧ Hid (WordsC V.heap.size wr q) ∧ Hid (MkT wr B t.P (.slice a1 t.ways.l.length c1) q.v (.slice a3 t.starts.l.length c3) (.slice a4 t.legs.l.length c4)) ∧ Hid (Own3 V.heap.size wr t a1 c1 a3 c3 a4 c4) ∧ Hid (Ext V wr)) (fun i _ => t.words.l.length - (intOf i).toNat)
    case atStart => exact ⟨0, ⟨none, 0, []⟩, Nat.zero_le _, rfl, rfl, ⟨World.ownsRow_nil _ _ _ _, fun x hx => by simp at hx⟩, HM.out, H3.out, HX.out⟩
    case round =>
      obtain ⟨wo, rfl⟩ : ∃ wo : World, wo = wr := ⟨_, rfl⟩
      obtain ⟨j, q, hj, rfl, HQm, HQ, HMo, H3o, HXo⟩ := hrel
      have hql : q.l.length = j := by have := congrArg List.length HQm.out; simp at this; omega
      by_cases hlt : j < t.words.l.length
      · have dj : decide ((j : Int) < (t.words.l.length : Int)) = true := by simpa using hlt
        have hTo := KT.out wo HXo.out
        obtain ⟨bw, ow, hwa, hwc⟩ := hTo.words.2.2.resolve_left (by omega)
        have cw : wo.cell? ⟨bw, ow + j, none⟩ = some (.slice t.words.l[j].a t.words.l[j].l.length t.words.l[j].c) := by have := hwc j hlt 0 (by omega); simpa [slC] using this
        have hsW := hTo.word _ (List.getElem_mem hlt)
        have hs4 := HK.out.word _ (List.getElem_mem hlt)
        have HQn : Hid (t.words.l.take (j + 1) = t.words.l.take j ++ [t.words.l[j]]) := List.take_succ_eq_append_getElem hlt
        clear hTo hwc
        generalize t.words.l[j] = s at *
        have k0 : (0 : Int) ≤ j := by omega
        rw [hwa]
        have HWa := Lib.hid hwa; clear hwa
        have HsW := Lib.hid hsW; clear hsW
        have s0 : (0 : Int) ≤ (s.l.length : Int) := by omega
        have HQl := Lib.hid hql; clear hql
        go_wp2
        clear cw
        go_loopw [6, 30] (fun v i wr => ∃ (y : Nat) (m : SL MV), y ≤ s.l.length ∧ i = .int .i64 y ∧ v = .slice m.a m.l.length m.c ∧ Hid (m.l.map (fun m => (m.k.l, m.e.l)) = (s.l.take y).map (fun m => (m.k.l, m.e.l))) ∧ Hid (WordC wo.heap.size wr m) ∧ Hid (Ext wo wr)) (fun _ i _ => s.l.length - (intOf i).toNat)
        case atStart => exact ⟨0, ⟨none, 0, []⟩, Nat.zero_le _, rfl, rfl, rfl, ⟨World.ownsRow_nil _ _ _ _, fun x hx => by simp at hx⟩, Ext.refl _⟩
        case round =>
          obtain ⟨wi, rfl⟩ : ∃ wi : World, wi = wr := ⟨_, rfl⟩
          obtain ⟨y, m, hy, rfl, rfl, HMm, HMC, HXi⟩ := hrel
          by_cases hly : y < s.l.length
          · have dy : decide ((y : Int) < (s.l.length : Int)) = true := by simpa using hly
            have hsi := HsW.out.ext HXi.out
            obtain ⟨bs, os, hsa, hsc⟩ := hsi.1.2.2.resolve_left (by omega)
            have d0 : wi.cell? ⟨bs, os + y * 2, none⟩ = some (.slice s.l[y].k.a s.l[y].k.l.length s.l[y].k.c) := by have := hsc y hly 0 (by omega); simpa [meanC] using this
            have d1 : wi.cell? ⟨bs, os + y * 2 + 1, none⟩ = some (.slice s.l[y].e.a s.l[y].e.l.length s.l[y].e.c) := by have := hsc y hly 1 (by omega); simpa [meanC] using this
            have hmn := hsi.2 _ (List.getElem_mem hly)
            have HTn : Hid (s.l.take (y + 1) = s.l.take y ++ [s.l[y]]) := List.take_succ_eq_append_getElem hly
            clear hsi hsc
            generalize s.l[y] = z at *
            have HMn := Lib.hid hmn; clear hmn
            have k1 : (0 : Int) ≤ y := by omega
            rw [hsa]
            have HSa := Lib.hid hsa; clear hsa
            have H63 : Hid (m.l.length + 1 ≤ maxLen) := by show _ ≤ _; have := congrArg List.length HMm.out; simp at this; unfold maxLen; omega
            have HBY : Hid ((m.l.length + 1) * 48 ≤ 140737488355328) := by show _ ≤ _; have := congrArg List.length HMm.out; simp at this; omega
            go_upto_region 9 with (fail)
            clear d0 d1
            obtain ⟨X, hX⟩ : ∃ X, wi.alloc (.cells #[.slice z.k.a z.k.l.length z.k.c, .slice z.e.a z.e.l.length z.e.c] 84) = X := ⟨_, rfl⟩
            have HXX : Hid (Ext wi X) := by rw [← hX]; exact (Ext.refl wi).alloc _
            have HbX : Hid (X.heap[wi.heap.size]? = some (.cells #[.slice z.k.a z.k.l.length z.k.c, .slice z.e.a z.e.l.length z.e.c] 84 (0, 0))) := by rw [← hX]; exact World.alloc_heap_new wi _
            rw [hX]
            clear hX
            have KX : Hid (∀ V', Ext X V' → V'.cell? ⟨wi.heap.size, 0, none⟩ = some (.slice z.k.a z.k.l.length z.k.c) ∧ V'.cell? ⟨wi.heap.size, 1, none⟩ = some (.slice z.e.a z.e.l.length z.e.c)) := fun V' h => ⟨(cell_at (h.block HbX.out) 0).trans rfl, (cell_at (h.block HbX.out) 1).trans rfl⟩
            obtain ⟨e0, e1⟩ := KX.out X (Ext.refl X)
            have HXo9 : Hid (Ext wo X) := HXi.out.trans HXX.out
            go_region_law (first
              | (go_simp; go_at_call_of 12 (Value.slice z.k.a z.k.l.length z.k.c); refine (kitClone_any z.k.a z.k.l.length z.k.c z.k.l X.drew rfl ((HMn.out.1.ext HXX.out).ext (Ext.refl X).drew)).mono ?_; rintro e x1 ⟨ak, ck, rfl, ho, hx⟩; have E1 : Hid (Ext X x1) := ((Ext.refl X).drew).trans hx; have HLk : Hid (LO wo.heap.size x1 ⟨ak, ck, z.k.l⟩) := own_mono ho HXo9.out.size; obtain ⟨e0', e1'⟩ := KX.out x1 E1.out; clear ho hx)
              | (go_simp; go_at_call_of 12 (Value.slice z.e.a z.e.l.length z.e.c); refine (kitClone_any z.e.a z.e.l.length z.e.c z.e.l x1 rfl ((HMn.out.2.ext HXX.out).ext E1.out)).mono ?_; rintro e x2 ⟨ae, ce, rfl, ho, hx⟩; have E2 : Hid (Ext X x2) := E1.out.trans hx; have HLe : Hid (LO wo.heap.size x2 ⟨ae, ce, z.e.l⟩) := own_mono ho (HXo9.out.trans E1.out).size; have HLk2 : Hid (LO wo.heap.size x2 ⟨ak, ck, z.k.l⟩) := own_ext HLk.out hx; have HW2 : Hid (WordC wo.heap.size x2 m) := HMC.out.ext (HXX.out.trans E2.out); have HS2 : Hid (wo.heap.size ≤ x2.heap.size) := (HXo9.out.trans E2.out).size; clear ho hx)
              | (refine step_append_lies _ rfl (.tmp 34) (.tmp 42) 82 rfl wo.heap.size 84 i84 (.agg #[.slice none 0 0, .slice none 0 0]) 2 48 Tryz.underlying82 hi84 hz84 hs84 hb84 rfl (by decide) (.slice m.a m.l.length m.c) m.l.length (flat 2 meanC m.l) ?_ (HW2.out.1.alloc _) ⟨x2.heap.size, 0, none⟩ 1 1 (flat 2 meanC [⟨⟨ak, ck, z.k.l⟩, ⟨ae, ce, z.e.l⟩⟩]) ?_ rfl (new_cells x2 (flat 2 meanC [⟨⟨ak, ck, z.k.l⟩, ⟨ae, ce, z.e.l⟩⟩]) 84) (mean_one _) (by decide) H63.out HBY.out ?_ _ rfl ?_; (simp [Act.eval]); (simp [Act.eval]); (rw [World.size_alloc]; exact Nat.le_succ_of_le HS2.out); intro g cap x3 hown hgrow hwh hgl; have hx := (Ext.refl x2).alloc (.cells (flat 2 meanC [⟨⟨ak, ck, z.k.l⟩, ⟨ae, ce, z.e.l⟩⟩]).toArray 84); have HW3 : Hid (WordC wo.heap.size x3 ⟨some ⟨g, 0, none⟩, cap, m.l ++ [⟨⟨ak, ck, z.k.l⟩, ⟨ae, ce, z.e.l⟩⟩]⟩) := (HW2.out.ext hx).append (HLk2.out.ext hx) (HLe.out.ext hx) hown hgrow; have HX3 : Hid (Ext wo x3) := ext_grown_of ((HXo9.out.trans E2.out).alloc _) hgrow (fun i hi => own_lt HW2.out.1 i hi); clear hx hown hgrow hwh hgl))
            all_goals
              go_wp2
              refine ⟨⟨y + 1, ⟨some ⟨g, 0, none⟩, cap, m.l ++ [⟨⟨ak, ck, z.k.l⟩, ⟨ae, ce, z.e.l⟩⟩]⟩, by omega, by go_num, by simp, ?_, HW3, HX3⟩, ?_⟩
              · show List.map _ _ = List.map _ _
                rw [HTn.out, List.map_append, List.map_append, HMm.out]; rfl
              · simp [intOf]; omega
          · have hye : y = s.l.length := by omega
            have dy : decide ((y : Int) < (s.l.length : Int)) = false := decide_eq_false (by omega)
            have HMe : Hid (listsOf m = listsOf s) := by
              have := HMm.out
              rw [List.take_of_length_le (by omega)] at this
              exact this
            clear HMm hye
            have HMi : Hid (MkT wi B t.P (.slice a1 t.ways.l.length c1) q.v (.slice a3 t.starts.l.length c3) (.slice a4 t.legs.l.length c4)) := HXi.out.block HMo.out
            have HQi : Hid (WordsC V.heap.size wi q) := HQ.out.ext HXi.out
            have H3i : Hid (Own3 V.heap.size wi t a1 c1 a3 c3 a4 c4) := H3o.out.ext HXi.out
            have HWm : Hid (WordC V.heap.size wi m) := HMC.out.base HXo.out.size
            have HXv : Hid (Ext V wi) := HXo.out.trans HXi.out
            have hm6 : q.l.length + 1 ≤ maxLen := by have := HQl.out; unfold maxLen; omega
            have hq6 : q.l.length ≤ 6 := by have := HQl.out; omega
            have hb4 : V.heap.size ≤ wi.heap.size + 1 := by have := HXv.out.size; omega
            have HB0 : Hid (V.heap.size ≤ B) := hB0
            have c2 := HMi.out.five.2.2.1
            go_wp2_with (at_builtin; go_must (refine wpList_append_own _ rfl _ _ 23 rfl V.heap.size 82 i82 (.slice none 0 0) 1 24 Tryz.underlying23 hi82 hz82 hs82 hb82 rfl (by decide) _ q.l.length (flat 1 slC q.l) rfl (HQi.out.1.alloc _) ⟨wi.heap.size, 0, none⟩ 1 1 (flat 1 slC [m]) rfl rfl (new_cells wi (flat 1 slC [m]) 82) (word_one m) hm6 (by omega) (by simp; omega) ?_); intro v' w9 hown hgrow _; obtain ⟨g, cap, rfl⟩ := ownsRow_succ hown; obtain ⟨⟨cv, fv⟩, hA, hC, hD3, hE⟩ := wordsC_leaf (Nat.le_refl _) HB0.out HQi.out HWm.out HMi.out H3i.out HXv.out hown hgrow; clear hown hgrow)
            refine ⟨⟨j + 1, ⟨some ⟨g, 0, none⟩, cap, q.l ++ [m]⟩, by omega, by go_num, ?_, hA, ?_, hD3, hE⟩, ?_⟩
            · show List.map _ _ = List.map _ _
              rw [HQn.out, List.map_append, List.map_append, HQm.out]
              simp only [List.map_cons, List.map_nil, HMe.out]
            · show MkT _ B _ _ (.slice _ (q.l ++ [m]).length cap) _ _
              rw [List.length_append]; exact hC.out
            · simp [intOf]; omega
      · have hje : j = t.words.l.length := by omega
        have dj : decide ((j : Int) < (t.words.l.length : Int)) = false := decide_eq_false (by omega)
        have HQe : Hid (q.l.map listsOf = t.words.l.map listsOf) := by
          have := HQm.out
          rwa [List.take_of_length_le (by omega)] at this
        clear hje HQm hql
        have HR := Lib.hid (HR0.out.ext HXo.out)
        obtain ⟨c0, c1', c2, c3', c4'⟩ := HMo.out.five
        obtain ⟨e0, e1, e2, e3, e4, g0⟩ := HR.out.five
        go_wp2
        have hRl : wo.heap[w.heap.size + 1]? = some (.cells #[.int .i64 0, .slice none 0 0, .slice none 0 0, .slice none 0 0, .slice none 0 0] 27 (0, 0)) := HR.out
        refine bodyPost_ret (v := (TV.v ⟨t.P, ⟨a1, c1, t.ways.l⟩, q, ⟨a3, c3, t.starts.l⟩, ⟨a4, c4, t.legs.l⟩⟩)) (results_cell_row rfl _ _ (w.heap.size + 1) 27 #[.int .i64 (t.P : Int), .slice a1 t.ways.l.length c1, .slice q.a q.l.length q.c, .slice a3 t.starts.l.length c3, .slice a4 t.legs.l.length c4] (0, 0) _ rfl ?_ Tryz.underlying27 rfl (by kernel_rfl)) rfl ?_
        · exact heap_setCell_same (heap_setCell_same (heap_setCell_same (heap_setCell_same (heap_setCell_same hRl _) _) _) _) _
        · obtain ⟨q1, q2⟩ := clone_fin (u0 := .int .i64 (t.P : Int)) (u1 := .slice a1 t.ways.l.length c1) (u2 := .slice q.a q.l.length q.c) (u3 := .slice a3 t.starts.l.length c3) (u4 := .slice a4 t.legs.l.length c4) HR.out (Nat.le_succ _) HX0.out.size H3o.out HQ.out HT.out HQe.out HX0.out HXo.out
          exact ⟨⟨t.P, ⟨a1, c1, t.ways.l⟩, q, ⟨a3, c3, t.starts.l⟩, ⟨a4, c4, t.legs.l⟩⟩, rfl, q1, ⟨⟨rfl, rfl, HQe.out⟩, rfl, rfl⟩, q2⟩
end Go.Proofs.YtdejaliegbmgaaaGreat
