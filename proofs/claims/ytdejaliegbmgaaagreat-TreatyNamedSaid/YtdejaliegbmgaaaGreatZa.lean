/-
  The statements' own Clone at ways and at legs returns a list of its own that reads the same, and turns nothing that was there.
  The statements' own CloneTreaty returns a treaty of its own that reads the same, and turns nothing that was there. The treaty must lie in memory as told and be valid.
  Lines of package treaty returns all lines that keep all legs in a reading, or the error where there are more than may be listed, and turns nothing that was there. The treaty and the reading must lie in memory as told and be valid.
  The lines of a treaty as lists that keep all legs, each once; a treaty that is parted at a leg: its lines are pairs of lines of both parts, and no fewer legs yield in it than in both. Mathematics alone: nothing is claimed of the program here.
  Words for TreatyParted's walk: treaties that read alike and their parts; among; a treaty's two parts in boxes, the starts of the second one in the making; lines with their error as a number; how many lines of both parts meet. Of the program only among and Lines are spoken of, the latter in the form that the walk asks.
-/
import Derived.Test.YtdejaliegbmgaaaGreatJl
import Derived.Deep.RegionHeld3
import Derived.Deep.AppendLies
import Derived.Deep.CutBlock
import Derived.Deep.RegionLaw
import Derived.Test.YtdejaliegbmgaaaGreatIh
import Derived.Test.YtdejaliegbmgaaaGreatIe
import Derived.Test.YtdejaliegbmgaaaGreatYb
import Derived.Test.YtdejaliegbmgaaaGreatIn
import Derived.Test.YtdejaliegbmgaaaGreatS
namespace Go.Proofs.YtdejaliegbmgaaaGreat
open Go.RowKit

theorem cells_of_slG {α : Type} {sz : Nat} {cs : α → Nat → Value} {w : World} {a : Option Addr} {c : Nat} {l : List α} (h : IsSl sz cs w ⟨a, c, l⟩) (hs : 0 < sz) (ha : a ≠ none) : ∃ ad, a = some ad ∧ ∀ j u, (flat sz cs l)[j]? = some u → w.cell? (ad.add j) = some u := by
  obtain ⟨h1, h2, h3⟩ := h
  cases a with
  | none => exact absurd rfl ha
  | some ad =>
    refine ⟨ad, rfl, fun j u hu => ?_⟩
    have hj : j < l.length * sz := by have := (List.getElem?_eq_some_iff.1 hu).1; rwa [flat_length] at this
    have hq : j / sz < l.length := Nat.div_lt_of_lt_mul (by rw [Nat.mul_comm]; exact hj)
    have hr : j % sz < sz := Nat.mod_lt _ hs
    have he : j / sz * sz + j % sz = j := by rw [Nat.mul_comm]; exact Nat.div_add_mod j sz
    rcases h3 with h3 | ⟨b, off, h3, hc⟩
    · dsimp only at h3; rw [h3] at hq; exact absurd hq (Nat.not_lt_zero _)
    · cases h3
      have h4 := hc (j / sz) hq (j % sz) hr
      have h5 := flat_get sz cs l (j / sz) (j % sz) hq hr
      rw [he] at h5
      rw [h5] at hu
      cases hu
      rw [Addr.add_lit]
      rw [show off + j / sz * sz + j % sz = off + j by omega] at h4
      exact h4

theorem ways_one (l : List (Nat × Nat × Nat)) : ∀ u ∈ flat 3 wayC l, u.oneCell' = true := by
  intro u hu
  simp only [flat, List.mem_flatMap, List.mem_map, List.mem_range] at hu
  obtain ⟨x, _, j, _, rfl⟩ := hu
  unfold wayC; split
  · rfl
  · split <;> rfl
theorem legs_one (l : List (Nat × Int)) : ∀ u ∈ flat 2 legC l, u.oneCell' = true := by
  intro u hu
  simp only [flat, List.mem_flatMap, List.mem_map, List.mem_range] at hu
  obtain ⟨x, _, j, _, rfl⟩ := hu
  unfold legC; split <;> rfl

set_option maxHeartbeats 400000 in
theorem waysClone_any (a : Option Addr) (n c : Nat) (l : List (Nat × Nat × Nat)) (w : World) (hn : l.length = n) (hv : IsSl 3 wayC w ⟨a, c, l⟩) :
    Calls Tryz.prog 51 #[.slice a n c] w fun e w' => ∃ a' c', e = .returned (.slice a' n c') ∧ w'.ownsRow w.heap.size 81 3 (.slice a' n c') n (flat 3 wayC l) ∧ Ext w w' := by
  subst hn
  have hl : l.length ≤ 1000000 := hv.2.1
  obtain ⟨i0, hi, hz0, hz1, hz2⟩ := info_parts info81
  by_cases ha : a = none
  · subst ha
    have h0 : l = [] := by
      rcases hv.2.2 with h | ⟨b, off, h, _⟩
      · exact List.eq_nil_of_length_eq_zero h
      · cases h
    subst h0
    clear hv
    go_enter Tryz.func51, Tryz.ntmps51
    go_wp2
    go_ret
    exact ⟨none, 0, rfl, World.ownsRow_nil _ _ _ _, Ext.refl _⟩
  · obtain ⟨ad, rfl, hc⟩ := cells_of_slG hv (by decide) ha
    have HC := Lib.hid hc; clear hc hv ha
    go_enter Tryz.func51, Tryz.ntmps51
    go_wp2_with (at_builtin; go_must (refine wpList_append_own _ rfl _ _ 22 rfl w.heap.size 81 i0 (.agg #[.int .i64 0, .int .i64 0, .int .i64 0]) 3 24 Tryz.underlying22 hi hz0 hz1 hz2 rfl (by decide) _ 0 [] rfl (World.ownsRow_nil _ _ _ _) ad l.length c (flat 3 wayC l) rfl (flat_length _ _ _) HC.out (ways_one l) (by unfold maxLen; omega) (by omega) (Nat.le_refl _) ?_); intro v' w1 hown hgrow _)
    rw [Nat.zero_add, List.nil_append] at hown
    obtain ⟨a', c', rfl⟩ := own_form hown
    have HO := Lib.hid hown
    have HG := Lib.hid (ext_grown hgrow); clear hown hgrow
    go_wp2
    go_ret
    exact ⟨a', c', rfl, HO.out, HG.out⟩

set_option maxHeartbeats 400000 in
theorem legsClone_any (a : Option Addr) (n c : Nat) (l : List (Nat × Int)) (w : World) (hn : l.length = n) (hv : IsSl 2 legC w ⟨a, c, l⟩) :
    Calls Tryz.prog 52 #[.slice a n c] w fun e w' => ∃ a' c', e = .returned (.slice a' n c') ∧ w'.ownsRow w.heap.size 86 2 (.slice a' n c') n (flat 2 legC l) ∧ Ext w w' := by
  subst hn
  have hl : l.length ≤ 1000000 := hv.2.1
  obtain ⟨i0, hi, hz0, hz1, hz2⟩ := info_parts info86
  by_cases ha : a = none
  · subst ha
    have h0 : l = [] := by
      rcases hv.2.2 with h | ⟨b, off, h, _⟩
      · exact List.eq_nil_of_length_eq_zero h
      · cases h
    subst h0
    clear hv
    go_enter Tryz.func52, Tryz.ntmps52
    go_wp2
    go_ret
    exact ⟨none, 0, rfl, World.ownsRow_nil _ _ _ _, Ext.refl _⟩
  · obtain ⟨ad, rfl, hc⟩ := cells_of_slG hv (by decide) ha
    have HC := Lib.hid hc; clear hc hv ha
    go_enter Tryz.func52, Tryz.ntmps52
    go_wp2_with (at_builtin; go_must (refine wpList_append_own _ rfl _ _ 25 rfl w.heap.size 86 i0 (.agg #[.int .i64 0, .int .i64 0]) 2 16 Tryz.underlying25 hi hz0 hz1 hz2 rfl (by decide) _ 0 [] rfl (World.ownsRow_nil _ _ _ _) ad l.length c (flat 2 legC l) rfl (flat_length _ _ _) HC.out (legs_one l) (by unfold maxLen; omega) (by omega) (Nat.le_refl _) ?_); intro v' w1 hown hgrow _)
    rw [Nat.zero_add, List.nil_append] at hown
    obtain ⟨a', c', rfl⟩ := own_form hown
    have HO := Lib.hid hown
    have HG := Lib.hid (ext_grown hgrow); clear hown hgrow
    go_wp2
    go_ret
    exact ⟨a', c', rfl, HO.out, HG.out⟩
end Go.Proofs.YtdejaliegbmgaaaGreat

namespace Go.Proofs.YtdejaliegbmgaaaGreat
open Go.RowKit

/-- The kinds and ends of a word's meanings. -/
def listsOf (s : SL MV) : List (List Nat × List Nat) := s.l.map fun m => (m.k.l, m.e.l)
/-- A treaty reads as another one, but for its starts and legs. -/
structure SameW (t t' : TV) : Prop where
  P : t'.P = t.P
  ways : t'.ways.l = t.ways.l
  words : t'.words.l.map listsOf = t.words.l.map listsOf
/-- A treaty reads as another one. -/
structure SameT (t t' : TV) : Prop extends SameW t t' where
  starts : t'.starts.l = t.starts.l
  legs : t'.legs.l = t.legs.l

/-- A treaty lies in memory, in blocks from lo on. -/
def IsTK (lo : Nat) (w : World) (t : TV) : Prop := ∀ w', (∀ b, lo ≤ b → b < w.heap.size → w'.heap[b]? = w.heap[b]?) → IsT w' t
/-- A treaty was copied. -/
def CloneOf (t : TV) (w : World) (e : Ending) (w' : World) : Prop := ∃ t' : TV, e = .returned t'.v ∧ IsTK w.heap.size w' t' ∧ SameT t t' ∧ Ext w w'
theorem own_range {w w' : World} {lo base : Nat} {e : TypeId} {size : Nat} {v : Value} {n : Nat} {xs : List Value} (h : w.ownsRow base e size v n xs) (hlo : lo ≤ base) (k : ∀ b, lo ≤ b → b < w.heap.size → w'.heap[b]? = w.heap[b]?) : w'.ownsRow base e size v n xs := by
  obtain ⟨h1, h2⟩ := h
  refine ⟨h1, ?_⟩
  rcases h2 with h2 | ⟨g, cap, cur, h2, hb, hh, r⟩
  · exact .inl h2
  · exact .inr ⟨g, cap, cur, h2, hb, (k g (Nat.le_trans hlo hb) (Array.getElem?_eq_some_iff.1 hh).1).trans hh, r⟩

/-- A list of one's own. -/
def LO (base : Nat) (w : World) (s : SL Nat) : Prop := w.ownsRow base 3 1 (.slice s.a s.l.length s.c) s.l.length (nums s.l)
theorem LO.ext {base : Nat} {w w' : World} {s : SL Nat} (h : LO base w s) (k : Ext w w') : LO base w' s := own_ext h k
theorem LO.grown {base : Nat} {w w' : World} {s : SL Nat} {base' sz n : Nat} {T : TypeId} {v : Value} {xs : List Value} (h : LO base w s) (g : w.grownBy w' v.ownBlock) (hv : w.ownsRow base' T sz v n xs) (hT : 3 ≠ T) : LO base w' s :=
  own_grown h g (own_apart h hv hT)
/-- A store into a block of another type leaves a row as it is. -/
theorem own_setB {w : World} {base : Nat} {e T : TypeId} {size : Nat} {v : Value} {n : Nat} {xs : List Value} {B i : Nat} {cs : Array Value} {f : Nat × Nat} (h : w.ownsRow base e size v n xs) (hB : w.heap[B]? = some (.cells cs T f)) (hT : e ≠ T) (u : Value) : (w.setCell ⟨B, i, none⟩ u).ownsRow base e size v n xs := by
  obtain ⟨h1, h2⟩ := h
  refine ⟨h1, ?_⟩
  rcases h2 with h2 | ⟨g, cap, cur, h2, hb, hh, r⟩
  · exact .inl h2
  · refine .inr ⟨g, cap, cur, h2, hb, ?_, r⟩
    have hne : g ≠ B := by
      intro e; rw [e, hB] at hh; simp at hh; exact hT hh.2.1.symm
    exact (Below.heap_setCell _ _ _ _ hne).trans hh
/-- A word of one's own. -/
def WordC (base : Nat) (w : World) (s : SL MV) : Prop := w.ownsRow base 84 2 (.slice s.a s.l.length s.c) s.l.length (flat 2 meanC s.l) ∧ ∀ m ∈ s.l, LO base w m.k ∧ LO base w m.e
theorem WordC.ext {base : Nat} {w w' : World} {s : SL MV} (h : WordC base w s) (k : Ext w w') : WordC base w' s :=
  ⟨own_ext h.1 k, fun m hm => ⟨(h.2 m hm).1.ext k, (h.2 m hm).2.ext k⟩⟩
theorem WordC.base {base base' : Nat} {w : World} {s : SL MV} (h : WordC base w s) (hb : base' ≤ base) : WordC base' w s :=
  ⟨own_mono h.1 hb, fun m hm => ⟨own_mono (h.2 m hm).1 hb, own_mono (h.2 m hm).2 hb⟩⟩
theorem WordC.grown {base : Nat} {w w' : World} {s : SL MV} {base' sz n : Nat} {T : TypeId} {v : Value} {xs : List Value} (h : WordC base w s) (g : w.grownBy w' v.ownBlock) (hv : w.ownsRow base' T sz v n xs) (hT : 84 ≠ T) (hT3 : 3 ≠ T) : WordC base w' s :=
  ⟨own_grown h.1 g (own_apart h.1 hv hT), fun m hm => ⟨(h.2 m hm).1.grown g hv hT3, (h.2 m hm).2.grown g hv hT3⟩⟩
theorem WordC.setB {base : Nat} {w : World} {s : SL MV} {B i : Nat} {cs : Array Value} {f : Nat × Nat} (h : WordC base w s) (hB : w.heap[B]? = some (.cells cs 27 f)) (u : Value) : WordC base (w.setCell ⟨B, i, none⟩ u) s :=
  ⟨own_setB h.1 hB (by decide) u, fun m hm => ⟨own_setB (h.2 m hm).1 hB (by decide) u, own_setB (h.2 m hm).2 hB (by decide) u⟩⟩
/-- A meaning was appended. -/
theorem WordC.append {base : Nat} {w w' : World} {s : SL MV} {k e : SL Nat} {g cap : Nat} (h : WordC base w s) (hk : LO base w k) (he : LO base w e)
    (hown : w'.ownsRow base 84 2 (.slice (some ⟨g, 0, none⟩) (s.l.length + 1) cap) (s.l.length + 1) (flat 2 meanC s.l ++ flat 2 meanC [⟨k, e⟩])) (hgrow : w.grownBy w' (Value.slice s.a s.l.length s.c).ownBlock) :
    WordC base w' ⟨some ⟨g, 0, none⟩, cap, s.l ++ [⟨k, e⟩]⟩ := by
  have hlen : (s.l ++ [(⟨k, e⟩ : MV)]).length = s.l.length + 1 := by simp
  refine ⟨?_, fun m hm => ?_⟩
  · show World.ownsRow _ base 84 2 (.slice _ (s.l ++ [(⟨k, e⟩ : MV)]).length cap) (s.l ++ [(⟨k, e⟩ : MV)]).length (flat 2 meanC (s.l ++ [(⟨k, e⟩ : MV)]))
    rw [flat_append, hlen]; exact hown
  · rcases List.mem_append.1 hm with hm | hm
    · exact ⟨(h.2 m hm).1.grown hgrow h.1 (by decide), (h.2 m hm).2.grown hgrow h.1 (by decide)⟩
    · simp only [List.mem_singleton] at hm; subst hm
      exact ⟨hk.grown hgrow h.1 (by decide), he.grown hgrow h.1 (by decide)⟩
/-- Words of one's own. -/
def WordsC (base : Nat) (w : World) (s : SL (SL MV)) : Prop := w.ownsRow base 82 1 (.slice s.a s.l.length s.c) s.l.length (flat 1 slC s.l) ∧ ∀ x ∈ s.l, WordC base w x
theorem WordsC.ext {base : Nat} {w w' : World} {s : SL (SL MV)} (h : WordsC base w s) (k : Ext w w') : WordsC base w' s := ⟨own_ext h.1 k, fun x hx => (h.2 x hx).ext k⟩
/-- The rows of the other fields. -/
def Own3 (base : Nat) (w : World) (t : TV) (a1 : Option Addr) (c1 : Nat) (a3 : Option Addr) (c3 : Nat) (a4 : Option Addr) (c4 : Nat) : Prop :=
  w.ownsRow base 81 3 (.slice a1 t.ways.l.length c1) t.ways.l.length (flat 3 wayC t.ways.l) ∧ w.ownsRow base 3 1 (.slice a3 t.starts.l.length c3) t.starts.l.length (nums t.starts.l) ∧ w.ownsRow base 86 2 (.slice a4 t.legs.l.length c4) t.legs.l.length (flat 2 legC t.legs.l)
theorem Own3.ext {base : Nat} {w w' : World} {t : TV} {a1 a3 a4 : Option Addr} {c1 c3 c4 : Nat} (h : Own3 base w t a1 c1 a3 c3 a4 c4) (k : Ext w w') : Own3 base w' t a1 c1 a3 c3 a4 c4 := ⟨own_ext h.1 k, own_ext h.2.1 k, own_ext h.2.2 k⟩

/-- A word was appended, and is stored. -/
theorem wordsC_leaf {B base P : Nat} {w0 v2 v3 : World} {t : TV} {a1 a3 a4 : Option Addr} {c1 c3 c4 : Nat} {wv sv lv : Value} {q : SL (SL MV)} {m : SL MV} {tmp : Obj} {g cap : Nat} (hbase : w0.heap.size ≤ base) (hB0 : w0.heap.size ≤ B)
    (HQ : WordsC base v2 q) (Hm : WordC base v2 m) (HM : MkT v2 B P wv q.v sv lv) (H3 : Own3 base v2 t a1 c1 a3 c3 a4 c4) (HX : Ext w0 v2)
    (hown : v3.ownsRow base 82 1 (.slice (some ⟨g, 0, none⟩) (q.l.length + 1) cap) (q.l.length + 1) (flat 1 slC q.l ++ flat 1 slC [m])) (hgrow : (v2.alloc tmp).grownBy v3 (Value.slice q.a q.l.length q.c).ownBlock) :
    (v3.cell? ⟨B, 2, none⟩ = some (.slice q.a q.l.length q.c) ∧ v3.frozen? ⟨B, 2, none⟩ = false) ∧
      Hid (WordsC base (v3.setCell ⟨B, 2, none⟩ (.slice (some ⟨g, 0, none⟩) (q.l.length + 1) cap)) ⟨some ⟨g, 0, none⟩, cap, q.l ++ [m]⟩) ∧
        Hid (MkT (v3.setCell ⟨B, 2, none⟩ (.slice (some ⟨g, 0, none⟩) (q.l.length + 1) cap)) B P wv (.slice (some ⟨g, 0, none⟩) (q.l.length + 1) cap) sv lv) ∧ Hid (Own3 base (v3.setCell ⟨B, 2, none⟩ (.slice (some ⟨g, 0, none⟩) (q.l.length + 1) cap)) t a1 c1 a3 c3 a4 c4) ∧ Hid (Ext w0 (v3.setCell ⟨B, 2, none⟩ (.slice (some ⟨g, 0, none⟩) (q.l.length + 1) cap))) := by
  have hx := (Ext.refl v2).alloc tmp
  have HMa : MkT (v2.alloc tmp) B P wv q.v sv lv := hx.block HM
  have HQa := HQ.ext hx
  have H3a := H3.ext hx
  have hne : ∀ i, (Value.slice q.a q.l.length q.c).ownBlock = some i → i ≠ B := fun i hi e => by
    rcases HQa.1.2 with ⟨h, -⟩ | ⟨g', cap', cur, h, hb, hh, r⟩
    · rw [h] at hi; simp [Value.ownBlock] at hi
    · rw [h] at hi
      simp only [Value.ownBlock, Option.some.injEq] at hi
      subst hi; subst e
      unfold MkT at HMa
      rw [HMa] at hh; simp at hh
  have HM3 : MkT v3 B P wv q.v sv lv := HMa.grown hgrow hne
  have hlen : (q.l ++ [m]).length = q.l.length + 1 := by simp
  have HX3 : Ext w0 v3 := ext_grown_of (HX.alloc tmp) hgrow (fun i hi => Nat.le_trans hbase (own_lt HQa.1 i hi))
  refine ⟨⟨HM3.five.2.2.1, HM3.frozen 2⟩, ⟨?_, fun x hx' => ?_⟩, HM3.set2 _, ⟨?_, ?_, ?_⟩, HX3.setCell hB0 _⟩
  · show World.ownsRow _ base 82 1 (.slice _ (q.l ++ [m]).length cap) (q.l ++ [m]).length (flat 1 slC (q.l ++ [m]))
    rw [flat_append, hlen]; exact own_setB hown HM3 (by decide) _
  · rcases List.mem_append.1 hx' with h | h
    · exact ((HQa.2 x h).grown hgrow HQa.1 (by decide) (by decide)).setB HM3 _
    · simp only [List.mem_singleton] at h; subst h
      exact ((Hm.ext hx).grown hgrow HQa.1 (by decide) (by decide)).setB HM3 _
  · exact own_setB (own_grown H3a.1 hgrow (own_apart H3a.1 HQa.1 (by decide))) HM3 (by decide) _
  · exact own_setB (own_grown H3a.2.1 hgrow (own_apart H3a.2.1 HQa.1 (by decide))) HM3 (by decide) _
  · exact own_setB (own_grown H3a.2.2 hgrow (own_apart H3a.2.2 HQa.1 (by decide))) HM3 (by decide) _

/-- The box of a treaty, not yet written. -/
abbrev boxZ : Obj := .cells #[.int .i64 0, .slice none 0 0, .slice none 0 0, .slice none 0 0, .slice none 0 0] 27
def ZB (w : World) (B : Nat) : Prop := w.heap[B]? = some boxZ
theorem ZB.ext {w w' : World} {B : Nat} (h : ZB w B) (k : Ext w w') : ZB w' B := k.block h
theorem ZB.five {w : World} {B : Nat} (h : ZB w B) : w.cell? ⟨B, 0, none⟩ = some (.int .i64 0) ∧ w.cell? ⟨B, 1, none⟩ = some (.slice none 0 0) ∧ w.cell? ⟨B, 2, none⟩ = some (.slice none 0 0) ∧ w.cell? ⟨B, 3, none⟩ = some (.slice none 0 0) ∧ w.cell? ⟨B, 4, none⟩ = some (.slice none 0 0) ∧ ∀ i, w.frozen? ⟨B, i, none⟩ = false :=
  ⟨(cell_at h 0).trans rfl, (cell_at h 1).trans rfl, (cell_at h 2).trans rfl, (cell_at h 3).trans rfl, (cell_at h 4).trans rfl, fun i => by unfold ZB at h; simp [World.frozen?, h]⟩
theorem ZB.lt {w : World} {B : Nat} (h : ZB w B) : B < w.heap.size := (Array.getElem?_eq_some_iff.1 h).1
theorem zb_set {w : World} {B : Nat} {P : Nat} {a b c d : Value} (h : ZB w B) : MkT (((((w.setCell ⟨B, 0, none⟩ (.int .i64 (P : Int))).setCell ⟨B, 1, none⟩ a).setCell ⟨B, 2, none⟩ b).setCell ⟨B, 3, none⟩ c).setCell ⟨B, 4, none⟩ d) B P a b c d :=
  heap_setCell_same (heap_setCell_same (heap_setCell_same (heap_setCell_same (heap_setCell_same h _) _) _) _) _

theorem zb_new {w v : World} (h : Ext (w.alloc boxZ) v) : ZB v w.heap.size := h.block (World.alloc_heap_new w boxZ)
theorem zb_call {w v : World} (h : Ext (w.alloc boxZ).drew v) : ZB v w.heap.size := h.block (World.alloc_heap_new w boxZ)
/-- What lies behind CloneTreaty's first statement. -/
def ClA (t : TV) (V : World) (s3 : Value) (wx : World) : Prop :=
  ∃ (B : Nat) (a1 : Option Addr) (c1 : Nat) (a3 : Option Addr) (c3 : Nat) (a4 : Option Addr) (c4 : Nat), s3 = .pointer (some ⟨B, 0, none⟩) ∧ V.heap.size ≤ B ∧ Hid (MkT wx B t.P (.slice a1 t.ways.l.length c1) (.slice none 0 0) (.slice a3 t.starts.l.length c3) (.slice a4 t.legs.l.length c4)) ∧ Hid (Own3 V.heap.size wx t a1 c1 a3 c3 a4 c4) ∧ Hid (Ext V wx)
theorem cla_set {t : TV} {V w : World} {B : Nat} {a1 a3 a4 : Option Addr} {c1 c3 c4 : Nat} (h : ZB w B) (hB : V.heap.size ≤ B) (H3 : Own3 V.heap.size w t a1 c1 a3 c3 a4 c4) (HX : Ext V w) :
    ClA t V (.pointer (some ⟨B, 0, none⟩)) (((((w.setCell ⟨B, 0, none⟩ (.int .i64 (t.P : Int))).setCell ⟨B, 1, none⟩ (.slice a1 t.ways.l.length c1)).setCell ⟨B, 2, none⟩ (.slice none 0 0)).setCell ⟨B, 3, none⟩ (.slice a3 t.starts.l.length c3)).setCell ⟨B, 4, none⟩ (.slice a4 t.legs.l.length c4)) := by
  have b0 : w.heap[B]? = some (.cells #[.int .i64 0, .slice none 0 0, .slice none 0 0, .slice none 0 0, .slice none 0 0] 27 (0, 0)) := h
  have b1 := heap_setCell_same (i := 0) b0 (.int .i64 (t.P : Int))
  have b2 := heap_setCell_same (i := 1) b1 (.slice a1 t.ways.l.length c1)
  have b3 := heap_setCell_same (i := 2) b2 (.slice none 0 0)
  have b4 := heap_setCell_same (i := 3) b3 (.slice a3 t.starts.l.length c3)
  refine ⟨B, a1, c1, a3, c3, a4, c4, rfl, hB, zb_set h, ⟨?_, ?_, ?_⟩, ((((HX.setCell hB _).setCell hB _).setCell hB _).setCell hB _).setCell hB _⟩
  · exact own_setB (own_setB (own_setB (own_setB (own_setB H3.1 b0 (by decide) _) b1 (by decide) _) b2 (by decide) _) b3 (by decide) _) b4 (by decide) _
  · exact own_setB (own_setB (own_setB (own_setB (own_setB H3.2.1 b0 (by decide) _) b1 (by decide) _) b2 (by decide) _) b3 (by decide) _) b4 (by decide) _
  · exact own_setB (own_setB (own_setB (own_setB (own_setB H3.2.2 b0 (by decide) _) b1 (by decide) _) b2 (by decide) _) b3 (by decide) _) b4 (by decide) _
theorem cla_new {t : TV} {V w : World} {a1 a3 a4 : Option Addr} {c1 c3 c4 : Nat} (H3 : Own3 V.heap.size w t a1 c1 a3 c3 a4 c4) (HX : Ext V w) :
    ClA t V (.pointer (some ⟨w.heap.size, 0, none⟩)) (w.alloc (.cells #[.int .i64 (t.P : Int), .slice a1 t.ways.l.length c1, .slice none 0 0, .slice a3 t.starts.l.length c3, .slice a4 t.legs.l.length c4] 27)) :=
  ⟨w.heap.size, a1, c1, a3, c3, a4, c4, rfl, HX.size, World.alloc_heap_new w _, H3.ext ((Ext.refl w).alloc _), HX.alloc _⟩

theorem WordsC.setB {base : Nat} {w : World} {s : SL (SL MV)} {B i : Nat} {cs : Array Value} {f : Nat × Nat} (h : WordsC base w s) (hB : w.heap[B]? = some (.cells cs 27 f)) (u : Value) : WordsC base (w.setCell ⟨B, i, none⟩ u) s :=
  ⟨own_setB h.1 hB (by decide) u, fun x hx => (h.2 x hx).setB hB u⟩
theorem Own3.setB {base : Nat} {w : World} {t : TV} {a1 a3 a4 : Option Addr} {c1 c3 c4 : Nat} {B i : Nat} {cs : Array Value} {f : Nat × Nat} (h : Own3 base w t a1 c1 a3 c3 a4 c4) (hB : w.heap[B]? = some (.cells cs 27 f)) (u : Value) : Own3 base (w.setCell ⟨B, i, none⟩ u) t a1 c1 a3 c3 a4 c4 :=
  ⟨own_setB h.1 hB (by decide) u, own_setB h.2.1 hB (by decide) u, own_setB h.2.2 hB (by decide) u⟩
theorem isT_own {base : Nat} {w w0 : World} {t : TV} {a1 a3 a4 : Option Addr} {c1 c3 c4 : Nat} {q : SL (SL MV)} (H3 : Own3 base w t a1 c1 a3 c3 a4 c4) (HQ : WordsC base w q) (ht : IsT w0 t) (hq : q.l.map listsOf = t.words.l.map listsOf) : IsT w ⟨t.P, ⟨a1, c1, t.ways.l⟩, q, ⟨a3, c3, t.starts.l⟩, ⟨a4, c4, t.legs.l⟩⟩ := by
  refine ⟨own_slG H3.1 ht.ways.2.1, own_slG HQ.1 ?_, fun s hs => ?_, own_sl H3.2.1 ht.starts.2.1, own_slG H3.2.2 ht.legs.2.1⟩
  · have := congrArg List.length hq
    simp only [List.length_map] at this
    rw [this]; exact ht.words.2.1
  · have : listsOf s ∈ t.words.l.map listsOf := by rw [← hq]; exact List.mem_map.2 ⟨s, hs, rfl⟩
    obtain ⟨p, hp, e⟩ := List.mem_map.1 this
    have hpw := ht.word p hp
    have hl : s.l.length = p.l.length := by have := congrArg List.length e; simp only [listsOf, List.length_map] at this; exact this.symm
    refine ⟨own_slG (HQ.2 s hs).1 (by rw [hl]; exact hpw.1.2.1), fun m hm => ?_⟩
    have hm' : (m.k.l, m.e.l) ∈ listsOf p := by rw [e]; exact List.mem_map.2 ⟨m, hm, rfl⟩
    obtain ⟨z, hz, e2⟩ := List.mem_map.1 hm'
    rw [Prod.mk.injEq] at e2
    have hzm := hpw.2 z hz
    exact ⟨own_sl ((HQ.2 s hs).2 m hm).1 (by rw [← e2.1]; exact hzm.1.2.1), own_sl ((HQ.2 s hs).2 m hm).2 (by rw [← e2.2]; exact hzm.2.2.1)⟩
theorem WordsC.keep {w w' : World} {lo base : Nat} {s : SL (SL MV)} (h : WordsC base w s) (hlo : lo ≤ base) (k : ∀ b, lo ≤ b → b < w.heap.size → w'.heap[b]? = w.heap[b]?) : WordsC base w' s :=
  ⟨own_range h.1 hlo k, fun x hx => ⟨own_range (h.2 x hx).1 hlo k, fun m hm => ⟨own_range ((h.2 x hx).2 m hm).1 hlo k, own_range ((h.2 x hx).2 m hm).2 hlo k⟩⟩⟩
theorem Own3.keep {w w' : World} {lo base : Nat} {t : TV} {a1 a3 a4 : Option Addr} {c1 c3 c4 : Nat} (h : Own3 base w t a1 c1 a3 c3 a4 c4) (hlo : lo ≤ base) (k : ∀ b, lo ≤ b → b < w.heap.size → w'.heap[b]? = w.heap[b]?) : Own3 base w' t a1 c1 a3 c3 a4 c4 :=
  ⟨own_range h.1 hlo k, own_range h.2.1 hlo k, own_range h.2.2 hlo k⟩
theorem clone_fin {base R : Nat} {w V wo : World} {t : TV} {a1 a3 a4 : Option Addr} {c1 c3 c4 : Nat} {q : SL (SL MV)} {u0 u1 u2 u3 u4 : Value} (h : ZB wo R) (hR : w.heap.size ≤ R) (hV : w.heap.size ≤ base) (H3 : Own3 base wo t a1 c1 a3 c3 a4 c4) (HQ : WordsC base wo q) (ht : IsT w t) (hq : q.l.map listsOf = t.words.l.map listsOf) (HX : Ext w V) (HXo : Ext V wo) :
    IsTK w.heap.size (((((wo.setCell ⟨R, 0, none⟩ u0).setCell ⟨R, 1, none⟩ u1).setCell ⟨R, 2, none⟩ u2).setCell ⟨R, 3, none⟩ u3).setCell ⟨R, 4, none⟩ u4) ⟨t.P, ⟨a1, c1, t.ways.l⟩, q, ⟨a3, c3, t.starts.l⟩, ⟨a4, c4, t.legs.l⟩⟩ ∧ Ext w (((((wo.setCell ⟨R, 0, none⟩ u0).setCell ⟨R, 1, none⟩ u1).setCell ⟨R, 2, none⟩ u2).setCell ⟨R, 3, none⟩ u3).setCell ⟨R, 4, none⟩ u4) := by
  have b0 : wo.heap[R]? = some (.cells #[.int .i64 0, .slice none 0 0, .slice none 0 0, .slice none 0 0, .slice none 0 0] 27 (0, 0)) := h
  have b1 := heap_setCell_same (i := 0) b0 u0
  have b2 := heap_setCell_same (i := 1) b1 u1
  have b3 := heap_setCell_same (i := 2) b2 u2
  have b4 := heap_setCell_same (i := 3) b3 u3
  have hx := HX.trans HXo
  exact ⟨fun w' k => isT_own (((((((H3.setB b0 _).setB b1 _).setB b2 _).setB b3 _).setB b4 _)).keep hV k) (((((((HQ.setB b0 _).setB b1 _).setB b2 _).setB b3 _).setB b4 _)).keep hV k) ht hq, ((((hx.setCell hR _).setCell hR _).setCell hR _).setCell hR _).setCell hR _⟩

set_option maxRecDepth 100000 in
set_option maxHeartbeats 4000000 in
theorem cloneT_any (t : TV) (w : World) (ht : IsT w t) (hk : OkT t) : Calls Tryz.prog 11 #[t.v] w (CloneOf t w) := by
  have HT := Lib.hid ht; clear ht
  have HK := Lib.hid hk; clear hk
  obtain ⟨i84, hi84, hz84, hs84, hb84⟩ := info_parts info84
  obtain ⟨i82, hi82, hz82, hs82, hb82⟩ := info_parts info82
  go_enter Tryz.func11, Tryz.ntmps11
  go_upto_region 1 with (fail)
  obtain ⟨V, hV⟩ : ∃ V, (w.alloc (.cells #[.int .i64 (t.P : Int), .slice t.ways.a t.ways.l.length t.ways.c, .slice t.words.a t.words.l.length t.words.c, .slice t.starts.a t.starts.l.length t.starts.c, .slice t.legs.a t.legs.l.length t.legs.c] 27)).alloc boxZ = V := ⟨_, rfl⟩
  have HX0 : Hid (Ext w V) := by rw [← hV]; exact ((Ext.refl w).alloc _).alloc _
  have HTB : Hid (TBox V w.heap.size t) := by rw [← hV]; exact ((Ext.refl _).alloc _).block (World.alloc_heap_new w _)
  have HR0 : Hid (ZB V (w.heap.size + 1)) := by rw [← hV]; have := World.alloc_heap_new (w.alloc (.cells #[.int .i64 (t.P : Int), .slice t.ways.a t.ways.l.length t.ways.c, .slice t.words.a t.words.l.length t.words.c, .slice t.starts.a t.starts.l.length t.starts.c, .slice t.legs.a t.legs.l.length t.legs.c] 27)) boxZ; rwa [World.size_alloc] at this
  rw [hV]
  clear hV
  have hwV : w.heap.size + 1 < V.heap.size := HR0.out.lt
  have KB : Hid (∀ V', Ext V V' → TBox V' w.heap.size t) := fun V' h => h.block HTB.out
  have KT : Hid (∀ V', Ext V V' → IsT V' t) := fun V' h => HT.out.ext (HX0.out.trans h)
  have KF : Hid (∀ V', Ext V V' → V'.cell? ⟨w.heap.size, 0, none⟩ = some (.int .i64 (t.P : Int)) ∧ V'.cell? ⟨w.heap.size, 1, none⟩ = some (.slice t.ways.a t.ways.l.length t.ways.c) ∧ V'.cell? ⟨w.heap.size, 3, none⟩ = some (.slice t.starts.a t.starts.l.length t.starts.c) ∧ V'.cell? ⟨w.heap.size, 4, none⟩ = some (.slice t.legs.a t.legs.l.length t.legs.c)) := fun V' h => by
    obtain ⟨f0, f1, f2, f3, f4⟩ := (show MkT V' w.heap.size t.P t.ways.v t.words.v t.starts.v t.legs.v from KB.out V' h).five; exact ⟨f0, f1, f3, f4⟩
  go_cut [3] (fun s3 wx => ClA t V s3 wx)
  case first =>
    go_region_held3 (fun V' => V'.cell? ⟨w.heap.size, 0, none⟩ = some (.int .i64 (t.P : Int)) ∧ V'.cell? ⟨w.heap.size, 1, none⟩ = some (.slice t.ways.a t.ways.l.length t.ways.c) ∧ V'.cell? ⟨w.heap.size, 3, none⟩ = some (.slice t.starts.a t.starts.l.length t.starts.c) ∧ V'.cell? ⟨w.heap.size, 4, none⟩ = some (.slice t.legs.a t.legs.l.length t.legs.c))
      ((refine KF.out _ ?_; (with_reducible repeat (first | exact Ext.refl _ | exact X3.out | exact X2.out | exact X1.out | refine Ext.drew ?_ | refine Ext.alloc ?_ _ | refine Ext.setCell ?_ (by first | exact Nat.le_refl _ | exact X1.out.size | exact X2.out.size | exact X3.out.size) _))))
      (first
        | (go_at_call 51; refine (waysClone_any _ _ _ t.ways.l _ rfl (KT.out _ (by (with_reducible repeat (first | exact Ext.refl _ | exact X3.out | exact X2.out | exact X1.out | refine Ext.drew ?_ | refine Ext.alloc ?_ _)))).ways).mono ?_; rintro e v1 ⟨a1, c1, rfl, ho1, hx1⟩; have X1 : Hid (Ext V v1) := (Ext.trans (by (with_reducible repeat (first | exact Ext.refl _ | exact X3.out | exact X2.out | exact X1.out | refine Ext.drew ?_ | refine Ext.alloc ?_ _))) hx1); have O1 : Hid (v1.ownsRow V.heap.size 81 3 (.slice a1 t.ways.l.length c1) t.ways.l.length (flat 3 wayC t.ways.l)) := (own_mono ho1 (Ext.size (by (with_reducible repeat (first | exact Ext.refl _ | exact X3.out | exact X2.out | exact X1.out | refine Ext.drew ?_ | refine Ext.alloc ?_ _))))); (try (have Z1 : Hid (ZB v1 V.heap.size) := (zb_call (by with_reducible exact hx1)))); clear hx1 ho1)
        | (go_at_call 12; refine (kitClone_any _ _ _ t.starts.l _ rfl (KT.out _ (by (with_reducible repeat (first | exact Ext.refl _ | exact X3.out | exact X2.out | exact X1.out | refine Ext.drew ?_ | refine Ext.alloc ?_ _)))).starts).mono ?_; rintro e v2 ⟨a3, c3, rfl, ho2, hx2⟩; have X2 : Hid (Ext V v2) := (Ext.trans (by (with_reducible repeat (first | exact Ext.refl _ | exact X3.out | exact X2.out | exact X1.out | refine Ext.drew ?_ | refine Ext.alloc ?_ _))) hx2); have hy2 : Ext v1 v2 := (Ext.trans (by (with_reducible repeat (first | exact Ext.refl _ | refine Ext.drew ?_ | refine Ext.alloc ?_ _))) hx2); have O2 : Hid (v2.ownsRow V.heap.size 81 3 (.slice a1 t.ways.l.length c1) t.ways.l.length (flat 3 wayC t.ways.l) ∧ v2.ownsRow V.heap.size 3 1 (.slice a3 t.starts.l.length c3) t.starts.l.length (nums t.starts.l)) := ⟨own_ext O1.out hy2, own_mono ho2 (Ext.size (by (with_reducible repeat (first | exact Ext.refl _ | exact X3.out | exact X2.out | exact X1.out | refine Ext.drew ?_ | refine Ext.alloc ?_ _))))⟩; (try (have Z2 : Hid (ZB v2 V.heap.size) := (Z1.out.ext hy2))); (try (have Z2 : Hid (ZB v2 v1.heap.size) := (zb_new (by with_reducible exact hx2)))); clear hx2 ho2 hy2)
        | (go_at_call 52; refine (legsClone_any _ _ _ t.legs.l _ rfl (KT.out _ (by (with_reducible repeat (first | exact Ext.refl _ | exact X3.out | exact X2.out | exact X1.out | refine Ext.drew ?_ | refine Ext.alloc ?_ _)))).legs).mono ?_; rintro e v3 ⟨a4, c4, rfl, ho3, hx3⟩; have X3 : Hid (Ext V v3) := (Ext.trans (by (with_reducible repeat (first | exact Ext.refl _ | exact X3.out | exact X2.out | exact X1.out | refine Ext.drew ?_ | refine Ext.alloc ?_ _))) hx3); have hy3 : Ext v2 v3 := (Ext.trans (by (with_reducible repeat (first | exact Ext.refl _ | refine Ext.drew ?_ | refine Ext.alloc ?_ _))) hx3); have O3 : Hid (Own3 V.heap.size v3 t a1 c1 a3 c3 a4 c4) := ⟨own_ext O2.out.1 hy3, own_ext O2.out.2 hy3, own_mono ho3 (Ext.size (by (with_reducible repeat (first | exact Ext.refl _ | exact X3.out | exact X2.out | exact X1.out | refine Ext.drew ?_ | refine Ext.alloc ?_ _))))⟩; (try (have Z3 := (Z2.out.ext hy3); obtain ⟨z0, z1, z2, z3, z4, zf⟩ := Z3.five; have HZ3 := Lib.hid Z3; clear Z3)); (try (have Z3 : ZB v3 v2.heap.size := (zb_new (by with_reducible exact hx3)); obtain ⟨z0, z1, z2, z3, z4, zf⟩ := Z3.five; have HZ3 := Lib.hid Z3; clear Z3)); clear hx3 ho3 hy3))
    all_goals go_wp2_with fail
    all_goals go_meet
    all_goals first
      | with_reducible exact cla_new O3.out X3.out
      | (have hB3 : V.heap.size ≤ V.heap.size := Nat.le_refl _; with_reducible exact cla_set HZ3.out hB3 O3.out X3.out)
      | (have hB3 := X1.out.size; with_reducible exact cla_set HZ3.out hB3 O3.out X3.out)
      | (have hB3 := X2.out.size; with_reducible exact cla_set HZ3.out hB3 O3.out X3.out)
  case rest =>
    obtain ⟨B, a1, c1, a3, c3, a4, c4, rfl, hB0, HM, H3, HX⟩ := hcut
    clear KF HTB
    have hw6 : t.words.l.length ≤ 6 := HK.out.words
    have f2 : wc.cell? ⟨w.heap.size, 2, none⟩ = some (.slice t.words.a t.words.l.length t.words.c) := (cell_at (KB.out _ HX.out) 2).trans rfl
    have m0 : (0 : Int) ≤ (t.words.l.length : Int) := by omega
    go_wp2
    clear f2
    go_loopw [24] (fun i wr => ∃ (j : Nat) (q : SL (SL MV)), j ≤ t.words.l.length ∧ i = .int .i64 j ∧ Hid (q.l.map listsOf = (t.words.l.take j).map listsOf) ∧ Hid (WordsC V.heap.size wr q) ∧ Hid (MkT wr B t.P (.slice a1 t.ways.l.length c1) q.v (.slice a3 t.starts.l.length c3) (.slice a4 t.legs.l.length c4)) ∧ Hid (Own3 V.heap.size wr t a1 c1 a3 c3 a4 c4) ∧ Hid (Ext V wr)) (fun i _ => t.words.l.length - (intOf i).toNat)
    case atStart => exact ⟨0, ⟨none, 0, []⟩, Nat.zero_le _, rfl, rfl, ⟨World.ownsRow_nil _ _ _ _, fun x hx => by simp at hx⟩, HM.out, H3.out, HX.out⟩
    case round =>
      obtain ⟨wo, rfl⟩ : ∃ wo : World, wo = wr := ⟨_, rfl⟩
      obtain ⟨j, q, hj, rfl, HQm, HQ, HMo, H3o, HXo⟩ := hrel
      have hql : q.l.length = j := by have := congrArg List.length HQm.out; simp at this; omega
      by_cases hlt : j < t.words.l.length
      · have dj : decide ((j : Int) < (t.words.l.length : Int)) = true := by simpa using hlt
        have hTo := KT.out wo HXo.out
        obtain ⟨bw, ow, hwa, hwc⟩ := hTo.words.2.2.resolve_left (by omega)
        have cw : wo.cell? ⟨bw, ow + j, none⟩ = some (.slice t.words.l[j].a t.words.l[j].l.length t.words.l[j].c) := by have := hwc j hlt 0 (by omega); simpa [slC] using this
        have hsW := hTo.word _ (List.getElem_mem hlt)
        have hs4 := HK.out.word _ (List.getElem_mem hlt)
        have HQn : Hid (t.words.l.take (j + 1) = t.words.l.take j ++ [t.words.l[j]]) := List.take_succ_eq_append_getElem hlt
        clear hTo hwc
        generalize t.words.l[j] = s at *
        have k0 : (0 : Int) ≤ j := by omega
        rw [hwa]
        have HWa := Lib.hid hwa; clear hwa
        have HsW := Lib.hid hsW; clear hsW
        have s0 : (0 : Int) ≤ (s.l.length : Int) := by omega
        have HQl := Lib.hid hql; clear hql
        go_wp2
        clear cw
        go_loopw [6, 30] (fun v i wr => ∃ (y : Nat) (m : SL MV), y ≤ s.l.length ∧ i = .int .i64 y ∧ v = .slice m.a m.l.length m.c ∧ Hid (m.l.map (fun m => (m.k.l, m.e.l)) = (s.l.take y).map (fun m => (m.k.l, m.e.l))) ∧ Hid (WordC wo.heap.size wr m) ∧ Hid (Ext wo wr)) (fun _ i _ => s.l.length - (intOf i).toNat)
        case atStart => exact ⟨0, ⟨none, 0, []⟩, Nat.zero_le _, rfl, rfl, rfl, ⟨World.ownsRow_nil _ _ _ _, fun x hx => by simp at hx⟩, Ext.refl _⟩
        case round =>
          obtain ⟨wi, rfl⟩ : ∃ wi : World, wi = wr := ⟨_, rfl⟩
          obtain ⟨y, m, hy, rfl, rfl, HMm, HMC, HXi⟩ := hrel
          by_cases hly : y < s.l.length
          · have dy : decide ((y : Int) < (s.l.length : Int)) = true := by simpa using hly
            have hsi := HsW.out.ext HXi.out
            obtain ⟨bs, os, hsa, hsc⟩ := hsi.1.2.2.resolve_left (by omega)
            have d0 : wi.cell? ⟨bs, os + y * 2, none⟩ = some (.slice s.l[y].k.a s.l[y].k.l.length s.l[y].k.c) := by have := hsc y hly 0 (by omega); simpa [meanC] using this
            have d1 : wi.cell? ⟨bs, os + y * 2 + 1, none⟩ = some (.slice s.l[y].e.a s.l[y].e.l.length s.l[y].e.c) := by have := hsc y hly 1 (by omega); simpa [meanC] using this
            have hmn := hsi.2 _ (List.getElem_mem hly)
            have HTn : Hid (s.l.take (y + 1) = s.l.take y ++ [s.l[y]]) := List.take_succ_eq_append_getElem hly
            clear hsi hsc
            generalize s.l[y] = z at *
            have HMn := Lib.hid hmn; clear hmn
            have k1 : (0 : Int) ≤ y := by omega
            rw [hsa]
            have HSa := Lib.hid hsa; clear hsa
            have H63 : Hid (m.l.length + 1 ≤ maxLen) := by show _ ≤ _; have := congrArg List.length HMm.out; simp at this; unfold maxLen; omega
            have HBY : Hid ((m.l.length + 1) * 48 ≤ 140737488355328) := by show _ ≤ _; have := congrArg List.length HMm.out; simp at this; omega
            go_upto_region 9 with (fail)
            clear d0 d1
            obtain ⟨X, hX⟩ : ∃ X, wi.alloc (.cells #[.slice z.k.a z.k.l.length z.k.c, .slice z.e.a z.e.l.length z.e.c] 84) = X := ⟨_, rfl⟩
            have HXX : Hid (Ext wi X) := by rw [← hX]; exact (Ext.refl wi).alloc _
            have HbX : Hid (X.heap[wi.heap.size]? = some (.cells #[.slice z.k.a z.k.l.length z.k.c, .slice z.e.a z.e.l.length z.e.c] 84 (0, 0))) := by rw [← hX]; exact World.alloc_heap_new wi _
            rw [hX]
            clear hX
            have KX : Hid (∀ V', Ext X V' → V'.cell? ⟨wi.heap.size, 0, none⟩ = some (.slice z.k.a z.k.l.length z.k.c) ∧ V'.cell? ⟨wi.heap.size, 1, none⟩ = some (.slice z.e.a z.e.l.length z.e.c)) := fun V' h => ⟨(cell_at (h.block HbX.out) 0).trans rfl, (cell_at (h.block HbX.out) 1).trans rfl⟩
            obtain ⟨e0, e1⟩ := KX.out X (Ext.refl X)
            have HXo9 : Hid (Ext wo X) := HXi.out.trans HXX.out
            go_region_law (first
              | (go_simp; go_at_call_of 12 (Value.slice z.k.a z.k.l.length z.k.c); refine (kitClone_any z.k.a z.k.l.length z.k.c z.k.l X.drew rfl ((HMn.out.1.ext HXX.out).ext (Ext.refl X).drew)).mono ?_; rintro e x1 ⟨ak, ck, rfl, ho, hx⟩; have E1 : Hid (Ext X x1) := ((Ext.refl X).drew).trans hx; have HLk : Hid (LO wo.heap.size x1 ⟨ak, ck, z.k.l⟩) := own_mono ho HXo9.out.size; obtain ⟨e0', e1'⟩ := KX.out x1 E1.out; clear ho hx)
              | (go_simp; go_at_call_of 12 (Value.slice z.e.a z.e.l.length z.e.c); refine (kitClone_any z.e.a z.e.l.length z.e.c z.e.l x1 rfl ((HMn.out.2.ext HXX.out).ext E1.out)).mono ?_; rintro e x2 ⟨ae, ce, rfl, ho, hx⟩; have E2 : Hid (Ext X x2) := E1.out.trans hx; have HLe : Hid (LO wo.heap.size x2 ⟨ae, ce, z.e.l⟩) := own_mono ho (HXo9.out.trans E1.out).size; have HLk2 : Hid (LO wo.heap.size x2 ⟨ak, ck, z.k.l⟩) := own_ext HLk.out hx; have HW2 : Hid (WordC wo.heap.size x2 m) := HMC.out.ext (HXX.out.trans E2.out); have HS2 : Hid (wo.heap.size ≤ x2.heap.size) := (HXo9.out.trans E2.out).size; clear ho hx)
              | (refine step_append_lies _ rfl (.tmp 34) (.tmp 42) 82 rfl wo.heap.size 84 i84 (.agg #[.slice none 0 0, .slice none 0 0]) 2 48 Tryz.underlying82 hi84 hz84 hs84 hb84 rfl (by decide) (.slice m.a m.l.length m.c) m.l.length (flat 2 meanC m.l) ?_ (HW2.out.1.alloc _) ⟨x2.heap.size, 0, none⟩ 1 1 (flat 2 meanC [⟨⟨ak, ck, z.k.l⟩, ⟨ae, ce, z.e.l⟩⟩]) ?_ rfl (new_cells x2 (flat 2 meanC [⟨⟨ak, ck, z.k.l⟩, ⟨ae, ce, z.e.l⟩⟩]) 84) (mean_one _) (by decide) H63.out HBY.out ?_ _ rfl ?_; (simp [Act.eval]); (simp [Act.eval]); (rw [World.size_alloc]; exact Nat.le_succ_of_le HS2.out); intro g cap x3 hown hgrow hwh hgl; have hx := (Ext.refl x2).alloc (.cells (flat 2 meanC [⟨⟨ak, ck, z.k.l⟩, ⟨ae, ce, z.e.l⟩⟩]).toArray 84); have HW3 : Hid (WordC wo.heap.size x3 ⟨some ⟨g, 0, none⟩, cap, m.l ++ [⟨⟨ak, ck, z.k.l⟩, ⟨ae, ce, z.e.l⟩⟩]⟩) := (HW2.out.ext hx).append (HLk2.out.ext hx) (HLe.out.ext hx) hown hgrow; have HX3 : Hid (Ext wo x3) := ext_grown_of ((HXo9.out.trans E2.out).alloc _) hgrow (fun i hi => own_lt HW2.out.1 i hi); clear hx hown hgrow hwh hgl))
            all_goals
              go_wp2
              refine ⟨⟨y + 1, ⟨some ⟨g, 0, none⟩, cap, m.l ++ [⟨⟨ak, ck, z.k.l⟩, ⟨ae, ce, z.e.l⟩⟩]⟩, by omega, by go_num, by simp, ?_, HW3, HX3⟩, ?_⟩
              · show List.map _ _ = List.map _ _
                rw [HTn.out, List.map_append, List.map_append, HMm.out]; rfl
              · simp [intOf]; omega
          · have hye : y = s.l.length := by omega
            have dy : decide ((y : Int) < (s.l.length : Int)) = false := decide_eq_false (by omega)
            have HMe : Hid (listsOf m = listsOf s) := by
              have := HMm.out
              rw [List.take_of_length_le (by omega)] at this
              exact this
            clear HMm hye
            have HMi : Hid (MkT wi B t.P (.slice a1 t.ways.l.length c1) q.v (.slice a3 t.starts.l.length c3) (.slice a4 t.legs.l.length c4)) := HXi.out.block HMo.out
            have HQi : Hid (WordsC V.heap.size wi q) := HQ.out.ext HXi.out
            have H3i : Hid (Own3 V.heap.size wi t a1 c1 a3 c3 a4 c4) := H3o.out.ext HXi.out
            have HWm : Hid (WordC V.heap.size wi m) := HMC.out.base HXo.out.size
            have HXv : Hid (Ext V wi) := HXo.out.trans HXi.out
            have hm6 : q.l.length + 1 ≤ maxLen := by have := HQl.out; unfold maxLen; omega
            have hq6 : q.l.length ≤ 6 := by have := HQl.out; omega
            have hb4 : V.heap.size ≤ wi.heap.size + 1 := by have := HXv.out.size; omega
            have HB0 : Hid (V.heap.size ≤ B) := hB0
            have c2 := HMi.out.five.2.2.1
            go_wp2_with (at_builtin; go_must (refine wpList_append_own _ rfl _ _ 23 rfl V.heap.size 82 i82 (.slice none 0 0) 1 24 Tryz.underlying23 hi82 hz82 hs82 hb82 rfl (by decide) _ q.l.length (flat 1 slC q.l) rfl (HQi.out.1.alloc _) ⟨wi.heap.size, 0, none⟩ 1 1 (flat 1 slC [m]) rfl rfl (new_cells wi (flat 1 slC [m]) 82) (word_one m) hm6 (by omega) (by simp; omega) ?_); intro v' w9 hown hgrow _; obtain ⟨g, cap, rfl⟩ := ownsRow_succ hown; obtain ⟨⟨cv, fv⟩, hA, hC, hD3, hE⟩ := wordsC_leaf (Nat.le_refl _) HB0.out HQi.out HWm.out HMi.out H3i.out HXv.out hown hgrow; clear hown hgrow)
            refine ⟨⟨j + 1, ⟨some ⟨g, 0, none⟩, cap, q.l ++ [m]⟩, by omega, by go_num, ?_, hA, ?_, hD3, hE⟩, ?_⟩
            · show List.map _ _ = List.map _ _
              rw [HQn.out, List.map_append, List.map_append, HQm.out]
              simp only [List.map_cons, List.map_nil, HMe.out]
            · show MkT _ B _ _ (.slice _ (q.l ++ [m]).length cap) _ _
              rw [List.length_append]; exact hC.out
            · simp [intOf]; omega
      · have hje : j = t.words.l.length := by omega
        have dj : decide ((j : Int) < (t.words.l.length : Int)) = false := decide_eq_false (by omega)
        have HQe : Hid (q.l.map listsOf = t.words.l.map listsOf) := by
          have := HQm.out
          rwa [List.take_of_length_le (by omega)] at this
        clear hje HQm hql
        have HR := Lib.hid (HR0.out.ext HXo.out)
        obtain ⟨c0, c1', c2, c3', c4'⟩ := HMo.out.five
        obtain ⟨e0, e1, e2, e3, e4, g0⟩ := HR.out.five
        go_wp2
        have hRl : wo.heap[w.heap.size + 1]? = some (.cells #[.int .i64 0, .slice none 0 0, .slice none 0 0, .slice none 0 0, .slice none 0 0] 27 (0, 0)) := HR.out
        refine bodyPost_ret (v := (TV.v ⟨t.P, ⟨a1, c1, t.ways.l⟩, q, ⟨a3, c3, t.starts.l⟩, ⟨a4, c4, t.legs.l⟩⟩)) (results_cell_row rfl _ _ (w.heap.size + 1) 27 #[.int .i64 (t.P : Int), .slice a1 t.ways.l.length c1, .slice q.a q.l.length q.c, .slice a3 t.starts.l.length c3, .slice a4 t.legs.l.length c4] (0, 0) _ rfl ?_ Tryz.underlying27 rfl (by kernel_rfl)) rfl ?_
        · exact heap_setCell_same (heap_setCell_same (heap_setCell_same (heap_setCell_same (heap_setCell_same hRl _) _) _) _) _
        · obtain ⟨q1, q2⟩ := clone_fin (u0 := .int .i64 (t.P : Int)) (u1 := .slice a1 t.ways.l.length c1) (u2 := .slice q.a q.l.length q.c) (u3 := .slice a3 t.starts.l.length c3) (u4 := .slice a4 t.legs.l.length c4) HR.out (Nat.le_succ _) HX0.out.size H3o.out HQ.out HT.out HQe.out HX0.out HXo.out
          exact ⟨⟨t.P, ⟨a1, c1, t.ways.l⟩, q, ⟨a3, c3, t.starts.l⟩, ⟨a4, c4, t.legs.l⟩⟩, rfl, q1, ⟨⟨rfl, rfl, HQe.out⟩, rfl, rfl⟩, q2⟩
end Go.Proofs.YtdejaliegbmgaaaGreat

namespace Go.Proofs.YtdejaliegbmgaaaGreat
open Go.RowKit
attribute [local go_sem] Oper.semAt_some

/-- A round that has returned: there were more lines than may be listed. -/
def LnIx (t : TV) (L : Nat → Nat → Nat → Bool) (b4 b5 n0 b1 : Nat) (w4 : World) (c : Code) (W : World) : Prop :=
  c = .ret ∧ 200 < (linesR t L).length ∧ W.heap[b4]? = some (.cells #[.slice none 0 0] 41 (0, 0)) ∧ W.heap[b5]? = some (.cells #[.int .i64 11] 38 (0, 0)) ∧ Keep (fun k => k < n0 ∧ k ≠ b1 ∧ k ≠ b4 ∧ k ≠ b5) w4 W

set_option maxRecDepth 100000 in
set_option maxHeartbeats 2000000 in
theorem Lines_any (t : TV) (r : SL Nat) (w : World) (ht : IsT w t) (hk : OkT t) (hr : IsSl 1 num w r) (hR : RdOk t r.l) :
    Calls Tryz.prog 16 #[t.v, .slice r.a r.l.length r.c] w fun e w' => (((linesR t (leadsOf t r.l)).length ≤ 200 ∧ ∃ (a : Option Addr) (c : Nat) (rows : List (SL Nat)), e = .returned (.tuple #[.slice a rows.length c, .int .i64 0]) ∧ IsSl 1 slC w' ⟨a, c, rows⟩ ∧ (∀ r ∈ rows, IsSl 1 num w' r) ∧
      rows.map (fun r => r.l) = linesR t (leadsOf t r.l)) ∨ (200 < (linesR t (leadsOf t r.l)).length ∧ e = .returned (.tuple #[.slice none 0 0, .int .i64 11]))) ∧ Ext w w' := by
  have HT := Lib.hid ht; clear ht
  have HK := Lib.hid hk; clear hk
  have HR := Lib.hid hr; clear hr
  have HRd := Lib.hid hR; clear hR
  refine callsIn_wide.1 (callsIn_of_wp_marks (n := 3) Tryz.func16 rfl trivial ?_ rfl)
  simp only [Tryz.ntmps16, List.size_toArray, List.length_cons, List.length_nil, Nat.reduceAdd, Nat.reduceSub, Array.replicate_succ, Array.replicate_zero, List.push_toArray, List.append_toArray, List.nil_append, List.cons_append]
  refine wpIn_wide.2 ?_
  obtain ⟨W0, hW0⟩ : ∃ W0, (((w.alloc (.cells #[.int .i64 (t.P : Int), .slice t.ways.a t.ways.l.length t.ways.c, .slice t.words.a t.words.l.length t.words.c, .slice t.starts.a t.starts.l.length t.starts.c, .slice t.legs.a t.legs.l.length t.legs.c] 27)).alloc (.cells #[.slice none 0 0] 41)).alloc (.cells #[.int .i64 0] 38)) = W0 := ⟨_, rfl⟩
  have hX0 : Ext w W0 := by rw [← hW0]; exact (((Ext.refl w).alloc _).alloc _).alloc _
  have hT0 : TBox W0 w.heap.size t := by rw [← hW0]; exact (((Ext.refl _).alloc _).alloc _).block (World.alloc_heap_new w _)
  have h40 : W0.heap[w.heap.size + 1]? = some (.cells #[.slice none 0 0] 41 (0, 0)) := by rw [← hW0]; exact ((Ext.refl _).alloc _).block (new2 w _ _)
  have h50 : W0.heap[w.heap.size + 1 + 1]? = some (.cells #[.int .i64 0] 38 (0, 0)) := by
    rw [← hW0]; have := new2 (w.alloc (.cells #[.int .i64 (t.P : Int), .slice t.ways.a t.ways.l.length t.ways.c, .slice t.words.a t.words.l.length t.words.c, .slice t.starts.a t.starts.l.length t.starts.c, .slice t.legs.a t.legs.l.length t.legs.c] 27)) (.cells #[.slice none 0 0] 41) (.cells #[.int .i64 0] 38)
    rw [World.size_alloc] at this; exact this
  have hs0 : W0.heap.size = w.heap.size + 3 := by rw [← hW0]; simp
  have HW0 := Lib.hid hW0; clear hW0
  go_wp2_with fail
  rw [HW0.out]
  clear HW0
  refine (checkReading_ok t r W0 (HT.out.ext hX0) HK.out (HR.out.ext hX0) HRd.out).mono ?_
  rintro e w1 ⟨rfl, hx1⟩
  have HX1 : Hid (Ext w w1) := hX0.trans hx1
  have HTB1 : Hid (TBox w1 w.heap.size t) := hx1.block hT0
  have HBx : Hid (w1.heap[w.heap.size + 1]? = some (.cells #[.slice none 0 0] 41 (0, 0)) ∧ w1.heap[w.heap.size + 1 + 1]? = some (.cells #[.int .i64 0] 38 (0, 0))) := ⟨hx1.block h40, hx1.block h50⟩
  have HLt : Hid (w.heap.size + 3 ≤ w1.heap.size) := by have := hx1.size; show _ ≤ _; omega
  have hlt1 : w.heap.size < w1.heap.size := by have := hx1.size; omega
  clear hX0 hT0 h40 h50 hs0 hx1
  have c0 := cell_at HTB1.out 0
  have c1 := cell_at HTB1.out 1
  have c2 := cell_at HTB1.out 2
  have c3 := cell_at HTB1.out 3
  have c4 := cell_at HTB1.out 4
  simp only [List.getElem?_toArray, List.getElem?_cons_succ, List.getElem?_cons_zero] at c0 c1 c2 c3 c4
  go_wp2_with fail
  clear c0 c1 c2 c3 c4
  have hbL := World.alloc_heap_new w1 (.cells #[.slice none 0 0] 41)
  have HX2 : Hid (Ext w1 (w1.alloc (.cells #[.slice none 0 0] 41))) := (Ext.refl w1).alloc _
  have hs2 : (w1.alloc (.cells #[.slice none 0 0] 41)).heap.size = w1.heap.size + 1 := World.size_alloc _ _
  generalize w1.alloc (.cells #[.slice none 0 0] 41) = w2 at *
  refine (read_any t r w2 (HT.out.ext (HX1.out.trans HX2.out)) HK.out (HR.out.ext (HX1.out.trans HX2.out)) HRd.out).mono ?_
  rintro e w3 ⟨p, rfl, hw3, hx3⟩
  have hbL3 := hx3.block hbL
  have hpb : p ≠ w1.heap.size := fun e => by
    obtain ⟨cs, q1, _⟩ := hw3
    rw [e, hbL3] at q1; simp at q1
  have hp3 : p < w3.heap.size := by obtain ⟨cs, q1, _⟩ := hw3; exact (Array.getElem?_eq_some_iff.1 q1).1
  have HW3 := Lib.hid hw3
  have HX3 := Lib.hid hx3
  have HPf : Hid (p ≠ w.heap.size + 1 ∧ p ≠ w.heap.size + 1 + 1) := ⟨fun e => by obtain ⟨cs, q1, _⟩ := hw3; rw [e, (HX2.out.trans hx3).block HBx.out.1] at q1; simp at q1, fun e => by obtain ⟨cs, q1, _⟩ := hw3; rw [e, (HX2.out.trans hx3).block HBx.out.2] at q1; simp at q1⟩
  have HS3 : Hid (w2.heap.size = w1.heap.size + 1 ∧ w2.heap.size ≤ w3.heap.size ∧ p ≠ w1.heap.size ∧ p < w3.heap.size) := ⟨hs2, hx3.size, hpb, hp3⟩
  have HbL3 := Lib.hid hbL3
  clear hbL hs2 hw3 hx3 hbL3 hpb
  go_wp2_with fail
  refine (lines_any p w3).mono ?_
  rintro e w4 ⟨rfl, hx4, hc4, hs4⟩
  have HX4 := Lib.hid hx4
  have HC4 := Lib.hid hc4
  have HS4 : Hid (w4.heap.size = w3.heap.size + 1) := hs4
  have HL4 : Hid (w4.heap[w1.heap.size]? = some (.cells #[.slice none 0 0] 41 (0, 0))) := hx4.block HbL3.out
  have HXw : Hid (Ext w w4) := HX1.out.trans (HX2.out.trans (HX3.out.trans hx4))
  clear hx4 hc4 hs4 hp3
  go_wp2_with fail
  refine (wpIn_wide (n := 3)).1 ?_
  refine wp_rangeFuncT (a₁ := ?a1) rfl enters_112 (lines1_gives t (leadsOf t r.l) p w3.heap.size w w4 (fun k => k ≠ w1.heap.size ∧ k ≠ w.heap.size + 1 ∧ k ≠ w.heap.size + 1 + 1) HK.out HT.out.starts HXw.out (HW3.out.ext HX4.out) HC4.out (fun k h => by have := HLt.out; omega) (by have := HS3.out; have := HLt.out; have := HPf.out; omega) (by have := HS3.out; have := HLt.out; omega)) rfl
    (fun hi pre W => Coll W w1.heap.size hi pre ∧ pre.length ≤ 200 ∧ Keep (But w4.heap.size w1.heap.size) w4 W) (fun hi c pre W => LnIx t (leadsOf t r.l) (w.heap.size + 1) (w.heap.size + 1 + 1) w4.heap.size w1.heap.size w4 c W)
    ?_ ?_ ?_ ?assign ?body ?done ?stop
  case assign =>
    intro l s W K hK
    gi_wp2
    exact hK
  · intro hi s A B hh h hk
    have := HS3.out
    have := HS4.out
    exact ⟨h.1.keep hk (.inl (by omega)) (fun i hi => .inr hi), h.2.1, h.2.2.trans (hk.mono (fun k _ h => .inl h.1))⟩
  · intro c hi s A B hh h hk
    have := HS3.out
    have := HS4.out
    have := HLt.out
    obtain ⟨rfl, q1, q2, q3, q4⟩ := h
    exact ⟨rfl, q1, hk.heap q2 (.inl (by omega)), hk.heap q3 (.inl (by omega)), q4.trans (hk.mono (fun k _ h => .inl h.1))⟩
  · intro hi hh
    exact ⟨Coll.nil HL4.out, by simp, Keep.refl _ _⟩
  case body =>
    rintro l hi pre s W hh hhW ⟨hC, hpl0, hKp⟩ hpre hsl hown
    have hS3 := HS3.out
    have hS4 := HS4.out
    have hLt := HLt.out
    obtain ⟨a, c, rows, h1, h2, h3, h4⟩ := hC
    have hrl : rows.length = pre.length := by have := congrArg List.length h4; simpa using this
    have hcb : W.cell? ⟨w1.heap.size, 0, none⟩ = some (.slice a rows.length c) := (cell_at h1 0).trans rfl
    have HPl : Hid (rows.length = pre.length) := hrl
    by_cases hrl2 : rows.length < 200
    · clear hrl hpl0
      have d200 : ((rows.length : Int) == 200) = false := by rw [beq_eq_false_iff_ne]; omega
      have H1 := Lib.hid h1; clear h1
      have H2 := Lib.hid h2; clear h2
      have H3 := Lib.hid h3; clear h3
      have H4 := Lib.hid h4; clear h4
      have HKp := Lib.hid hKp; clear hKp
      have HOs := Lib.hid hown; clear hown
      have HSl := Lib.hid hsl; clear hsl
      have hm1 : rows.length + 1 ≤ maxLen := by unfold maxLen; omega
      obtain ⟨i0, hi0, hz0, hz1, hz2⟩ := info_parts info24
      gi_wp2_with (gi_at_builtin; refine wpListIn_append_own _ rfl _ _ 41 rfl hi 24 i0 (.slice none 0 0) 1 24 Tryz.underlying41 hi0 hz0 hz1 hz2 rfl (by decide) _ rows.length (rows.map fun r => r.v) rfl (H2.out.alloc _) ⟨W.heap.size, 0, none⟩ 1 1 [s.v] rfl rfl (cell_one_new _ _ _) (by simp [Value.oneCell']) hm1 (by omega) (by simp; omega) ?_; intro v' w5 hown5 hgrow5 _;
                       obtain ⟨q1, q2, q3⟩ := Coll.append H1.out H2.out H3.out ⟨HSl.out, HOs.out⟩ hown5 hgrow5;
                       obtain ⟨g', cap', rfl⟩ := ownsRow_succ hown5; have hcb5 : w5.cell? ⟨w1.heap.size, 0, none⟩ = some (.slice a rows.length c) := (cell_at q1 0).trans rfl; have hfb5 : w5.frozen? ⟨w1.heap.size, 0, none⟩ = false := (by simp [World.frozen?, q1]); have Q2 := Lib.hid q2; have Q3 := Lib.hid q3; clear q1 q2 q3 hown5 hgrow5)
      refine ⟨Q3.out.mono (fun k hk h => ?_), ?_, by have := HPl.out; simp; omega, HKp.out.trans (Q3.out.mono (fun k _ h => ⟨by have := h.1; omega, h.2⟩))⟩
      · rcases h with h | h
        · exact ⟨by omega, h.2.1⟩
        · exact ⟨h.2, by omega⟩
      · have := Q2.out
        rw [List.map_append, H4.out] at this
        simpa using this
    · have hr200 : rows.length = 200 := by omega
      have hlong : 200 < (linesR t (leadsOf t r.l)).length := by
        have h1 := hpre.length_le
        simp only [List.length_append, List.length_cons, List.length_nil] at h1
        omega
      have hx24 : Ext w1 w4 := HX2.out.trans (HX3.out.trans HX4.out)
      have hB4 : W.heap[w.heap.size + 1]? = some (.cells #[.slice none 0 0] 41 (0, 0)) := hKp.heap (hx24.block HBx.out.1) ⟨by omega, by omega⟩
      have hB5 : W.heap[w.heap.size + 1 + 1]? = some (.cells #[.int .i64 0] 38 (0, 0)) := hKp.heap (hx24.block HBx.out.2) ⟨by omega, by omega⟩
      have hc4 : W.cell? ⟨w.heap.size + 1, 0, none⟩ = some (.slice none 0 0) := (cell_at hB4 0).trans rfl
      have hc5 : W.cell? ⟨w.heap.size + 1 + 1, 0, none⟩ = some (.int .i64 0) := (cell_at hB5 0).trans rfl
      have hf4 : W.frozen? ⟨w.heap.size + 1, 0, none⟩ = false := by simp [World.frozen?, hB4]
      have hf5 : W.frozen? ⟨w.heap.size + 1 + 1, 0, none⟩ = false := by simp [World.frozen?, hB5]
      have d200 : ((rows.length : Int) == 200) = true := by rw [hr200]; rfl
      have HB4 := Lib.hid hB4; clear hB4
      have HB5 := Lib.hid hB5; clear hB5
      have HKp := Lib.hid hKp; clear hKp
      clear hr200 hrl h1 h2 h3 h4 hpre hown
      have e12 : ¬ w.heap.size + 1 = w.heap.size + 1 + 1 := by omega
      have e21 : ¬ w.heap.size + 1 + 1 = w.heap.size + 1 := by omega
      gi_wp2_with fail
      have b4 : (W.setCell ⟨w.heap.size + 1, 0, none⟩ (.slice none 0 0)).heap[w.heap.size + 1]? = some (.cells #[.slice none 0 0] 41 (0, 0)) := heap_setCell_same HB4.out _
      have b5 : (W.setCell ⟨w.heap.size + 1, 0, none⟩ (.slice none 0 0)).heap[w.heap.size + 1 + 1]? = some (.cells #[.int .i64 0] 38 (0, 0)) := (Below.heap_setCell _ _ _ _ (by show w.heap.size + 1 + 1 ≠ _; omega)).trans HB5.out
      have K1 : Keep (fun k => k ≠ w1.heap.size ∧ k ≠ w.heap.size + 1 ∧ k ≠ w.heap.size + 1 + 1) W ((W.setCell ⟨w.heap.size + 1, 0, none⟩ (.slice none 0 0)).setCell ⟨w.heap.size + 1 + 1, 0, none⟩ (.int .i64 11)) :=
        ((Keep.refl _ W).setCell _ _ (fun _ h => h.2.1 rfl)).setCell _ _ (fun _ h => h.2.2 rfl)
      refine ⟨K1.mono (fun k hk h => ?_), rfl, hlong, (Below.heap_setCell _ _ _ _ (by show w.heap.size + 1 ≠ w.heap.size + 1 + 1; omega)).trans b4, heap_setCell_same b5 _, (HKp.out.mono (fun k _ h => ⟨h.1, h.2.1⟩)).trans (K1.mono (fun k _ h => h.2))⟩
      rcases h with h | h
      · exact h.2
      · exact ⟨by omega, by omega, by omega⟩
  case stop =>
    rintro hi c pre W hh hp ⟨rfl, q1, q2, q3, q4⟩ hD
    have hS3 := HS3.out
    have hS4 := HS4.out
    have hLt := HLt.out
    have hXw2 : Ext w (W.putObj w4.heap.size (.deferred none)) := ext_keep (ext_keep HXw.out q4 (fun i hi => ⟨by omega, by omega, by omega, by omega⟩)) ((Keep.refl (fun k => k ≠ w4.heap.size) W).putObj _ _ (fun h => h rfl)) (fun i hi => by omega)
    have f4 : (W.putObj w4.heap.size (.deferred none)).cell? ⟨w.heap.size + 1, 0, none⟩ = some (.slice none 0 0) := (cell_at ((World.putObj_heap_other (by omega)).trans q2) 0).trans rfl
    have f5 : (W.putObj w4.heap.size (.deferred none)).cell? ⟨w.heap.size + 1 + 1, 0, none⟩ = some (.int .i64 11) := (cell_at ((World.putObj_heap_other (by omega)).trans q3) 0).trans rfl
    apply wpIn_ret
    simp only [Exit.inBlock, Exit.then]
    refine ⟨by simp, .inl ⟨_, _, rfl, run_takeDeferred hD, ?_⟩⟩
    exact ⟨_, res2 rfl _ _ ⟨w.heap.size + 1, 0, none⟩ ⟨w.heap.size + 1 + 1, 0, none⟩ rfl rfl _ _ (load41 _ _ _ f4) (load38 _ _ _ f5), .inr ⟨q1, rfl⟩, hXw2⟩
  case done =>
    rintro hi W hh ⟨hC, hpl0, hKp⟩ hD
    have hS3 := HS3.out
    have hS4 := HS4.out
    have hLt := HLt.out
    have hlen : (linesR t (leadsOf t r.l)).length ≤ 1000000 := by omega
    have HPl := Lib.hid hpl0
    have hx24 : Ext w1 w4 := HX2.out.trans (HX3.out.trans HX4.out)
    have h4W : W.heap[w.heap.size + 1]? = some (.cells #[.slice none 0 0] 41 (0, 0)) := hKp.heap (hx24.block HBx.out.1) ⟨by omega, by omega⟩
    have h5W : W.heap[w.heap.size + 1 + 1]? = some (.cells #[.int .i64 0] 38 (0, 0)) := hKp.heap (hx24.block HBx.out.2) ⟨by omega, by omega⟩
    obtain ⟨a, c, rows, h1, h2, h3, h4⟩ := hC
    have HFin : Hid (∀ (v : Value), v = .slice a rows.length c → ∃ Wf, (Instr.takeDeferred w4.heap.size).run Tryz.prog ((W.setCell ⟨w.heap.size + 1, 0, none⟩ v).setCell ⟨w.heap.size + 1 + 1, 0, none⟩ (.int .i64 0)) = .ok [] Wf ∧ Wf.cell? ⟨w.heap.size + 1, 0, none⟩ = some v ∧ Wf.cell? ⟨w.heap.size + 1 + 1, 0, none⟩ = some (.int .i64 0) ∧
        IsSl 1 slC Wf ⟨a, c, rows⟩ ∧ (∀ r ∈ rows, IsSl 1 num Wf r) ∧ Ext w Wf) := by
      intro v hv
      have e1 : ((W.setCell ⟨w.heap.size + 1, 0, none⟩ v).setCell ⟨w.heap.size + 1 + 1, 0, none⟩ (.int .i64 0)).heap[w4.heap.size]? = some (.deferred (some [])) := by
        rw [Below.heap_setCell _ _ _ _ (by show w4.heap.size ≠ w.heap.size + 1 + 1; omega), Below.heap_setCell _ _ _ _ (by show w4.heap.size ≠ w.heap.size + 1; omega)]; exact hD
      have b4 : (W.setCell ⟨w.heap.size + 1, 0, none⟩ v).heap[w.heap.size + 1]? = some (.cells #[v] 41 (0, 0)) := heap_setCell_same h4W v
      have b4' : ((W.setCell ⟨w.heap.size + 1, 0, none⟩ v).setCell ⟨w.heap.size + 1 + 1, 0, none⟩ (.int .i64 0)).heap[w.heap.size + 1]? = some (.cells #[v] 41 (0, 0)) := by
        rw [Below.heap_setCell _ _ _ _ (by show w.heap.size + 1 ≠ w.heap.size + 1 + 1; omega)]; exact b4
      have b5 : (W.setCell ⟨w.heap.size + 1, 0, none⟩ v).heap[w.heap.size + 1 + 1]? = some (.cells #[.int .i64 0] 38 (0, 0)) := by
        rw [Below.heap_setCell _ _ _ _ (by show w.heap.size + 1 + 1 ≠ w.heap.size + 1; omega)]; exact h5W
      have b5' : ((W.setCell ⟨w.heap.size + 1, 0, none⟩ v).setCell ⟨w.heap.size + 1 + 1, 0, none⟩ (.int .i64 0)).heap[w.heap.size + 1 + 1]? = some (.cells #[.int .i64 0] 38 (0, 0)) := heap_setCell_same b5 _
      have KD : Keep (fun k => k ≠ w.heap.size + 1 ∧ k ≠ w.heap.size + 1 + 1 ∧ k ≠ w4.heap.size) W (((W.setCell ⟨w.heap.size + 1, 0, none⟩ v).setCell ⟨w.heap.size + 1 + 1, 0, none⟩ (.int .i64 0)).putObj w4.heap.size (.deferred none)) :=
        (((Keep.refl _ W).setCell _ _ (fun _ h => h.1 rfl)).setCell _ _ (fun _ h => h.2.1 rfl)).putObj _ _ (fun h => h.2.2 rfl)
      have hf : flat 1 slC rows = rows.map fun r => r.v := by simp [flat, slC, List.range_succ, ← List.map_eq_flatMap]
      have o2 := own_keep h2 KD (fun i hi => ⟨by omega, by omega, by omega⟩)
      rw [← hf] at o2
      refine ⟨_, run_takeDeferred e1, (cell_at ((World.putObj_heap_other (by omega)).trans b4') 0).trans rfl, (cell_at ((World.putObj_heap_other (by omega)).trans b5') 0).trans rfl, own_slG o2 (by rw [← h4] at hlen; simpa using hlen), fun r hr => own_sl (own_keep (h3 r hr).2 KD (fun i hi => ⟨by omega, by omega, by omega⟩)) (h3 r hr).1, ?_⟩
      exact ext_keep (ext_keep HXw.out hKp (fun i hi => ⟨by omega, by omega⟩)) KD (fun i hi => ⟨by omega, by omega, by omega⟩)
    have hcb : W.cell? ⟨w1.heap.size, 0, none⟩ = some (.slice a rows.length c) := (cell_at h1 0).trans rfl
    have hc4 : W.cell? ⟨w.heap.size + 1, 0, none⟩ = some (.slice none 0 0) := (cell_at h4W 0).trans rfl
    have hc5 : W.cell? ⟨w.heap.size + 1 + 1, 0, none⟩ = some (.int .i64 0) := (cell_at h5W 0).trans rfl
    have hf4 : W.frozen? ⟨w.heap.size + 1, 0, none⟩ = false := by simp [World.frozen?, h4W]
    have hf5 : W.frozen? ⟨w.heap.size + 1 + 1, 0, none⟩ = false := by simp [World.frozen?, h5W]
    have H4 := Lib.hid h4; clear h4
    have HD := Lib.hid hD; clear hD
    clear h1 h2 h3 h4W h5W hKp hlen hx24
    have e12 : ¬ w.heap.size + 1 = w.heap.size + 1 + 1 := by omega
    have e21 : ¬ w.heap.size + 1 + 1 = w.heap.size + 1 := by omega
    simp only [Exit.inBlock, Exit.then]
    go_wp2_with fail
    obtain ⟨Wf, f1, f2, f3, f4, f5, f6⟩ := HFin.out _ rfl
    refine ⟨by simp, .inl ⟨_, _, rfl, f1, ?_⟩⟩
    exact ⟨_, res2 rfl _ _ ⟨w.heap.size + 1, 0, none⟩ ⟨w.heap.size + 1 + 1, 0, none⟩ rfl rfl _ _ (load41 _ _ _ f2) (load38 _ _ _ f3), .inl ⟨HPl.out, a, c, rows, rfl, f4, f5, H4.out⟩, f6⟩
end Go.Proofs.YtdejaliegbmgaaaGreat

namespace Go.Proofs.YtdejaliegbmgaaaGreat

/-- Number i of a list. -/
def gt (l : List Nat) (i : Nat) : Nat := (l[i]?).getD 0
theorem gt_cons_zero (x : Nat) (l : List Nat) : gt (x :: l) 0 = x := rfl
theorem gt_cons_succ (x : Nat) (l : List Nat) (i : Nat) : gt (x :: l) (i + 1) = gt l i := by simp [gt]
theorem gt_take (l : List Nat) (k i : Nat) (h : i < k) : gt (l.take k) i = gt l i := by simp [gt, h]
theorem gt_drop (l : List Nat) (k i : Nat) : gt (l.drop k) i = gt l (k + i) := by simp [gt, List.getElem?_drop]

/-- A list keeps all of the last k of N legs, from a place on. -/
def LineFrom (L : Nat → Nat → Nat → Bool) (P N k : Nat) (l : List Nat) : Prop :=
  l.length = k + 1 ∧ (∀ i, 1 ≤ i → i ≤ k → gt l i < P) ∧ ∀ i, i < k → L (N - k + i) (gt l i) (gt l (i + 1)) = true

theorem lineFrom_reach (L : Nat → Nat → Nat → Bool) (P N k : Nat) (hk : k ≤ N) (l : List Nat) (h : LineFrom L P N k l) : reachB L P N k (gt l 0) = true := by
  refine (reachB_path L P N k hk _).2 ⟨fun i => gt l (i - (N - k)), by simp, fun i h1 h2 => h.2.1 _ (by omega) (by omega), fun i h1 h2 => ?_⟩
  have := h.2.2 (i - (N - k)) (by omega)
  rw [show N - k + (i - (N - k)) = i by omega] at this
  show L i (gt l (i - (N - k))) (gt l (i + 1 - (N - k))) = true
  rw [show i + 1 - (N - k) = i - (N - k) + 1 by omega]
  exact this

theorem mem_lnF (L : Nat → Nat → Nat → Bool) (P N : Nat) : ∀ k, k ≤ N → ∀ p l, l ∈ lnF L P N k p ↔ gt l 0 = p ∧ LineFrom L P N k l
  | 0, _, p, l => by
    show l ∈ [[p]] ↔ _
    rw [List.mem_singleton]
    constructor
    · rintro rfl; exact ⟨rfl, rfl, fun i h1 h2 => by omega, fun i h => by omega⟩
    · rintro ⟨h1, h2, -⟩
      match l, h2 with
      | [x], _ => rw [gt_cons_zero] at h1; rw [h1]
  | k + 1, hk, p, l => by
    have ih := mem_lnF L P N k (by omega)
    have hO := (openK_spec L P N N (Nat.le_refl _)).1 k (by omega)
    show l ∈ ((List.range P).flatMap fun q => if openK L P N N (N - (k + 1) + 1) q && L (N - (k + 1)) p q then lnF L P N k q else []).map (p :: ·) ↔ _
    rw [show N - (k + 1) + 1 = N - k by omega, List.mem_map]
    constructor
    · rintro ⟨m, hm, rfl⟩
      rw [List.mem_flatMap] at hm
      obtain ⟨q, hq, hm⟩ := hm
      have hqP : q < P := by simpa using hq
      split at hm
      · rename_i hc
        rw [Bool.and_eq_true] at hc
        obtain ⟨g1, g2, g3, g4⟩ := (ih q m).1 hm
        refine ⟨gt_cons_zero _ _, by simp [g2], fun i h1 h2 => ?_, fun i hi => ?_⟩
        · obtain ⟨j, rfl⟩ : ∃ j, i = j + 1 := ⟨i - 1, by omega⟩
          rw [gt_cons_succ]
          by_cases e : j = 0
          · rw [e, g1]; exact hqP
          · exact g3 j (by omega) (by omega)
        · cases i with
          | zero => rw [gt_cons_zero, gt_cons_succ, g1]; exact hc.2
          | succ i =>
            rw [gt_cons_succ, gt_cons_succ]
            have := g4 i (by omega)
            rwa [show N - k + i = N - (k + 1) + (i + 1) by omega] at this
      · simp at hm
    · rintro ⟨h1, h2, h3, h4⟩
      match l, h2 with
      | x :: m, h2 =>
        rw [gt_cons_zero] at h1
        subst h1
        refine ⟨m, ?_, rfl⟩
        have hm : LineFrom L P N k m := by
          refine ⟨by simpa using h2, fun i g1 g2 => ?_, fun i hi => ?_⟩
          · have := h3 (i + 1) (by omega) (by omega); rwa [gt_cons_succ] at this
          · have := h4 (i + 1) (by omega)
            rw [gt_cons_succ, gt_cons_succ] at this
            rwa [show N - (k + 1) + (i + 1) = N - k + i by omega] at this
        have hP : gt m 0 < P := by have := h3 1 (by omega) (by omega); rwa [gt_cons_succ] at this
        rw [List.mem_flatMap]
        refine ⟨gt m 0, by simpa using hP, ?_⟩
        have hL := h4 0 (by omega)
        rw [gt_cons_zero, gt_cons_succ, Nat.add_zero] at hL
        rw [if_pos (by rw [hO _ hP, lineFrom_reach L P N k (by omega) m hm, hL]; rfl)]
        exact (ih _ m).2 ⟨rfl, hm⟩

theorem nodup_lnF (L : Nat → Nat → Nat → Bool) (P N : Nat) : ∀ k, k ≤ N → ∀ p, (lnF L P N k p).Nodup
  | 0, _, p => by show ([[p]] : List (List Nat)).Nodup; simp
  | k + 1, hk, p => by
    show (((List.range P).flatMap fun q => if openK L P N N (N - (k + 1) + 1) q && L (N - (k + 1)) p q then lnF L P N k q else []).map (p :: ·)).Nodup
    unfold List.Nodup
    rw [List.pairwise_map, List.pairwise_flatMap]
    refine ⟨fun q hq => ?_, ?_⟩
    · split
      · exact (nodup_lnF L P N k (by omega) q).imp fun h e => h (by simpa using e)
      · exact List.Pairwise.nil
    · refine (List.nodup_range (n := P)).imp fun {a b} hab x hx y hy e => hab ?_
      have e' : x = y := by simpa using e
      split at hx
      · split at hy
        · have h1 := ((mem_lnF L P N k (by omega) _ _).1 hx).1
          have h2 := ((mem_lnF L P N k (by omega) _ _).1 hy).1
          rw [← h1, ← h2, e']
        · simp at hy
      · simp at hx

/-- A line that keeps all N legs, from one of the starts on. -/
def LineOk (L : Nat → Nat → Nat → Bool) (P N : Nat) (st l : List Nat) : Prop :=
  l.length = N + 1 ∧ gt l 0 ∈ st ∧ (∀ i, i ≤ N → gt l i < P) ∧ ∀ i, i < N → L i (gt l i) (gt l (i + 1)) = true

theorem mem_linesR (t : TV) (L : Nat → Nat → Nat → Bool) (hst : ∀ x ∈ t.starts.l, x < t.P) (l : List Nat) : l ∈ linesR t L ↔ LineOk L t.P t.legs.l.length t.starts.l l := by
  have hO := (openK_spec L t.P t.legs.l.length t.legs.l.length (Nat.le_refl _)).1 t.legs.l.length (Nat.le_refl _)
  rw [Nat.sub_self] at hO
  unfold linesR
  rw [List.mem_flatMap]
  constructor
  · rintro ⟨s, hs, hm⟩
    split at hm
    · obtain ⟨g1, g2, g3, g4⟩ := (mem_lnF L _ _ _ (Nat.le_refl _) _ _).1 hm
      refine ⟨g2, by rw [g1]; exact hs, fun i hi => ?_, fun i hi => ?_⟩
      · by_cases e : i = 0
        · rw [e, g1]; exact hst s hs
        · exact g3 i (by omega) hi
      · have := g4 i hi; rwa [Nat.sub_self, Nat.zero_add] at this
    · simp at hm
  · rintro ⟨h1, h2, h3, h4⟩
    have hm : LineFrom L t.P t.legs.l.length t.legs.l.length l := ⟨h1, fun i _ hi => h3 i hi, fun i hi => by rw [Nat.sub_self, Nat.zero_add]; exact h4 i hi⟩
    refine ⟨gt l 0, h2, ?_⟩
    rw [if_pos (by rw [hO _ (hst _ h2)]; exact lineFrom_reach L _ _ _ (Nat.le_refl _) l hm)]
    exact (mem_lnF L _ _ _ (Nat.le_refl _) _ _).2 ⟨rfl, hm⟩

theorem nodup_linesR (t : TV) (L : Nat → Nat → Nat → Bool) (hn : t.starts.l.Nodup) : (linesR t L).Nodup := by
  unfold linesR List.Nodup
  rw [List.pairwise_flatMap]
  refine ⟨fun s hs => ?_, hn.imp fun {a b} hab x hx y hy e => hab ?_⟩
  · split
    · exact nodup_lnF L _ _ _ (Nat.le_refl _) _
    · exact List.Pairwise.nil
  · split at hx
    · split at hy
      · have h1 := ((mem_lnF L _ _ _ (Nat.le_refl _) _ _).1 hx).1
        have h2 := ((mem_lnF L _ _ _ (Nat.le_refl _) _ _).1 hy).1
        rw [← h1, ← h2, e]
      · simp at hy
    · simp at hx

theorem nodup_sub {α : Type} [DecidableEq α] : ∀ {a b : List α}, a.Nodup → (∀ x ∈ a, x ∈ b) → a.length ≤ b.length
  | [], _, _, _ => Nat.zero_le _
  | x :: a, b, hn, hs => by
    have hx : x ∈ b := hs x (by simp)
    rw [List.nodup_cons] at hn
    have := nodup_sub (a := a) (b := b.erase x) hn.2 (fun y hy => by
      have hne : y ≠ x := fun e => hn.1 (e ▸ hy)
      exact (List.mem_erase_of_ne hne).2 (hs y (by simp [hy])))
    rw [List.length_erase_of_mem hx] at this
    have h1 : 0 < b.length := List.length_pos_of_mem hx
    simp only [List.length_cons]; omega

/-- How many lines of the second list go on where a line of the first one ends. -/
def metB (k : Nat) (m n : List Nat) : Bool := gt m k == gt n 0
def metN (k : Nat) (m : List Nat) (B : List (List Nat)) : Nat := (B.filter (metB k m)).length
def metS (k : Nat) (A B : List (List Nat)) : Nat := (A.map fun m => metN k m B).sum

/-- A treaty parted at a leg. -/
structure PartT (t a b : TV) (L La Lb : Nat → Nat → Nat → Bool) (k : Nat) : Prop where
  le : k ≤ t.legs.l.length
  Pa : a.P = t.P
  Pb : b.P = t.P
  Na : a.legs.l.length = k
  Nb : b.legs.l.length = t.legs.l.length - k
  Sa : a.starts.l = t.starts.l
  Sb : b.starts.l = List.range t.P
  La : ∀ i, i < k → La i = L i
  Lb : ∀ i, i < t.legs.l.length - k → Lb i = L (k + i)

section
variable {t a b : TV} {L La Lb : Nat → Nat → Nat → Bool} {k : Nat} (h : PartT t a b L La Lb k) (hst : ∀ x ∈ t.starts.l, x < t.P)
include h hst

theorem part_fst (l : List Nat) : l ∈ linesR a La ↔ LineOk L t.P k t.starts.l l := by
  rw [mem_linesR a La (by rw [h.Sa, h.Pa]; exact hst), h.Pa, h.Na, h.Sa]
  unfold LineOk
  constructor
  · rintro ⟨h1, h2, h3, h4⟩; exact ⟨h1, h2, h3, fun i hi => by rw [← h.La i hi]; exact h4 i hi⟩
  · rintro ⟨h1, h2, h3, h4⟩; exact ⟨h1, h2, h3, fun i hi => by rw [h.La i hi]; exact h4 i hi⟩
omit hst in
theorem part_snd (l : List Nat) : l ∈ linesR b Lb ↔ LineOk (fun i => L (k + i)) t.P (t.legs.l.length - k) (List.range t.P) l := by
  rw [mem_linesR b Lb (by rw [h.Sb, h.Pb]; intro x hx; simpa using hx), h.Pb, h.Nb, h.Sb]
  unfold LineOk
  constructor
  · rintro ⟨h1, h2, h3, h4⟩; exact ⟨h1, h2, h3, fun i hi => by show L (k + i) _ _ = true; rw [← h.Lb i hi]; exact h4 i hi⟩
  · rintro ⟨h1, h2, h3, h4⟩; exact ⟨h1, h2, h3, fun i hi => by rw [h.Lb i hi]; exact h4 i hi⟩

theorem part_halves {l : List Nat} (hl : l ∈ linesR t L) : l.length = t.legs.l.length + 1 ∧ l.take (k + 1) ∈ linesR a La ∧ l.drop k ∈ linesR b Lb := by
  obtain ⟨h1, h2, h3, h4⟩ := (mem_linesR t L hst l).1 hl
  have hk := h.le
  refine ⟨h1, (part_fst h hst _).2 ⟨by rw [List.length_take]; omega, by rw [gt_take _ _ _ (by omega)]; exact h2, fun i hi => by rw [gt_take _ _ _ (by omega)]; exact h3 i (by omega), fun i hi => by rw [gt_take _ _ _ (by omega), gt_take _ _ _ (by omega)]; exact h4 i (by omega)⟩,
    (part_snd h _).2 ⟨by rw [List.length_drop]; omega, by rw [gt_drop]; simpa using h3 k hk, fun i hi => by rw [gt_drop]; exact h3 _ (by omega), fun i hi => by rw [gt_drop, gt_drop]; exact h4 (k + i) (by omega)⟩⟩

theorem part_join {m n : List Nat} (hm : m ∈ linesR a La) (hn : n ∈ linesR b Lb) (hmn : gt m k = gt n 0) : m ++ n.tail ∈ linesR t L ∧ (m ++ n.tail).take (k + 1) = m ∧ (m ++ n.tail).drop k = n := by
  obtain ⟨h1, h2, h3, h4⟩ := (part_fst h hst m).1 hm
  obtain ⟨g1, g2, g3, g4⟩ := (part_snd h n).1 hn
  have hk := h.le
  have e1 : (m ++ n.tail).take (k + 1) = m := by rw [List.take_append_of_le_length (by omega), List.take_of_length_le (by omega)]
  have e2 : (m ++ n.tail).drop k = n := by
    rw [List.drop_append_of_le_length (by omega)]
    have : m.drop k = [gt m k] := by
      rw [List.drop_eq_getElem_cons (by omega), List.drop_of_length_le (by omega)]
      simp [gt, List.getElem?_eq_getElem (show k < m.length by omega)]
    rw [this, hmn]
    match n, g1 with
    | x :: n, _ => rfl
  have hl : (m ++ n.tail).length = t.legs.l.length + 1 := by rw [List.length_append, List.length_tail]; omega
  have A1 : ∀ i, i ≤ k → gt (m ++ n.tail) i = gt m i := fun i hi => by rw [← gt_take (m ++ n.tail) (k + 1) i (by omega), e1]
  have A2 : ∀ i, gt (m ++ n.tail) (k + i) = gt n i := fun i => by rw [← gt_drop, e2]
  refine ⟨(mem_linesR t L hst _).2 ⟨hl, by rw [A1 0 (by omega)]; exact h2, fun i hi => ?_, fun i hi => ?_⟩, e1, e2⟩
  · by_cases hik : i ≤ k
    · rw [A1 i hik]; exact h3 i hik
    · obtain ⟨j, rfl⟩ : ∃ j, i = k + j := ⟨i - k, by omega⟩
      rw [A2]; exact g3 j (by omega)
  · by_cases hik : i < k
    · rw [A1 i (by omega), A1 (i + 1) (by omega)]; exact h4 i hik
    · obtain ⟨j, rfl⟩ : ∃ j, i = k + j := ⟨i - k, by omega⟩
      rw [A2, show k + j + 1 = k + (j + 1) by omega, A2]; exact g4 j (by omega)

theorem part_many (hn : t.starts.l.Nodup) : metS k (linesR a La) (linesR b Lb) = (linesR t L).length := by
  have hna := nodup_linesR a La (by rw [h.Sa]; exact hn)
  have hnb := nodup_linesR b Lb (by rw [h.Sb]; exact List.nodup_range)
  have hnt := nodup_linesR t L hn
  have e1 : metS k (linesR a La) (linesR b Lb) = ((linesR a La).flatMap fun m => ((linesR b Lb).filter (metB k m)).map fun n => m ++ n.tail).length := by
    rw [List.length_flatMap]
    unfold metS metN
    congr 1
    refine List.map_congr_left fun m _ => ?_
    simp
  rw [e1]
  refine Nat.le_antisymm (nodup_sub ?_ fun l hl => ?_) (nodup_sub hnt fun l hl => ?_)
  · unfold List.Nodup
    rw [List.pairwise_flatMap]
    have hj : ∀ m ∈ linesR a La, ∀ n ∈ (linesR b Lb).filter (metB k m), (m ++ n.tail).take (k + 1) = m ∧ (m ++ n.tail).drop k = n := fun m hm n hn => by
      rw [List.mem_filter] at hn
      exact (part_join h hst hm hn.1 (by simpa [metB] using hn.2)).2
    refine ⟨fun m hm => ?_, ?_⟩
    · rw [List.pairwise_map]
      refine List.Pairwise.imp_of_mem (fun {x y} hx hy hxy e => hxy ?_) (hnb.filter _)
      rw [← (hj m hm x hx).2, ← (hj m hm y hy).2, e]
    · refine List.Pairwise.imp_of_mem (fun {m m'} hm hm' hne x hx y hy e => hne ?_) hna
      rw [List.mem_map] at hx hy
      obtain ⟨n, hn1, rfl⟩ := hx
      obtain ⟨n', hn2, rfl⟩ := hy
      rw [← (hj m hm n hn1).1, ← (hj m' hm' n' hn2).1, e]
  · rw [List.mem_flatMap] at hl
    obtain ⟨m, hm, hl⟩ := hl
    rw [List.mem_map] at hl
    obtain ⟨n, hn, rfl⟩ := hl
    rw [List.mem_filter] at hn
    exact (part_join h hst hm hn.1 (by simpa [metB] using hn.2)).1
  · obtain ⟨h1, h2, h3⟩ := part_halves h hst hl
    have hk := h.le
    rw [List.mem_flatMap]
    refine ⟨_, h2, ?_⟩
    rw [List.mem_map]
    refine ⟨l.drop k, ?_, ?_⟩
    · rw [List.mem_filter]
      refine ⟨h3, ?_⟩
      unfold metB
      rw [gt_take _ _ _ (by omega), gt_drop]
      simp
    · rw [List.tail_drop]
      exact List.take_append_drop _ _

theorem part_least (hs1 : 1 ≤ t.starts.l.length) (hN : t.legs.l.length ≤ 10) : leastF La a.P a.starts.l a.legs.l.length + leastF Lb b.P b.starts.l b.legs.l.length ≤ leastF L t.P t.starts.l t.legs.l.length := by
  have hs : ∃ s ∈ t.starts.l, s < t.P := ⟨t.starts.l[0], List.getElem_mem (by omega), hst _ (List.getElem_mem (by omega))⟩
  obtain ⟨p, p1, p2, p3⟩ := yieldL_path L t.P t.starts.l t.legs.l.length hs hN
  have hy := yieldL_length L t.P t.starts.l t.legs.l.length hs hN
  have hk := h.le
  have hb : (brkP L p t.legs.l.length).length ≤ (yieldL L t.P t.starts.l t.legs.l.length).length := by
    refine nodup_sub_length (List.nodup_range.filter _) fun i hi => ?_
    unfold brkP at hi
    rw [List.mem_filter, List.mem_range] at hi
    rcases p3 i hi.1 with g | g
    · rw [g] at hi; simp at hi
    · exact g
  have h1 := leastF_brk La a.P a.starts.l p a.legs.l.length (by rw [h.Sa]; exact p1) (fun i hi => by rw [h.Pa]; rw [h.Na] at hi; exact p2 i (by omega))
  have h2 := leastF_brk Lb b.P b.starts.l (fun i => p (k + i)) b.legs.l.length (by rw [h.Sb]; simpa using p2 k hk) (fun i hi => by rw [h.Pb]; rw [h.Nb] at hi; exact p2 _ (by omega))
  have e1 : ∀ n, n ≤ k → (brkP La p n).length = (brkP L p n).length := fun n => by
    induction n with
    | zero => intro _; rfl
    | succ n ih => intro hn; rw [brkP_succ, brkP_succ, ih (by omega), h.La n (by omega)]
  have e2 : ∀ n, n ≤ t.legs.l.length - k → (brkP L p k).length + (brkP Lb (fun i => p (k + i)) n).length = (brkP L p (k + n)).length := fun n => by
    induction n with
    | zero => intro _; rfl
    | succ n ih =>
      intro hn
      rw [brkP_succ, show k + (n + 1) = (k + n) + 1 by omega, brkP_succ, ← ih (by omega), h.Lb n (by omega)]
      show _ + (_ + cost (L (k + n) (p (k + n)) (p (k + n + 1)))) = _
      omega
  have e3 := e2 (t.legs.l.length - k) (Nat.le_refl _)
  rw [show k + (t.legs.l.length - k) = t.legs.l.length by omega] at e3
  have e4 := e1 k (Nat.le_refl _)
  rw [h.Na] at h1 ⊢
  rw [h.Nb] at h2 ⊢
  omega
end
end Go.Proofs.YtdejaliegbmgaaaGreat

namespace Go.Proofs.YtdejaliegbmgaaaGreat

theorem SameT.refl (t : TV) : SameT t t := ⟨⟨rfl, rfl, rfl⟩, rfl, rfl⟩

theorem meanAt_lists (t : TV) (r : List Nat) (k : Nat) : meanAt t r k = (((t.words.l.map listsOf)[k]?.bind fun x => x[(r[k]?).getD 0]?).getD ([], [])) := by
  unfold meanAt
  rw [List.getElem?_map]
  cases h : t.words.l[k]? with
  | none => simp
  | some s =>
    simp only [Option.map_some, Option.bind_some, listsOf, List.getElem?_map]
    cases h2 : s.l[(r[k]?).getD 0]? <;> simp
theorem legMean_same {t t' : TV} (h : SameW t t') (r : List Nat) (x : Nat × Int) : legMean t' r x = legMean t r x := by
  unfold legMean
  simp only [meanAt_lists, h.words]
theorem leadsOf_same {t t' : TV} (h : SameW t t') (r : List Nat) (k k' : Nat) (hl : t'.legs.l[k']? = t.legs.l[k]?) : leadsOf t' r k' = leadsOf t r k := by
  unfold leadsOf
  rw [hl]
  cases t.legs.l[k]? with
  | none => rfl
  | some x => simp only [legMean_same h, h.ways]

theorem words_length {t t' : TV} (h : SameW t t') : t'.words.l.length = t.words.l.length := by have := congrArg List.length h.words; simpa using this
theorem words_at {t t' : TV} (h : SameW t t') (k : Nat) (h1 : k < t'.words.l.length) (h2 : k < t.words.l.length) : listsOf t'.words.l[k] = listsOf t.words.l[k] := by
  have := congrArg (fun l => l[k]?) h.words
  simp only [List.getElem?_map, List.getElem?_eq_getElem h1, List.getElem?_eq_getElem h2, Option.map_some, Option.some.injEq] at this
  exact this
theorem lists_length {s s' : SL MV} (h : listsOf s' = listsOf s) : s'.l.length = s.l.length := by have := congrArg List.length h; simpa [listsOf] using this
theorem RdOk.same {t t' : TV} (h : SameW t t') {r : List Nat} (hr : RdOk t r) : RdOk t' r := by
  refine ⟨hr.1.trans (words_length h).symm, fun k hk hk' => ?_⟩
  have h2 : k < t.words.l.length := by rw [← words_length h]; exact hk'
  rw [lists_length (words_at h k hk' h2)]
  exact hr.2 k hk h2

theorem OkT.part {t t' : TV} (hk : OkT t) (h : SameW t t') (h1 : 1 ≤ t'.starts.l.length) (h2 : t'.starts.l.length ≤ t.P) (hs : (∀ s ∈ t'.starts.l, s < t.P) ∧ t'.starts.l.Pairwise (· < ·)) (hl : ∀ g ∈ t'.legs.l, g ∈ t.legs.l) (hn : t'.legs.l.length ≤ 10) : OkT t' := by
  have hw : ∀ s ∈ t'.words.l, ∃ q ∈ t.words.l, listsOf s = listsOf q := by
    intro s hs
    have : listsOf s ∈ t.words.l.map listsOf := by rw [← h.words]; exact List.mem_map.2 ⟨s, hs, rfl⟩
    obtain ⟨q, hq, e⟩ := List.mem_map.1 this
    exact ⟨q, hq, e.symm⟩
  have hm : ∀ {s q : SL MV}, listsOf s = listsOf q → ∀ m ∈ s.l, ∃ p ∈ q.l, p.k.l = m.k.l ∧ p.e.l = m.e.l := by
    intro s q e m hm
    have : (m.k.l, m.e.l) ∈ listsOf q := by rw [← e]; exact List.mem_map.2 ⟨m, hm, rfl⟩
    obtain ⟨p, hp, e2⟩ := List.mem_map.1 this
    rw [Prod.mk.injEq] at e2
    exact ⟨p, hp, e2⟩
  refine { p1 := by rw [h.P]; exact hk.p1, p2 := by rw [h.P]; exact hk.p2, ways := by rw [h.ways]; exact hk.ways, words := by rw [words_length h]; exact hk.words, starts1 := h1, starts2 := by rw [h.P]; exact h2, legs := hn, word := fun s hs => ?_, way := by rw [h.ways, h.P]; exact hk.way, kinds := fun s hs m hms => ?_, ends := fun s hs m hms => ?_, start := by rw [h.P]; exact hs, leg := fun g hg => by rw [words_length h]; exact hk.leg g (hl g hg), many := ?_ }
  · obtain ⟨q, hq, e⟩ := hw s hs
    rw [lists_length e]; exact hk.word q hq
  · obtain ⟨q, hq, e⟩ := hw s hs
    obtain ⟨p, hp, e1, e2⟩ := hm e m hms
    rw [← e1]; exact hk.kinds q hq p hp
  · obtain ⟨q, hq, e⟩ := hw s hs
    obtain ⟨p, hp, e1, e2⟩ := hm e m hms
    rw [← e2, h.P]; exact hk.ends q hq p hp
  · have e : t'.words.l.map (·.l.length) = t.words.l.map (·.l.length) := by
      have := congrArg (fun l => l.map List.length) h.words
      simpa [listsOf, List.map_map, Function.comp_def] using this
    rw [e]; exact hk.many

/-- The parts of a treaty at a leg, and what their legs lead to. -/
theorem part_of {t a b : TV} (hk : OkT t) (r : List Nat) (k : Nat) (hkl : k ≤ t.legs.l.length) (ha : SameW t a) (hb : SameW t b) (as1 : a.starts.l = t.starts.l) (bs1 : b.starts.l = List.range t.P) (al : a.legs.l = t.legs.l.take k) (bl : b.legs.l = t.legs.l.drop k) :
    PartT t a b (leadsOf t r) (leadsOf a r) (leadsOf b r) k ∧ OkT a ∧ OkT b := by
  have h10 := hk.legs
  refine ⟨⟨hkl, ha.P, hb.P, by rw [al, List.length_take]; omega, by rw [bl, List.length_drop], as1, bs1, fun i hi => leadsOf_same ha r i i (by rw [al, List.getElem?_take, if_pos hi]), fun i hi => leadsOf_same hb r (k + i) i (by rw [bl, List.getElem?_drop])⟩, ?_, ?_⟩
  · exact hk.part ha (by rw [as1]; exact hk.starts1) (by rw [as1]; exact hk.starts2) (by rw [as1]; exact hk.start) (fun g hg => List.mem_of_mem_take (by rwa [al] at hg)) (by rw [al, List.length_take]; omega)
  · exact hk.part hb (by rw [bs1, List.length_range]; exact hk.p1) (by rw [bs1, List.length_range]; exact Nat.le_refl _) (by rw [bs1]; exact ⟨fun s hs => by simpa using hs, List.pairwise_lt_range⟩) (fun g hg => List.mem_of_mem_drop (by rwa [bl] at hg)) (by rw [bl, List.length_drop]; omega)
end Go.Proofs.YtdejaliegbmgaaaGreat

namespace Go.Proofs.YtdejaliegbmgaaaGreat
open Go.RowKit

set_option maxHeartbeats 400000 in
theorem indexRow_any (g : Nat) (cap : Array Value) (D : SL Nat → Prop) (p : SL Nat → Bool) (a : Option Addr) (n c : Nat) (l : List (SL Nat)) (w : World) (hE : Enters Tryz.prog g) (hn : l.length = n) (hv : IsSl 1 slC w ⟨a, c, l⟩)
    (hp : Asks Tryz.prog g cap (fun x : SL Nat => #[.slice x.a x.l.length x.c]) D p w) (hD : ∀ x ∈ l, D x) :
    Calls Tryz.prog 136 #[.slice a n c, .func (.func g) #[] cap] w fun e w' => (∃ r : Int, e = .returned (.int .i64 r) ∧ ((r = -1 ∧ l.any p = false) ∨ (0 ≤ r ∧ l.any p = true))) ∧ Ext w w' := by
  subst hn
  obtain ⟨h1, h2, h3⟩ := hv
  dsimp only at h1 h2 h3
  have H3 := Lib.hid h3; clear h3
  have HP := Lib.hid hp; clear hp
  have HD := Lib.hid hD; clear hD
  have HE : ∀ args w, (callFunc g args).run Tryz.prog w = .ok (.enter g args) w := hE; clear hE
  go_enter Tryz.func136, Tryz.ntmps136
  go_wp2
  go_loopw [8] (fun i wr => ∃ k : Nat, k ≤ l.length ∧ i = .int .i64 k ∧ Hid ((l.take k).all (fun x => !p x) = true) ∧ Ext w wr) (fun i _ => l.length - (intOf i).toNat)
  case atStart => exact ⟨0, Nat.zero_le _, rfl, by simp [Hid], Ext.refl _⟩
  case round =>
    obtain ⟨k, hk, rfl, HA, hext⟩ := hrel
    by_cases hlt : k < l.length
    · obtain ⟨b, off, rfl, hc⟩ := H3.out.resolve_left (by omega)
      have hcell : wr.cell? ⟨b, off + k, none⟩ = some (.slice l[k].a l[k].l.length l[k].c) := by have := hext.cell (hc k (by simpa using hlt) 0 (by omega)); simpa [slC] using this
      clear hc
      have HDy := Lib.hid (HD.out _ (List.getElem_mem hlt))
      have HAn : Hid ((l.take (k + 1)).all (fun x => !p x) = ((l.take k).all (fun x => !p x) && !p l[k])) := all_take_succ _ _ _ hlt
      have HMy : Hid (l[k] ∈ l) := List.getElem_mem _
      generalize l[k] = y at *
      have HX := Lib.hid hext; clear hext
      go_wp2_with fail
      refine (HP.out y HDy.out wr HX.out).mono ?_
      rintro e w1 ⟨rfl, hx1⟩
      have HX1 := Lib.hid (HX.out.trans hx1); clear hx1
      cases hpx : p y
      · have Hpx := Lib.hid hpx; clear hpx
        go_wp2
        go_roundw
        case rel => exact ⟨k + 1, by omega, by go_num, by show _ = true; rw [HAn.out, HA.out, Hpx.out]; rfl, HX1.out⟩
        case measure => simp [intOf]; omega
      · have Hpx := Lib.hid hpx; clear hpx
        go_wp2
        go_ret
        exact ⟨⟨k, rfl, .inr ⟨by omega, List.any_eq_true.2 ⟨y, HMy.out, Hpx.out⟩⟩⟩, HX1.out⟩
    · have HX := Lib.hid hext; clear hext
      go_wp2
      go_ret
      refine ⟨⟨-1, rfl, .inl ⟨rfl, ?_⟩⟩, HX.out⟩
      have := HA.out
      rw [List.take_of_length_le (by omega)] at this
      rw [List.any_eq_false]; intro x hx; have := List.all_eq_true.1 this x hx; simpa using this

set_option maxHeartbeats 400000 in
theorem containsRow_any (g : Nat) (cap : Array Value) (D : SL Nat → Prop) (p : SL Nat → Bool) (a : Option Addr) (n c : Nat) (l : List (SL Nat)) (w : World) (hE : Enters Tryz.prog g) (hn : l.length = n) (hv : IsSl 1 slC w ⟨a, c, l⟩)
    (hp : Asks Tryz.prog g cap (fun x : SL Nat => #[.slice x.a x.l.length x.c]) D p w) (hD : ∀ x ∈ l, D x) :
    Calls Tryz.prog 98 #[.slice a n c, .func (.func g) #[] cap] w fun e w' => e = .returned (.bool (l.any p)) ∧ Ext w w' := by
  have HI := Lib.hid (indexRow_any g cap D p a n c l w hE hn hv hp hD)
  clear hE hn hv hp hD
  go_enter Tryz.func98, Tryz.ntmps98
  go_wp2_with fail
  refine HI.out.mono ?_
  rintro e w' ⟨⟨r, rfl, hr⟩, hx⟩
  have HR := Lib.hid hr; clear hr
  have HX := Lib.hid hx; clear hx
  go_wp2
  go_ret
  refine ⟨?_, HX.out⟩
  rcases HR.out with ⟨rfl, hall⟩ | ⟨h0, hall⟩
  · rw [hall]; rfl
  · rw [hall]
    have h0' : decide ((0 : Int) ≤ r) = true := by simpa using h0
    show Ending.returned (.bool (decide ((0 : Int) ≤ r))) = _
    rw [h0']

theorem among1_any (b : Nat) (x y : SL Nat) (w : World) (hc : w.heap[b]? = some (.cells #[.slice x.a x.l.length x.c] 24 (0, 0))) (hx : IsSl 1 num w x) (hy : IsSl 1 num w y) :
    Calls Tryz.prog 99 #[.slice y.a y.l.length y.c, .pointer (some ⟨b, 0, none⟩)] w fun e w' => e = .returned (.bool (decide (x.l = y.l))) ∧ Ext w w' := by
  have HE := Lib.hid (equal_any x y w hx hy)
  have c0 : w.cell? ⟨b, 0, none⟩ = some (.slice x.a x.l.length x.c) := (cell_at hc 0).trans rfl
  clear hc hx hy
  generalize decide (x.l = y.l) = r at *
  go_enter Tryz.func99, Tryz.ntmps99
  go_wp2_with fail
  refine HE.out.mono ?_
  rintro e w' ⟨rfl, hx⟩
  have HX : Hid (Ext w w') := hx.ext
  clear hx
  go_wp2
  go_ret
  exact ⟨rfl, HX.out⟩

theorem enters_99 : Enters Tryz.prog 99 := fun args w => Proofs.enters_of Tryz.func99 (by kernel_rfl) rfl args w

set_option maxHeartbeats 400000 in
theorem among_any (s t : SL (SL Nat)) (w : World) (hs : IsSl 1 slC w s) (ht : IsSl 1 slC w t) (hrs : ∀ r ∈ s.l, IsSl 1 num w r) (hrt : ∀ r ∈ t.l, IsSl 1 num w r) :
    Calls Tryz.prog 48 #[.slice s.a s.l.length s.c, .slice t.a t.l.length t.c] w fun e w' => e = .returned (.bool (s.l.all fun x => t.l.any fun y => decide (x.l = y.l))) ∧ Ext w w' := by
  obtain ⟨a, c, l⟩ := s
  obtain ⟨h1, h2, h3⟩ := hs
  dsimp only at h1 h2 h3 hrs ⊢
  have H3 := Lib.hid h3; clear h3
  have HT := Lib.hid ht; clear ht
  have HRs := Lib.hid hrs; clear hrs
  have HRt := Lib.hid hrt; clear hrt
  go_enter Tryz.func48, Tryz.ntmps48
  go_wp2
  go_loopw [9] (fun i wr => ∃ k : Nat, k ≤ l.length ∧ i = .int .i64 k ∧ Hid ((l.take k).all (fun x => t.l.any fun y => decide (x.l = y.l)) = true) ∧ Hid (Ext w wr)) (fun i _ => l.length - (intOf i).toNat)
  case atStart => exact ⟨0, Nat.zero_le _, rfl, by simp [Hid], Ext.refl _⟩
  case round =>
    obtain ⟨k, hk, rfl, HA, HX⟩ := hrel
    by_cases hlt : k < l.length
    · have dk : decide ((k : Int) < (l.length : Int)) = true := by simpa using hlt
      obtain ⟨b, off, rfl, hc⟩ := H3.out.resolve_left (by omega)
      have hcell : wr.cell? ⟨b, off + k, none⟩ = some (.slice l[k].a l[k].l.length l[k].c) := by have := HX.out.cell (hc k (by simpa using hlt) 0 (by omega)); simpa [slC] using this
      clear hc
      have HAn : Hid ((l.take (k + 1)).all (fun x => t.l.any fun y => decide (x.l = y.l)) = ((l.take k).all (fun x => t.l.any fun y => decide (x.l = y.l)) && (t.l.any fun y => decide (l[k].l = y.l)))) := all_take_succ _ _ _ hlt
      have HMy : Hid (l[k] ∈ l) := List.getElem_mem _
      generalize l[k] = y at *
      go_wp2_with fail
      have hx1 : Ext w (wr.alloc (.cells #[.slice y.a y.l.length y.c] 24)) := HX.out.alloc _
      refine (containsRow_any 99 #[.pointer (some ⟨wr.heap.size, 0, none⟩)] (fun r => r ∈ t.l) (fun r => decide (y.l = r.l)) t.a t.l.length t.c t.l _ enters_99 rfl (HT.out.ext hx1) ?_ (fun x hx => hx)).mono ?_
      · intro r hr w' hw'
        exact among1_any wr.heap.size y r w' (hw'.block (World.alloc_heap_new wr _)) ((HRs.out y HMy.out).ext (hx1.trans hw')) ((HRt.out r hr).ext (hx1.trans hw'))
      · rintro e w1 ⟨rfl, hx2⟩
        have HX2 : Hid (Ext w w1) := hx1.trans hx2
        clear hx1 hx2
        cases hb : t.l.any fun r => decide (y.l = r.l)
        · have HB := Lib.hid hb; clear hb
          go_wp2
          go_ret
          refine ⟨?_, HX2.out⟩
          have : (l.all fun x => t.l.any fun y => decide (x.l = y.l)) = false := by
            rw [List.all_eq_false]; exact ⟨y, HMy.out, by rw [HB.out]; simp⟩
          rw [this]; rfl
        · have HB := Lib.hid hb; clear hb
          go_wp2
          go_roundw
          case rel => exact ⟨k + 1, by omega, by go_num, by show _ = true; rw [HAn.out, HA.out, HB.out]; rfl, HX2⟩
          case measure => simp [intOf]; omega
    · have dk : decide ((k : Int) < (l.length : Int)) = false := decide_eq_false (by omega)
      have HA2 : Hid ((l.all fun x => t.l.any fun y => decide (x.l = y.l)) = true) := by
        have := HA.out
        rwa [List.take_of_length_le (by omega)] at this
      clear HA
      go_wp2
      go_ret
      exact ⟨by rw [HA2.out]; rfl, HX.out⟩
end Go.Proofs.YtdejaliegbmgaaaGreat

namespace Go.Proofs.YtdejaliegbmgaaaGreat
open Go.RowKit

/-- The two copies of a treaty, in boxes. -/
def TwoOf (t : TV) (w : World) (s9 s10 : Value) (wx : World) : Prop :=
  ∃ (A B : Nat) (ta tb : TV), s9 = .pointer (some ⟨A, 0, none⟩) ∧ s10 = .pointer (some ⟨B, 0, none⟩) ∧ A ≠ B ∧ w.heap.size ≤ A ∧ w.heap.size ≤ B ∧ A < wx.heap.size ∧ B < wx.heap.size ∧
    Hid (MkT wx A ta.P ta.ways.v ta.words.v ta.starts.v ta.legs.v) ∧ Hid (MkT wx B tb.P tb.ways.v tb.words.v tb.starts.v tb.legs.v) ∧ Hid (∀ w', G2 A B wx w' → IsT w' ta ∧ IsT w' tb) ∧ Hid (SameT t ta) ∧ Hid (SameT t tb) ∧ Hid (Ext w wx)

theorem G2.setA {D B : Nat} {a b : World} (h : G2 D B a b) (i : Nat) (v : Value) : G2 D B a (b.setCell ⟨D, i, none⟩ v) :=
  h.step (row := some D) ⟨rfl, rfl, rfl, by simp [World.setCell], fun k _ hne => Below.heap_setCell _ _ _ _ (fun e => hne (by rw [e]))⟩ (fun i e => by cases e; exact .inl rfl)
theorem G2.al {D B : Nat} {a b : World} (h : G2 D B a b) (o : Obj) : G2 D B a (b.alloc o) := h.ext ((Ext.refl b).alloc o)
theorem G2.dr {D B : Nat} {a b : World} (h : G2 D B a b) : G2 D B a b.drew := h.ext (Ext.refl b).drew
theorem MkT.al {w : World} {B P : Nat} {a b c d : Value} (h : MkT w B P a b c d) (o : Obj) : MkT (w.alloc o) B P a b c d := ((Ext.refl w).alloc o).block h
theorem MkT.dr {w : World} {B P : Nat} {a b c d : Value} (h : MkT w B P a b c d) : MkT w.drew B P a b c d := ((Ext.refl w).drew).block h
theorem MkT.ne {w : World} {A B P i : Nat} {a b c d v : Value} (h : MkT w B P a b c d) (hne : A ≠ B) : MkT (w.setCell ⟨A, i, none⟩ v) B P a b c d := heap_set_other _ _ _ _ h (fun e => hne e.symm)
theorem ZB.al {w : World} {B : Nat} (h : ZB w B) (o : Obj) : ZB (w.alloc o) B := h.ext ((Ext.refl w).alloc o)
theorem ZB.ne {w : World} {A B i : Nat} {v : Value} (h : ZB w B) (hne : A ≠ B) : ZB (w.setCell ⟨A, i, none⟩ v) B := heap_set_other _ _ _ _ h (fun e => hne e.symm)
theorem mkt_new (w : World) (P : Nat) (a b c d : Value) : MkT (w.alloc (.cells #[.int .i64 (P : Int), a, b, c, d] 27)) w.heap.size P a b c d := World.alloc_heap_new w _
theorem mkt_new1 (w : World) (o : Obj) (P : Nat) (a b c d : Value) : MkT ((w.alloc o).alloc (.cells #[.int .i64 (P : Int), a, b, c, d] 27)) (w.heap.size + 1) P a b c d := by
  have := World.alloc_heap_new (w.alloc o) (.cells #[.int .i64 (P : Int), a, b, c, d] 27); rwa [World.size_alloc] at this
theorem zb_at (w : World) : ZB (w.alloc boxZ) w.heap.size := World.alloc_heap_new w _
theorem zb_at1 (w : World) (o : Obj) : ZB ((w.alloc o).alloc boxZ) (w.heap.size + 1) := by
  have := World.alloc_heap_new (w.alloc o) boxZ; rwa [World.size_alloc] at this
theorem zb_call2 {w v : World} (h : Ext ((w.alloc boxZ).alloc boxZ).drew v) : ZB v w.heap.size ∧ ZB v (w.heap.size + 1) := ⟨h.block (show ZB ((w.alloc boxZ).alloc boxZ) w.heap.size from (zb_at w).al _), h.block (show ZB ((w.alloc boxZ).alloc boxZ) (w.heap.size + 1) from zb_at1 w _)⟩
theorem zb_new2 {w v : World} (h : Ext ((w.alloc boxZ).alloc boxZ) v) : ZB v w.heap.size ∧ ZB v (w.heap.size + 1) := ⟨((zb_at w).al _).ext h, (zb_at1 w _).ext h⟩
theorem sz0d (w : World) : w.drew.heap.size = w.heap.size := rfl
theorem sz1 (w : World) (o : Obj) : (w.alloc o).heap.size = w.heap.size + 1 := World.size_alloc _ _
theorem sz2 (w : World) (o o' : Obj) : ((w.alloc o).alloc o').heap.size = w.heap.size + 2 := by rw [World.size_alloc, World.size_alloc]
theorem sz1d (w : World) (o : Obj) : (w.alloc o).drew.heap.size = w.heap.size + 1 := sz1 w o
theorem sz2d (w : World) (o o' : Obj) : ((w.alloc o).alloc o').drew.heap.size = w.heap.size + 2 := sz2 w o o'
theorem istk_at {X v : World} {t : TV} (h : IsTK X.heap.size v t) (hx : Ext X v) : ∃ lo, lo = X.heap.size ∧ lo ≤ v.heap.size ∧ Hid (IsTK lo v t) := ⟨_, rfl, hx.size, h⟩

theorem ext_g2 {w a b : World} {A B : Nat} (h : Ext w a) (g : G2 A B a b) (hA : w.heap.size ≤ A) (hB : w.heap.size ≤ B) : Ext w b :=
  ⟨g.os.trans h.os, g.tape.trans h.tape, g.output.trans h.output, Nat.le_trans h.size g.size, fun c hc => (g.block c (by have := h.size; omega) (by omega) (by omega)).trans (Below.block h c hc)⟩

theorem two_fin {w3 v1 v2 W : World} {A B lo1 lo2 : Nat} {t ta tb : TV} (hne : A ≠ B) (hA : w3.heap.size ≤ A) (hB : w3.heap.size ≤ B) (K1 : IsTK lo1 v1 ta) (K2 : IsTK lo2 v2 tb) (X1 : Ext w3 v1) (X12 : Ext v1 v2)
    (dA1 : A < lo1 ∨ v1.heap.size ≤ A) (dB1 : B < lo1 ∨ v1.heap.size ≤ B) (dA2 : A < lo2 ∨ v2.heap.size ≤ A) (dB2 : B < lo2 ∨ v2.heap.size ≤ B) (Sa : SameT t ta) (Sb : SameT t tb) (g : G2 A B v2 W)
    (MA : MkT W A ta.P ta.ways.v ta.words.v ta.starts.v ta.legs.v) (MB : MkT W B tb.P tb.ways.v tb.words.v tb.starts.v tb.legs.v) : TwoOf t w3 (.pointer (some ⟨A, 0, none⟩)) (.pointer (some ⟨B, 0, none⟩)) W := by
  have h3 := X1.trans X12
  have hs1 := X12.size
  have hs2 := g.size
  refine ⟨A, B, ta, tb, rfl, rfl, hne, hA, hB, (Array.getElem?_eq_some_iff.1 MA).1, (Array.getElem?_eq_some_iff.1 MB).1, MA, MB, fun w' k => ⟨K1 w' fun b h1 h2 => ?_, K2 w' fun b h1 h2 => ?_⟩, Sa, Sb, ext_g2 h3 g hA hB⟩
  · exact ((k.block b (by omega) (by omega) (by omega)).trans (g.block b (by omega) (by omega) (by omega))).trans (Below.block X12 b h2)
  · exact (k.block b (by omega) (by omega) (by omega)).trans (g.block b (by omega) (by omega) (by omega))

theorem IsSl.take {α : Type} {sz : Nat} {cs : α → Nat → Value} {w : World} {a : Option Addr} {c : Nat} {l : List α} (h : IsSl sz cs w ⟨a, c, l⟩) (k : Nat) : IsSl sz cs w ⟨a, c, l.take k⟩ := by
  obtain ⟨h1, h2, h3⟩ := h
  dsimp only at h1 h2 h3
  refine ⟨by simp only [List.length_take]; omega, by simp only [List.length_take]; omega, ?_⟩
  rcases h3 with h3 | ⟨b, off, h4, h5⟩
  · exact .inl (by simp only [List.length_take]; omega)
  · refine .inr ⟨b, off, h4, fun i hi j hj => ?_⟩
    simp only [List.length_take] at hi
    rw [h5 i (by omega) j hj]; simp
theorem IsSl.drop {α : Type} {sz : Nat} {cs : α → Nat → Value} {w : World} {a : Option Addr} {c : Nat} {l : List α} (h : IsSl sz cs w ⟨a, c, l⟩) (k : Nat) : IsSl sz cs w ⟨if c = k then a else a.map (·.add (k * sz)), c - k, l.drop k⟩ := by
  obtain ⟨h1, h2, h3⟩ := h
  dsimp only at h1 h2 h3
  refine ⟨by simp only [List.length_drop]; omega, by simp only [List.length_drop]; omega, ?_⟩
  by_cases hk : l.length ≤ k
  · exact .inl (by simp only [List.length_drop]; omega)
  · rcases h3 with h3 | ⟨b, off, h4, h5⟩
    · exact .inl (by simp only [List.length_drop]; omega)
    · refine .inr ⟨b, off + k * sz, ?_, fun i hi j hj => ?_⟩
      · dsimp only; rw [if_neg (by omega), h4, Option.map_some, Addr.add_lit]
      · simp only [List.length_drop] at hi
        have := h5 (k + i) (by omega) j hj
        rw [Nat.add_mul] at this
        simp only [List.getElem_drop]
        rw [← this, show off + k * sz + i * sz + j = off + (k * sz + i * sz) + j by omega]

/-- The two parts of a treaty, in boxes: the second one still with the starts of the whole. -/
def Cut6 (t : TV) (k A B : Nat) (w3 W : World) : Prop :=
  ∃ ta tb : TV, Hid (MkT W A ta.P ta.ways.v ta.words.v ta.starts.v ta.legs.v) ∧ Hid (MkT W B tb.P tb.ways.v tb.words.v tb.starts.v tb.legs.v) ∧ Hid (∀ w', G2 A B W w' → IsT w' ta ∧ IsT w' tb) ∧
    Hid (SameW t ta) ∧ Hid (SameW t tb) ∧ Hid (ta.starts.l = t.starts.l) ∧ Hid (ta.legs.l = t.legs.l.take k) ∧ Hid (tb.legs.l = t.legs.l.drop k) ∧ Hid (Ext w3 W)

theorem cut6_mk {t ta tb : TV} {k A B : Nat} {w3 wc W : World} (hG : ∀ w', G2 A B wc w' → IsT w' ta ∧ IsT w' tb) (Sa : SameT t ta) (Sb : SameT t tb) (hk : k ≤ t.legs.l.length) (HX : Ext w3 wc) (hA : w3.heap.size ≤ A) (hB : w3.heap.size ≤ B) (g : G2 A B wc W)
    (MA : MkT W A ta.P ta.ways.v ta.words.v ta.starts.v (.slice ta.legs.a k ta.legs.c)) (MB : MkT W B tb.P tb.ways.v tb.words.v tb.starts.v (.slice (if tb.legs.c = k then tb.legs.a else tb.legs.a.map (·.add (k * 2))) (tb.legs.l.length - k) (tb.legs.c - k))) : Cut6 t k A B w3 W := by
  refine ⟨⟨ta.P, ta.ways, ta.words, ta.starts, ⟨ta.legs.a, ta.legs.c, ta.legs.l.take k⟩⟩, ⟨tb.P, tb.ways, tb.words, tb.starts, ⟨if tb.legs.c = k then tb.legs.a else tb.legs.a.map (·.add (k * 2)), tb.legs.c - k, tb.legs.l.drop k⟩⟩, ?_, ?_, ?_, ⟨Sa.P, Sa.ways, Sa.words⟩, ⟨Sb.P, Sb.ways, Sb.words⟩, Sa.starts, ?_, ?_, ext_g2 HX g hA hB⟩
  · have : (ta.legs.l.take k).length = k := by rw [List.length_take, Sa.legs]; omega
    show MkT W A _ _ _ _ (.slice _ (ta.legs.l.take k).length _)
    rw [this]; exact MA
  · show MkT W B _ _ _ _ (.slice _ (tb.legs.l.drop k).length _)
    rw [List.length_drop]; exact MB
  · intro w' g'
    obtain ⟨h1, h2⟩ := hG w' (g.trans g')
    exact ⟨⟨h1.ways, h1.words, h1.word, h1.starts, h1.legs.take k⟩, ⟨h2.ways, h2.words, h2.word, h2.starts, h2.legs.drop k⟩⟩
  · show ta.legs.l.take k = _; rw [Sa.legs]
  · show tb.legs.l.drop k = _; rw [Sb.legs]

theorem start_leaf {A B base P Pa j : Nat} {w7 v2 v3 : World} {wv qv lv a1 a2 a3 a4 : Value} {s : SL Nat} {tmp : Obj} {g cap : Nat} (hA : A < base) (hB : B < base) (hAB : A ≠ B) (hbase : w7.heap.size = base)
    (HO : v2.ownsRow base 3 1 (.slice s.a s.l.length s.c) s.l.length (nums s.l)) (HM : MkT v2 B P wv qv s.v lv) (HMA : MkT v2 A Pa a1 a2 a3 a4) (HG : G2 A B w7 v2)
    (hown : v3.ownsRow base 3 1 (.slice (some ⟨g, 0, none⟩) (s.l.length + 1) cap) (s.l.length + 1) (nums s.l ++ nums [j])) (hgrow : (v2.alloc tmp).grownBy v3 (Value.slice s.a s.l.length s.c).ownBlock) :
    (v3.cell? ⟨B, 3, none⟩ = some (.slice s.a s.l.length s.c) ∧ v3.frozen? ⟨B, 3, none⟩ = false) ∧
      Hid ((v3.setCell ⟨B, 3, none⟩ (.slice (some ⟨g, 0, none⟩) (s.l.length + 1) cap)).ownsRow base 3 1 (.slice (some ⟨g, 0, none⟩) (s.l ++ [j]).length cap) (s.l ++ [j]).length (nums (s.l ++ [j]))) ∧
        Hid (MkT (v3.setCell ⟨B, 3, none⟩ (.slice (some ⟨g, 0, none⟩) (s.l.length + 1) cap)) B P wv qv (.slice (some ⟨g, 0, none⟩) (s.l ++ [j]).length cap) lv) ∧ Hid (MkT (v3.setCell ⟨B, 3, none⟩ (.slice (some ⟨g, 0, none⟩) (s.l.length + 1) cap)) A Pa a1 a2 a3 a4) ∧ Hid (G2 A B w7 (v3.setCell ⟨B, 3, none⟩ (.slice (some ⟨g, 0, none⟩) (s.l.length + 1) cap))) := by
  have hrow : ∀ i, (Value.slice s.a s.l.length s.c).ownBlock = some i → base ≤ i := fun i hi => own_lt HO i hi
  have hxx := (Ext.refl v2).alloc tmp
  have HM3 : MkT v3 B P wv qv s.v lv := MkT.grown (hxx.block HM) hgrow (fun i hi => by have := hrow i hi; omega)
  have HA3 : MkT v3 A Pa a1 a2 a3 a4 := MkT.grown (hxx.block HMA) hgrow (fun i hi => by have := hrow i hi; omega)
  have HG3 : G2 A B w7 v3 := (HG.ext hxx).step hgrow (fun i hi => .inr (.inr (by have := hrow i hi; omega)))
  have hlen : (s.l ++ [j]).length = s.l.length + 1 := by simp
  refine ⟨⟨HM3.five.2.2.2.1, HM3.frozen 3⟩, ?_, ?_, HA3.ne (fun e => hAB e.symm), HG3.setB 3 _⟩
  · show World.ownsRow _ base 3 1 (.slice _ (s.l ++ [j]).length cap) (s.l ++ [j]).length (nums (s.l ++ [j]))
    rw [show nums (s.l ++ [j]) = nums s.l ++ nums [j] from List.map_append .., hlen]
    exact G2.own hown ((G2.refl A B v3).setB 3 _) hA hB
  · show MkT _ B P _ _ (.slice _ (s.l ++ [j]).length cap) _
    rw [hlen]; exact HM3.set3 _

/-- What Lines returns: all lines, or the error where there are too many. -/
def LinesG (t : TV) (r : List Nat) (w : World) (e : Ending) (w' : World) : Prop :=
  ∃ (a : Option Addr) (c : Nat) (l : List (SL Nat)) (er : Int), e = .returned (.tuple #[.slice a l.length c, .int .i64 er]) ∧ Hid (IsTbl w' ⟨a, c, l⟩) ∧ ((er = 0 ∧ l.map (fun r => r.l) = linesR t (leadsOf t r) ∧ (linesR t (leadsOf t r)).length ≤ 200) ∨ er = 11) ∧ Ext w w'
theorem Lines_gen (t : TV) (r : SL Nat) (w : World) (ht : IsT w t) (hk : OkT t) (hr : IsSl 1 num w r) (hR : RdOk t r.l) : Calls Tryz.prog 16 #[t.v, .slice r.a r.l.length r.c] w (LinesG t r.l w) := by
  refine (Lines_any t r w ht hk hr hR).mono ?_
  rintro e w' ⟨⟨h1, a, c, rows, rfl, h2, h3, h4⟩ | ⟨h1, rfl⟩, hx⟩
  · exact ⟨a, c, rows, 0, rfl, ⟨h2, h3⟩, .inl ⟨rfl, h4, h1⟩, hx⟩
  · exact ⟨none, 0, [], 11, rfl, ⟨⟨Nat.le_refl _, by simp, .inl rfl⟩, fun r hr => by simp at hr⟩, .inr rfl, hx⟩

theorem num_at {w : World} {a : Option Addr} {c : Nat} {l : List Nat} (h : IsSl 1 num w ⟨a, c, l⟩) (hl : 0 < l.length) : ∃ b off, a = some ⟨b, off, none⟩ ∧ l.length ≤ c ∧ ∀ i, i < l.length → w.cell? ⟨b, off + i, none⟩ = some (.int .i64 (gt l i : Int)) := by
  obtain ⟨h1, h2, h3⟩ := h
  obtain ⟨b, off, h4, h5⟩ := h3.resolve_left (by dsimp only; omega)
  refine ⟨b, off, h4, h1, fun i hi => ?_⟩
  have := h5 i hi 0 (by omega)
  unfold gt
  rw [List.getElem?_eq_getElem hi]
  simpa [num] using this
theorem rows_at {w : World} {a : Option Addr} {c : Nat} {l : List (SL Nat)} (h : IsTbl w ⟨a, c, l⟩) (hl : 0 < l.length) : ∃ b off, a = some ⟨b, off, none⟩ ∧ ∀ i (hi : i < l.length), w.cell? ⟨b, off + i, none⟩ = some (.slice l[i].a l[i].l.length l[i].c) := by
  obtain ⟨⟨h1, h2, h3⟩, -⟩ := h
  obtain ⟨b, off, h4, h5⟩ := h3.resolve_left (by dsimp only; omega)
  refine ⟨b, off, h4, fun i hi => ?_⟩
  have := h5 i hi 0 (by omega)
  simpa [slC] using this

/-- What is known of the lines of a treaty and of its parts, row by row. -/
structure PartR (k N : Nat) (lx la lb : List (SL Nat)) : Prop where
  a : ∀ r ∈ la, r.l.length = k + 1
  b : ∀ r ∈ lb, r.l.length = N - k + 1
  x : ∀ r ∈ lx, r.l.length = N + 1 ∧ r.l.take (k + 1) ∈ la.map (fun r => r.l) ∧ r.l.drop k ∈ lb.map (fun r => r.l)
  m : metS k (la.map fun r => r.l) (lb.map fun r => r.l) = lx.length
theorem part_rows {t a b : TV} {L La Lb : Nat → Nat → Nat → Bool} {k : Nat} (h : PartT t a b L La Lb k) (hst : ∀ x ∈ t.starts.l, x < t.P) (hn : t.starts.l.Pairwise (· < ·)) {lx la lb : List (SL Nat)} (ex : lx.map (fun r => r.l) = linesR t L) (ea : la.map (fun r => r.l) = linesR a La) (eb : lb.map (fun r => r.l) = linesR b Lb) :
    PartR k t.legs.l.length lx la lb where
  a r hr := ((part_fst h hst r.l).1 (by rw [← ea]; exact List.mem_map_of_mem hr)).1
  b r hr := ((part_snd h r.l).1 (by rw [← eb]; exact List.mem_map_of_mem hr)).1
  x r hr := by
    have := part_halves h hst (l := r.l) (by rw [← ex]; exact List.mem_map_of_mem hr)
    rw [ea, eb]; exact this
  m := by
    rw [ea, eb, part_many h hst (hn.imp fun h => Nat.ne_of_lt h), ← ex, List.length_map]

theorem among_in (b : Nat) (x : SL Nat) (s : SL (SL Nat)) (w : World) (hb : w.heap[b]? = some (.cells #[.slice x.a x.l.length x.c] 24 (0, 0))) (hx : IsSl 1 num w x) (hs : IsTbl w s) (hin : x.l ∈ s.l.map (fun r => r.l)) :
    Calls Tryz.prog 48 #[.slice (some ⟨b, 0, none⟩) 1 1, .slice s.a s.l.length s.c] w fun e w' => e = .returned (.bool true) ∧ Ext w w' := by
  refine (among_any ⟨some ⟨b, 0, none⟩, 1, [x]⟩ s w ⟨Nat.le_refl _, by simp, .inr ⟨b, 0, rfl, fun i hi j hj => ?_⟩⟩ hs.1 (fun r hr => ?_) hs.2).mono ?_
  · have hi0 : i = 0 := by simpa using hi
    have hj0 : j = 0 := by omega
    subst hi0; subst hj0
    exact (cell_at hb 0).trans rfl
  · simp only [List.mem_singleton] at hr; subst hr; exact hx
  · rintro e w' ⟨rfl, hx⟩
    refine ⟨?_, hx⟩
    obtain ⟨r, hr, hrl⟩ := List.mem_map.1 hin
    have : ([x].all fun x => s.l.any fun y => decide (x.l = y.l)) = true := by
      simp only [List.all_cons, List.all_nil, Bool.and_true]
      exact List.any_eq_true.2 ⟨r, hr, by simpa using hrl.symm⟩
    rw [this]

theorem metS_succ (k : Nat) (A B : List (List Nat)) (i : Nat) (h : i < A.length) : metS k (A.take (i + 1)) B = metS k (A.take i) B + metN k A[i] B := by
  unfold metS
  rw [List.take_succ_eq_append_getElem h, List.map_append, List.sum_append]
  simp
theorem metN_succ (k : Nat) (m : List Nat) (B : List (List Nat)) (j : Nat) (h : j < B.length) : metN k m (B.take (j + 1)) = metN k m (B.take j) + if metB k m B[j] then 1 else 0 := by
  unfold metN
  rw [List.take_succ_eq_append_getElem h, List.filter_append, List.length_append]
  by_cases e : metB k m B[j] = true <;> simp [e]
theorem metN_le (k : Nat) (m : List Nat) (B : List (List Nat)) : metN k m B ≤ B.length := List.length_filter_le _ _
theorem metS_le (k : Nat) (B : List (List Nat)) : ∀ (A : List (List Nat)), metS k A B ≤ A.length * B.length
  | [] => by simp [metS]
  | m :: A => by
    have h1 := metS_le k B A
    have h2 := metN_le k m B
    have h3 : metS k (m :: A) B = metN k m B + metS k A B := by simp [metS]
    rw [h3, List.length_cons, Nat.add_mul]; omega
theorem yl_few (t : TV) (hk : OkT t) (r : List Nat) : (yieldL (leadsOf t r) t.P t.starts.l t.legs.l.length).length = fewR t r :=
  yieldL_length (leadsOf t r) t.P t.starts.l t.legs.l.length ⟨t.starts.l[0]'(by have := hk.starts1; omega), List.getElem_mem _, hk.start.1 _ (List.getElem_mem _)⟩ hk.legs
end Go.Proofs.YtdejaliegbmgaaaGreat
