/-
  A region that draws its order, by an invariant that speaks of the operations that are done: each one that may come up keeps it, whichever others are done. Nothing is claimed of the program here.
  The statements' own Clone at ways and at legs returns a list of its own that reads the same, and turns nothing that was there.
  The statements' own CloneTreaty returns a treaty of its own that reads the same, and turns nothing that was there. The treaty must lie in memory as told and be valid.
  CloneTreaty returns a treaty in memory of its own, whose rows are told one by one, the words' apart from each other; it turns nothing that was there. The treaty must lie in memory as told and be valid.
  What stores and appends make of a treaty in memory of its own. Nothing is claimed of the program here.
  joined puts a number into a sorted list: what it returns lies in memory of its own, has all numbers of the list, and no other one but that; it turns nothing that was there. The list must lie in memory as told and be sorted.
  Where a leg can lead is where ways of its kinds go on to, one behind the other, if it is one of its ends; ways that are told again, or backwards, lead nowhere new. Mathematics alone: nothing is claimed of the program here.
  Lines of package treaty returns all lines that keep all legs in a reading, or the error where there are more than may be listed, and turns nothing that was there. The treaty and the reading must lie in memory as told and be valid.
  Words for TreatyParted's walk: treaties that read alike and their parts; among; a treaty's two parts in boxes, the starts of the second one in the making; lines with their error as a number; how many lines of both parts meet. Of the program only among and Lines are spoken of, the latter in the form that the walk asks.
  A treaty with more meanings, ways, kinds or ends has no fewer lines, and no more legs must yield; a treaty whose legs are told in the other language, too, has no other lines: mathematics alone. Nothing is claimed of the program here.
  Three copies of a treaty in boxes, made in whatever order: what holds in between. Nothing is claimed of the program here.
  A region that draws its order, by an invariant, where what is done is closed; a meaning whose kinds and ends are joined: what holds in between. Nothing is claimed of the program here.
-/
import Derived.Deep.RegionHeld3
import Derived.Test.YtopjjcgmcieboaaGreatDoorJl
import Derived.Deep.AppendLies
import Derived.Deep.CutBlock
import Derived.Deep.RegionLaw
import Derived.Test.YtopjjcgmcieboaaGreatDoorZc
import Derived.Test.YtopjjcgmcieboaaGreatDoorRa
import Derived.Shelf.Slices.Empties
import Derived.Shelf.Slices.SearchI
import Derived.Shelf.Spec.SlicesInsertGrow
import Derived.Shelf.Lay
import Derived.Ground.Names2Prog
import Derived.Test.YtopjjcgmcieboaaGreatDoorIh
import Derived.Test.YtopjjcgmcieboaaGreatDoorIe
import Derived.Test.YtopjjcgmcieboaaGreatDoorZe
import Derived.Test.YtopjjcgmcieboaaGreatDoorIn
import Derived.Test.YtopjjcgmcieboaaGreatDoorS
namespace Go.Proofs.YtopjjcgmcieboaaGreatDoor

section
variable {P : Program} {ops : Array Oper} {Q : Exit → Act → World → Prop} {md : Region.Mode}

/-- Operations wait for earlier ones alone. -/
def backB (md : Region.Mode) (ops : Array Oper) : Bool := (List.range ops.size).all fun i => match ops[i]? with
  | none => true
  | some o => o.after.all fun e => !Region.binds md e || decide (e.on < i)
theorem back_spec (h : backB md ops = true) {i : Nat} {o : Oper} (ho : ops[i]? = some o) : ∀ e ∈ o.after, Region.binds md e = true → e.on < i := by
  have hi : i < ops.size := (Array.getElem?_eq_some_iff.1 ho).1
  unfold backB at h
  rw [List.all_eq_true] at h
  have := h i (List.mem_range.2 hi)
  rw [ho] at this
  simp only [Array.all_eq_true] at this
  intro e he hbd
  obtain ⟨k, hk, rfl⟩ := Array.mem_iff_getElem.1 he
  simpa [hbd] using this k hk
/-- Nothing may come up: all is done. -/
theorem all_done (h : backB md ops = true) {listed : Array Bool} (hr : Region.ready md ops listed = []) : ∀ i, i < ops.size → listed.getD i true = true := by
  intro i
  induction i using Nat.strongRecOn with
  | ind i ih =>
    intro hi
    cases hl : listed.getD i true with
    | true => rfl
    | false =>
      exfalso
      obtain ⟨o, ho⟩ : ∃ o, ops[i]? = some o := ⟨ops[i], by simp [hi]⟩
      have : i ∈ Region.ready md ops listed := mem_ready.2 ⟨hl, o, ho, fun e he hbd => by
        have h1 := back_spec h ho e he hbd
        have h2 := ih e.on h1 (by omega)
        by_cases hs : e.on < listed.size
        · simpa [Array.getD, hs] using h2
        · exfalso
          have : ¬ i < listed.size := by omega
          simp [Array.getD, this] at hl⟩
      rw [hr] at this
      cases this

/-- Which operations are done. -/
abbrev doneL (listed : Array Bool) (j : Nat) : Prop := listed.getD j false = true
theorem done_set {listed : Array Bool} {i : Nat} (hi : i < listed.size) : doneL (listed.setIfInBounds i true) = fun j => j = i ∨ doneL listed j := by
  funext j
  apply propext
  show (listed.setIfInBounds i true).getD j false = true ↔ j = i ∨ listed.getD j false = true
  by_cases e : j = i
  · subst e; simp [Array.getD, hi]
  · have e' : ¬ i = j := fun h => e h.symm
    by_cases hj : j < listed.size
    · simp [Array.getD, hj, e, e']
    · simp [Array.getD, hj, e]
def leftN (listed : Array Bool) : Nat := (listed.toList.filter (fun b => !b)).length
theorem left_set {listed : Array Bool} {i : Nat} (hi : i < listed.size) (hf : listed.getD i true = false) : leftN (listed.setIfInBounds i true) + 1 = leftN listed := by
  unfold leftN
  rw [Array.toList_setIfInBounds]
  have hg : listed.toList[i]? = some false := by
    have : listed[i] = false := by simpa [Array.getD, hi] using hf
    rw [Array.getElem?_toList, Array.getElem?_eq_getElem hi, this]
  generalize listed.toList = l at *
  clear hf hi
  induction l generalizing i with
  | nil => simp at hg
  | cons b l ih =>
    cases i with
    | zero =>
      simp only [List.getElem?_cons_zero, Option.some.injEq] at hg
      subst hg
      simp
    | succ i =>
      simp only [List.getElem?_cons_succ] at hg
      have := ih hg
      cases b <;> simp [List.set_cons_succ] at this ⊢ <;> omega
theorem wpAny_inv (hb : backB md ops = true) (I : (Nat → Prop) → Act → World → Prop)
    (hstep : ∀ (L : Nat → Prop) (a : Act) (w : World) (i : Nat) (o : Oper), I L a w → ¬ L i → ops[i]? = some o → (∀ e ∈ o.after, Region.binds md e = true → L e.on) → wpOp P ops Q i (fun a' w' => I (fun j => j = i ∨ L j) a' w') a w)
    (hdone : ∀ (L : Nat → Prop) (a : Act) (w : World), I L a w → (∀ i, i < ops.size → L i) → Q .normal a w) :
    ∀ (fuel : Nat) (listed : Array Bool) (a : Act) (w : World), listed.size = ops.size → leftN listed ≤ fuel → I (doneL listed) a w → wpAny P md ops Q fuel listed a w := by
  have fin : ∀ (listed : Array Bool) (a : Act) (w : World), listed.size = ops.size → I (doneL listed) a w → Region.ready md ops listed = [] → Q .normal a w := fun listed a w hs hI hr =>
    hdone _ a w hI (fun i hi => by
      have := all_done hb hr i hi
      have hi' : i < listed.size := by omega
      simpa [doneL, Array.getD, hi'] using this)
  intro fuel
  induction fuel with
  | zero =>
    intro listed a w hs hl hI
    have hr : Region.ready md ops listed = [] := by
      rw [List.eq_nil_iff_forall_not_mem]
      intro i hi
      have h1 := (mem_ready.1 hi).1
      obtain ⟨_, o, ho, _⟩ := mem_ready.1 hi
      have hi' : i < listed.size := by have := (Array.getElem?_eq_some_iff.1 ho).1; omega
      have := left_set hi' h1
      omega
    exact ⟨hr, fin listed a w hs hI hr⟩
  | succ fuel ih =>
    intro listed a w hs hl hI
    refine ⟨fin listed a w hs hI, fun i hi => ?_⟩
    obtain ⟨h1, o, ho, h2⟩ := mem_ready.1 hi
    have hi' : i < listed.size := by have := (Array.getElem?_eq_some_iff.1 ho).1; omega
    have hnl : ¬ doneL listed i := by
      have : listed[i] = false := by simpa [Array.getD, hi'] using h1
      simp [doneL, Array.getD, hi', this]
    refine wpOp_mono (fun a' w' hI' => ?_) (hstep (doneL listed) a w i o hI hnl ho (fun e he hbd => h2 e he hbd))
    have hls := left_set hi' h1
    refine ih _ a' w' (by simpa using hs) (by omega) ?_
    rw [done_set hi']
    exact hI'
/-- The law. -/
theorem wp_region_inv {id : Nat} {a : Act} {w : World} (hm : P.follows .mixedOrders = true) (hb : backB .any ops = true) (I : (Nat → Prop) → Act → World → Prop) (h0 : I (fun _ => False) a w.drew)
    (hstep : ∀ (L : Nat → Prop) (a : Act) (w : World) (i : Nat) (o : Oper), I L a w → ¬ L i → ops[i]? = some o → (∀ e ∈ o.after, Region.binds .any e = true → L e.on) → wpOp P ops Q i (fun a' w' => I (fun j => j = i ∨ L j) a' w') a w)
    (hdone : ∀ (L : Nat → Prop) (a : Act) (w : World), I L a w → (∀ i, i < ops.size → L i) → Q .normal a w) : (Code.region id ops true).wp P Q a w := by
  refine wp_region_any hm (wpAny_inv hb I hstep hdone _ _ _ _ (by simp) ?_ ?_)
  · unfold leftN; rw [Array.toList_replicate]; exact Nat.le_trans (List.length_filter_le _ _) (by simp)
  · have : doneL (Array.replicate ops.size false) = fun _ => False := by
      funext j
      apply propext
      show (Array.replicate ops.size false).getD j false = true ↔ False
      by_cases hj : j < ops.size <;> simp [Array.getD, hj]
    rw [this]; exact h0
end
end Go.Proofs.YtopjjcgmcieboaaGreatDoor

namespace Go.Proofs.YtopjjcgmcieboaaGreatDoor
open Go.RowKit

theorem cells_of_slG {α : Type} {sz : Nat} {cs : α → Nat → Value} {w : World} {a : Option Addr} {c : Nat} {l : List α} (h : IsSl sz cs w ⟨a, c, l⟩) (hs : 0 < sz) (ha : a ≠ none) : ∃ ad, a = some ad ∧ ∀ j u, (flat sz cs l)[j]? = some u → w.cell? (ad.add j) = some u := by
  obtain ⟨h1, h2, h3⟩ := h
  cases a with
  | none => exact absurd rfl ha
  | some ad =>
    refine ⟨ad, rfl, fun j u hu => ?_⟩
    have hj : j < l.length * sz := by have := (List.getElem?_eq_some_iff.1 hu).1; rwa [flat_length] at this
    have hq : j / sz < l.length := Nat.div_lt_of_lt_mul (by rw [Nat.mul_comm]; exact hj)
    have hr : j % sz < sz := Nat.mod_lt _ hs
    have he : j / sz * sz + j % sz = j := by rw [Nat.mul_comm]; exact Nat.div_add_mod j sz
    rcases h3 with h3 | ⟨b, off, h3, hc⟩
    · dsimp only at h3; rw [h3] at hq; exact absurd hq (Nat.not_lt_zero _)
    · cases h3
      have h4 := hc (j / sz) hq (j % sz) hr
      have h5 := flat_get sz cs l (j / sz) (j % sz) hq hr
      rw [he] at h5
      rw [h5] at hu
      cases hu
      rw [Addr.add_lit]
      rw [show off + j / sz * sz + j % sz = off + j by omega] at h4
      exact h4

theorem ways_one (l : List (Nat × Nat × Nat)) : ∀ u ∈ flat 3 wayC l, u.oneCell' = true := by
  intro u hu
  simp only [flat, List.mem_flatMap, List.mem_map, List.mem_range] at hu
  obtain ⟨x, _, j, _, rfl⟩ := hu
  unfold wayC; split
  · rfl
  · split <;> rfl
theorem legs_one (l : List (Nat × Int)) : ∀ u ∈ flat 2 legC l, u.oneCell' = true := by
  intro u hu
  simp only [flat, List.mem_flatMap, List.mem_map, List.mem_range] at hu
  obtain ⟨x, _, j, _, rfl⟩ := hu
  unfold legC; split <;> rfl

set_option maxHeartbeats 400000 in
theorem waysClone_any (a : Option Addr) (n c : Nat) (l : List (Nat × Nat × Nat)) (w : World) (hn : l.length = n) (hv : IsSl 3 wayC w ⟨a, c, l⟩) :
    Calls Tryz.prog 52 #[.slice a n c] w fun e w' => ∃ a' c', e = .returned (.slice a' n c') ∧ w'.ownsRow w.heap.size 59 3 (.slice a' n c') n (flat 3 wayC l) ∧ Ext w w' := by
  subst hn
  have hl : l.length ≤ 1000000 := hv.2.1
  obtain ⟨i0, hi, hz0, hz1, hz2⟩ := info_parts info59
  by_cases ha : a = none
  · subst ha
    have h0 : l = [] := by
      rcases hv.2.2 with h | ⟨b, off, h, _⟩
      · exact List.eq_nil_of_length_eq_zero h
      · cases h
    subst h0
    clear hv
    go_enter Tryz.func52, Tryz.ntmps52
    go_wp2
    go_ret
    exact ⟨none, 0, rfl, World.ownsRow_nil _ _ _ _, Ext.refl _⟩
  · obtain ⟨ad, rfl, hc⟩ := cells_of_slG hv (by decide) ha
    have HC := Lib.hid hc; clear hc hv ha
    go_enter Tryz.func52, Tryz.ntmps52
    go_wp2_with (at_builtin; go_must (refine wpList_append_own _ rfl _ _ 23 rfl w.heap.size 59 i0 (.agg #[.int .i64 0, .int .i64 0, .int .i64 0]) 3 24 Tryz.underlying23 hi hz0 hz1 hz2 rfl (by decide) _ 0 [] rfl (World.ownsRow_nil _ _ _ _) ad l.length c (flat 3 wayC l) rfl (flat_length _ _ _) HC.out (ways_one l) (by unfold maxLen; omega) (by omega) (Nat.le_refl _) ?_); intro v' w1 hown hgrow _)
    rw [Nat.zero_add, List.nil_append] at hown
    obtain ⟨a', c', rfl⟩ := own_form hown
    have HO := Lib.hid hown
    have HG := Lib.hid (ext_grown hgrow); clear hown hgrow
    go_wp2
    go_ret
    exact ⟨a', c', rfl, HO.out, HG.out⟩

set_option maxHeartbeats 400000 in
theorem legsClone_any (a : Option Addr) (n c : Nat) (l : List (Nat × Int)) (w : World) (hn : l.length = n) (hv : IsSl 2 legC w ⟨a, c, l⟩) :
    Calls Tryz.prog 54 #[.slice a n c] w fun e w' => ∃ a' c', e = .returned (.slice a' n c') ∧ w'.ownsRow w.heap.size 63 2 (.slice a' n c') n (flat 2 legC l) ∧ Ext w w' := by
  subst hn
  have hl : l.length ≤ 1000000 := hv.2.1
  obtain ⟨i0, hi, hz0, hz1, hz2⟩ := info_parts info63
  by_cases ha : a = none
  · subst ha
    have h0 : l = [] := by
      rcases hv.2.2 with h | ⟨b, off, h, _⟩
      · exact List.eq_nil_of_length_eq_zero h
      · cases h
    subst h0
    clear hv
    go_enter Tryz.func54, Tryz.ntmps54
    go_wp2
    go_ret
    exact ⟨none, 0, rfl, World.ownsRow_nil _ _ _ _, Ext.refl _⟩
  · obtain ⟨ad, rfl, hc⟩ := cells_of_slG hv (by decide) ha
    have HC := Lib.hid hc; clear hc hv ha
    go_enter Tryz.func54, Tryz.ntmps54
    go_wp2_with (at_builtin; go_must (refine wpList_append_own _ rfl _ _ 26 rfl w.heap.size 63 i0 (.agg #[.int .i64 0, .int .i64 0]) 2 16 Tryz.underlying26 hi hz0 hz1 hz2 rfl (by decide) _ 0 [] rfl (World.ownsRow_nil _ _ _ _) ad l.length c (flat 2 legC l) rfl (flat_length _ _ _) HC.out (legs_one l) (by unfold maxLen; omega) (by omega) (Nat.le_refl _) ?_); intro v' w1 hown hgrow _)
    rw [Nat.zero_add, List.nil_append] at hown
    obtain ⟨a', c', rfl⟩ := own_form hown
    have HO := Lib.hid hown
    have HG := Lib.hid (ext_grown hgrow); clear hown hgrow
    go_wp2
    go_ret
    exact ⟨a', c', rfl, HO.out, HG.out⟩
end Go.Proofs.YtopjjcgmcieboaaGreatDoor

namespace Go.Proofs.YtopjjcgmcieboaaGreatDoor
open Go.RowKit

/-- The kinds and ends of a word's meanings. -/
def listsOf (s : SL MV) : List (List Nat × List Nat) := s.l.map fun m => (m.k.l, m.e.l)
/-- A treaty reads as another one, but for its starts and legs. -/
structure SameW (t t' : TV) : Prop where
  P : t'.P = t.P
  ways : t'.ways.l = t.ways.l
  words : t'.words.l.map listsOf = t.words.l.map listsOf
/-- A treaty reads as another one. -/
structure SameT (t t' : TV) : Prop extends SameW t t' where
  starts : t'.starts.l = t.starts.l
  legs : t'.legs.l = t.legs.l

/-- A treaty lies in memory, in blocks from lo on. -/
def IsTK (lo : Nat) (w : World) (t : TV) : Prop := ∀ w', (∀ b, lo ≤ b → b < w.heap.size → w'.heap[b]? = w.heap[b]?) → IsT w' t
/-- A treaty was copied. -/
def CloneOf (t : TV) (w : World) (e : Ending) (w' : World) : Prop := ∃ t' : TV, e = .returned t'.v ∧ IsTK w.heap.size w' t' ∧ SameT t t' ∧ Ext w w'
theorem own_range {w w' : World} {lo base : Nat} {e : TypeId} {size : Nat} {v : Value} {n : Nat} {xs : List Value} (h : w.ownsRow base e size v n xs) (hlo : lo ≤ base) (k : ∀ b, lo ≤ b → b < w.heap.size → w'.heap[b]? = w.heap[b]?) : w'.ownsRow base e size v n xs := by
  obtain ⟨h1, h2⟩ := h
  refine ⟨h1, ?_⟩
  rcases h2 with h2 | ⟨g, cap, cur, h2, hb, hh, r⟩
  · exact .inl h2
  · exact .inr ⟨g, cap, cur, h2, hb, (k g (Nat.le_trans hlo hb) (Array.getElem?_eq_some_iff.1 hh).1).trans hh, r⟩

/-- A list of one's own. -/
def LO (base : Nat) (w : World) (s : SL Nat) : Prop := w.ownsRow base 3 1 (.slice s.a s.l.length s.c) s.l.length (nums s.l)
theorem LO.ext {base : Nat} {w w' : World} {s : SL Nat} (h : LO base w s) (k : Ext w w') : LO base w' s := own_ext h k
theorem LO.grown {base : Nat} {w w' : World} {s : SL Nat} {base' sz n : Nat} {T : TypeId} {v : Value} {xs : List Value} (h : LO base w s) (g : w.grownBy w' v.ownBlock) (hv : w.ownsRow base' T sz v n xs) (hT : 3 ≠ T) : LO base w' s :=
  own_grown h g (own_apart h hv hT)
/-- A store into a block of another type leaves a row as it is. -/
theorem own_setB {w : World} {base : Nat} {e T : TypeId} {size : Nat} {v : Value} {n : Nat} {xs : List Value} {B i : Nat} {cs : Array Value} {f : Nat × Nat} (h : w.ownsRow base e size v n xs) (hB : w.heap[B]? = some (.cells cs T f)) (hT : e ≠ T) (u : Value) : (w.setCell ⟨B, i, none⟩ u).ownsRow base e size v n xs := by
  obtain ⟨h1, h2⟩ := h
  refine ⟨h1, ?_⟩
  rcases h2 with h2 | ⟨g, cap, cur, h2, hb, hh, r⟩
  · exact .inl h2
  · refine .inr ⟨g, cap, cur, h2, hb, ?_, r⟩
    have hne : g ≠ B := by
      intro e; rw [e, hB] at hh; simp at hh; exact hT hh.2.1.symm
    exact (Below.heap_setCell _ _ _ _ hne).trans hh
/-- A word of one's own. -/
def WordC (base : Nat) (w : World) (s : SL MV) : Prop := w.ownsRow base 57 2 (.slice s.a s.l.length s.c) s.l.length (flat 2 meanC s.l) ∧ ∀ m ∈ s.l, LO base w m.k ∧ LO base w m.e
theorem WordC.ext {base : Nat} {w w' : World} {s : SL MV} (h : WordC base w s) (k : Ext w w') : WordC base w' s :=
  ⟨own_ext h.1 k, fun m hm => ⟨(h.2 m hm).1.ext k, (h.2 m hm).2.ext k⟩⟩
theorem WordC.base {base base' : Nat} {w : World} {s : SL MV} (h : WordC base w s) (hb : base' ≤ base) : WordC base' w s :=
  ⟨own_mono h.1 hb, fun m hm => ⟨own_mono (h.2 m hm).1 hb, own_mono (h.2 m hm).2 hb⟩⟩
theorem WordC.grown {base : Nat} {w w' : World} {s : SL MV} {base' sz n : Nat} {T : TypeId} {v : Value} {xs : List Value} (h : WordC base w s) (g : w.grownBy w' v.ownBlock) (hv : w.ownsRow base' T sz v n xs) (hT : 57 ≠ T) (hT3 : 3 ≠ T) : WordC base w' s :=
  ⟨own_grown h.1 g (own_apart h.1 hv hT), fun m hm => ⟨(h.2 m hm).1.grown g hv hT3, (h.2 m hm).2.grown g hv hT3⟩⟩
theorem WordC.setB {base : Nat} {w : World} {s : SL MV} {B i : Nat} {cs : Array Value} {f : Nat × Nat} (h : WordC base w s) (hB : w.heap[B]? = some (.cells cs 28 f)) (u : Value) : WordC base (w.setCell ⟨B, i, none⟩ u) s :=
  ⟨own_setB h.1 hB (by decide) u, fun m hm => ⟨own_setB (h.2 m hm).1 hB (by decide) u, own_setB (h.2 m hm).2 hB (by decide) u⟩⟩
/-- A meaning was appended. -/
theorem WordC.append {base : Nat} {w w' : World} {s : SL MV} {k e : SL Nat} {g cap : Nat} (h : WordC base w s) (hk : LO base w k) (he : LO base w e)
    (hown : w'.ownsRow base 57 2 (.slice (some ⟨g, 0, none⟩) (s.l.length + 1) cap) (s.l.length + 1) (flat 2 meanC s.l ++ flat 2 meanC [⟨k, e⟩])) (hgrow : w.grownBy w' (Value.slice s.a s.l.length s.c).ownBlock) :
    WordC base w' ⟨some ⟨g, 0, none⟩, cap, s.l ++ [⟨k, e⟩]⟩ := by
  have hlen : (s.l ++ [(⟨k, e⟩ : MV)]).length = s.l.length + 1 := by simp
  refine ⟨?_, fun m hm => ?_⟩
  · show World.ownsRow _ base 57 2 (.slice _ (s.l ++ [(⟨k, e⟩ : MV)]).length cap) (s.l ++ [(⟨k, e⟩ : MV)]).length (flat 2 meanC (s.l ++ [(⟨k, e⟩ : MV)]))
    rw [flat_append, hlen]; exact hown
  · rcases List.mem_append.1 hm with hm | hm
    · exact ⟨(h.2 m hm).1.grown hgrow h.1 (by decide), (h.2 m hm).2.grown hgrow h.1 (by decide)⟩
    · simp only [List.mem_singleton] at hm; subst hm
      exact ⟨hk.grown hgrow h.1 (by decide), he.grown hgrow h.1 (by decide)⟩
/-- Words of one's own. -/
def WordsC (base : Nat) (w : World) (s : SL (SL MV)) : Prop := w.ownsRow base 54 1 (.slice s.a s.l.length s.c) s.l.length (flat 1 slC s.l) ∧ ∀ x ∈ s.l, WordC base w x
theorem WordsC.ext {base : Nat} {w w' : World} {s : SL (SL MV)} (h : WordsC base w s) (k : Ext w w') : WordsC base w' s := ⟨own_ext h.1 k, fun x hx => (h.2 x hx).ext k⟩
/-- The rows of the other fields. -/
def Own3 (base : Nat) (w : World) (t : TV) (a1 : Option Addr) (c1 : Nat) (a3 : Option Addr) (c3 : Nat) (a4 : Option Addr) (c4 : Nat) : Prop :=
  w.ownsRow base 59 3 (.slice a1 t.ways.l.length c1) t.ways.l.length (flat 3 wayC t.ways.l) ∧ w.ownsRow base 3 1 (.slice a3 t.starts.l.length c3) t.starts.l.length (nums t.starts.l) ∧ w.ownsRow base 63 2 (.slice a4 t.legs.l.length c4) t.legs.l.length (flat 2 legC t.legs.l)
theorem Own3.ext {base : Nat} {w w' : World} {t : TV} {a1 a3 a4 : Option Addr} {c1 c3 c4 : Nat} (h : Own3 base w t a1 c1 a3 c3 a4 c4) (k : Ext w w') : Own3 base w' t a1 c1 a3 c3 a4 c4 := ⟨own_ext h.1 k, own_ext h.2.1 k, own_ext h.2.2 k⟩

/-- A word was appended, and is stored. -/
theorem wordsC_leaf {B base P : Nat} {w0 v2 v3 : World} {t : TV} {a1 a3 a4 : Option Addr} {c1 c3 c4 : Nat} {wv sv lv : Value} {q : SL (SL MV)} {m : SL MV} {tmp : Obj} {g cap : Nat} (hbase : w0.heap.size ≤ base) (hB0 : w0.heap.size ≤ B)
    (HQ : WordsC base v2 q) (Hm : WordC base v2 m) (HM : MkT v2 B P wv q.v sv lv) (H3 : Own3 base v2 t a1 c1 a3 c3 a4 c4) (HX : Ext w0 v2)
    (hown : v3.ownsRow base 54 1 (.slice (some ⟨g, 0, none⟩) (q.l.length + 1) cap) (q.l.length + 1) (flat 1 slC q.l ++ flat 1 slC [m])) (hgrow : (v2.alloc tmp).grownBy v3 (Value.slice q.a q.l.length q.c).ownBlock) :
    (v3.cell? ⟨B, 2, none⟩ = some (.slice q.a q.l.length q.c) ∧ v3.frozen? ⟨B, 2, none⟩ = false) ∧
      Hid (WordsC base (v3.setCell ⟨B, 2, none⟩ (.slice (some ⟨g, 0, none⟩) (q.l.length + 1) cap)) ⟨some ⟨g, 0, none⟩, cap, q.l ++ [m]⟩) ∧
        Hid (MkT (v3.setCell ⟨B, 2, none⟩ (.slice (some ⟨g, 0, none⟩) (q.l.length + 1) cap)) B P wv (.slice (some ⟨g, 0, none⟩) (q.l.length + 1) cap) sv lv) ∧ Hid (Own3 base (v3.setCell ⟨B, 2, none⟩ (.slice (some ⟨g, 0, none⟩) (q.l.length + 1) cap)) t a1 c1 a3 c3 a4 c4) ∧ Hid (Ext w0 (v3.setCell ⟨B, 2, none⟩ (.slice (some ⟨g, 0, none⟩) (q.l.length + 1) cap))) := by
  have hx := (Ext.refl v2).alloc tmp
  have HMa : MkT (v2.alloc tmp) B P wv q.v sv lv := hx.block HM
  have HQa := HQ.ext hx
  have H3a := H3.ext hx
  have hne : ∀ i, (Value.slice q.a q.l.length q.c).ownBlock = some i → i ≠ B := fun i hi e => by
    rcases HQa.1.2 with ⟨h, -⟩ | ⟨g', cap', cur, h, hb, hh, r⟩
    · rw [h] at hi; simp [Value.ownBlock] at hi
    · rw [h] at hi
      simp only [Value.ownBlock, Option.some.injEq] at hi
      subst hi; subst e
      unfold MkT at HMa
      rw [HMa] at hh; simp at hh
  have HM3 : MkT v3 B P wv q.v sv lv := HMa.grown hgrow hne
  have hlen : (q.l ++ [m]).length = q.l.length + 1 := by simp
  have HX3 : Ext w0 v3 := ext_grown_of (HX.alloc tmp) hgrow (fun i hi => Nat.le_trans hbase (own_lt HQa.1 i hi))
  refine ⟨⟨HM3.five.2.2.1, HM3.frozen 2⟩, ⟨?_, fun x hx' => ?_⟩, HM3.set2 _, ⟨?_, ?_, ?_⟩, HX3.setCell hB0 _⟩
  · show World.ownsRow _ base 54 1 (.slice _ (q.l ++ [m]).length cap) (q.l ++ [m]).length (flat 1 slC (q.l ++ [m]))
    rw [flat_append, hlen]; exact own_setB hown HM3 (by decide) _
  · rcases List.mem_append.1 hx' with h | h
    · exact ((HQa.2 x h).grown hgrow HQa.1 (by decide) (by decide)).setB HM3 _
    · simp only [List.mem_singleton] at h; subst h
      exact ((Hm.ext hx).grown hgrow HQa.1 (by decide) (by decide)).setB HM3 _
  · exact own_setB (own_grown H3a.1 hgrow (own_apart H3a.1 HQa.1 (by decide))) HM3 (by decide) _
  · exact own_setB (own_grown H3a.2.1 hgrow (own_apart H3a.2.1 HQa.1 (by decide))) HM3 (by decide) _
  · exact own_setB (own_grown H3a.2.2 hgrow (own_apart H3a.2.2 HQa.1 (by decide))) HM3 (by decide) _

/-- The box of a treaty, not yet written. -/
abbrev boxZ : Obj := .cells #[.int .i64 0, .slice none 0 0, .slice none 0 0, .slice none 0 0, .slice none 0 0] 28
def ZB (w : World) (B : Nat) : Prop := w.heap[B]? = some boxZ
theorem ZB.ext {w w' : World} {B : Nat} (h : ZB w B) (k : Ext w w') : ZB w' B := k.block h
theorem ZB.five {w : World} {B : Nat} (h : ZB w B) : w.cell? ⟨B, 0, none⟩ = some (.int .i64 0) ∧ w.cell? ⟨B, 1, none⟩ = some (.slice none 0 0) ∧ w.cell? ⟨B, 2, none⟩ = some (.slice none 0 0) ∧ w.cell? ⟨B, 3, none⟩ = some (.slice none 0 0) ∧ w.cell? ⟨B, 4, none⟩ = some (.slice none 0 0) ∧ ∀ i, w.frozen? ⟨B, i, none⟩ = false :=
  ⟨(cell_at h 0).trans rfl, (cell_at h 1).trans rfl, (cell_at h 2).trans rfl, (cell_at h 3).trans rfl, (cell_at h 4).trans rfl, fun i => by unfold ZB at h; simp [World.frozen?, h]⟩
theorem ZB.lt {w : World} {B : Nat} (h : ZB w B) : B < w.heap.size := (Array.getElem?_eq_some_iff.1 h).1
theorem zb_set {w : World} {B : Nat} {P : Nat} {a b c d : Value} (h : ZB w B) : MkT (((((w.setCell ⟨B, 0, none⟩ (.int .i64 (P : Int))).setCell ⟨B, 1, none⟩ a).setCell ⟨B, 2, none⟩ b).setCell ⟨B, 3, none⟩ c).setCell ⟨B, 4, none⟩ d) B P a b c d :=
  heap_setCell_same (heap_setCell_same (heap_setCell_same (heap_setCell_same (heap_setCell_same h _) _) _) _) _

theorem zb_new {w v : World} (h : Ext (w.alloc boxZ) v) : ZB v w.heap.size := h.block (World.alloc_heap_new w boxZ)
theorem zb_call {w v : World} (h : Ext (w.alloc boxZ).drew v) : ZB v w.heap.size := h.block (World.alloc_heap_new w boxZ)
/-- What lies behind CloneTreaty's first statement. -/
def ClA (t : TV) (V : World) (s3 : Value) (wx : World) : Prop :=
  ∃ (B : Nat) (a1 : Option Addr) (c1 : Nat) (a3 : Option Addr) (c3 : Nat) (a4 : Option Addr) (c4 : Nat), s3 = .pointer (some ⟨B, 0, none⟩) ∧ V.heap.size ≤ B ∧ Hid (MkT wx B t.P (.slice a1 t.ways.l.length c1) (.slice none 0 0) (.slice a3 t.starts.l.length c3) (.slice a4 t.legs.l.length c4)) ∧ Hid (Own3 V.heap.size wx t a1 c1 a3 c3 a4 c4) ∧ Hid (Ext V wx)
theorem cla_set {t : TV} {V w : World} {B : Nat} {a1 a3 a4 : Option Addr} {c1 c3 c4 : Nat} (h : ZB w B) (hB : V.heap.size ≤ B) (H3 : Own3 V.heap.size w t a1 c1 a3 c3 a4 c4) (HX : Ext V w) :
    ClA t V (.pointer (some ⟨B, 0, none⟩)) (((((w.setCell ⟨B, 0, none⟩ (.int .i64 (t.P : Int))).setCell ⟨B, 1, none⟩ (.slice a1 t.ways.l.length c1)).setCell ⟨B, 2, none⟩ (.slice none 0 0)).setCell ⟨B, 3, none⟩ (.slice a3 t.starts.l.length c3)).setCell ⟨B, 4, none⟩ (.slice a4 t.legs.l.length c4)) := by
  have b0 : w.heap[B]? = some (.cells #[.int .i64 0, .slice none 0 0, .slice none 0 0, .slice none 0 0, .slice none 0 0] 28 (0, 0)) := h
  have b1 := heap_setCell_same (i := 0) b0 (.int .i64 (t.P : Int))
  have b2 := heap_setCell_same (i := 1) b1 (.slice a1 t.ways.l.length c1)
  have b3 := heap_setCell_same (i := 2) b2 (.slice none 0 0)
  have b4 := heap_setCell_same (i := 3) b3 (.slice a3 t.starts.l.length c3)
  refine ⟨B, a1, c1, a3, c3, a4, c4, rfl, hB, zb_set h, ⟨?_, ?_, ?_⟩, ((((HX.setCell hB _).setCell hB _).setCell hB _).setCell hB _).setCell hB _⟩
  · exact own_setB (own_setB (own_setB (own_setB (own_setB H3.1 b0 (by decide) _) b1 (by decide) _) b2 (by decide) _) b3 (by decide) _) b4 (by decide) _
  · exact own_setB (own_setB (own_setB (own_setB (own_setB H3.2.1 b0 (by decide) _) b1 (by decide) _) b2 (by decide) _) b3 (by decide) _) b4 (by decide) _
  · exact own_setB (own_setB (own_setB (own_setB (own_setB H3.2.2 b0 (by decide) _) b1 (by decide) _) b2 (by decide) _) b3 (by decide) _) b4 (by decide) _
theorem cla_new {t : TV} {V w : World} {a1 a3 a4 : Option Addr} {c1 c3 c4 : Nat} (H3 : Own3 V.heap.size w t a1 c1 a3 c3 a4 c4) (HX : Ext V w) :
    ClA t V (.pointer (some ⟨w.heap.size, 0, none⟩)) (w.alloc (.cells #[.int .i64 (t.P : Int), .slice a1 t.ways.l.length c1, .slice none 0 0, .slice a3 t.starts.l.length c3, .slice a4 t.legs.l.length c4] 28)) :=
  ⟨w.heap.size, a1, c1, a3, c3, a4, c4, rfl, HX.size, World.alloc_heap_new w _, H3.ext ((Ext.refl w).alloc _), HX.alloc _⟩

theorem WordsC.setB {base : Nat} {w : World} {s : SL (SL MV)} {B i : Nat} {cs : Array Value} {f : Nat × Nat} (h : WordsC base w s) (hB : w.heap[B]? = some (.cells cs 28 f)) (u : Value) : WordsC base (w.setCell ⟨B, i, none⟩ u) s :=
  ⟨own_setB h.1 hB (by decide) u, fun x hx => (h.2 x hx).setB hB u⟩
theorem Own3.setB {base : Nat} {w : World} {t : TV} {a1 a3 a4 : Option Addr} {c1 c3 c4 : Nat} {B i : Nat} {cs : Array Value} {f : Nat × Nat} (h : Own3 base w t a1 c1 a3 c3 a4 c4) (hB : w.heap[B]? = some (.cells cs 28 f)) (u : Value) : Own3 base (w.setCell ⟨B, i, none⟩ u) t a1 c1 a3 c3 a4 c4 :=
  ⟨own_setB h.1 hB (by decide) u, own_setB h.2.1 hB (by decide) u, own_setB h.2.2 hB (by decide) u⟩
theorem isT_own {base : Nat} {w w0 : World} {t : TV} {a1 a3 a4 : Option Addr} {c1 c3 c4 : Nat} {q : SL (SL MV)} (H3 : Own3 base w t a1 c1 a3 c3 a4 c4) (HQ : WordsC base w q) (ht : IsT w0 t) (hq : q.l.map listsOf = t.words.l.map listsOf) : IsT w ⟨t.P, ⟨a1, c1, t.ways.l⟩, q, ⟨a3, c3, t.starts.l⟩, ⟨a4, c4, t.legs.l⟩⟩ := by
  refine ⟨own_slG H3.1 ht.ways.2.1, own_slG HQ.1 ?_, fun s hs => ?_, own_sl H3.2.1 ht.starts.2.1, own_slG H3.2.2 ht.legs.2.1⟩
  · have := congrArg List.length hq
    simp only [List.length_map] at this
    rw [this]; exact ht.words.2.1
  · have : listsOf s ∈ t.words.l.map listsOf := by rw [← hq]; exact List.mem_map.2 ⟨s, hs, rfl⟩
    obtain ⟨p, hp, e⟩ := List.mem_map.1 this
    have hpw := ht.word p hp
    have hl : s.l.length = p.l.length := by have := congrArg List.length e; simp only [listsOf, List.length_map] at this; exact this.symm
    refine ⟨own_slG (HQ.2 s hs).1 (by rw [hl]; exact hpw.1.2.1), fun m hm => ?_⟩
    have hm' : (m.k.l, m.e.l) ∈ listsOf p := by rw [e]; exact List.mem_map.2 ⟨m, hm, rfl⟩
    obtain ⟨z, hz, e2⟩ := List.mem_map.1 hm'
    rw [Prod.mk.injEq] at e2
    have hzm := hpw.2 z hz
    exact ⟨own_sl ((HQ.2 s hs).2 m hm).1 (by rw [← e2.1]; exact hzm.1.2.1), own_sl ((HQ.2 s hs).2 m hm).2 (by rw [← e2.2]; exact hzm.2.2.1)⟩
theorem WordsC.keep {w w' : World} {lo base : Nat} {s : SL (SL MV)} (h : WordsC base w s) (hlo : lo ≤ base) (k : ∀ b, lo ≤ b → b < w.heap.size → w'.heap[b]? = w.heap[b]?) : WordsC base w' s :=
  ⟨own_range h.1 hlo k, fun x hx => ⟨own_range (h.2 x hx).1 hlo k, fun m hm => ⟨own_range ((h.2 x hx).2 m hm).1 hlo k, own_range ((h.2 x hx).2 m hm).2 hlo k⟩⟩⟩
theorem Own3.keep {w w' : World} {lo base : Nat} {t : TV} {a1 a3 a4 : Option Addr} {c1 c3 c4 : Nat} (h : Own3 base w t a1 c1 a3 c3 a4 c4) (hlo : lo ≤ base) (k : ∀ b, lo ≤ b → b < w.heap.size → w'.heap[b]? = w.heap[b]?) : Own3 base w' t a1 c1 a3 c3 a4 c4 :=
  ⟨own_range h.1 hlo k, own_range h.2.1 hlo k, own_range h.2.2 hlo k⟩
theorem clone_fin {base R : Nat} {w V wo : World} {t : TV} {a1 a3 a4 : Option Addr} {c1 c3 c4 : Nat} {q : SL (SL MV)} {u0 u1 u2 u3 u4 : Value} (h : ZB wo R) (hR : w.heap.size ≤ R) (hV : w.heap.size ≤ base) (H3 : Own3 base wo t a1 c1 a3 c3 a4 c4) (HQ : WordsC base wo q) (ht : IsT w t) (hq : q.l.map listsOf = t.words.l.map listsOf) (HX : Ext w V) (HXo : Ext V wo) :
    IsTK w.heap.size (((((wo.setCell ⟨R, 0, none⟩ u0).setCell ⟨R, 1, none⟩ u1).setCell ⟨R, 2, none⟩ u2).setCell ⟨R, 3, none⟩ u3).setCell ⟨R, 4, none⟩ u4) ⟨t.P, ⟨a1, c1, t.ways.l⟩, q, ⟨a3, c3, t.starts.l⟩, ⟨a4, c4, t.legs.l⟩⟩ ∧ Ext w (((((wo.setCell ⟨R, 0, none⟩ u0).setCell ⟨R, 1, none⟩ u1).setCell ⟨R, 2, none⟩ u2).setCell ⟨R, 3, none⟩ u3).setCell ⟨R, 4, none⟩ u4) := by
  have b0 : wo.heap[R]? = some (.cells #[.int .i64 0, .slice none 0 0, .slice none 0 0, .slice none 0 0, .slice none 0 0] 28 (0, 0)) := h
  have b1 := heap_setCell_same (i := 0) b0 u0
  have b2 := heap_setCell_same (i := 1) b1 u1
  have b3 := heap_setCell_same (i := 2) b2 u2
  have b4 := heap_setCell_same (i := 3) b3 u3
  have hx := HX.trans HXo
  exact ⟨fun w' k => isT_own (((((((H3.setB b0 _).setB b1 _).setB b2 _).setB b3 _).setB b4 _)).keep hV k) (((((((HQ.setB b0 _).setB b1 _).setB b2 _).setB b3 _).setB b4 _)).keep hV k) ht hq, ((((hx.setCell hR _).setCell hR _).setCell hR _).setCell hR _).setCell hR _⟩

set_option maxRecDepth 100000 in
set_option maxHeartbeats 4000000 in
theorem cloneT_any (t : TV) (w : World) (ht : IsT w t) (hk : OkT t) : Calls Tryz.prog 25 #[t.v] w (CloneOf t w) := by
  have HT := Lib.hid ht; clear ht
  have HK := Lib.hid hk; clear hk
  obtain ⟨i84, hi84, hz84, hs84, hb84⟩ := info_parts info57
  obtain ⟨i82, hi82, hz82, hs82, hb82⟩ := info_parts info54
  go_enter Tryz.func25, Tryz.ntmps25
  go_upto_region 1 with (fail)
  obtain ⟨V, hV⟩ : ∃ V, (w.alloc (.cells #[.int .i64 (t.P : Int), .slice t.ways.a t.ways.l.length t.ways.c, .slice t.words.a t.words.l.length t.words.c, .slice t.starts.a t.starts.l.length t.starts.c, .slice t.legs.a t.legs.l.length t.legs.c] 28)).alloc boxZ = V := ⟨_, rfl⟩
  have HX0 : Hid (Ext w V) := by rw [← hV]; exact ((Ext.refl w).alloc _).alloc _
  have HTB : Hid (TBox V w.heap.size t) := by rw [← hV]; exact ((Ext.refl _).alloc _).block (World.alloc_heap_new w _)
  have HR0 : Hid (ZB V (w.heap.size + 1)) := by rw [← hV]; have := World.alloc_heap_new (w.alloc (.cells #[.int .i64 (t.P : Int), .slice t.ways.a t.ways.l.length t.ways.c, .slice t.words.a t.words.l.length t.words.c, .slice t.starts.a t.starts.l.length t.starts.c, .slice t.legs.a t.legs.l.length t.legs.c] 28)) boxZ; rwa [World.size_alloc] at this
  rw [hV]
  clear hV
  have hwV : w.heap.size + 1 < V.heap.size := HR0.out.lt
  have KB : Hid (∀ V', Ext V V' → TBox V' w.heap.size t) := fun V' h => h.block HTB.out
  have KT : Hid (∀ V', Ext V V' → IsT V' t) := fun V' h => HT.out.ext (HX0.out.trans h)
  have KF : Hid (∀ V', Ext V V' → V'.cell? ⟨w.heap.size, 0, none⟩ = some (.int .i64 (t.P : Int)) ∧ V'.cell? ⟨w.heap.size, 1, none⟩ = some (.slice t.ways.a t.ways.l.length t.ways.c) ∧ V'.cell? ⟨w.heap.size, 3, none⟩ = some (.slice t.starts.a t.starts.l.length t.starts.c) ∧ V'.cell? ⟨w.heap.size, 4, none⟩ = some (.slice t.legs.a t.legs.l.length t.legs.c)) := fun V' h => by
    obtain ⟨f0, f1, f2, f3, f4⟩ := (show MkT V' w.heap.size t.P t.ways.v t.words.v t.starts.v t.legs.v from KB.out V' h).five; exact ⟨f0, f1, f3, f4⟩
  go_cut [3] (fun s3 wx => ClA t V s3 wx)
  case first =>
    go_region_held3 (fun V' => V'.cell? ⟨w.heap.size, 0, none⟩ = some (.int .i64 (t.P : Int)) ∧ V'.cell? ⟨w.heap.size, 1, none⟩ = some (.slice t.ways.a t.ways.l.length t.ways.c) ∧ V'.cell? ⟨w.heap.size, 3, none⟩ = some (.slice t.starts.a t.starts.l.length t.starts.c) ∧ V'.cell? ⟨w.heap.size, 4, none⟩ = some (.slice t.legs.a t.legs.l.length t.legs.c))
      ((refine KF.out _ ?_; (with_reducible repeat (first | exact Ext.refl _ | exact X3.out | exact X2.out | exact X1.out | refine Ext.drew ?_ | refine Ext.alloc ?_ _ | refine Ext.setCell ?_ (by first | exact Nat.le_refl _ | exact X1.out.size | exact X2.out.size | exact X3.out.size) _))))
      (first
        | (go_at_call 52; refine (waysClone_any _ _ _ t.ways.l _ rfl (KT.out _ (by (with_reducible repeat (first | exact Ext.refl _ | exact X3.out | exact X2.out | exact X1.out | refine Ext.drew ?_ | refine Ext.alloc ?_ _)))).ways).mono ?_; rintro e v1 ⟨a1, c1, rfl, ho1, hx1⟩; have X1 : Hid (Ext V v1) := (Ext.trans (by (with_reducible repeat (first | exact Ext.refl _ | exact X3.out | exact X2.out | exact X1.out | refine Ext.drew ?_ | refine Ext.alloc ?_ _))) hx1); have O1 : Hid (v1.ownsRow V.heap.size 59 3 (.slice a1 t.ways.l.length c1) t.ways.l.length (flat 3 wayC t.ways.l)) := (own_mono ho1 (Ext.size (by (with_reducible repeat (first | exact Ext.refl _ | exact X3.out | exact X2.out | exact X1.out | refine Ext.drew ?_ | refine Ext.alloc ?_ _))))); (try (have Z1 : Hid (ZB v1 V.heap.size) := (zb_call (by with_reducible exact hx1)))); clear hx1 ho1)
        | (go_at_call 53; refine (kitClone_any _ _ _ t.starts.l _ rfl (KT.out _ (by (with_reducible repeat (first | exact Ext.refl _ | exact X3.out | exact X2.out | exact X1.out | refine Ext.drew ?_ | refine Ext.alloc ?_ _)))).starts).mono ?_; rintro e v2 ⟨a3, c3, rfl, ho2, hx2⟩; have X2 : Hid (Ext V v2) := (Ext.trans (by (with_reducible repeat (first | exact Ext.refl _ | exact X3.out | exact X2.out | exact X1.out | refine Ext.drew ?_ | refine Ext.alloc ?_ _))) hx2); have hy2 : Ext v1 v2 := (Ext.trans (by (with_reducible repeat (first | exact Ext.refl _ | refine Ext.drew ?_ | refine Ext.alloc ?_ _))) hx2); have O2 : Hid (v2.ownsRow V.heap.size 59 3 (.slice a1 t.ways.l.length c1) t.ways.l.length (flat 3 wayC t.ways.l) ∧ v2.ownsRow V.heap.size 3 1 (.slice a3 t.starts.l.length c3) t.starts.l.length (nums t.starts.l)) := ⟨own_ext O1.out hy2, own_mono ho2 (Ext.size (by (with_reducible repeat (first | exact Ext.refl _ | exact X3.out | exact X2.out | exact X1.out | refine Ext.drew ?_ | refine Ext.alloc ?_ _))))⟩; (try (have Z2 : Hid (ZB v2 V.heap.size) := (Z1.out.ext hy2))); (try (have Z2 : Hid (ZB v2 v1.heap.size) := (zb_new (by with_reducible exact hx2)))); clear hx2 ho2 hy2)
        | (go_at_call 54; refine (legsClone_any _ _ _ t.legs.l _ rfl (KT.out _ (by (with_reducible repeat (first | exact Ext.refl _ | exact X3.out | exact X2.out | exact X1.out | refine Ext.drew ?_ | refine Ext.alloc ?_ _)))).legs).mono ?_; rintro e v3 ⟨a4, c4, rfl, ho3, hx3⟩; have X3 : Hid (Ext V v3) := (Ext.trans (by (with_reducible repeat (first | exact Ext.refl _ | exact X3.out | exact X2.out | exact X1.out | refine Ext.drew ?_ | refine Ext.alloc ?_ _))) hx3); have hy3 : Ext v2 v3 := (Ext.trans (by (with_reducible repeat (first | exact Ext.refl _ | refine Ext.drew ?_ | refine Ext.alloc ?_ _))) hx3); have O3 : Hid (Own3 V.heap.size v3 t a1 c1 a3 c3 a4 c4) := ⟨own_ext O2.out.1 hy3, own_ext O2.out.2 hy3, own_mono ho3 (Ext.size (by (with_reducible repeat (first | exact Ext.refl _ | exact X3.out | exact X2.out | exact X1.out | refine Ext.drew ?_ | refine Ext.alloc ?_ _))))⟩; (try (have Z3 := (Z2.out.ext hy3); obtain ⟨z0, z1, z2, z3, z4, zf⟩ := Z3.five; have HZ3 := Lib.hid Z3; clear Z3)); (try (have Z3 : ZB v3 v2.heap.size := (zb_new (by with_reducible exact hx3)); obtain ⟨z0, z1, z2, z3, z4, zf⟩ := Z3.five; have HZ3 := Lib.hid Z3; clear Z3)); clear hx3 ho3 hy3))
    all_goals go_wp2_with fail
    all_goals go_meet
    all_goals first
      | with_reducible exact cla_new O3.out X3.out
      | (have hB3 : V.heap.size ≤ V.heap.size := Nat.le_refl _; with_reducible exact cla_set HZ3.out hB3 O3.out X3.out)
      | (have hB3 := X1.out.size; with_reducible exact cla_set HZ3.out hB3 O3.out X3.out)
      | (have hB3 := X2.out.size; with_reducible exact cla_set HZ3.out hB3 O3.out X3.out)
  case rest =>
    obtain ⟨B, a1, c1, a3, c3, a4, c4, rfl, hB0, HM, H3, HX⟩ := hcut
    clear KF HTB
    have hw6 : t.words.l.length ≤ 6 := HK.out.words
    have f2 : wc.cell? ⟨w.heap.size, 2, none⟩ = some (.slice t.words.a t.words.l.length t.words.c) := (cell_at (KB.out _ HX.out) 2).trans rfl
    have m0 : (0 : Int) ≤ (t.words.l.length : Int) := by omega
    go_wp2
    clear f2
    go_loopw [24] (fun i wr => ∃ (j : Nat) (q : SL (SL MV)), j ≤ t.words.l.length ∧ i = .int .i64 j ∧ Hid (q.l.map listsOf = (t.words.l.take j).map listsOf) ∧ Hid (WordsC V.heap.size wr q) ∧ Hid (MkT wr B t.P (.slice a1 t.ways.l.length c1) q.v (.slice a3 t.starts.l.length c3) (.slice a4 t.legs.l.length c4)) ∧ Hid (Own3 V.heap.size wr t a1 c1 a3 c3 a4 c4) ∧ Hid (Ext V wr)) (fun i _ => t.words.l.length - (intOf i).toNat)
    case atStart => exact ⟨0, ⟨none, 0, []⟩, Nat.zero_le _, rfl, rfl, ⟨World.ownsRow_nil _ _ _ _, fun x hx => by simp at hx⟩, HM.out, H3.out, HX.out⟩
    case round =>
      obtain ⟨wo, rfl⟩ : ∃ wo : World, wo = wr := ⟨_, rfl⟩
      obtain ⟨j, q, hj, rfl, HQm, HQ, HMo, H3o, HXo⟩ := hrel
      have hql : q.l.length = j := by have := congrArg List.length HQm.out; simp at this; omega
      by_cases hlt : j < t.words.l.length
      · have dj : decide ((j : Int) < (t.words.l.length : Int)) = true := by simpa using hlt
        have hTo := KT.out wo HXo.out
        obtain ⟨bw, ow, hwa, hwc⟩ := hTo.words.2.2.resolve_left (by omega)
        have cw : wo.cell? ⟨bw, ow + j, none⟩ = some (.slice t.words.l[j].a t.words.l[j].l.length t.words.l[j].c) := by have := hwc j hlt 0 (by omega); simpa [slC] using this
        have hsW := hTo.word _ (List.getElem_mem hlt)
        have hs4 := HK.out.word _ (List.getElem_mem hlt)
        have HQn : Hid (t.words.l.take (j + 1) = t.words.l.take j ++ [t.words.l[j]]) := List.take_succ_eq_append_getElem hlt
        clear hTo hwc
        generalize t.words.l[j] = s at *
        have k0 : (0 : Int) ≤ j := by omega
        rw [hwa]
        have HWa := Lib.hid hwa; clear hwa
        have HsW := Lib.hid hsW; clear hsW
        have s0 : (0 : Int) ≤ (s.l.length : Int) := by omega
        have HQl := Lib.hid hql; clear hql
        go_wp2
        clear cw
        go_loopw [6, 30] (fun v i wr => ∃ (y : Nat) (m : SL MV), y ≤ s.l.length ∧ i = .int .i64 y ∧ v = .slice m.a m.l.length m.c ∧ Hid (m.l.map (fun m => (m.k.l, m.e.l)) = (s.l.take y).map (fun m => (m.k.l, m.e.l))) ∧ Hid (WordC wo.heap.size wr m) ∧ Hid (Ext wo wr)) (fun _ i _ => s.l.length - (intOf i).toNat)
        case atStart => exact ⟨0, ⟨none, 0, []⟩, Nat.zero_le _, rfl, rfl, rfl, ⟨World.ownsRow_nil _ _ _ _, fun x hx => by simp at hx⟩, Ext.refl _⟩
        case round =>
          obtain ⟨wi, rfl⟩ : ∃ wi : World, wi = wr := ⟨_, rfl⟩
          obtain ⟨y, m, hy, rfl, rfl, HMm, HMC, HXi⟩ := hrel
          by_cases hly : y < s.l.length
          · have dy : decide ((y : Int) < (s.l.length : Int)) = true := by simpa using hly
            have hsi := HsW.out.ext HXi.out
            obtain ⟨bs, os, hsa, hsc⟩ := hsi.1.2.2.resolve_left (by omega)
            have d0 : wi.cell? ⟨bs, os + y * 2, none⟩ = some (.slice s.l[y].k.a s.l[y].k.l.length s.l[y].k.c) := by have := hsc y hly 0 (by omega); simpa [meanC] using this
            have d1 : wi.cell? ⟨bs, os + y * 2 + 1, none⟩ = some (.slice s.l[y].e.a s.l[y].e.l.length s.l[y].e.c) := by have := hsc y hly 1 (by omega); simpa [meanC] using this
            have hmn := hsi.2 _ (List.getElem_mem hly)
            have HTn : Hid (s.l.take (y + 1) = s.l.take y ++ [s.l[y]]) := List.take_succ_eq_append_getElem hly
            clear hsi hsc
            generalize s.l[y] = z at *
            have HMn := Lib.hid hmn; clear hmn
            have k1 : (0 : Int) ≤ y := by omega
            rw [hsa]
            have HSa := Lib.hid hsa; clear hsa
            have H63 : Hid (m.l.length + 1 ≤ maxLen) := by show _ ≤ _; have := congrArg List.length HMm.out; simp at this; unfold maxLen; omega
            have HBY : Hid ((m.l.length + 1) * 48 ≤ 140737488355328) := by show _ ≤ _; have := congrArg List.length HMm.out; simp at this; omega
            go_upto_region 9 with (fail)
            clear d0 d1
            obtain ⟨X, hX⟩ : ∃ X, wi.alloc (.cells #[.slice z.k.a z.k.l.length z.k.c, .slice z.e.a z.e.l.length z.e.c] 57) = X := ⟨_, rfl⟩
            have HXX : Hid (Ext wi X) := by rw [← hX]; exact (Ext.refl wi).alloc _
            have HbX : Hid (X.heap[wi.heap.size]? = some (.cells #[.slice z.k.a z.k.l.length z.k.c, .slice z.e.a z.e.l.length z.e.c] 57 (0, 0))) := by rw [← hX]; exact World.alloc_heap_new wi _
            rw [hX]
            clear hX
            have KX : Hid (∀ V', Ext X V' → V'.cell? ⟨wi.heap.size, 0, none⟩ = some (.slice z.k.a z.k.l.length z.k.c) ∧ V'.cell? ⟨wi.heap.size, 1, none⟩ = some (.slice z.e.a z.e.l.length z.e.c)) := fun V' h => ⟨(cell_at (h.block HbX.out) 0).trans rfl, (cell_at (h.block HbX.out) 1).trans rfl⟩
            obtain ⟨e0, e1⟩ := KX.out X (Ext.refl X)
            have HXo9 : Hid (Ext wo X) := HXi.out.trans HXX.out
            go_region_law (first
              | (go_simp; go_at_call_of 53 (Value.slice z.k.a z.k.l.length z.k.c); refine (kitClone_any z.k.a z.k.l.length z.k.c z.k.l X.drew rfl ((HMn.out.1.ext HXX.out).ext (Ext.refl X).drew)).mono ?_; rintro e x1 ⟨ak, ck, rfl, ho, hx⟩; have E1 : Hid (Ext X x1) := ((Ext.refl X).drew).trans hx; have HLk : Hid (LO wo.heap.size x1 ⟨ak, ck, z.k.l⟩) := own_mono ho HXo9.out.size; obtain ⟨e0', e1'⟩ := KX.out x1 E1.out; clear ho hx)
              | (go_simp; go_at_call_of 53 (Value.slice z.e.a z.e.l.length z.e.c); refine (kitClone_any z.e.a z.e.l.length z.e.c z.e.l x1 rfl ((HMn.out.2.ext HXX.out).ext E1.out)).mono ?_; rintro e x2 ⟨ae, ce, rfl, ho, hx⟩; have E2 : Hid (Ext X x2) := E1.out.trans hx; have HLe : Hid (LO wo.heap.size x2 ⟨ae, ce, z.e.l⟩) := own_mono ho (HXo9.out.trans E1.out).size; have HLk2 : Hid (LO wo.heap.size x2 ⟨ak, ck, z.k.l⟩) := own_ext HLk.out hx; have HW2 : Hid (WordC wo.heap.size x2 m) := HMC.out.ext (HXX.out.trans E2.out); have HS2 : Hid (wo.heap.size ≤ x2.heap.size) := (HXo9.out.trans E2.out).size; clear ho hx)
              | (refine step_append_lies _ rfl (.tmp 34) (.tmp 42) 54 rfl wo.heap.size 57 i84 (.agg #[.slice none 0 0, .slice none 0 0]) 2 48 Tryz.underlying54 hi84 hz84 hs84 hb84 rfl (by decide) (.slice m.a m.l.length m.c) m.l.length (flat 2 meanC m.l) ?_ (HW2.out.1.alloc _) ⟨x2.heap.size, 0, none⟩ 1 1 (flat 2 meanC [⟨⟨ak, ck, z.k.l⟩, ⟨ae, ce, z.e.l⟩⟩]) ?_ rfl (new_cells x2 (flat 2 meanC [⟨⟨ak, ck, z.k.l⟩, ⟨ae, ce, z.e.l⟩⟩]) 57) (mean_one _) (by decide) H63.out HBY.out ?_ _ rfl ?_; (simp [Act.eval]); (simp [Act.eval]); (rw [World.size_alloc]; exact Nat.le_succ_of_le HS2.out); intro g cap x3 hown hgrow hwh hgl; have hx := (Ext.refl x2).alloc (.cells (flat 2 meanC [⟨⟨ak, ck, z.k.l⟩, ⟨ae, ce, z.e.l⟩⟩]).toArray 57); have HW3 : Hid (WordC wo.heap.size x3 ⟨some ⟨g, 0, none⟩, cap, m.l ++ [⟨⟨ak, ck, z.k.l⟩, ⟨ae, ce, z.e.l⟩⟩]⟩) := (HW2.out.ext hx).append (HLk2.out.ext hx) (HLe.out.ext hx) hown hgrow; have HX3 : Hid (Ext wo x3) := ext_grown_of ((HXo9.out.trans E2.out).alloc _) hgrow (fun i hi => own_lt HW2.out.1 i hi); clear hx hown hgrow hwh hgl))
            all_goals
              go_wp2
              refine ⟨⟨y + 1, ⟨some ⟨g, 0, none⟩, cap, m.l ++ [⟨⟨ak, ck, z.k.l⟩, ⟨ae, ce, z.e.l⟩⟩]⟩, by omega, by go_num, by simp, ?_, HW3, HX3⟩, ?_⟩
              · show List.map _ _ = List.map _ _
                rw [HTn.out, List.map_append, List.map_append, HMm.out]; rfl
              · simp [intOf]; omega
          · have hye : y = s.l.length := by omega
            have dy : decide ((y : Int) < (s.l.length : Int)) = false := decide_eq_false (by omega)
            have HMe : Hid (listsOf m = listsOf s) := by
              have := HMm.out
              rw [List.take_of_length_le (by omega)] at this
              exact this
            clear HMm hye
            have HMi : Hid (MkT wi B t.P (.slice a1 t.ways.l.length c1) q.v (.slice a3 t.starts.l.length c3) (.slice a4 t.legs.l.length c4)) := HXi.out.block HMo.out
            have HQi : Hid (WordsC V.heap.size wi q) := HQ.out.ext HXi.out
            have H3i : Hid (Own3 V.heap.size wi t a1 c1 a3 c3 a4 c4) := H3o.out.ext HXi.out
            have HWm : Hid (WordC V.heap.size wi m) := HMC.out.base HXo.out.size
            have HXv : Hid (Ext V wi) := HXo.out.trans HXi.out
            have hm6 : q.l.length + 1 ≤ maxLen := by have := HQl.out; unfold maxLen; omega
            have hq6 : q.l.length ≤ 6 := by have := HQl.out; omega
            have hb4 : V.heap.size ≤ wi.heap.size + 1 := by have := HXv.out.size; omega
            have HB0 : Hid (V.heap.size ≤ B) := hB0
            have c2 := HMi.out.five.2.2.1
            go_wp2_with (at_builtin; go_must (refine wpList_append_own _ rfl _ _ 24 rfl V.heap.size 54 i82 (.slice none 0 0) 1 24 Tryz.underlying24 hi82 hz82 hs82 hb82 rfl (by decide) _ q.l.length (flat 1 slC q.l) rfl (HQi.out.1.alloc _) ⟨wi.heap.size, 0, none⟩ 1 1 (flat 1 slC [m]) rfl rfl (new_cells wi (flat 1 slC [m]) 54) (word_one m) hm6 (by omega) (by simp; omega) ?_); intro v' w9 hown hgrow _; obtain ⟨g, cap, rfl⟩ := ownsRow_succ hown; obtain ⟨⟨cv, fv⟩, hA, hC, hD3, hE⟩ := wordsC_leaf (Nat.le_refl _) HB0.out HQi.out HWm.out HMi.out H3i.out HXv.out hown hgrow; clear hown hgrow)
            refine ⟨⟨j + 1, ⟨some ⟨g, 0, none⟩, cap, q.l ++ [m]⟩, by omega, by go_num, ?_, hA, ?_, hD3, hE⟩, ?_⟩
            · show List.map _ _ = List.map _ _
              rw [HQn.out, List.map_append, List.map_append, HQm.out]
              simp only [List.map_cons, List.map_nil, HMe.out]
            · show MkT _ B _ _ (.slice _ (q.l ++ [m]).length cap) _ _
              rw [List.length_append]; exact hC.out
            · simp [intOf]; omega
      · have hje : j = t.words.l.length := by omega
        have dj : decide ((j : Int) < (t.words.l.length : Int)) = false := decide_eq_false (by omega)
        have HQe : Hid (q.l.map listsOf = t.words.l.map listsOf) := by
          have := HQm.out
          rwa [List.take_of_length_le (by omega)] at this
        clear hje HQm hql
        have HR := Lib.hid (HR0.out.ext HXo.out)
        obtain ⟨c0, c1', c2, c3', c4'⟩ := HMo.out.five
        obtain ⟨e0, e1, e2, e3, e4, g0⟩ := HR.out.five
        go_wp2
        have hRl : wo.heap[w.heap.size + 1]? = some (.cells #[.int .i64 0, .slice none 0 0, .slice none 0 0, .slice none 0 0, .slice none 0 0] 28 (0, 0)) := HR.out
        refine bodyPost_ret (v := (TV.v ⟨t.P, ⟨a1, c1, t.ways.l⟩, q, ⟨a3, c3, t.starts.l⟩, ⟨a4, c4, t.legs.l⟩⟩)) (results_cell_row rfl _ _ (w.heap.size + 1) 28 #[.int .i64 (t.P : Int), .slice a1 t.ways.l.length c1, .slice q.a q.l.length q.c, .slice a3 t.starts.l.length c3, .slice a4 t.legs.l.length c4] (0, 0) _ rfl ?_ Tryz.underlying28 rfl (by kernel_rfl)) rfl ?_
        · exact heap_setCell_same (heap_setCell_same (heap_setCell_same (heap_setCell_same (heap_setCell_same hRl _) _) _) _) _
        · obtain ⟨q1, q2⟩ := clone_fin (u0 := .int .i64 (t.P : Int)) (u1 := .slice a1 t.ways.l.length c1) (u2 := .slice q.a q.l.length q.c) (u3 := .slice a3 t.starts.l.length c3) (u4 := .slice a4 t.legs.l.length c4) HR.out (Nat.le_succ _) HX0.out.size H3o.out HQ.out HT.out HQe.out HX0.out HXo.out
          exact ⟨⟨t.P, ⟨a1, c1, t.ways.l⟩, q, ⟨a3, c3, t.starts.l⟩, ⟨a4, c4, t.legs.l⟩⟩, rfl, q1, ⟨⟨rfl, rfl, HQe.out⟩, rfl, rfl⟩, q2⟩
end Go.Proofs.YtopjjcgmcieboaaGreatDoor

namespace Go.Proofs.YtopjjcgmcieboaaGreatDoor
open Go.RowKit

/-- A row of one's own, in a block of which S speaks. -/
def RowS (S : Nat → Prop) (w : World) (e : TypeId) (size : Nat) (v : Value) (n : Nat) (xs : List Value) : Prop := w.ownsRow 0 e size v n xs ∧ ∀ g, v.ownBlock = some g → S g
theorem RowS.keep {S D : Nat → Prop} {w w' : World} {e : TypeId} {size : Nat} {v : Value} {n : Nat} {xs : List Value} (h : RowS S w e size v n xs) (k : Keep D w w') (hd : ∀ g, g < w.heap.size → S g → D g) : RowS S w' e size v n xs :=
  ⟨own_blocks h.1 (fun g hg => k.block g (own_in h.1 hg) (hd g (own_in h.1 hg) (h.2 g hg))), h.2⟩
theorem RowS.mono {S S' : Nat → Prop} {w : World} {e : TypeId} {size : Nat} {v : Value} {n : Nat} {xs : List Value} (h : RowS S w e size v n xs) (hs : ∀ g, g < w.heap.size → S g → S' g) : RowS S' w e size v n xs :=
  ⟨h.1, fun g hg => hs g (own_in h.1 hg) (h.2 g hg)⟩
theorem RowS.of {lo : Nat} {w : World} {e : TypeId} {size : Nat} {v : Value} {n : Nat} {xs : List Value} (h : w.ownsRow lo e size v n xs) : RowS (fun g => lo ≤ g ∧ g < w.heap.size) w e size v n xs :=
  ⟨own_mono h (Nat.zero_le _), fun g hg => ⟨own_lt h g hg, own_in h hg⟩⟩
/-- Words are apart from each other. -/
abbrev apB (x y : SL MV) : Prop := x.v.ownBlock = none ∨ x.v.ownBlock ≠ y.v.ownBlock
def ApW (q : SL (SL MV)) : Prop := q.l.Pairwise apB
theorem ApW.snoc {base : Nat} {wo wi : World} {q : SL (SL MV)} {m : SL MV} {a : Option Addr} {c : Nat} (h : ApW q) (hq : WordsC base wo q) (hm : WordC wo.heap.size wi m) : ApW ⟨a, c, q.l ++ [m]⟩ := by
  unfold ApW at h ⊢
  rw [List.pairwise_append]
  refine ⟨h, List.pairwise_singleton _ _, fun x hx y hy => ?_⟩
  rw [List.mem_singleton] at hy
  subst hy
  cases hb : x.v.ownBlock with
  | none => exact .inl hb
  | some g =>
    refine .inr fun e => ?_
    have h1 := own_in (hq.2 x hx).1 hb
    have h2 := own_lt hm.1 g (e.symm.trans hb)
    omega
/-- A treaty in memory of its own, in blocks of which S speaks. -/
structure OwnS (S : Nat → Prop) (w : World) (t : TV) : Prop where
  ways : RowS S w 59 3 (.slice t.ways.a t.ways.l.length t.ways.c) t.ways.l.length (flat 3 wayC t.ways.l)
  words : RowS S w 54 1 (.slice t.words.a t.words.l.length t.words.c) t.words.l.length (flat 1 slC t.words.l)
  word : ∀ x ∈ t.words.l, RowS S w 57 2 x.v x.l.length (flat 2 meanC x.l) ∧ ∀ m ∈ x.l, RowS S w 3 1 m.k.v m.k.l.length (nums m.k.l) ∧ RowS S w 3 1 m.e.v m.e.l.length (nums m.e.l)
  apart : t.words.l.Pairwise apB
  starts : RowS S w 3 1 (.slice t.starts.a t.starts.l.length t.starts.c) t.starts.l.length (nums t.starts.l)
  legs : RowS S w 63 2 (.slice t.legs.a t.legs.l.length t.legs.c) t.legs.l.length (flat 2 legC t.legs.l)
theorem OwnS.keep {S D : Nat → Prop} {w w' : World} {t : TV} (h : OwnS S w t) (k : Keep D w w') (hd : ∀ g, g < w.heap.size → S g → D g) : OwnS S w' t :=
  ⟨h.ways.keep k hd, h.words.keep k hd, fun x hx => ⟨(h.word x hx).1.keep k hd, fun m hm => ⟨((h.word x hx).2 m hm).1.keep k hd, ((h.word x hx).2 m hm).2.keep k hd⟩⟩, h.apart, h.starts.keep k hd, h.legs.keep k hd⟩
theorem OwnS.mono {S S' : Nat → Prop} {w : World} {t : TV} (h : OwnS S w t) (hs : ∀ g, g < w.heap.size → S g → S' g) : OwnS S' w t :=
  ⟨h.ways.mono hs, h.words.mono hs, fun x hx => ⟨(h.word x hx).1.mono hs, fun m hm => ⟨((h.word x hx).2 m hm).1.mono hs, ((h.word x hx).2 m hm).2.mono hs⟩⟩, h.apart, h.starts.mono hs, h.legs.mono hs⟩
theorem OwnS.ext {S : Nat → Prop} {w w' : World} {t : TV} (h : OwnS S w t) (k : Ext w w') : OwnS S w' t := h.keep (D := fun _ => True) (Keep.of_ext k) (fun _ _ _ => trivial)
/-- A valid treaty of one's own reads as such. -/
theorem OwnS.is {S : Nat → Prop} {w : World} {t : TV} (h : OwnS S w t) (hk : OkT t) : IsT w t := by
  have hP := hk.p2
  refine ⟨own_slG h.ways.1 (show t.ways.l.length ≤ 1000000 by have := hk.ways; omega), own_slG h.words.1 (show t.words.l.length ≤ 1000000 by have := hk.words; omega), fun s hs => ?_, own_sl h.starts.1 (show t.starts.l.length ≤ 1000000 by have := hk.starts2; omega), own_slG h.legs.1 (show t.legs.l.length ≤ 1000000 by have := hk.legs; omega)⟩
  refine ⟨own_slG (h.word s hs).1.1 (show s.l.length ≤ 1000000 by have := (hk.word s hs).2; omega), fun m hm => ?_⟩
  have h1 := hk.kinds s hs m hm
  have h2 := hk.ends s hs m hm
  have l1 := len_sorted h1.2 8 (fun x hx => by have := h1.1 x hx; omega)
  have l2 := len_sorted h2.2 t.P h2.1
  exact ⟨own_sl ((h.word s hs).2 m hm).1.1 (show m.k.l.length ≤ 1000000 by omega), own_sl ((h.word s hs).2 m hm).2.1 (show m.e.l.length ≤ 1000000 by omega)⟩
/-- A treaty was copied. -/
def CloneW (t : TV) (w : World) (e : Ending) (w' : World) : Prop := ∃ t' : TV, e = .returned t'.v ∧ Hid (OwnS (fun g => w.heap.size ≤ g ∧ g < w'.heap.size) w' t') ∧ Hid (SameT t t') ∧ Ext w w'
theorem clone_own {base R : Nat} {w wo : World} {t : TV} {a1 a3 a4 : Option Addr} {c1 c3 c4 : Nat} {q : SL (SL MV)} {u0 u1 u2 u3 u4 : Value} (h : ZB wo R) (hV : w.heap.size ≤ base) (H3 : Own3 base wo t a1 c1 a3 c3 a4 c4) (HQ : WordsC base wo q) (HA : ApW q) :
    OwnS (fun g => w.heap.size ≤ g ∧ g < (((((wo.setCell ⟨R, 0, none⟩ u0).setCell ⟨R, 1, none⟩ u1).setCell ⟨R, 2, none⟩ u2).setCell ⟨R, 3, none⟩ u3).setCell ⟨R, 4, none⟩ u4).heap.size) (((((wo.setCell ⟨R, 0, none⟩ u0).setCell ⟨R, 1, none⟩ u1).setCell ⟨R, 2, none⟩ u2).setCell ⟨R, 3, none⟩ u3).setCell ⟨R, 4, none⟩ u4) ⟨t.P, ⟨a1, c1, t.ways.l⟩, q, ⟨a3, c3, t.starts.l⟩, ⟨a4, c4, t.legs.l⟩⟩ := by
  have b0 : wo.heap[R]? = some (.cells #[.int .i64 0, .slice none 0 0, .slice none 0 0, .slice none 0 0, .slice none 0 0] 28 (0, 0)) := h
  have b1 := heap_setCell_same (i := 0) b0 u0
  have b2 := heap_setCell_same (i := 1) b1 u1
  have b3 := heap_setCell_same (i := 2) b2 u2
  have b4 := heap_setCell_same (i := 3) b3 u3
  have HQ' := ((((HQ.setB (i := 0) b0 u0).setB (i := 1) b1 u1).setB (i := 2) b2 u2).setB (i := 3) b3 u3).setB (i := 4) b4 u4
  have H3' := ((((H3.setB (i := 0) b0 u0).setB (i := 1) b1 u1).setB (i := 2) b2 u2).setB (i := 3) b3 u3).setB (i := 4) b4 u4
  generalize ((((wo.setCell ⟨R, 0, none⟩ u0).setCell ⟨R, 1, none⟩ u1).setCell ⟨R, 2, none⟩ u2).setCell ⟨R, 3, none⟩ u3).setCell ⟨R, 4, none⟩ u4 = W at *
  exact ⟨RowS.of (own_mono H3'.1 hV), RowS.of (own_mono HQ'.1 hV), fun x hx => ⟨RowS.of (own_mono (HQ'.2 x hx).1 hV), fun m hm => ⟨RowS.of (own_mono ((HQ'.2 x hx).2 m hm).1 hV), RowS.of (own_mono ((HQ'.2 x hx).2 m hm).2 hV)⟩⟩, HA, RowS.of (own_mono H3'.2.1 hV), RowS.of (own_mono H3'.2.2 hV)⟩

set_option maxRecDepth 100000 in
set_option maxHeartbeats 4000000 in
theorem cloneW_any (t : TV) (w : World) (ht : IsT w t) (hk : OkT t) : Calls Tryz.prog 25 #[t.v] w (CloneW t w) := by
  have HT := Lib.hid ht; clear ht
  have HK := Lib.hid hk; clear hk
  obtain ⟨i84, hi84, hz84, hs84, hb84⟩ := info_parts info57
  obtain ⟨i82, hi82, hz82, hs82, hb82⟩ := info_parts info54
  go_enter Tryz.func25, Tryz.ntmps25
  go_upto_region 1 with (fail)
  obtain ⟨V, hV⟩ : ∃ V, (w.alloc (.cells #[.int .i64 (t.P : Int), .slice t.ways.a t.ways.l.length t.ways.c, .slice t.words.a t.words.l.length t.words.c, .slice t.starts.a t.starts.l.length t.starts.c, .slice t.legs.a t.legs.l.length t.legs.c] 28)).alloc boxZ = V := ⟨_, rfl⟩
  have HX0 : Hid (Ext w V) := by rw [← hV]; exact ((Ext.refl w).alloc _).alloc _
  have HTB : Hid (TBox V w.heap.size t) := by rw [← hV]; exact ((Ext.refl _).alloc _).block (World.alloc_heap_new w _)
  have HR0 : Hid (ZB V (w.heap.size + 1)) := by rw [← hV]; have := World.alloc_heap_new (w.alloc (.cells #[.int .i64 (t.P : Int), .slice t.ways.a t.ways.l.length t.ways.c, .slice t.words.a t.words.l.length t.words.c, .slice t.starts.a t.starts.l.length t.starts.c, .slice t.legs.a t.legs.l.length t.legs.c] 28)) boxZ; rwa [World.size_alloc] at this
  rw [hV]
  clear hV
  have hwV : w.heap.size + 1 < V.heap.size := HR0.out.lt
  have KB : Hid (∀ V', Ext V V' → TBox V' w.heap.size t) := fun V' h => h.block HTB.out
  have KT : Hid (∀ V', Ext V V' → IsT V' t) := fun V' h => HT.out.ext (HX0.out.trans h)
  have KF : Hid (∀ V', Ext V V' → V'.cell? ⟨w.heap.size, 0, none⟩ = some (.int .i64 (t.P : Int)) ∧ V'.cell? ⟨w.heap.size, 1, none⟩ = some (.slice t.ways.a t.ways.l.length t.ways.c) ∧ V'.cell? ⟨w.heap.size, 3, none⟩ = some (.slice t.starts.a t.starts.l.length t.starts.c) ∧ V'.cell? ⟨w.heap.size, 4, none⟩ = some (.slice t.legs.a t.legs.l.length t.legs.c)) := fun V' h => by
    obtain ⟨f0, f1, f2, f3, f4⟩ := (show MkT V' w.heap.size t.P t.ways.v t.words.v t.starts.v t.legs.v from KB.out V' h).five; exact ⟨f0, f1, f3, f4⟩
  go_cut [3] (fun s3 wx => ClA t V s3 wx)
  case first =>
    go_region_held3 (fun V' => V'.cell? ⟨w.heap.size, 0, none⟩ = some (.int .i64 (t.P : Int)) ∧ V'.cell? ⟨w.heap.size, 1, none⟩ = some (.slice t.ways.a t.ways.l.length t.ways.c) ∧ V'.cell? ⟨w.heap.size, 3, none⟩ = some (.slice t.starts.a t.starts.l.length t.starts.c) ∧ V'.cell? ⟨w.heap.size, 4, none⟩ = some (.slice t.legs.a t.legs.l.length t.legs.c))
      ((refine KF.out _ ?_; (with_reducible repeat (first | exact Ext.refl _ | exact X3.out | exact X2.out | exact X1.out | refine Ext.drew ?_ | refine Ext.alloc ?_ _ | refine Ext.setCell ?_ (by first | exact Nat.le_refl _ | exact X1.out.size | exact X2.out.size | exact X3.out.size) _))))
      (first
        | (go_at_call 52; refine (waysClone_any _ _ _ t.ways.l _ rfl (KT.out _ (by (with_reducible repeat (first | exact Ext.refl _ | exact X3.out | exact X2.out | exact X1.out | refine Ext.drew ?_ | refine Ext.alloc ?_ _)))).ways).mono ?_; rintro e v1 ⟨a1, c1, rfl, ho1, hx1⟩; have X1 : Hid (Ext V v1) := (Ext.trans (by (with_reducible repeat (first | exact Ext.refl _ | exact X3.out | exact X2.out | exact X1.out | refine Ext.drew ?_ | refine Ext.alloc ?_ _))) hx1); have O1 : Hid (v1.ownsRow V.heap.size 59 3 (.slice a1 t.ways.l.length c1) t.ways.l.length (flat 3 wayC t.ways.l)) := (own_mono ho1 (Ext.size (by (with_reducible repeat (first | exact Ext.refl _ | exact X3.out | exact X2.out | exact X1.out | refine Ext.drew ?_ | refine Ext.alloc ?_ _))))); (try (have Z1 : Hid (ZB v1 V.heap.size) := (zb_call (by with_reducible exact hx1)))); clear hx1 ho1)
        | (go_at_call 53; refine (kitClone_any _ _ _ t.starts.l _ rfl (KT.out _ (by (with_reducible repeat (first | exact Ext.refl _ | exact X3.out | exact X2.out | exact X1.out | refine Ext.drew ?_ | refine Ext.alloc ?_ _)))).starts).mono ?_; rintro e v2 ⟨a3, c3, rfl, ho2, hx2⟩; have X2 : Hid (Ext V v2) := (Ext.trans (by (with_reducible repeat (first | exact Ext.refl _ | exact X3.out | exact X2.out | exact X1.out | refine Ext.drew ?_ | refine Ext.alloc ?_ _))) hx2); have hy2 : Ext v1 v2 := (Ext.trans (by (with_reducible repeat (first | exact Ext.refl _ | refine Ext.drew ?_ | refine Ext.alloc ?_ _))) hx2); have O2 : Hid (v2.ownsRow V.heap.size 59 3 (.slice a1 t.ways.l.length c1) t.ways.l.length (flat 3 wayC t.ways.l) ∧ v2.ownsRow V.heap.size 3 1 (.slice a3 t.starts.l.length c3) t.starts.l.length (nums t.starts.l)) := ⟨own_ext O1.out hy2, own_mono ho2 (Ext.size (by (with_reducible repeat (first | exact Ext.refl _ | exact X3.out | exact X2.out | exact X1.out | refine Ext.drew ?_ | refine Ext.alloc ?_ _))))⟩; (try (have Z2 : Hid (ZB v2 V.heap.size) := (Z1.out.ext hy2))); (try (have Z2 : Hid (ZB v2 v1.heap.size) := (zb_new (by with_reducible exact hx2)))); clear hx2 ho2 hy2)
        | (go_at_call 54; refine (legsClone_any _ _ _ t.legs.l _ rfl (KT.out _ (by (with_reducible repeat (first | exact Ext.refl _ | exact X3.out | exact X2.out | exact X1.out | refine Ext.drew ?_ | refine Ext.alloc ?_ _)))).legs).mono ?_; rintro e v3 ⟨a4, c4, rfl, ho3, hx3⟩; have X3 : Hid (Ext V v3) := (Ext.trans (by (with_reducible repeat (first | exact Ext.refl _ | exact X3.out | exact X2.out | exact X1.out | refine Ext.drew ?_ | refine Ext.alloc ?_ _))) hx3); have hy3 : Ext v2 v3 := (Ext.trans (by (with_reducible repeat (first | exact Ext.refl _ | refine Ext.drew ?_ | refine Ext.alloc ?_ _))) hx3); have O3 : Hid (Own3 V.heap.size v3 t a1 c1 a3 c3 a4 c4) := ⟨own_ext O2.out.1 hy3, own_ext O2.out.2 hy3, own_mono ho3 (Ext.size (by (with_reducible repeat (first | exact Ext.refl _ | exact X3.out | exact X2.out | exact X1.out | refine Ext.drew ?_ | refine Ext.alloc ?_ _))))⟩; (try (have Z3 := (Z2.out.ext hy3); obtain ⟨z0, z1, z2, z3, z4, zf⟩ := Z3.five; have HZ3 := Lib.hid Z3; clear Z3)); (try (have Z3 : ZB v3 v2.heap.size := (zb_new (by with_reducible exact hx3)); obtain ⟨z0, z1, z2, z3, z4, zf⟩ := Z3.five; have HZ3 := Lib.hid Z3; clear Z3)); clear hx3 ho3 hy3))
    all_goals go_wp2_with fail
    all_goals go_meet
    all_goals first
      | with_reducible exact cla_new O3.out X3.out
      | (have hB3 : V.heap.size ≤ V.heap.size := Nat.le_refl _; with_reducible exact cla_set HZ3.out hB3 O3.out X3.out)
      | (have hB3 := X1.out.size; with_reducible exact cla_set HZ3.out hB3 O3.out X3.out)
      | (have hB3 := X2.out.size; with_reducible exact cla_set HZ3.out hB3 O3.out X3.out)
  case rest =>
    obtain ⟨B, a1, c1, a3, c3, a4, c4, rfl, hB0, HM, H3, HX⟩ := hcut
    clear KF HTB
    have hw6 : t.words.l.length ≤ 6 := HK.out.words
    have f2 : wc.cell? ⟨w.heap.size, 2, none⟩ = some (.slice t.words.a t.words.l.length t.words.c) := (cell_at (KB.out _ HX.out) 2).trans rfl
    have m0 : (0 : Int) ≤ (t.words.l.length : Int) := by omega
    go_wp2
    clear f2
    go_loopw [24] (fun i wr => ∃ (j : Nat) (q : SL (SL MV)), j ≤ t.words.l.length ∧ i = .int .i64 j ∧ Hid (q.l.map listsOf = (t.words.l.take j).map listsOf) ∧ Hid (WordsC V.heap.size wr q) ∧ Hid (ApW q) ∧ Hid (MkT wr B t.P (.slice a1 t.ways.l.length c1) q.v (.slice a3 t.starts.l.length c3) (.slice a4 t.legs.l.length c4)) ∧ Hid (Own3 V.heap.size wr t a1 c1 a3 c3 a4 c4) ∧ Hid (Ext V wr)) (fun i _ => t.words.l.length - (intOf i).toNat)
    case atStart => exact ⟨0, ⟨none, 0, []⟩, Nat.zero_le _, rfl, rfl, ⟨World.ownsRow_nil _ _ _ _, fun x hx => by simp at hx⟩, List.Pairwise.nil, HM.out, H3.out, HX.out⟩
    case round =>
      obtain ⟨wo, rfl⟩ : ∃ wo : World, wo = wr := ⟨_, rfl⟩
      obtain ⟨j, q, hj, rfl, HQm, HQ, HAp, HMo, H3o, HXo⟩ := hrel
      have hql : q.l.length = j := by have := congrArg List.length HQm.out; simp at this; omega
      by_cases hlt : j < t.words.l.length
      · have dj : decide ((j : Int) < (t.words.l.length : Int)) = true := by simpa using hlt
        have hTo := KT.out wo HXo.out
        obtain ⟨bw, ow, hwa, hwc⟩ := hTo.words.2.2.resolve_left (by omega)
        have cw : wo.cell? ⟨bw, ow + j, none⟩ = some (.slice t.words.l[j].a t.words.l[j].l.length t.words.l[j].c) := by have := hwc j hlt 0 (by omega); simpa [slC] using this
        have hsW := hTo.word _ (List.getElem_mem hlt)
        have hs4 := HK.out.word _ (List.getElem_mem hlt)
        have HQn : Hid (t.words.l.take (j + 1) = t.words.l.take j ++ [t.words.l[j]]) := List.take_succ_eq_append_getElem hlt
        clear hTo hwc
        generalize t.words.l[j] = s at *
        have k0 : (0 : Int) ≤ j := by omega
        rw [hwa]
        have HWa := Lib.hid hwa; clear hwa
        have HsW := Lib.hid hsW; clear hsW
        have s0 : (0 : Int) ≤ (s.l.length : Int) := by omega
        have HQl := Lib.hid hql; clear hql
        go_wp2
        clear cw
        go_loopw [6, 30] (fun v i wr => ∃ (y : Nat) (m : SL MV), y ≤ s.l.length ∧ i = .int .i64 y ∧ v = .slice m.a m.l.length m.c ∧ Hid (m.l.map (fun m => (m.k.l, m.e.l)) = (s.l.take y).map (fun m => (m.k.l, m.e.l))) ∧ Hid (WordC wo.heap.size wr m) ∧ Hid (Ext wo wr)) (fun _ i _ => s.l.length - (intOf i).toNat)
        case atStart => exact ⟨0, ⟨none, 0, []⟩, Nat.zero_le _, rfl, rfl, rfl, ⟨World.ownsRow_nil _ _ _ _, fun x hx => by simp at hx⟩, Ext.refl _⟩
        case round =>
          obtain ⟨wi, rfl⟩ : ∃ wi : World, wi = wr := ⟨_, rfl⟩
          obtain ⟨y, m, hy, rfl, rfl, HMm, HMC, HXi⟩ := hrel
          by_cases hly : y < s.l.length
          · have dy : decide ((y : Int) < (s.l.length : Int)) = true := by simpa using hly
            have hsi := HsW.out.ext HXi.out
            obtain ⟨bs, os, hsa, hsc⟩ := hsi.1.2.2.resolve_left (by omega)
            have d0 : wi.cell? ⟨bs, os + y * 2, none⟩ = some (.slice s.l[y].k.a s.l[y].k.l.length s.l[y].k.c) := by have := hsc y hly 0 (by omega); simpa [meanC] using this
            have d1 : wi.cell? ⟨bs, os + y * 2 + 1, none⟩ = some (.slice s.l[y].e.a s.l[y].e.l.length s.l[y].e.c) := by have := hsc y hly 1 (by omega); simpa [meanC] using this
            have hmn := hsi.2 _ (List.getElem_mem hly)
            have HTn : Hid (s.l.take (y + 1) = s.l.take y ++ [s.l[y]]) := List.take_succ_eq_append_getElem hly
            clear hsi hsc
            generalize s.l[y] = z at *
            have HMn := Lib.hid hmn; clear hmn
            have k1 : (0 : Int) ≤ y := by omega
            rw [hsa]
            have HSa := Lib.hid hsa; clear hsa
            have H63 : Hid (m.l.length + 1 ≤ maxLen) := by show _ ≤ _; have := congrArg List.length HMm.out; simp at this; unfold maxLen; omega
            have HBY : Hid ((m.l.length + 1) * 48 ≤ 140737488355328) := by show _ ≤ _; have := congrArg List.length HMm.out; simp at this; omega
            go_upto_region 9 with (fail)
            clear d0 d1
            obtain ⟨X, hX⟩ : ∃ X, wi.alloc (.cells #[.slice z.k.a z.k.l.length z.k.c, .slice z.e.a z.e.l.length z.e.c] 57) = X := ⟨_, rfl⟩
            have HXX : Hid (Ext wi X) := by rw [← hX]; exact (Ext.refl wi).alloc _
            have HbX : Hid (X.heap[wi.heap.size]? = some (.cells #[.slice z.k.a z.k.l.length z.k.c, .slice z.e.a z.e.l.length z.e.c] 57 (0, 0))) := by rw [← hX]; exact World.alloc_heap_new wi _
            rw [hX]
            clear hX
            have KX : Hid (∀ V', Ext X V' → V'.cell? ⟨wi.heap.size, 0, none⟩ = some (.slice z.k.a z.k.l.length z.k.c) ∧ V'.cell? ⟨wi.heap.size, 1, none⟩ = some (.slice z.e.a z.e.l.length z.e.c)) := fun V' h => ⟨(cell_at (h.block HbX.out) 0).trans rfl, (cell_at (h.block HbX.out) 1).trans rfl⟩
            obtain ⟨e0, e1⟩ := KX.out X (Ext.refl X)
            have HXo9 : Hid (Ext wo X) := HXi.out.trans HXX.out
            go_region_law (first
              | (go_simp; go_at_call_of 53 (Value.slice z.k.a z.k.l.length z.k.c); refine (kitClone_any z.k.a z.k.l.length z.k.c z.k.l X.drew rfl ((HMn.out.1.ext HXX.out).ext (Ext.refl X).drew)).mono ?_; rintro e x1 ⟨ak, ck, rfl, ho, hx⟩; have E1 : Hid (Ext X x1) := ((Ext.refl X).drew).trans hx; have HLk : Hid (LO wo.heap.size x1 ⟨ak, ck, z.k.l⟩) := own_mono ho HXo9.out.size; obtain ⟨e0', e1'⟩ := KX.out x1 E1.out; clear ho hx)
              | (go_simp; go_at_call_of 53 (Value.slice z.e.a z.e.l.length z.e.c); refine (kitClone_any z.e.a z.e.l.length z.e.c z.e.l x1 rfl ((HMn.out.2.ext HXX.out).ext E1.out)).mono ?_; rintro e x2 ⟨ae, ce, rfl, ho, hx⟩; have E2 : Hid (Ext X x2) := E1.out.trans hx; have HLe : Hid (LO wo.heap.size x2 ⟨ae, ce, z.e.l⟩) := own_mono ho (HXo9.out.trans E1.out).size; have HLk2 : Hid (LO wo.heap.size x2 ⟨ak, ck, z.k.l⟩) := own_ext HLk.out hx; have HW2 : Hid (WordC wo.heap.size x2 m) := HMC.out.ext (HXX.out.trans E2.out); have HS2 : Hid (wo.heap.size ≤ x2.heap.size) := (HXo9.out.trans E2.out).size; clear ho hx)
              | (refine step_append_lies _ rfl (.tmp 34) (.tmp 42) 54 rfl wo.heap.size 57 i84 (.agg #[.slice none 0 0, .slice none 0 0]) 2 48 Tryz.underlying54 hi84 hz84 hs84 hb84 rfl (by decide) (.slice m.a m.l.length m.c) m.l.length (flat 2 meanC m.l) ?_ (HW2.out.1.alloc _) ⟨x2.heap.size, 0, none⟩ 1 1 (flat 2 meanC [⟨⟨ak, ck, z.k.l⟩, ⟨ae, ce, z.e.l⟩⟩]) ?_ rfl (new_cells x2 (flat 2 meanC [⟨⟨ak, ck, z.k.l⟩, ⟨ae, ce, z.e.l⟩⟩]) 57) (mean_one _) (by decide) H63.out HBY.out ?_ _ rfl ?_; (simp [Act.eval]); (simp [Act.eval]); (rw [World.size_alloc]; exact Nat.le_succ_of_le HS2.out); intro g cap x3 hown hgrow hwh hgl; have hx := (Ext.refl x2).alloc (.cells (flat 2 meanC [⟨⟨ak, ck, z.k.l⟩, ⟨ae, ce, z.e.l⟩⟩]).toArray 57); have HW3 : Hid (WordC wo.heap.size x3 ⟨some ⟨g, 0, none⟩, cap, m.l ++ [⟨⟨ak, ck, z.k.l⟩, ⟨ae, ce, z.e.l⟩⟩]⟩) := (HW2.out.ext hx).append (HLk2.out.ext hx) (HLe.out.ext hx) hown hgrow; have HX3 : Hid (Ext wo x3) := ext_grown_of ((HXo9.out.trans E2.out).alloc _) hgrow (fun i hi => own_lt HW2.out.1 i hi); clear hx hown hgrow hwh hgl))
            all_goals
              go_wp2
              refine ⟨⟨y + 1, ⟨some ⟨g, 0, none⟩, cap, m.l ++ [⟨⟨ak, ck, z.k.l⟩, ⟨ae, ce, z.e.l⟩⟩]⟩, by omega, by go_num, by simp, ?_, HW3, HX3⟩, ?_⟩
              · show List.map _ _ = List.map _ _
                rw [HTn.out, List.map_append, List.map_append, HMm.out]; rfl
              · simp [intOf]; omega
          · have hye : y = s.l.length := by omega
            have dy : decide ((y : Int) < (s.l.length : Int)) = false := decide_eq_false (by omega)
            have HMe : Hid (listsOf m = listsOf s) := by
              have := HMm.out
              rw [List.take_of_length_le (by omega)] at this
              exact this
            clear HMm hye
            have HMi : Hid (MkT wi B t.P (.slice a1 t.ways.l.length c1) q.v (.slice a3 t.starts.l.length c3) (.slice a4 t.legs.l.length c4)) := HXi.out.block HMo.out
            have HQi : Hid (WordsC V.heap.size wi q) := HQ.out.ext HXi.out
            have H3i : Hid (Own3 V.heap.size wi t a1 c1 a3 c3 a4 c4) := H3o.out.ext HXi.out
            have HWm : Hid (WordC V.heap.size wi m) := HMC.out.base HXo.out.size
            have HAp2 : Hid (ApW ⟨q.a, q.c, q.l ++ [m]⟩) := ApW.snoc HAp.out HQ.out HMC.out
            have HXv : Hid (Ext V wi) := HXo.out.trans HXi.out
            have hm6 : q.l.length + 1 ≤ maxLen := by have := HQl.out; unfold maxLen; omega
            have hq6 : q.l.length ≤ 6 := by have := HQl.out; omega
            have hb4 : V.heap.size ≤ wi.heap.size + 1 := by have := HXv.out.size; omega
            have HB0 : Hid (V.heap.size ≤ B) := hB0
            have c2 := HMi.out.five.2.2.1
            go_wp2_with (at_builtin; go_must (refine wpList_append_own _ rfl _ _ 24 rfl V.heap.size 54 i82 (.slice none 0 0) 1 24 Tryz.underlying24 hi82 hz82 hs82 hb82 rfl (by decide) _ q.l.length (flat 1 slC q.l) rfl (HQi.out.1.alloc _) ⟨wi.heap.size, 0, none⟩ 1 1 (flat 1 slC [m]) rfl rfl (new_cells wi (flat 1 slC [m]) 54) (word_one m) hm6 (by omega) (by simp; omega) ?_); intro v' w9 hown hgrow _; obtain ⟨g, cap, rfl⟩ := ownsRow_succ hown; obtain ⟨⟨cv, fv⟩, hA, hC, hD3, hE⟩ := wordsC_leaf (Nat.le_refl _) HB0.out HQi.out HWm.out HMi.out H3i.out HXv.out hown hgrow; clear hown hgrow)
            refine ⟨⟨j + 1, ⟨some ⟨g, 0, none⟩, cap, q.l ++ [m]⟩, by omega, by go_num, ?_, hA, HAp2, ?_, hD3, hE⟩, ?_⟩
            · show List.map _ _ = List.map _ _
              rw [HQn.out, List.map_append, List.map_append, HQm.out]
              simp only [List.map_cons, List.map_nil, HMe.out]
            · show MkT _ B _ _ (.slice _ (q.l ++ [m]).length cap) _ _
              rw [List.length_append]; exact hC.out
            · simp [intOf]; omega
      · have hje : j = t.words.l.length := by omega
        have dj : decide ((j : Int) < (t.words.l.length : Int)) = false := decide_eq_false (by omega)
        have HQe : Hid (q.l.map listsOf = t.words.l.map listsOf) := by
          have := HQm.out
          rwa [List.take_of_length_le (by omega)] at this
        clear hje HQm hql
        have HR := Lib.hid (HR0.out.ext HXo.out)
        obtain ⟨c0, c1', c2, c3', c4'⟩ := HMo.out.five
        obtain ⟨e0, e1, e2, e3, e4, g0⟩ := HR.out.five
        go_wp2
        have hRl : wo.heap[w.heap.size + 1]? = some (.cells #[.int .i64 0, .slice none 0 0, .slice none 0 0, .slice none 0 0, .slice none 0 0] 28 (0, 0)) := HR.out
        refine bodyPost_ret (v := (TV.v ⟨t.P, ⟨a1, c1, t.ways.l⟩, q, ⟨a3, c3, t.starts.l⟩, ⟨a4, c4, t.legs.l⟩⟩)) (results_cell_row rfl _ _ (w.heap.size + 1) 28 #[.int .i64 (t.P : Int), .slice a1 t.ways.l.length c1, .slice q.a q.l.length q.c, .slice a3 t.starts.l.length c3, .slice a4 t.legs.l.length c4] (0, 0) _ rfl ?_ Tryz.underlying28 rfl (by kernel_rfl)) rfl ?_
        · exact heap_setCell_same (heap_setCell_same (heap_setCell_same (heap_setCell_same (heap_setCell_same hRl _) _) _) _) _
        · have q1 := clone_own (u0 := .int .i64 (t.P : Int)) (u1 := .slice a1 t.ways.l.length c1) (u2 := .slice q.a q.l.length q.c) (u3 := .slice a3 t.starts.l.length c3) (u4 := .slice a4 t.legs.l.length c4) HR.out HX0.out.size H3o.out HQ.out HAp.out
          obtain ⟨-, q2⟩ := clone_fin (u0 := .int .i64 (t.P : Int)) (u1 := .slice a1 t.ways.l.length c1) (u2 := .slice q.a q.l.length q.c) (u3 := .slice a3 t.starts.l.length c3) (u4 := .slice a4 t.legs.l.length c4) HR.out (Nat.le_succ _) HX0.out.size H3o.out HQ.out HT.out HQe.out HX0.out HXo.out
          exact ⟨⟨t.P, ⟨a1, c1, t.ways.l⟩, q, ⟨a3, c3, t.starts.l⟩, ⟨a4, c4, t.legs.l⟩⟩, rfl, q1, ⟨⟨rfl, rfl, HQe.out⟩, rfl, rfl⟩, q2⟩
end Go.Proofs.YtopjjcgmcieboaaGreatDoor

namespace Go.Proofs.YtopjjcgmcieboaaGreatDoor
open Go.RowKit

theorem flat_set {α : Type} {sz : Nat} {cs : α → Nat → Value} {l : List α} (i j : Nat) (hi : i < l.length) (hj : j < sz) (y : α) (u : Value) (hy : ∀ j', j' < sz → cs y j' = if j' = j then u else cs l[i] j') : (flat sz cs l).set (i * sz + j) u = flat sz cs (l.set i y) := by
  have hsz : 0 < sz := by omega
  have hdiv : ∀ a b, b < sz → (a * sz + b) / sz = a := fun a b hb => by
    rw [Nat.mul_comm, Nat.mul_add_div hsz, Nat.div_eq_of_lt hb, Nat.add_zero]
  apply List.ext_getElem?
  intro p
  by_cases hp : p < l.length * sz
  · obtain ⟨q, r, hr, rfl⟩ : ∃ q r, r < sz ∧ p = q * sz + r := ⟨p / sz, p % sz, Nat.mod_lt _ hsz, by rw [Nat.mul_comm]; exact (Nat.div_add_mod p sz).symm⟩
    have hq : q < l.length := by
      rcases Nat.lt_or_ge q l.length with h | h
      · exact h
      · have := Nat.mul_le_mul_right sz h; omega
    rw [List.getElem?_set, flat_get sz cs (l.set i y) q r (by simpa using hq) hr, flat_get sz cs l q r hq hr, flat_length]
    by_cases e : i * sz + j = q * sz + r
    · have e1 : i = q := by have := congrArg (· / sz) e; simp only [hdiv i j hj, hdiv q r hr] at this; exact this
      subst e1
      have e2 : j = r := by omega
      subst e2
      rw [if_pos rfl, if_pos hp]
      simp only [List.getElem_set_self]
      rw [hy j hj, if_pos rfl]
    · rw [if_neg e]
      by_cases e1 : i = q
      · subst e1
        simp only [List.getElem_set_self]
        rw [hy r hr, if_neg (fun e2 => e (by rw [e2]))]
      · rw [List.getElem_set_ne e1]
  · rw [List.getElem?_eq_none (by rw [List.length_set, flat_length]; omega), List.getElem?_eq_none (by rw [flat_length, List.length_set]; omega)]

section
variable {S : Nat → Prop} {w : World} {e : TypeId} {size n c g : Nat} {a : Option Addr} {xs : List Value}
theorem RowS.setAt (h : RowS S w e size (.slice a n c) n xs) (ha : a = some ⟨g, 0, none⟩) (i : Nat) (u : Value) : RowS S (w.setCell ⟨g, i, none⟩ u) e size (.slice a n c) n (xs.set i u) := by
  obtain ⟨⟨h1, h2⟩, h3⟩ := h
  refine ⟨⟨by rw [List.length_set]; exact h1, ?_⟩, h3⟩
  rcases h2 with ⟨h2, _⟩ | ⟨g', cap, cur, h2, hb, hh, hn, hm, hs, ht⟩
  · rw [ha] at h2; cases h2
  · rw [ha] at h2
    simp only [Value.slice.injEq, Option.some.injEq, Addr.mk.injEq, and_true, true_and] at h2
    obtain ⟨rfl, rfl⟩ := h2
    refine .inr ⟨g, c, _, by rw [ha], Nat.zero_le _, heap_setCell_same hh u, hn, hm, by simpa using hs, ?_⟩
    rw [Array.toList_setIfInBounds, List.take_set, ht]
theorem RowS.off {v : Value} {B i : Nat} {u : Value} (h : RowS S w e size v n xs) (hne : ∀ g, v.ownBlock = some g → g ≠ B) : RowS S (w.setCell ⟨B, i, none⟩ u) e size v n xs :=
  ⟨own_blocks h.1 (fun g hg => Below.heap_setCell _ _ _ _ (hne g hg)), h.2⟩
theorem RowS.other {v : Value} {B i : Nat} {cs : Array Value} {T : TypeId} {f : Nat × Nat} {u : Value} (h : RowS S w e size v n xs) (hB : w.heap[B]? = some (.cells cs T f)) (hT : e ≠ T) : RowS S (w.setCell ⟨B, i, none⟩ u) e size v n xs :=
  ⟨own_setB h.1 hB hT u, h.2⟩
theorem RowS.at (h : RowS S w e size (.slice a n c) n xs) (hn : 0 < n) : ∃ (g : Nat) (cur : Array Value), a = some ⟨g, 0, none⟩ ∧ S g ∧ w.heap[g]? = some (.cells cur e (0, 0)) ∧ n ≤ c ∧ ∀ i u, xs[i]? = some u → w.cell? ⟨g, i, none⟩ = some u := by
  obtain ⟨⟨h1, h2⟩, h3⟩ := h
  rcases h2 with ⟨h2, h0⟩ | ⟨g', cap, cur, h2, hb, hh, hn', hm, hs, ht⟩
  · omega
  · simp only [Value.slice.injEq] at h2
    obtain ⟨rfl, -, rfl⟩ := h2
    refine ⟨g', cur, rfl, h3 g' rfl, hh, hn', fun i u hi => ?_⟩
    have hil : i < xs.length := (List.getElem?_eq_some_iff.1 hi).1
    rw [cell_at hh, ← hi, ← ht, List.getElem?_take_of_lt (by omega), Array.getElem?_toList]
theorem RowS.grown {v : Value} {w' : World} {row : Option Nat} (h : RowS S w e size v n xs) (hg : w.grownBy w' row) (hr : v.ownBlock = none ∨ v.ownBlock ≠ row) : RowS S w' e size v n xs := ⟨own_grown h.1 hg hr, h.2⟩
end

theorem ne_type {S S' : Nat → Prop} {w : World} {e e' : TypeId} {size size' n n' : Nat} {v v' : Value} {xs xs' : List Value} (h : RowS S w e size v n xs) (h' : RowS S' w e' size' v' n' xs') (hne : e ≠ e') : v.ownBlock = none ∨ v.ownBlock ≠ v'.ownBlock := own_apart h.1 h'.1 hne

/-- A leg's other word is stored. -/
theorem OwnS.setLeg {S : Nat → Prop} {w : World} {t : TV} (h : OwnS S w t) (k : Nat) (hk : k < t.legs.l.length) (z : Int) {g : Nat} (hg : t.legs.a = some ⟨g, 0, none⟩) :
    OwnS S (w.setCell ⟨g, k * 2 + 1, none⟩ (.int .i64 z)) ⟨t.P, t.ways, t.words, t.starts, ⟨t.legs.a, t.legs.c, t.legs.l.set k (t.legs.l[k].1, z)⟩⟩ := by
  obtain ⟨g', cur, ha, -, hB, -⟩ := h.legs.at (by omega)
  rw [hg] at ha
  cases ha
  refine ⟨h.ways.other hB (by decide), h.words.other hB (by decide), fun x hx => ⟨(h.word x hx).1.other hB (by decide), fun m hm => ⟨((h.word x hx).2 m hm).1.other hB (by decide), ((h.word x hx).2 m hm).2.other hB (by decide)⟩⟩, h.apart, h.starts.other hB (by decide), ?_⟩
  have h1 := h.legs.setAt hg (k * 2 + 1) (.int .i64 z)
  rw [flat_set k 1 hk (by omega) (t.legs.l[k].1, z) (.int .i64 z) (fun j' hj' => by
    have : j' = 0 ∨ j' = 1 := by omega
    rcases this with rfl | rfl <;> simp [legC])] at h1
  show RowS S _ 63 2 (.slice t.legs.a (t.legs.l.set k (t.legs.l[k].1, z)).length t.legs.c) (t.legs.l.set k (t.legs.l[k].1, z)).length _
  rw [List.length_set]
  exact h1
theorem flat_same {l : List (SL MV)} {k : Nat} (hk : k < l.length) {x' : SL MV} (hv : x'.v = l[k].v) : flat 1 slC (l.set k x') = flat 1 slC l := by
  rw [← flat_set (cs := slC) (sz := 1) k 0 hk (by omega) x' (slC l[k] 0) (fun j' hj' => by
    have : j' = 0 := by omega
    subst this
    rw [if_pos rfl]; exact hv)]
  have h1 := flat_get 1 slC l k 0 hk (by omega)
  apply List.ext_getElem?
  intro p
  rw [List.getElem?_set]
  by_cases e : k * 1 + 0 = p
  · subst e
    rw [if_pos rfl, h1, if_pos (by rw [flat_length]; omega)]
  · rw [if_neg e]
theorem apart_set {l : List (SL MV)} (h : l.Pairwise apB) {k : Nat} (hk : k < l.length) {x' : SL MV} (hv : x'.v.ownBlock = l[k].v.ownBlock) : (l.set k x').Pairwise apB := by
  have e : (l.set k x').map (fun x => x.v.ownBlock) = l.map (fun x => x.v.ownBlock) := by
    rw [List.map_set]
    apply List.ext_getElem?
    intro p
    rw [List.getElem?_set]
    by_cases e : k = p
    · subst e; rw [if_pos rfl, if_pos (by simpa using hk)]; simp [hk, hv]
    · rw [if_neg e]
  have h1 : (l.map (fun x => x.v.ownBlock)).Pairwise (fun a b => a = none ∨ a ≠ b) := by rw [List.pairwise_map]; exact h
  rw [← e, List.pairwise_map] at h1
  exact h1
theorem apart_ne {l : List (SL MV)} (h : l.Pairwise apB) {k i g : Nat} (hk : k < l.length) (hi : i < l.length) (hne : i ≠ k) (hg : l[k].v.ownBlock = some g) : ∀ g', l[i].v.ownBlock = some g' → g' ≠ g := by
  intro g' hg' e
  subst e
  rw [List.pairwise_iff_getElem] at h
  rcases Nat.lt_or_gt_of_ne hne with h1 | h1
  · rcases h i k hi hk h1 with h2 | h2
    · rw [hg'] at h2; cases h2
    · exact h2 (hg'.trans hg.symm)
  · rcases h k i hk hi h1 with h2 | h2
    · rw [hg] at h2; cases h2
    · exact h2 (hg.trans hg'.symm)
/-- A cell of a meaning is stored. -/
theorem OwnS.setMean {S : Nat → Prop} {w : World} {t : TV} (h : OwnS S w t) (k : Nat) (hk : k < t.words.l.length) (j : Nat) (hj : j < t.words.l[k].l.length) (b : Nat) (hb : b < 2) (m' : MV) (u : Value) (hm : ∀ j', j' < 2 → meanC m' j' = if j' = b then u else meanC t.words.l[k].l[j] j')
    (hr : RowS S w 3 1 m'.k.v m'.k.l.length (nums m'.k.l) ∧ RowS S w 3 1 m'.e.v m'.e.l.length (nums m'.e.l)) {g : Nat} (hg : t.words.l[k].a = some ⟨g, 0, none⟩) :
    OwnS S (w.setCell ⟨g, j * 2 + b, none⟩ u) ⟨t.P, t.ways, ⟨t.words.a, t.words.c, t.words.l.set k ⟨t.words.l[k].a, t.words.l[k].c, t.words.l[k].l.set j m'⟩⟩, t.starts, t.legs⟩ := by
  have hx := h.word _ (List.getElem_mem hk)
  obtain ⟨g', cur, ha, -, hB, -⟩ := hx.1.at (by omega)
  rw [hg] at ha
  cases ha
  have hv : (⟨t.words.l[k].a, t.words.l[k].c, t.words.l[k].l.set j m'⟩ : SL MV).v = t.words.l[k].v := by
    show Value.slice _ _ _ = Value.slice _ _ _
    rw [List.length_set]
  have hw := h.words.other (i := j * 2 + b) (u := u) hB (by decide)
  have ho : t.words.l[k].v.ownBlock = some g := by show (Value.slice _ _ _).ownBlock = _; rw [hg]; rfl
  refine ⟨h.ways.other hB (by decide), ?_, fun x hx' => ?_, apart_set h.apart hk (by rw [hv]), h.starts.other hB (by decide), h.legs.other hB (by decide)⟩
  · show RowS S _ 54 1 (.slice t.words.a (t.words.l.set k _).length t.words.c) (t.words.l.set k _).length (flat 1 slC (t.words.l.set k _))
    rw [List.length_set, flat_same hk hv]
    exact hw
  · obtain ⟨i, hi, rfl⟩ := List.getElem_of_mem hx'
    have hi' : i < t.words.l.length := by simpa using hi
    by_cases e : i = k
    · subst e
      simp only [List.getElem_set_self]
      refine ⟨?_, fun m hm' => ?_⟩
      · have h1 := hx.1.setAt hg (j * 2 + b) u
        rw [flat_set j b hj hb m' u hm] at h1
        show RowS S _ 57 2 (.slice _ (t.words.l[i].l.set j m').length _) (t.words.l[i].l.set j m').length _
        rw [List.length_set]
        exact h1
      · rcases List.mem_or_eq_of_mem_set hm' with h2 | h2
        · exact ⟨(hx.2 m h2).1.other hB (by decide), (hx.2 m h2).2.other hB (by decide)⟩
        · subst h2; exact ⟨hr.1.other hB (by decide), hr.2.other hB (by decide)⟩
    · have e' : k ≠ i := fun h => e h.symm
      simp only [List.getElem_set_ne e']
      have hxi := h.word _ (List.getElem_mem hi')
      exact ⟨hxi.1.off (apart_ne h.apart hk hi' e ho), fun m hm' => ⟨(hxi.2 m hm').1.other hB (by decide), (hxi.2 m hm').2.other hB (by decide)⟩⟩
end Go.Proofs.YtopjjcgmcieboaaGreatDoor

namespace Go.Proofs
open Go.Shelf
shelf_lay Lays2.n25 Nm2 25 at Tryz as Tryz.searchL
shelf_lay Lays2.n21 Nm2 21 at Tryz as Tryz.insertL
end Go.Proofs
namespace Go.Proofs.YtopjjcgmcieboaaGreatDoor
open Go.RowKit

/-- The list with a number put in at a place. -/
def insL (l : List Nat) (i x : Nat) : List Nat := l.take i ++ x :: l.drop i
theorem insL_length (l : List Nat) (i x : Nat) (hi : i ≤ l.length) : (insL l i x).length = l.length + 1 := by unfold insL; simp; omega
/-- What Insert returns. -/
def InsOf (base : Nat) (l : List Nat) (i x : Nat) (w : World) (e : Ending) (w' : World) : Prop :=
  ∃ (a : Option Addr) (c : Nat), e = .returned (.slice a (l.length + 1) c) ∧ w'.ownsRow base 3 1 (.slice a (l.length + 1) c) (l.length + 1) (nums (insL l i x)) ∧ Below base w w'
theorem ins_cells {F : Array Value} {l : List Nat} {i x : Nat} (hi : i ≤ l.length) (h1 : ∀ j, j < i → F[j]? = (nums l)[j]?) (h2 : F[i]? = some (.int .i64 (x : Int))) (h3 : ∀ j, j < l.length - i → F[i + 1 + j]? = (nums l)[i + j]?) :
    ∀ j (hj : j < (insL l i x).length), F[j]? = some (.int .i64 ((insL l i x)[j] : Int)) := by
  intro j hj
  have hL := insL_length l i x hi
  rw [← nums_get (insL l i x) j hj]
  have e : nums (insL l i x) = nums (l.take i) ++ (.int .i64 (x : Int) :: nums (l.drop i)) := by
    unfold insL; rw [nums_append]; rfl
  rw [e]
  have hti : (nums (l.take i)).length = i := by rw [nums_length, List.length_take]; omega
  rcases Nat.lt_trichotomy j i with hlt | heq | hgt
  · rw [h1 j hlt, List.getElem?_append_left (by omega)]
    unfold nums
    rw [List.getElem?_map, List.getElem?_map, List.getElem?_take_of_lt hlt]
  · subst heq
    rw [h2, List.getElem?_append_right (by omega), hti]
    simp
  · obtain ⟨k, rfl⟩ : ∃ k, j = i + 1 + k := ⟨j - (i + 1), by omega⟩
    rw [h3 k (by omega), List.getElem?_append_right (by omega), hti, show i + 1 + k - i = k + 1 by omega, List.getElem?_cons_succ]
    unfold nums
    rw [List.getElem?_map, List.getElem?_map, List.getElem?_drop]
set_option maxRecDepth 100000 in
theorem insert_any (base : Nat) (a : Option Addr) (c : Nat) (l : List Nat) (i x vb : Nat) (w : World) (hbs : base ≤ w.heap.size) (h : w.ownsRow base 3 1 (.slice a l.length c) l.length (nums l)) (hi : i ≤ l.length) (hl : l.length ≤ 1000)
    (hv : w.heap[vb]? = some (.cells #[.int .i64 (x : Int)] 3 (0, 0))) (hvb : ∀ g, (Value.slice a l.length c).ownBlock = some g → vb ≠ g) :
    Calls Tryz.prog 57 #[.slice a l.length c, .int .i64 (i : Int), .slice (some ⟨vb, 0, none⟩) 1 1] w (InsOf base l i x w) := by
  have e3 : Tryz.insertL_ren.t 3 = 3 := by kernel_rfl
  have e21 : Tryz.insertL_ren.f 21 = 57 := by kernel_rfl
  have hvs : ∀ (j : Nat) (v : Value), [Value.int .i64 (x : Int)][j]? = some v → w.cell? ⟨vb, 0 + j, none⟩ = some v := fun j v hj => by
    rw [cell_at hv, Nat.zero_add]; rw [← hj]; cases j <;> rfl
  have h1v : ∀ v ∈ [Value.int .i64 (x : Int)], v.oneCell' = true := by intro v hv; simp at hv; subst hv; rfl
  have hgl := grownCap_ge w (l.length + 1) c 3
  have hgm := grownCap_le_maxLen w (l.length + 1) c 3 (by unfold maxLen; omega)
  have hrow : ∀ (W : World) (g cap : Nat) (F : Array Value), W.heap[g]? = some (.cells F 3 (0, 0)) → F.size = cap → l.length + 1 ≤ cap → cap ≤ maxLen → base ≤ g → (∀ j, j < i → F[j]? = (nums l)[j]?) → F[i]? = some (.int .i64 (x : Int)) → (∀ j, j < l.length - i → F[i + 1 + j]? = (nums l)[i + j]?) →
      W.ownsRow base 3 1 (.slice (some ⟨g, 0, none⟩) (l.length + 1) cap) (l.length + 1) (nums (insL l i x)) := by
    intro W g cap F q1 q2 q3 q4 q5 q6 q7 q8
    have hL := insL_length l i x hi
    have hR : Row W g (insL l i x) cap := ⟨F, q1, q2, by omega, ins_cells hi q6 q7 q8⟩
    have := hR.own q5 q4
    rwa [hL] at this
  rcases h with ⟨h1, ⟨h2, h3⟩ | ⟨g, cap, cur, h2, hb, hh, hn, hm, hs, ht⟩⟩
  · simp only [Value.slice.injEq] at h2
    obtain ⟨rfl, h4, rfl⟩ := h2
    have hl0 : l = [] := List.eq_nil_of_length_eq_zero h4
    subst hl0
    obtain rfl : i = 0 := by simpa using hi
    have hc := Any2.slices_Insert_int_end_grow Tryz.insertL none 0 0 vb 0 1 1 [] [.int .i64 (x : Int)] w (by omega) (Nat.le_refl _) (by omega) (by omega) rfl rfl (fun _ => rfl) (fun a h => by cases h) hvs h1v
    rw [e21, e3] at hc
    refine hc.mono ?_
    rintro e w' ⟨rfl, rfl⟩
    refine ⟨_, _, rfl, hrow _ _ _ _ (World.alloc_heap_new _ _) ?_ (by simpa using hgl) (by simpa using hgm) hbs (fun j hj => by omega) ?_ (fun j hj => by simp at hj), ?_⟩
    · simp only [List.nil_append, Array.size_append, size_zeroCells, List.size_toArray, List.length_cons, List.length_nil]
      simp only [List.length_nil] at hgl
      show 0 + 1 + (grownCap w (0 + 1) 0 3 - (0 + 1)) * 1 = _
      omega
    · rw [List.nil_append, Array.getElem?_append_left (by simp)]; rfl
    · exact ((Below.refl base w).drew).alloc hbs _
  · simp only [Value.slice.injEq] at h2
    obtain ⟨rfl, -, hcc⟩ := h2
    subst hcc
    have hvg : vb ≠ g := hvb g rfl
    rw [Nat.mul_one] at hs ht
    have hcs : ∀ (j : Nat) (v : Value), (nums l)[j]? = some v → w.cell? ⟨g, 0 + j, none⟩ = some v := fun j v hj => by
      have hjl : j < l.length := by have := (List.getElem?_eq_some_iff.1 hj).1; rwa [nums_length] at this
      rw [cell_at hh, Nat.zero_add, ← hj, ← ht, List.getElem?_take_of_lt (by omega), Array.getElem?_toList]
    have hcur : ∀ j, j < l.length → cur[j]? = (nums l)[j]? := fun j hj => by
      rw [← ht, List.getElem?_take_of_lt (by omega), Array.getElem?_toList]
    have hg : g < w.heap.size := (Array.getElem?_eq_some_iff.1 hh).1
    have hsome : ∀ j, j < c → (w.cell? ⟨g, 0 + j, none⟩).isSome = true := fun j hj => by
      rw [cell_at hh, Nat.zero_add, Array.getElem?_eq_getElem (by omega)]; rfl
    have hfz : ∀ j, w.frozen? ⟨g, j, none⟩ = false := fun j => by simp [World.frozen?, hh]
    by_cases hroom : l.length + 1 ≤ c
    · by_cases hil : i = l.length
      · have hc := Any2.slices_Insert_int_end_room Tryz.insertL g 0 l.length c vb 0 1 1 [.int .i64 (x : Int)] w (by omega) hroom (by unfold maxLen at hm; omega) rfl (fun j hj => by have := hsome (l.length + j) (by omega); rwa [← Nat.add_assoc] at this) (fun j hj => hfz _) hvs h1v
        rw [e21] at hc
        subst hil
        refine hc.mono ?_
        rintro e w' ⟨rfl, rfl⟩
        obtain ⟨F, q1, q2, q3, q4⟩ := heap_setCells [.int .i64 (x : Int)] (0 + l.length) w cur hh (by simp; omega)
        have q5 := q3 0 (by simp)
        rw [Nat.zero_add] at q1 q4
        refine ⟨_, _, rfl, hrow _ _ _ F (by rw [Nat.zero_add]; exact q1) (by omega) hroom hm hb (fun j hj => ?_) ?_ (fun j hj => by omega), ?_⟩
        · rw [q4 j (.inl (by omega)), hcur j (by omega)]
        · simpa using q5
        · exact below_setCells (Below.refl base w) hb _ _
      · have hil' : i < l.length := by omega
        have hc := Any2.slices_Insert_int_shift Tryz.insertL g 0 l.length c i vb 0 1 1 (nums l) [.int .i64 (x : Int)] w hil' (by omega) hroom (by unfold maxLen at hm; omega) hvg (nums_length l) rfl hcs (fun j hj => hsome j (by omega)) (fun j hj => hfz _) hvs (nums_one l) h1v 3 3 1 c (by simp [World.shape?, hv]) (by simp [World.shape?, hh]; omega) (by omega) (by simp [World.frozen?, hv]) (by simp [World.frozen?, hv])
        rw [e21] at hc
        refine hc.mono ?_
        rintro e w' ⟨rfl, rfl⟩
        obtain ⟨F1, p1, p2, p3, p4⟩ := heap_setCells ((nums l).drop i) (0 + (i + 1)) w.drew cur hh (by rw [List.length_drop, nums_length]; omega)
        obtain ⟨F, q1, q2, q3, q4⟩ := heap_setCells [.int .i64 (x : Int)] (0 + i) _ F1 p1 (by simp; omega)
        have q5 := q3 0 (by simp)
        refine ⟨_, _, rfl, hrow _ _ _ F q1 (by omega) hroom hm hb (fun j hj => ?_) ?_ (fun j hj => ?_), ?_⟩
        · rw [q4 j (.inl (by omega)), p4 j (.inl (by omega)), hcur j (by omega)]
        · simpa using q5
        · rw [q4 _ (.inr (by simp only [List.length_cons, List.length_nil]; omega)), show i + 1 + j = 0 + (i + 1) + j by omega, p3 j (by rw [List.length_drop, nums_length]; omega), List.getElem?_drop]
        · exact below_setCells (below_setCells (Below.refl base w).drew hb _ _) hb _ _
    · by_cases hil : i = l.length
      · have hc := Any2.slices_Insert_int_end_grow Tryz.insertL (some ⟨g, 0, none⟩) l.length c vb 0 1 1 (nums l) [.int .i64 (x : Int)] w (by omega) hn (by omega) (by omega) (nums_length l) rfl (fun h => by cases h) (fun a h j v hj => by cases h; rw [Addr.add_lit]; exact hcs j v hj) hvs h1v
        rw [e21, e3] at hc
        subst hil
        refine hc.mono ?_
        rintro e w' ⟨rfl, rfl⟩
        refine ⟨_, _, rfl, hrow _ _ _ _ (World.alloc_heap_new _ _) ?_ hgl hgm hbs (fun j hj => ?_) ?_ (fun j hj => by omega), ?_⟩
        · rw [Array.size_append, size_zeroCells, List.size_toArray, List.length_append, nums_length]
          show l.length + 1 + (grownCap w (l.length + 1) c 3 - (l.length + 1)) * 1 = _
          omega
        · rw [Array.getElem?_append_left (by rw [List.size_toArray, List.length_append, nums_length]; omega), List.getElem?_toArray, List.getElem?_append_left (by rw [nums_length]; omega)]
        · rw [Array.getElem?_append_left (by rw [List.size_toArray, List.length_append, nums_length]; simp), List.getElem?_toArray, List.getElem?_append_right (by rw [nums_length]; omega), nums_length]; simp
        · exact ((Below.refl base w).drew).alloc hbs _
      · have hil' : i < l.length := by omega
        have hc := Any2.slices_Insert_int_grow Tryz.insertL g 0 l.length c i vb 0 1 1 (nums l) [.int .i64 (x : Int)] w hil' (by omega) hn (by omega) (by omega) (nums_length l) rfl hcs hvs (nums_one l) h1v
        rw [e21, e3] at hc
        refine hc.mono ?_
        rintro e w' ⟨rfl, rfl⟩
        generalize hA : ((nums l).take i).toArray ++ Builtin.zeroCells (Value.int .i64 0).cells (l.length + 1 - i) ++ Builtin.zeroCells (Value.int .i64 0).cells (grownCap w (l.length + 1) c 3 - (l.length + 1)) = A
        have hAs : A.size = grownCap w (l.length + 1) c 3 := by
          rw [← hA, Array.size_append, Array.size_append, size_zeroCells, size_zeroCells, List.size_toArray, List.length_take, nums_length]
          show min i l.length + (l.length + 1 - i) * 1 + (grownCap w (l.length + 1) c 3 - (l.length + 1)) * 1 = _
          omega
        have hAg : ∀ j, j < i → A[j]? = (nums l)[j]? := fun j hj => by
          rw [← hA, Array.append_assoc, Array.getElem?_append_left (by rw [List.size_toArray, List.length_take, nums_length]; omega), List.getElem?_toArray, List.getElem?_take_of_lt hj]
        obtain ⟨F1, p1, p2, p3, p4⟩ := heap_setCells [.int .i64 (x : Int)] i (w.alloc (.cells A 3)).drew A (World.alloc_heap_new w _) (by simp; omega)
        obtain ⟨F, q1, q2, q3, q4⟩ := heap_setCells ((nums l).drop i) (i + 1) _ F1 (show (((w.alloc (.cells A 3)).drew.setCells w.heap.size i [.int .i64 (x : Int)]).drew).heap[w.heap.size]? = _ from p1) (by rw [List.length_drop, nums_length]; omega)
        have p5 := p3 0 (by simp)
        refine ⟨_, _, rfl, hrow _ _ _ F q1 (by omega) hgl hgm hbs (fun j hj => ?_) ?_ (fun j hj => ?_), ?_⟩
        · rw [q4 j (.inl (by omega)), p4 j (.inl (by omega)), hAg j hj]
        · rw [q4 i (.inl (by omega))]; simpa using p5
        · rw [q3 j (by rw [List.length_drop, nums_length]; omega), List.getElem?_drop]
        · exact below_setCells (below_setCells ((Below.refl base w).alloc hbs _).drew hbs _ _).drew hbs _ _

/-- Where a number comes in a sorted list. -/
theorem count_split {x : Nat} : ∀ {l : List Nat}, l.Pairwise (· < ·) → (∀ y ∈ l.take (l.countP (· < x)), y < x) ∧ ∀ y ∈ l.drop (l.countP (· < x)), x ≤ y
  | [], _ => by simp
  | y :: t, h => by
    rw [List.pairwise_cons] at h
    by_cases hy : y < x
    · rw [List.countP_cons_of_pos (by simpa using hy), List.take_succ_cons, List.drop_succ_cons]
      obtain ⟨h1, h2⟩ := count_split (x := x) h.2
      refine ⟨fun z hz => ?_, h2⟩
      rcases List.mem_cons.1 hz with rfl | hz
      · exact hy
      · exact h1 z hz
    · have h0 : t.countP (· < x) = 0 := by
        rw [List.countP_eq_zero]
        intro z hz
        have := h.1 z hz
        simp; omega
      rw [List.countP_cons_of_neg (by simpa using hy), h0]
      refine ⟨fun z hz => by simp at hz, fun z hz => ?_⟩
      rcases List.mem_cons.1 hz with rfl | hz
      · omega
      · have := h.1 z hz; omega
theorem insL_sorted {l : List Nat} (h : l.Pairwise (· < ·)) {x : Nat} (hx : x ∉ l) : (insL l (l.countP (· < x)) x).Pairwise (· < ·) := by
  obtain ⟨h1, h2⟩ := count_split (x := x) h
  have h3 : ∀ y ∈ l.drop (l.countP (· < x)), x < y := fun y hy => by
    have := h2 y hy
    have hne : y ≠ x := fun e => hx (e ▸ List.mem_of_mem_drop hy)
    omega
  unfold insL
  rw [List.pairwise_append, List.pairwise_cons]
  refine ⟨h.sublist (List.take_sublist _ _), ⟨h3, h.sublist (List.drop_sublist _ _)⟩, fun a ha b hb => ?_⟩
  have := h1 a ha
  rcases List.mem_cons.1 hb with rfl | hb
  · exact this
  · have := h3 b hb; omega
theorem mem_insL {l : List Nat} {i x y : Nat} : y ∈ insL l i x ↔ y ∈ l ∨ y = x := by
  unfold insL
  rw [List.mem_append, List.mem_cons]
  constructor
  · rintro (h | h | h)
    · exact .inl (List.mem_of_mem_take h)
    · exact .inr h
    · exact .inl (List.mem_of_mem_drop h)
  · rintro (h | h)
    · rw [← List.take_append_drop i l] at h
      rcases List.mem_append.1 h with h | h
      · exact .inl h
      · exact .inr (.inr h)
    · exact .inr (.inl h)
set_option maxRecDepth 100000 in
theorem search_any (a : Option Addr) (c : Nat) (l : List Nat) (x : Nat) (w : World) (h : IsSl 1 num w ⟨a, c, l⟩) (hp : l.Pairwise (· < ·)) :
    Calls Tryz.prog 56 #[.slice a l.length c, .int .i64 (x : Int)] w fun e w' => e = .returned (.tuple #[.int .i64 ((l.countP (· < x) : Nat) : Int), .bool (l.contains x)]) ∧ ∃ q, w' = w.drewN q := by
  have e25 : Tryz.searchL_ren.f 25 = 56 := by kernel_rfl
  by_cases h0 : l.length = 0
  · have hl : l = [] := List.eq_nil_of_length_eq_zero h0
    subst hl
    have hc := Any.slices_BinarySearch_int_empty Tryz.searchL a c (x : Int) w
    rw [e25] at hc
    refine hc.mono ?_
    rintro e w' ⟨rfl, rfl⟩
    exact ⟨rfl, 0, rfl⟩
  · obtain ⟨b, off, ha, hcl⟩ := h.2.2.resolve_left h0
    dsimp only at ha hcl
    subst ha
    have hl6 : l.length ≤ 1000000 := h.2.1
    have hg : ∀ j, j < l.length → (l.map fun n : Nat => (n : Int)).getD j 0 = ((l[j]?).getD 0 : Nat) := fun j hj => by
      rw [List.getD_eq_getElem?_getD, List.getElem?_map, List.getElem?_eq_getElem hj]; rfl
    have hc := Any.slices_BinarySearch_int Tryz.searchL b off l.length c (l.map fun n : Nat => (n : Int)) (x : Int) w (by simp) (by omega) (fun j hj => by
      have hj' : j < l.length := by simpa using hj
      have := hcl j hj' 0 (by omega)
      rw [hg j hj', List.getElem?_eq_getElem hj']
      simpa [num] using this) (by
      rw [List.take_of_length_le (by simp), List.pairwise_map]
      exact hp.imp fun h => by omega)
    rw [e25, List.take_of_length_le (by simp)] at hc
    have e1 : (l.map fun n : Nat => (n : Int)).countP (fun y => decide (y < (x : Int))) = l.countP (· < x) := by
      rw [List.countP_map]
      congr 1
      funext n
      simp
    have e2 : (l.map fun n : Nat => (n : Int)).contains (x : Int) = l.contains x := by
      rw [Bool.eq_iff_iff, List.contains_iff_mem, List.contains_iff_mem, List.mem_map]
      constructor
      · rintro ⟨n, hn, he⟩
        have : n = x := by omega
        exact this ▸ hn
      · intro hx; exact ⟨x, hx, rfl⟩
    rw [e1, e2] at hc
    exact hc
/-- What joined returns. -/
def JoinedOf (l : List Nat) (x : Nat) (w : World) (e : Ending) (w' : World) : Prop :=
  ∃ (a : Option Addr) (c : Nat) (m : List Nat), e = .returned (.slice a m.length c) ∧ Hid (w'.ownsRow w.heap.size 3 1 (.slice a m.length c) m.length (nums m)) ∧ Hid ((∀ y ∈ l, y ∈ m) ∧ (∀ y ∈ m, y ∈ l ∨ y = x) ∧ m.Pairwise (· < ·)) ∧ m.length ≤ l.length + 1 ∧ Ext w w'
set_option maxHeartbeats 1000000 in
theorem joined_any (s : SL Nat) (x : Nat) (w : World) (hs : IsSl 1 num w s) (hp : s.l.Pairwise (· < ·)) (hl : s.l.length ≤ 100) :
    Calls Tryz.prog 28 #[.slice s.a s.l.length s.c, .int .i64 (x : Int)] w (JoinedOf s.l x w) := by
  obtain ⟨sa, sc, l⟩ := s
  dsimp only at hp hl ⊢
  have HS := Lib.hid hs; clear hs
  have HP := Lib.hid hp; clear hp
  go_enter Tryz.func28, Tryz.ntmps28
  go_wp2_with fail
  refine (kitClone_any sa l.length sc l w rfl HS.out).mono ?_
  rintro e w1 ⟨a', c', rfl, hO, hx1⟩
  have HO := Lib.hid hO
  have HX1 := Lib.hid hx1
  clear hO hx1
  go_wp2_with fail
  refine (search_any a' c' l x w1 (own_sl HO.out (by omega)) HP.out).mono ?_
  rintro e w2 ⟨rfl, q, rfl⟩
  have HX2 : Hid (Ext w (w1.drewN q)) := HX1.out.trans ((Ext.refl w1).drewN q)
  have HO2 := Lib.hid (own_ext HO.out ((Ext.refl w1).drewN q))
  clear HO HX1
  generalize w1.drewN q = w2 at *
  have hi : l.countP (· < x) ≤ l.length := List.countP_le_length
  have HSo := Lib.hid (fun hx : x ∉ l => insL_sorted HP.out hx)
  generalize l.countP (· < x) = i at *
  cases hcx : l.contains x
  · have HNx : Hid (x ∉ l) := fun h => by rw [← List.contains_iff_mem, hcx] at h; cases h
    clear hcx
    have hvs : Hid (∀ g, (Value.slice a' l.length c').ownBlock = some g → w2.heap.size ≠ g) := fun g hg e => by
      have := own_in HO2.out hg
      omega
    have HI := Lib.hid (insert_any w.heap.size a' c' l i x w2.heap.size (w2.alloc (.cells #[.int .i64 (x : Int)] 3)) (by have := HX2.out.size; simp; omega) (own_ext HO2.out ((Ext.refl w2).alloc _)) hi (by omega) (World.alloc_heap_new w2 _) hvs.out)
    go_wp2_with fail
    refine HI.out.mono ?_
    rintro e w3 ⟨a3, c3, rfl, hO3, hb3⟩
    have hL := insL_length l i x hi
    have HO3 : Hid (w3.ownsRow w.heap.size 3 1 (.slice a3 (insL l i x).length c3) (insL l i x).length (nums (insL l i x))) := by rw [hL]; exact hO3
    have HX3 : Hid (Ext w w3) := Ext.of (Below.trans (HX2.out.alloc _) hb3)
    clear hO3 hb3
    go_wp2
    go_ret
    rw [← hL]
    exact ⟨a3, c3, insL l i x, rfl, HO3, ⟨fun y hy => mem_insL.2 (.inl hy), fun y hy => mem_insL.1 hy, HSo.out HNx.out⟩, by omega, HX3.out⟩
  · clear hcx
    go_wp2
    go_ret
    exact ⟨a', c', l, rfl, HO2, ⟨fun y hy => hy, fun y hy => .inl hy, HP.out⟩, by omega, HX2.out⟩
end Go.Proofs.YtopjjcgmcieboaaGreatDoor

namespace Go.Proofs.YtopjjcgmcieboaaGreatDoor

/-- A way of the kinds joins two places. -/
def StepW (l : List (Nat × Nat × Nat)) (ks : List Nat) (f g : Nat) : Prop := ∃ x ∈ l, x.2.2 ∈ ks ∧ ((x.1 = f ∧ x.2.1 = g) ∨ (x.2.1 = f ∧ x.1 = g))

theorem wayT_spec (ks : List Nat) (l : List (Nat × Nat × Nat)) : ∀ k, k ≤ l.length → ∀ f g, wayT ks l k f g = true ↔ StepW (l.take k) ks f g
  | 0, _, f, g => by simp [wayT, StepW]
  | k + 1, h, f, g => by
    have ih := wayT_spec ks l k (by omega)
    rw [wayT_succ ks l k (by omega), List.take_succ_eq_append_getElem (by omega)]
    have e : StepW (l.take k ++ [l[k]]) ks f g ↔ StepW (l.take k) ks f g ∨ (l[k].2.2 ∈ ks ∧ ((l[k].1 = f ∧ l[k].2.1 = g) ∨ (l[k].2.1 = f ∧ l[k].1 = g))) := by
      unfold StepW
      constructor
      · rintro ⟨x, hx, h⟩
        rcases List.mem_append.1 hx with hx | hx
        · exact .inl ⟨x, hx, h⟩
        · rw [List.mem_singleton] at hx; subst hx; exact .inr h
      · rintro (⟨x, hx, h⟩ | h)
        · exact ⟨x, List.mem_append_left _ hx, h⟩
        · exact ⟨_, List.mem_append_right _ (List.mem_singleton.2 rfl), h⟩
    rw [e]
    by_cases hc : ks.contains l[k].2.2 = true
    · have hm : l[k].2.2 ∈ ks := by simpa using hc
      rw [if_pos hc]
      unfold upd
      constructor
      · intro h
        split at h
        · rename_i q; exact .inr ⟨hm, .inr ⟨q.1.symm, q.2.symm⟩⟩
        · split at h
          · rename_i q; exact .inr ⟨hm, .inl ⟨q.1.symm, q.2.symm⟩⟩
          · exact .inl ((ih f g).1 h)
      · rintro (h | ⟨-, ⟨h1, h2⟩ | ⟨h1, h2⟩⟩)
        · split
          · rfl
          · split
            · rfl
            · exact (ih f g).2 h
        · split
          · rfl
          · rw [if_pos ⟨h1.symm, h2.symm⟩]
        · rw [if_pos ⟨h1.symm, h2.symm⟩]
    · have hm : ¬ l[k].2.2 ∈ ks := by simpa using hc
      rw [if_neg hc, ih]
      exact ⟨.inl, fun h => h.resolve_right fun h => hm h.1⟩

theorem upd_true {T : Nat → Nat → Bool} {a b f g : Nat} {z : Bool} (h : T f g = true) (hz : T a b = true → z = true) : upd T a b z f g = true := by
  unfold upd; split
  · rename_i e; obtain ⟨rfl, rfl⟩ := e; exact hz h
  · exact h
theorem stepT_ge (v f : Nat) : ∀ n (T : Nat → Nat → Bool) a b, T a b = true → stepT v f n T a b = true
  | 0, _, _, _, h => h
  | n + 1, T, a, b, h => by rw [stepT_succ]; exact upd_true (stepT_ge v f n T a b h) (fun h => by rw [h]; rfl)
theorem stepF_ge (v : Nat) : ∀ n (T : Nat → Nat → Bool) a b, T a b = true → stepF v n T a b = true
  | 0, _, _, _, h => h
  | n + 1, T, a, b, h => by rw [stepF_succ]; exact stepT_ge v n 12 _ a b (stepF_ge v n T a b h)
theorem stepT_new (v f : Nat) : ∀ n (T : Nat → Nat → Bool) g, g < n → T f v = true → T v g = true → stepT v f n T f g = true
  | 0, _, _, h, _, _ => absurd h (Nat.not_lt_zero _)
  | n + 1, T, g, h, h1, h2 => by
    rw [stepT_succ]
    by_cases e : g = n
    · subst e
      unfold upd
      rw [if_pos ⟨rfl, rfl⟩, stepT_ge v f g T f v h1, stepT_ge v f g T v g h2]; simp
    · exact upd_true (stepT_new v f n T g (by omega) h1 h2) (fun h => by rw [h]; rfl)
theorem stepF_new (v : Nat) : ∀ n (T : Nat → Nat → Bool) f g, f < n → g < 12 → T f v = true → T v g = true → stepF v n T f g = true
  | 0, _, _, _, h, _, _, _ => absurd h (Nat.not_lt_zero _)
  | n + 1, T, f, g, h, hg, h1, h2 => by
    rw [stepF_succ]
    by_cases e : f = n
    · subst e
      exact stepT_new v f 12 _ g hg (stepF_ge v f T f v h1) (stepF_ge v f T v g h2)
    · exact stepT_ge v n 12 _ f g (stepF_new v n T f g (by omega) hg h1 h2)
/-- What is true is so by a relation. -/
def Sound (C : Nat → Nat → Prop) (T : Nat → Nat → Bool) : Prop := ∀ f g, T f g = true → C f g
theorem stepT_sound {C : Nat → Nat → Prop} (ht : ∀ a b c, C a b → C b c → C a c) (v f : Nat) : ∀ n (T : Nat → Nat → Bool), Sound C T → Sound C (stepT v f n T)
  | 0, _, h => h
  | n + 1, T, h => by
    have ih := stepT_sound ht v f n T h
    intro a b hab
    rw [stepT_succ] at hab
    unfold upd at hab
    split at hab
    · rename_i e; obtain ⟨rfl, rfl⟩ := e
      simp only [Bool.or_eq_true, Bool.and_eq_true] at hab
      rcases hab with hab | ⟨h1, h2⟩
      · exact ih _ _ hab
      · exact ht _ _ _ (ih _ _ h1) (ih _ _ h2)
    · exact ih _ _ hab
theorem stepF_sound {C : Nat → Nat → Prop} (ht : ∀ a b c, C a b → C b c → C a c) (v : Nat) : ∀ n (T : Nat → Nat → Bool), Sound C T → Sound C (stepF v n T)
  | 0, _, h => h
  | n + 1, T, h => stepT_sound ht v n 12 _ (stepF_sound ht v n T h)
theorem stepV_sound {C : Nat → Nat → Prop} (ht : ∀ a b c, C a b → C b c → C a c) : ∀ n (T : Nat → Nat → Bool), Sound C T → Sound C (stepV n T)
  | 0, _, h => h
  | n + 1, T, h => stepF_sound ht n 12 _ (stepV_sound ht n T h)

/-- Going on by places less than n. -/
def viaR (S : Nat → Nat → Prop) : Nat → Nat → Nat → Prop
  | 0, f, g => S f g
  | n + 1, f, g => viaR S n f g ∨ (viaR S n f n ∧ viaR S n n g)
theorem viaR_one (S : Nat → Nat → Prop) : ∀ n f g, S f g → viaR S n f g
  | 0, _, _, h => h
  | n + 1, f, g, h => .inl (viaR_one S n f g h)
theorem viaR_join (S : Nat → Nat → Prop) : ∀ n v f g, v < n → viaR S n f v → viaR S n v g → viaR S n f g
  | 0, _, _, _, h, _, _ => absurd h (Nat.not_lt_zero _)
  | n + 1, v, f, g, h, h1, h2 => by
    have ih := viaR_join S n
    by_cases e : v = n
    · subst e
      have h3 : viaR S v f v := h1.elim id And.left
      have h4 : viaR S v v g := h2.elim id And.right
      exact .inr ⟨h3, h4⟩
    · have hv : v < n := by omega
      rcases h1 with h1 | ⟨h1, h1'⟩ <;> rcases h2 with h2 | ⟨h2, h2'⟩
      · exact .inl (ih v f g hv h1 h2)
      · exact .inr ⟨ih v f n hv h1 h2, h2'⟩
      · exact .inr ⟨h1, ih v n g hv h1' h2⟩
      · exact .inr ⟨h1, h2'⟩
theorem stepV_via (S : Nat → Nat → Prop) (T : Nat → Nat → Bool) (hT : ∀ f g, S f g → T f g = true) : ∀ n, n ≤ 12 → ∀ f g, f < 12 → g < 12 → viaR S n f g → stepV n T f g = true
  | 0, _, f, g, _, _, h => hT f g h
  | n + 1, hn, f, g, hf, hg, h => by
    have ih := stepV_via S T hT n (by omega)
    rw [stepV_succ]
    rcases h with h | ⟨h1, h2⟩
    · exact stepF_ge n 12 _ f g (ih f g hf hg h)
    · exact stepF_new n 12 _ f g hf hg (ih f n hf (by omega) h1) (ih n g (by omega) hg h2)

theorem via_of_trans {S : Nat → Nat → Prop} (h12 : ∀ a b, S a b → a < 12 ∧ b < 12) {f g : Nat} (h : Relation.TransGen S f g) : viaR S 12 f g ∧ g < 12 := by
  induction h with
  | single h => exact ⟨viaR_one S 12 _ _ h, (h12 _ _ h).2⟩
  | tail _ h ih => exact ⟨viaR_join S 12 _ _ _ (h12 _ _ h).1 ih.1 (viaR_one S 12 _ _ h), (h12 _ _ h).2⟩

theorem maskT_spec (es : List Nat) (f : Nat) (T : Nat → Nat → Bool) : ∀ n a b, maskT es f n T a b = if a = f ∧ b < n then (T a b && es.contains b) else T a b
  | 0, a, b => by rw [if_neg (by omega)]; rfl
  | n + 1, a, b => by
    have ih := maskT_spec es f T n
    rw [maskT_succ]
    unfold upd
    by_cases e : a = f ∧ b = n
    · obtain ⟨rfl, rfl⟩ := e
      rw [if_pos ⟨rfl, rfl⟩, if_pos ⟨rfl, by omega⟩, ih, if_neg (by omega)]
    · rw [if_neg e, ih]
      by_cases e2 : a = f ∧ b < n
      · rw [if_pos e2, if_pos ⟨e2.1, by omega⟩]
      · rw [if_neg e2, if_neg (by omega)]
theorem maskF_spec (es : List Nat) (T : Nat → Nat → Bool) : ∀ n a b, b < 12 → maskF es n T a b = if a < n then (T a b && es.contains b) else T a b
  | 0, a, b, _ => by rw [if_neg (by omega)]; rfl
  | n + 1, a, b, hb => by
    have ih := maskF_spec es T n
    show maskT es n 12 (maskF es n T) a b = _
    rw [maskT_spec]
    by_cases e : a = n
    · subst e
      rw [if_pos ⟨rfl, hb⟩, ih _ _ hb, if_neg (by omega), if_pos (by omega)]
    · rw [if_neg (by omega), ih _ _ hb]
      by_cases e2 : a < n
      · rw [if_pos e2, if_pos (by omega)]
      · rw [if_neg e2, if_neg (by omega)]

theorem leadF_spec (l : List (Nat × Nat × Nat)) (ks es : List Nat) (h12 : ∀ x ∈ l, x.1 < 12 ∧ x.2.1 < 12) (f g : Nat) (hf : f < 12) (hg : g < 12) :
    leadF l ks es f g = true ↔ Relation.TransGen (StepW l ks) f g ∧ g ∈ es := by
  unfold leadF
  rw [maskF_spec _ _ _ _ _ hg, if_pos hf, Bool.and_eq_true, List.contains_iff_mem]
  have hw := wayT_spec ks l l.length (Nat.le_refl _)
  rw [List.take_length] at hw
  have hS : ∀ a b, StepW l ks a b → a < 12 ∧ b < 12 := by
    rintro a b ⟨x, hx, -, ⟨rfl, rfl⟩ | ⟨rfl, rfl⟩⟩
    · exact h12 x hx
    · exact ⟨(h12 x hx).2, (h12 x hx).1⟩
  constructor
  · rintro ⟨h1, h2⟩
    exact ⟨stepV_sound (C := Relation.TransGen (StepW l ks)) (fun _ _ _ => Relation.TransGen.trans) 12 _ (fun a b h => .single ((hw a b).1 h)) f g h1, h2⟩
  · rintro ⟨h1, h2⟩
    exact ⟨stepV_via (StepW l ks) _ (fun a b h => (hw a b).2 h) 12 (Nat.le_refl _) f g hf hg (via_of_trans hS h1).1, h2⟩

theorem trans_mono {S R : Nat → Nat → Prop} (h : ∀ a b, S a b → R a b) {f g : Nat} (k : Relation.TransGen S f g) : Relation.TransGen R f g := by
  induction k with
  | single k => exact .single (h _ _ k)
  | tail _ k ih => exact .tail ih (h _ _ k)
theorem trans_map {S R : Nat → Nat → Prop} (m : Nat → Nat) (h : ∀ a b, S a b → R (m a) (m b)) {f g : Nat} (k : Relation.TransGen S f g) : Relation.TransGen R (m f) (m g) := by
  induction k with
  | single k => exact .single (h _ _ k)
  | tail _ k ih => exact .tail ih (h _ _ k)

theorem distTo_mem (l : List (Nat × Nat × Nat)) : ∀ k, k ≤ l.length → (∀ y ∈ distTo l k, y ∈ l.take k) ∧ ∀ x ∈ l.take k, x ∈ distTo l k ∨ backW x ∈ distTo l k
  | 0, _ => by simp [distTo, dist]
  | k + 1, h => by
    obtain ⟨h1, h2⟩ := distTo_mem l k (by omega)
    rw [distTo_succ l k (by omega), List.take_succ_eq_append_getElem (by omega)]
    by_cases hc : (distTo l k).all (newW l[k]) = true
    · rw [if_pos hc]
      refine ⟨fun y hy => ?_, fun x hx => ?_⟩
      · rcases List.mem_append.1 hy with hy | hy
        · exact List.mem_append_left _ (h1 y hy)
        · exact List.mem_append_right _ hy
      · rcases List.mem_append.1 hx with hx | hx
        · rcases h2 x hx with h | h
          · exact .inl (List.mem_append_left _ h)
          · exact .inr (List.mem_append_left _ h)
        · exact .inl (List.mem_append_right _ hx)
    · rw [if_neg hc]
      refine ⟨fun y hy => List.mem_append_left _ (h1 y hy), fun x hx => ?_⟩
      rcases List.mem_append.1 hx with hx | hx
      · exact h2 x hx
      · rw [List.mem_singleton] at hx
        subst hx
        have hc' : (distTo l k).all (newW l[k]) = false := by simpa using hc
        rw [List.all_eq_false] at hc'
        obtain ⟨y, hy, hn⟩ := hc'
        simp only [newW, Bool.and_eq_true, decide_eq_true_eq, not_and, Classical.not_not] at hn
        by_cases e : y = l[k]
        · exact .inl (e ▸ hy)
        · exact .inr (hn e ▸ hy)
theorem stepW_dist (l : List (Nat × Nat × Nat)) (ks : List Nat) (f g : Nat) : StepW (dist l) ks f g ↔ StepW l ks f g := by
  obtain ⟨h1, h2⟩ := distTo_mem l l.length (Nat.le_refl _)
  have e : distTo l l.length = dist l := by unfold distTo; rw [List.take_length]
  rw [e, List.take_length] at h1 h2
  constructor
  · rintro ⟨x, hx, h⟩; exact ⟨x, h1 x hx, h⟩
  · rintro ⟨x, hx, hk, h⟩
    rcases h2 x hx with q | q
    · exact ⟨x, q, hk, h⟩
    · exact ⟨backW x, q, hk, h.elim .inr .inl⟩
end Go.Proofs.YtopjjcgmcieboaaGreatDoor

namespace Go.Proofs.YtopjjcgmcieboaaGreatDoor
open Go.RowKit
attribute [local go_sem] Oper.semAt_some

/-- A round that has returned: there were more lines than may be listed. -/
def LnIx (t : TV) (L : Nat → Nat → Nat → Bool) (b4 b5 n0 b1 : Nat) (w4 : World) (c : Code) (W : World) : Prop :=
  c = .ret ∧ 200 < (linesR t L).length ∧ W.heap[b4]? = some (.cells #[.slice none 0 0] 32 (0, 0)) ∧ W.heap[b5]? = some (.cells #[.int .i64 11] 33 (0, 0)) ∧ Keep (fun k => k < n0 ∧ k ≠ b1 ∧ k ≠ b4 ∧ k ≠ b5) w4 W

set_option maxRecDepth 100000 in
set_option maxHeartbeats 2000000 in
theorem Lines_any (t : TV) (r : SL Nat) (w : World) (ht : IsT w t) (hk : OkT t) (hr : IsSl 1 num w r) (hR : RdOk t r.l) :
    Calls Tryz.prog 21 #[t.v, .slice r.a r.l.length r.c] w fun e w' => (((linesR t (leadsOf t r.l)).length ≤ 200 ∧ ∃ (a : Option Addr) (c : Nat) (rows : List (SL Nat)), e = .returned (.tuple #[.slice a rows.length c, .int .i64 0]) ∧ IsSl 1 slC w' ⟨a, c, rows⟩ ∧ (∀ r ∈ rows, IsSl 1 num w' r) ∧
      rows.map (fun r => r.l) = linesR t (leadsOf t r.l)) ∨ (200 < (linesR t (leadsOf t r.l)).length ∧ e = .returned (.tuple #[.slice none 0 0, .int .i64 11]))) ∧ Ext w w' := by
  have HT := Lib.hid ht; clear ht
  have HK := Lib.hid hk; clear hk
  have HR := Lib.hid hr; clear hr
  have HRd := Lib.hid hR; clear hR
  refine callsIn_wide.1 (callsIn_of_wp_marks (n := 3) Tryz.func21 rfl trivial ?_ rfl)
  simp only [Tryz.ntmps21, List.size_toArray, List.length_cons, List.length_nil, Nat.reduceAdd, Nat.reduceSub, Array.replicate_succ, Array.replicate_zero, List.push_toArray, List.append_toArray, List.nil_append, List.cons_append]
  refine wpIn_wide.2 ?_
  obtain ⟨W0, hW0⟩ : ∃ W0, (((w.alloc (.cells #[.int .i64 (t.P : Int), .slice t.ways.a t.ways.l.length t.ways.c, .slice t.words.a t.words.l.length t.words.c, .slice t.starts.a t.starts.l.length t.starts.c, .slice t.legs.a t.legs.l.length t.legs.c] 28)).alloc (.cells #[.slice none 0 0] 32)).alloc (.cells #[.int .i64 0] 33)) = W0 := ⟨_, rfl⟩
  have hX0 : Ext w W0 := by rw [← hW0]; exact (((Ext.refl w).alloc _).alloc _).alloc _
  have hT0 : TBox W0 w.heap.size t := by rw [← hW0]; exact (((Ext.refl _).alloc _).alloc _).block (World.alloc_heap_new w _)
  have h40 : W0.heap[w.heap.size + 1]? = some (.cells #[.slice none 0 0] 32 (0, 0)) := by rw [← hW0]; exact ((Ext.refl _).alloc _).block (new2 w _ _)
  have h50 : W0.heap[w.heap.size + 1 + 1]? = some (.cells #[.int .i64 0] 33 (0, 0)) := by
    rw [← hW0]; have := new2 (w.alloc (.cells #[.int .i64 (t.P : Int), .slice t.ways.a t.ways.l.length t.ways.c, .slice t.words.a t.words.l.length t.words.c, .slice t.starts.a t.starts.l.length t.starts.c, .slice t.legs.a t.legs.l.length t.legs.c] 28)) (.cells #[.slice none 0 0] 32) (.cells #[.int .i64 0] 33)
    rw [World.size_alloc] at this; exact this
  have hs0 : W0.heap.size = w.heap.size + 3 := by rw [← hW0]; simp
  have HW0 := Lib.hid hW0; clear hW0
  go_wp2_with fail
  rw [HW0.out]
  clear HW0
  refine (checkReading_ok t r W0 (HT.out.ext hX0) HK.out (HR.out.ext hX0) HRd.out).mono ?_
  rintro e w1 ⟨rfl, hx1⟩
  have HX1 : Hid (Ext w w1) := hX0.trans hx1
  have HTB1 : Hid (TBox w1 w.heap.size t) := hx1.block hT0
  have HBx : Hid (w1.heap[w.heap.size + 1]? = some (.cells #[.slice none 0 0] 32 (0, 0)) ∧ w1.heap[w.heap.size + 1 + 1]? = some (.cells #[.int .i64 0] 33 (0, 0))) := ⟨hx1.block h40, hx1.block h50⟩
  have HLt : Hid (w.heap.size + 3 ≤ w1.heap.size) := by have := hx1.size; show _ ≤ _; omega
  have hlt1 : w.heap.size < w1.heap.size := by have := hx1.size; omega
  clear hX0 hT0 h40 h50 hs0 hx1
  have c0 := cell_at HTB1.out 0
  have c1 := cell_at HTB1.out 1
  have c2 := cell_at HTB1.out 2
  have c3 := cell_at HTB1.out 3
  have c4 := cell_at HTB1.out 4
  simp only [List.getElem?_toArray, List.getElem?_cons_succ, List.getElem?_cons_zero] at c0 c1 c2 c3 c4
  go_wp2_with fail
  clear c0 c1 c2 c3 c4
  have hbL := World.alloc_heap_new w1 (.cells #[.slice none 0 0] 32)
  have HX2 : Hid (Ext w1 (w1.alloc (.cells #[.slice none 0 0] 32))) := (Ext.refl w1).alloc _
  have hs2 : (w1.alloc (.cells #[.slice none 0 0] 32)).heap.size = w1.heap.size + 1 := World.size_alloc _ _
  generalize w1.alloc (.cells #[.slice none 0 0] 32) = w2 at *
  refine (read_any t r w2 (HT.out.ext (HX1.out.trans HX2.out)) HK.out (HR.out.ext (HX1.out.trans HX2.out)) HRd.out).mono ?_
  rintro e w3 ⟨p, rfl, hw3, hx3⟩
  have hbL3 := hx3.block hbL
  have hpb : p ≠ w1.heap.size := fun e => by
    obtain ⟨cs, q1, _⟩ := hw3
    rw [e, hbL3] at q1; simp at q1
  have hp3 : p < w3.heap.size := by obtain ⟨cs, q1, _⟩ := hw3; exact (Array.getElem?_eq_some_iff.1 q1).1
  have HW3 := Lib.hid hw3
  have HX3 := Lib.hid hx3
  have HPf : Hid (p ≠ w.heap.size + 1 ∧ p ≠ w.heap.size + 1 + 1) := ⟨fun e => by obtain ⟨cs, q1, _⟩ := hw3; rw [e, (HX2.out.trans hx3).block HBx.out.1] at q1; simp at q1, fun e => by obtain ⟨cs, q1, _⟩ := hw3; rw [e, (HX2.out.trans hx3).block HBx.out.2] at q1; simp at q1⟩
  have HS3 : Hid (w2.heap.size = w1.heap.size + 1 ∧ w2.heap.size ≤ w3.heap.size ∧ p ≠ w1.heap.size ∧ p < w3.heap.size) := ⟨hs2, hx3.size, hpb, hp3⟩
  have HbL3 := Lib.hid hbL3
  clear hbL hs2 hw3 hx3 hbL3 hpb
  go_wp2_with fail
  refine (lines_any p w3).mono ?_
  rintro e w4 ⟨rfl, hx4, hc4, hs4⟩
  have HX4 := Lib.hid hx4
  have HC4 := Lib.hid hc4
  have HS4 : Hid (w4.heap.size = w3.heap.size + 1) := hs4
  have HL4 : Hid (w4.heap[w1.heap.size]? = some (.cells #[.slice none 0 0] 32 (0, 0))) := hx4.block HbL3.out
  have HXw : Hid (Ext w w4) := HX1.out.trans (HX2.out.trans (HX3.out.trans hx4))
  clear hx4 hc4 hs4 hp3
  go_wp2_with fail
  refine (wpIn_wide (n := 3)).1 ?_
  refine wp_rangeFuncT (a₁ := ?a1) rfl enters_77 (lines1_gives t (leadsOf t r.l) p w3.heap.size w w4 (fun k => k ≠ w1.heap.size ∧ k ≠ w.heap.size + 1 ∧ k ≠ w.heap.size + 1 + 1) HK.out HT.out.starts HXw.out (HW3.out.ext HX4.out) HC4.out (fun k h => by have := HLt.out; omega) (by have := HS3.out; have := HLt.out; have := HPf.out; omega) (by have := HS3.out; have := HLt.out; omega)) rfl
    (fun hi pre W => Coll W w1.heap.size hi pre ∧ pre.length ≤ 200 ∧ Keep (But w4.heap.size w1.heap.size) w4 W) (fun hi c pre W => LnIx t (leadsOf t r.l) (w.heap.size + 1) (w.heap.size + 1 + 1) w4.heap.size w1.heap.size w4 c W)
    ?_ ?_ ?_ ?assign ?body ?done ?stop
  case assign =>
    intro l s W K hK
    gi_wp2
    exact hK
  · intro hi s A B hh h hk
    have := HS3.out
    have := HS4.out
    exact ⟨h.1.keep hk (.inl (by omega)) (fun i hi => .inr hi), h.2.1, h.2.2.trans (hk.mono (fun k _ h => .inl h.1))⟩
  · intro c hi s A B hh h hk
    have := HS3.out
    have := HS4.out
    have := HLt.out
    obtain ⟨rfl, q1, q2, q3, q4⟩ := h
    exact ⟨rfl, q1, hk.heap q2 (.inl (by omega)), hk.heap q3 (.inl (by omega)), q4.trans (hk.mono (fun k _ h => .inl h.1))⟩
  · intro hi hh
    exact ⟨Coll.nil HL4.out, by simp, Keep.refl _ _⟩
  case body =>
    rintro l hi pre s W hh hhW ⟨hC, hpl0, hKp⟩ hpre hsl hown
    have hS3 := HS3.out
    have hS4 := HS4.out
    have hLt := HLt.out
    obtain ⟨a, c, rows, h1, h2, h3, h4⟩ := hC
    have hrl : rows.length = pre.length := by have := congrArg List.length h4; simpa using this
    have hcb : W.cell? ⟨w1.heap.size, 0, none⟩ = some (.slice a rows.length c) := (cell_at h1 0).trans rfl
    have HPl : Hid (rows.length = pre.length) := hrl
    by_cases hrl2 : rows.length < 200
    · clear hrl hpl0
      have d200 : ((rows.length : Int) == 200) = false := by rw [beq_eq_false_iff_ne]; omega
      have H1 := Lib.hid h1; clear h1
      have H2 := Lib.hid h2; clear h2
      have H3 := Lib.hid h3; clear h3
      have H4 := Lib.hid h4; clear h4
      have HKp := Lib.hid hKp; clear hKp
      have HOs := Lib.hid hown; clear hown
      have HSl := Lib.hid hsl; clear hsl
      have hm1 : rows.length + 1 ≤ maxLen := by unfold maxLen; omega
      obtain ⟨i0, hi0, hz0, hz1, hz2⟩ := info_parts info25
      gi_wp2_with (gi_at_builtin; refine wpListIn_append_own _ rfl _ _ 32 rfl hi 25 i0 (.slice none 0 0) 1 24 Tryz.underlying32 hi0 hz0 hz1 hz2 rfl (by decide) _ rows.length (rows.map fun r => r.v) rfl (H2.out.alloc _) ⟨W.heap.size, 0, none⟩ 1 1 [s.v] rfl rfl (cell_one_new _ _ _) (by simp [Value.oneCell']) hm1 (by omega) (by simp; omega) ?_; intro v' w5 hown5 hgrow5 _;
                       obtain ⟨q1, q2, q3⟩ := Coll.append H1.out H2.out H3.out ⟨HSl.out, HOs.out⟩ hown5 hgrow5;
                       obtain ⟨g', cap', rfl⟩ := ownsRow_succ hown5; have hcb5 : w5.cell? ⟨w1.heap.size, 0, none⟩ = some (.slice a rows.length c) := (cell_at q1 0).trans rfl; have hfb5 : w5.frozen? ⟨w1.heap.size, 0, none⟩ = false := (by simp [World.frozen?, q1]); have Q2 := Lib.hid q2; have Q3 := Lib.hid q3; clear q1 q2 q3 hown5 hgrow5)
      refine ⟨Q3.out.mono (fun k hk h => ?_), ?_, by have := HPl.out; simp; omega, HKp.out.trans (Q3.out.mono (fun k _ h => ⟨by have := h.1; omega, h.2⟩))⟩
      · rcases h with h | h
        · exact ⟨by omega, h.2.1⟩
        · exact ⟨h.2, by omega⟩
      · have := Q2.out
        rw [List.map_append, H4.out] at this
        simpa using this
    · have hr200 : rows.length = 200 := by omega
      have hlong : 200 < (linesR t (leadsOf t r.l)).length := by
        have h1 := hpre.length_le
        simp only [List.length_append, List.length_cons, List.length_nil] at h1
        omega
      have hx24 : Ext w1 w4 := HX2.out.trans (HX3.out.trans HX4.out)
      have hB4 : W.heap[w.heap.size + 1]? = some (.cells #[.slice none 0 0] 32 (0, 0)) := hKp.heap (hx24.block HBx.out.1) ⟨by omega, by omega⟩
      have hB5 : W.heap[w.heap.size + 1 + 1]? = some (.cells #[.int .i64 0] 33 (0, 0)) := hKp.heap (hx24.block HBx.out.2) ⟨by omega, by omega⟩
      have hc4 : W.cell? ⟨w.heap.size + 1, 0, none⟩ = some (.slice none 0 0) := (cell_at hB4 0).trans rfl
      have hc5 : W.cell? ⟨w.heap.size + 1 + 1, 0, none⟩ = some (.int .i64 0) := (cell_at hB5 0).trans rfl
      have hf4 : W.frozen? ⟨w.heap.size + 1, 0, none⟩ = false := by simp [World.frozen?, hB4]
      have hf5 : W.frozen? ⟨w.heap.size + 1 + 1, 0, none⟩ = false := by simp [World.frozen?, hB5]
      have d200 : ((rows.length : Int) == 200) = true := by rw [hr200]; rfl
      have HB4 := Lib.hid hB4; clear hB4
      have HB5 := Lib.hid hB5; clear hB5
      have HKp := Lib.hid hKp; clear hKp
      clear hr200 hrl h1 h2 h3 h4 hpre hown
      have e12 : ¬ w.heap.size + 1 = w.heap.size + 1 + 1 := by omega
      have e21 : ¬ w.heap.size + 1 + 1 = w.heap.size + 1 := by omega
      gi_wp2_with fail
      have b4 : (W.setCell ⟨w.heap.size + 1, 0, none⟩ (.slice none 0 0)).heap[w.heap.size + 1]? = some (.cells #[.slice none 0 0] 32 (0, 0)) := heap_setCell_same HB4.out _
      have b5 : (W.setCell ⟨w.heap.size + 1, 0, none⟩ (.slice none 0 0)).heap[w.heap.size + 1 + 1]? = some (.cells #[.int .i64 0] 33 (0, 0)) := (Below.heap_setCell _ _ _ _ (by show w.heap.size + 1 + 1 ≠ _; omega)).trans HB5.out
      have K1 : Keep (fun k => k ≠ w1.heap.size ∧ k ≠ w.heap.size + 1 ∧ k ≠ w.heap.size + 1 + 1) W ((W.setCell ⟨w.heap.size + 1, 0, none⟩ (.slice none 0 0)).setCell ⟨w.heap.size + 1 + 1, 0, none⟩ (.int .i64 11)) :=
        ((Keep.refl _ W).setCell _ _ (fun _ h => h.2.1 rfl)).setCell _ _ (fun _ h => h.2.2 rfl)
      refine ⟨K1.mono (fun k hk h => ?_), rfl, hlong, (Below.heap_setCell _ _ _ _ (by show w.heap.size + 1 ≠ w.heap.size + 1 + 1; omega)).trans b4, heap_setCell_same b5 _, (HKp.out.mono (fun k _ h => ⟨h.1, h.2.1⟩)).trans (K1.mono (fun k _ h => h.2))⟩
      rcases h with h | h
      · exact h.2
      · exact ⟨by omega, by omega, by omega⟩
  case stop =>
    rintro hi c pre W hh hp ⟨rfl, q1, q2, q3, q4⟩ hD
    have hS3 := HS3.out
    have hS4 := HS4.out
    have hLt := HLt.out
    have hXw2 : Ext w (W.putObj w4.heap.size (.deferred none)) := ext_keep (ext_keep HXw.out q4 (fun i hi => ⟨by omega, by omega, by omega, by omega⟩)) ((Keep.refl (fun k => k ≠ w4.heap.size) W).putObj _ _ (fun h => h rfl)) (fun i hi => by omega)
    have f4 : (W.putObj w4.heap.size (.deferred none)).cell? ⟨w.heap.size + 1, 0, none⟩ = some (.slice none 0 0) := (cell_at ((World.putObj_heap_other (by omega)).trans q2) 0).trans rfl
    have f5 : (W.putObj w4.heap.size (.deferred none)).cell? ⟨w.heap.size + 1 + 1, 0, none⟩ = some (.int .i64 11) := (cell_at ((World.putObj_heap_other (by omega)).trans q3) 0).trans rfl
    apply wpIn_ret
    simp only [Exit.inBlock, Exit.then]
    refine ⟨by simp, .inl ⟨_, _, rfl, run_takeDeferred hD, ?_⟩⟩
    exact ⟨_, res2 rfl _ _ ⟨w.heap.size + 1, 0, none⟩ ⟨w.heap.size + 1 + 1, 0, none⟩ rfl rfl _ _ (load41 _ _ _ f4) (load38 _ _ _ f5), .inr ⟨q1, rfl⟩, hXw2⟩
  case done =>
    rintro hi W hh ⟨hC, hpl0, hKp⟩ hD
    have hS3 := HS3.out
    have hS4 := HS4.out
    have hLt := HLt.out
    have hlen : (linesR t (leadsOf t r.l)).length ≤ 1000000 := by omega
    have HPl := Lib.hid hpl0
    have hx24 : Ext w1 w4 := HX2.out.trans (HX3.out.trans HX4.out)
    have h4W : W.heap[w.heap.size + 1]? = some (.cells #[.slice none 0 0] 32 (0, 0)) := hKp.heap (hx24.block HBx.out.1) ⟨by omega, by omega⟩
    have h5W : W.heap[w.heap.size + 1 + 1]? = some (.cells #[.int .i64 0] 33 (0, 0)) := hKp.heap (hx24.block HBx.out.2) ⟨by omega, by omega⟩
    obtain ⟨a, c, rows, h1, h2, h3, h4⟩ := hC
    have HFin : Hid (∀ (v : Value), v = .slice a rows.length c → ∃ Wf, (Instr.takeDeferred w4.heap.size).run Tryz.prog ((W.setCell ⟨w.heap.size + 1, 0, none⟩ v).setCell ⟨w.heap.size + 1 + 1, 0, none⟩ (.int .i64 0)) = .ok [] Wf ∧ Wf.cell? ⟨w.heap.size + 1, 0, none⟩ = some v ∧ Wf.cell? ⟨w.heap.size + 1 + 1, 0, none⟩ = some (.int .i64 0) ∧
        IsSl 1 slC Wf ⟨a, c, rows⟩ ∧ (∀ r ∈ rows, IsSl 1 num Wf r) ∧ Ext w Wf) := by
      intro v hv
      have e1 : ((W.setCell ⟨w.heap.size + 1, 0, none⟩ v).setCell ⟨w.heap.size + 1 + 1, 0, none⟩ (.int .i64 0)).heap[w4.heap.size]? = some (.deferred (some [])) := by
        rw [Below.heap_setCell _ _ _ _ (by show w4.heap.size ≠ w.heap.size + 1 + 1; omega), Below.heap_setCell _ _ _ _ (by show w4.heap.size ≠ w.heap.size + 1; omega)]; exact hD
      have b4 : (W.setCell ⟨w.heap.size + 1, 0, none⟩ v).heap[w.heap.size + 1]? = some (.cells #[v] 32 (0, 0)) := heap_setCell_same h4W v
      have b4' : ((W.setCell ⟨w.heap.size + 1, 0, none⟩ v).setCell ⟨w.heap.size + 1 + 1, 0, none⟩ (.int .i64 0)).heap[w.heap.size + 1]? = some (.cells #[v] 32 (0, 0)) := by
        rw [Below.heap_setCell _ _ _ _ (by show w.heap.size + 1 ≠ w.heap.size + 1 + 1; omega)]; exact b4
      have b5 : (W.setCell ⟨w.heap.size + 1, 0, none⟩ v).heap[w.heap.size + 1 + 1]? = some (.cells #[.int .i64 0] 33 (0, 0)) := by
        rw [Below.heap_setCell _ _ _ _ (by show w.heap.size + 1 + 1 ≠ w.heap.size + 1; omega)]; exact h5W
      have b5' : ((W.setCell ⟨w.heap.size + 1, 0, none⟩ v).setCell ⟨w.heap.size + 1 + 1, 0, none⟩ (.int .i64 0)).heap[w.heap.size + 1 + 1]? = some (.cells #[.int .i64 0] 33 (0, 0)) := heap_setCell_same b5 _
      have KD : Keep (fun k => k ≠ w.heap.size + 1 ∧ k ≠ w.heap.size + 1 + 1 ∧ k ≠ w4.heap.size) W (((W.setCell ⟨w.heap.size + 1, 0, none⟩ v).setCell ⟨w.heap.size + 1 + 1, 0, none⟩ (.int .i64 0)).putObj w4.heap.size (.deferred none)) :=
        (((Keep.refl _ W).setCell _ _ (fun _ h => h.1 rfl)).setCell _ _ (fun _ h => h.2.1 rfl)).putObj _ _ (fun h => h.2.2 rfl)
      have hf : flat 1 slC rows = rows.map fun r => r.v := by simp [flat, slC, List.range_succ, ← List.map_eq_flatMap]
      have o2 := own_keep h2 KD (fun i hi => ⟨by omega, by omega, by omega⟩)
      rw [← hf] at o2
      refine ⟨_, run_takeDeferred e1, (cell_at ((World.putObj_heap_other (by omega)).trans b4') 0).trans rfl, (cell_at ((World.putObj_heap_other (by omega)).trans b5') 0).trans rfl, own_slG o2 (by rw [← h4] at hlen; simpa using hlen), fun r hr => own_sl (own_keep (h3 r hr).2 KD (fun i hi => ⟨by omega, by omega, by omega⟩)) (h3 r hr).1, ?_⟩
      exact ext_keep (ext_keep HXw.out hKp (fun i hi => ⟨by omega, by omega⟩)) KD (fun i hi => ⟨by omega, by omega, by omega⟩)
    have hcb : W.cell? ⟨w1.heap.size, 0, none⟩ = some (.slice a rows.length c) := (cell_at h1 0).trans rfl
    have hc4 : W.cell? ⟨w.heap.size + 1, 0, none⟩ = some (.slice none 0 0) := (cell_at h4W 0).trans rfl
    have hc5 : W.cell? ⟨w.heap.size + 1 + 1, 0, none⟩ = some (.int .i64 0) := (cell_at h5W 0).trans rfl
    have hf4 : W.frozen? ⟨w.heap.size + 1, 0, none⟩ = false := by simp [World.frozen?, h4W]
    have hf5 : W.frozen? ⟨w.heap.size + 1 + 1, 0, none⟩ = false := by simp [World.frozen?, h5W]
    have H4 := Lib.hid h4; clear h4
    have HD := Lib.hid hD; clear hD
    clear h1 h2 h3 h4W h5W hKp hlen hx24
    have e12 : ¬ w.heap.size + 1 = w.heap.size + 1 + 1 := by omega
    have e21 : ¬ w.heap.size + 1 + 1 = w.heap.size + 1 := by omega
    simp only [Exit.inBlock, Exit.then]
    go_wp2_with fail
    obtain ⟨Wf, f1, f2, f3, f4, f5, f6⟩ := HFin.out _ rfl
    refine ⟨by simp, .inl ⟨_, _, rfl, f1, ?_⟩⟩
    exact ⟨_, res2 rfl _ _ ⟨w.heap.size + 1, 0, none⟩ ⟨w.heap.size + 1 + 1, 0, none⟩ rfl rfl _ _ (load41 _ _ _ f2) (load38 _ _ _ f3), .inl ⟨HPl.out, a, c, rows, rfl, f4, f5, H4.out⟩, f6⟩
end Go.Proofs.YtopjjcgmcieboaaGreatDoor

namespace Go.Proofs.YtopjjcgmcieboaaGreatDoor

theorem SameT.refl (t : TV) : SameT t t := ⟨⟨rfl, rfl, rfl⟩, rfl, rfl⟩

theorem meanAt_lists (t : TV) (r : List Nat) (k : Nat) : meanAt t r k = (((t.words.l.map listsOf)[k]?.bind fun x => x[(r[k]?).getD 0]?).getD ([], [])) := by
  unfold meanAt
  rw [List.getElem?_map]
  cases h : t.words.l[k]? with
  | none => simp
  | some s =>
    simp only [Option.map_some, Option.bind_some, listsOf, List.getElem?_map]
    cases h2 : s.l[(r[k]?).getD 0]? <;> simp
theorem legMean_same {t t' : TV} (h : SameW t t') (r : List Nat) (x : Nat × Int) : legMean t' r x = legMean t r x := by
  unfold legMean
  simp only [meanAt_lists, h.words]
theorem leadsOf_same {t t' : TV} (h : SameW t t') (r : List Nat) (k k' : Nat) (hl : t'.legs.l[k']? = t.legs.l[k]?) : leadsOf t' r k' = leadsOf t r k := by
  unfold leadsOf
  rw [hl]
  cases t.legs.l[k]? with
  | none => rfl
  | some x => simp only [legMean_same h, h.ways]

theorem words_length {t t' : TV} (h : SameW t t') : t'.words.l.length = t.words.l.length := by have := congrArg List.length h.words; simpa using this
theorem words_at {t t' : TV} (h : SameW t t') (k : Nat) (h1 : k < t'.words.l.length) (h2 : k < t.words.l.length) : listsOf t'.words.l[k] = listsOf t.words.l[k] := by
  have := congrArg (fun l => l[k]?) h.words
  simp only [List.getElem?_map, List.getElem?_eq_getElem h1, List.getElem?_eq_getElem h2, Option.map_some, Option.some.injEq] at this
  exact this
theorem lists_length {s s' : SL MV} (h : listsOf s' = listsOf s) : s'.l.length = s.l.length := by have := congrArg List.length h; simpa [listsOf] using this
theorem RdOk.same {t t' : TV} (h : SameW t t') {r : List Nat} (hr : RdOk t r) : RdOk t' r := by
  refine ⟨hr.1.trans (words_length h).symm, fun k hk hk' => ?_⟩
  have h2 : k < t.words.l.length := by rw [← words_length h]; exact hk'
  rw [lists_length (words_at h k hk' h2)]
  exact hr.2 k hk h2

theorem OkT.part {t t' : TV} (hk : OkT t) (h : SameW t t') (h1 : 1 ≤ t'.starts.l.length) (h2 : t'.starts.l.length ≤ t.P) (hs : (∀ s ∈ t'.starts.l, s < t.P) ∧ t'.starts.l.Pairwise (· < ·)) (hl : ∀ g ∈ t'.legs.l, g ∈ t.legs.l) (hn : t'.legs.l.length ≤ 10) : OkT t' := by
  have hw : ∀ s ∈ t'.words.l, ∃ q ∈ t.words.l, listsOf s = listsOf q := by
    intro s hs
    have : listsOf s ∈ t.words.l.map listsOf := by rw [← h.words]; exact List.mem_map.2 ⟨s, hs, rfl⟩
    obtain ⟨q, hq, e⟩ := List.mem_map.1 this
    exact ⟨q, hq, e.symm⟩
  have hm : ∀ {s q : SL MV}, listsOf s = listsOf q → ∀ m ∈ s.l, ∃ p ∈ q.l, p.k.l = m.k.l ∧ p.e.l = m.e.l := by
    intro s q e m hm
    have : (m.k.l, m.e.l) ∈ listsOf q := by rw [← e]; exact List.mem_map.2 ⟨m, hm, rfl⟩
    obtain ⟨p, hp, e2⟩ := List.mem_map.1 this
    rw [Prod.mk.injEq] at e2
    exact ⟨p, hp, e2⟩
  refine { p1 := by rw [h.P]; exact hk.p1, p2 := by rw [h.P]; exact hk.p2, ways := by rw [h.ways]; exact hk.ways, words := by rw [words_length h]; exact hk.words, starts1 := h1, starts2 := by rw [h.P]; exact h2, legs := hn, word := fun s hs => ?_, way := by rw [h.ways, h.P]; exact hk.way, kinds := fun s hs m hms => ?_, ends := fun s hs m hms => ?_, start := by rw [h.P]; exact hs, leg := fun g hg => by rw [words_length h]; exact hk.leg g (hl g hg), many := ?_ }
  · obtain ⟨q, hq, e⟩ := hw s hs
    rw [lists_length e]; exact hk.word q hq
  · obtain ⟨q, hq, e⟩ := hw s hs
    obtain ⟨p, hp, e1, e2⟩ := hm e m hms
    rw [← e1]; exact hk.kinds q hq p hp
  · obtain ⟨q, hq, e⟩ := hw s hs
    obtain ⟨p, hp, e1, e2⟩ := hm e m hms
    rw [← e2, h.P]; exact hk.ends q hq p hp
  · have e : t'.words.l.map (·.l.length) = t.words.l.map (·.l.length) := by
      have := congrArg (fun l => l.map List.length) h.words
      simpa [listsOf, List.map_map, Function.comp_def] using this
    rw [e]; exact hk.many

/-- The parts of a treaty at a leg, and what their legs lead to. -/
theorem part_of {t a b : TV} (hk : OkT t) (r : List Nat) (k : Nat) (hkl : k ≤ t.legs.l.length) (ha : SameW t a) (hb : SameW t b) (as1 : a.starts.l = t.starts.l) (bs1 : b.starts.l = List.range t.P) (al : a.legs.l = t.legs.l.take k) (bl : b.legs.l = t.legs.l.drop k) :
    PartT t a b (leadsOf t r) (leadsOf a r) (leadsOf b r) k ∧ OkT a ∧ OkT b := by
  have h10 := hk.legs
  refine ⟨⟨hkl, ha.P, hb.P, by rw [al, List.length_take]; omega, by rw [bl, List.length_drop], as1, bs1, fun i hi => leadsOf_same ha r i i (by rw [al, List.getElem?_take, if_pos hi]), fun i hi => leadsOf_same hb r (k + i) i (by rw [bl, List.getElem?_drop])⟩, ?_, ?_⟩
  · exact hk.part ha (by rw [as1]; exact hk.starts1) (by rw [as1]; exact hk.starts2) (by rw [as1]; exact hk.start) (fun g hg => List.mem_of_mem_take (by rwa [al] at hg)) (by rw [al, List.length_take]; omega)
  · exact hk.part hb (by rw [bs1, List.length_range]; exact hk.p1) (by rw [bs1, List.length_range]; exact Nat.le_refl _) (by rw [bs1]; exact ⟨fun s hs => by simpa using hs, List.pairwise_lt_range⟩) (fun g hg => List.mem_of_mem_drop (by rwa [bl] at hg)) (by rw [bl, List.length_drop]; omega)
end Go.Proofs.YtopjjcgmcieboaaGreatDoor

namespace Go.Proofs.YtopjjcgmcieboaaGreatDoor
open Go.RowKit

set_option maxHeartbeats 400000 in
theorem indexRow_any (g : Nat) (cap : Array Value) (D : SL Nat → Prop) (p : SL Nat → Bool) (a : Option Addr) (n c : Nat) (l : List (SL Nat)) (w : World) (hE : Enters Tryz.prog g) (hn : l.length = n) (hv : IsSl 1 slC w ⟨a, c, l⟩)
    (hp : Asks Tryz.prog g cap (fun x : SL Nat => #[.slice x.a x.l.length x.c]) D p w) (hD : ∀ x ∈ l, D x) :
    Calls Tryz.prog 47 #[.slice a n c, .func (.func g) #[] cap] w fun e w' => (∃ r : Int, e = .returned (.int .i64 r) ∧ ((r = -1 ∧ l.any p = false) ∨ (0 ≤ r ∧ l.any p = true))) ∧ Ext w w' := by
  subst hn
  obtain ⟨h1, h2, h3⟩ := hv
  dsimp only at h1 h2 h3
  have H3 := Lib.hid h3; clear h3
  have HP := Lib.hid hp; clear hp
  have HD := Lib.hid hD; clear hD
  have HE : ∀ args w, (callFunc g args).run Tryz.prog w = .ok (.enter g args) w := hE; clear hE
  go_enter Tryz.func47, Tryz.ntmps47
  go_wp2
  go_loopw [8] (fun i wr => ∃ k : Nat, k ≤ l.length ∧ i = .int .i64 k ∧ Hid ((l.take k).all (fun x => !p x) = true) ∧ Ext w wr) (fun i _ => l.length - (intOf i).toNat)
  case atStart => exact ⟨0, Nat.zero_le _, rfl, by simp [Hid], Ext.refl _⟩
  case round =>
    obtain ⟨k, hk, rfl, HA, hext⟩ := hrel
    by_cases hlt : k < l.length
    · obtain ⟨b, off, rfl, hc⟩ := H3.out.resolve_left (by omega)
      have hcell : wr.cell? ⟨b, off + k, none⟩ = some (.slice l[k].a l[k].l.length l[k].c) := by have := hext.cell (hc k (by simpa using hlt) 0 (by omega)); simpa [slC] using this
      clear hc
      have HDy := Lib.hid (HD.out _ (List.getElem_mem hlt))
      have HAn : Hid ((l.take (k + 1)).all (fun x => !p x) = ((l.take k).all (fun x => !p x) && !p l[k])) := all_take_succ _ _ _ hlt
      have HMy : Hid (l[k] ∈ l) := List.getElem_mem _
      generalize l[k] = y at *
      have HX := Lib.hid hext; clear hext
      go_wp2_with fail
      refine (HP.out y HDy.out wr HX.out).mono ?_
      rintro e w1 ⟨rfl, hx1⟩
      have HX1 := Lib.hid (HX.out.trans hx1); clear hx1
      cases hpx : p y
      · have Hpx := Lib.hid hpx; clear hpx
        go_wp2
        go_roundw
        case rel => exact ⟨k + 1, by omega, by go_num, by show _ = true; rw [HAn.out, HA.out, Hpx.out]; rfl, HX1.out⟩
        case measure => simp [intOf]; omega
      · have Hpx := Lib.hid hpx; clear hpx
        go_wp2
        go_ret
        exact ⟨⟨k, rfl, .inr ⟨by omega, List.any_eq_true.2 ⟨y, HMy.out, Hpx.out⟩⟩⟩, HX1.out⟩
    · have HX := Lib.hid hext; clear hext
      go_wp2
      go_ret
      refine ⟨⟨-1, rfl, .inl ⟨rfl, ?_⟩⟩, HX.out⟩
      have := HA.out
      rw [List.take_of_length_le (by omega)] at this
      rw [List.any_eq_false]; intro x hx; have := List.all_eq_true.1 this x hx; simpa using this

set_option maxHeartbeats 400000 in
theorem containsRow_any (g : Nat) (cap : Array Value) (D : SL Nat → Prop) (p : SL Nat → Bool) (a : Option Addr) (n c : Nat) (l : List (SL Nat)) (w : World) (hE : Enters Tryz.prog g) (hn : l.length = n) (hv : IsSl 1 slC w ⟨a, c, l⟩)
    (hp : Asks Tryz.prog g cap (fun x : SL Nat => #[.slice x.a x.l.length x.c]) D p w) (hD : ∀ x ∈ l, D x) :
    Calls Tryz.prog 14 #[.slice a n c, .func (.func g) #[] cap] w fun e w' => e = .returned (.bool (l.any p)) ∧ Ext w w' := by
  have HI := Lib.hid (indexRow_any g cap D p a n c l w hE hn hv hp hD)
  clear hE hn hv hp hD
  go_enter Tryz.func14, Tryz.ntmps14
  go_wp2_with fail
  refine HI.out.mono ?_
  rintro e w' ⟨⟨r, rfl, hr⟩, hx⟩
  have HR := Lib.hid hr; clear hr
  have HX := Lib.hid hx; clear hx
  go_wp2
  go_ret
  refine ⟨?_, HX.out⟩
  rcases HR.out with ⟨rfl, hall⟩ | ⟨h0, hall⟩
  · rw [hall]; rfl
  · rw [hall]
    have h0' : decide ((0 : Int) ≤ r) = true := by simpa using h0
    show Ending.returned (.bool (decide ((0 : Int) ≤ r))) = _
    rw [h0']

theorem among1_any (b : Nat) (x y : SL Nat) (w : World) (hc : w.heap[b]? = some (.cells #[.slice x.a x.l.length x.c] 25 (0, 0))) (hx : IsSl 1 num w x) (hy : IsSl 1 num w y) :
    Calls Tryz.prog 58 #[.slice y.a y.l.length y.c, .pointer (some ⟨b, 0, none⟩)] w fun e w' => e = .returned (.bool (decide (x.l = y.l))) ∧ Ext w w' := by
  have HE := Lib.hid (equal_any x y w hx hy)
  have c0 : w.cell? ⟨b, 0, none⟩ = some (.slice x.a x.l.length x.c) := (cell_at hc 0).trans rfl
  clear hc hx hy
  generalize decide (x.l = y.l) = r at *
  go_enter Tryz.func58, Tryz.ntmps58
  go_wp2_with fail
  refine HE.out.mono ?_
  rintro e w' ⟨rfl, hx⟩
  have HX : Hid (Ext w w') := hx.ext
  clear hx
  go_wp2
  go_ret
  exact ⟨rfl, HX.out⟩

theorem enters_58 : Enters Tryz.prog 58 := fun args w => Proofs.enters_of Tryz.func58 (by kernel_rfl) rfl args w

set_option maxHeartbeats 400000 in
theorem among_any (s t : SL (SL Nat)) (w : World) (hs : IsSl 1 slC w s) (ht : IsSl 1 slC w t) (hrs : ∀ r ∈ s.l, IsSl 1 num w r) (hrt : ∀ r ∈ t.l, IsSl 1 num w r) :
    Calls Tryz.prog 29 #[.slice s.a s.l.length s.c, .slice t.a t.l.length t.c] w fun e w' => e = .returned (.bool (s.l.all fun x => t.l.any fun y => decide (x.l = y.l))) ∧ Ext w w' := by
  obtain ⟨a, c, l⟩ := s
  obtain ⟨h1, h2, h3⟩ := hs
  dsimp only at h1 h2 h3 hrs ⊢
  have H3 := Lib.hid h3; clear h3
  have HT := Lib.hid ht; clear ht
  have HRs := Lib.hid hrs; clear hrs
  have HRt := Lib.hid hrt; clear hrt
  go_enter Tryz.func29, Tryz.ntmps29
  go_wp2
  go_loopw [9] (fun i wr => ∃ k : Nat, k ≤ l.length ∧ i = .int .i64 k ∧ Hid ((l.take k).all (fun x => t.l.any fun y => decide (x.l = y.l)) = true) ∧ Hid (Ext w wr)) (fun i _ => l.length - (intOf i).toNat)
  case atStart => exact ⟨0, Nat.zero_le _, rfl, by simp [Hid], Ext.refl _⟩
  case round =>
    obtain ⟨k, hk, rfl, HA, HX⟩ := hrel
    by_cases hlt : k < l.length
    · have dk : decide ((k : Int) < (l.length : Int)) = true := by simpa using hlt
      obtain ⟨b, off, rfl, hc⟩ := H3.out.resolve_left (by omega)
      have hcell : wr.cell? ⟨b, off + k, none⟩ = some (.slice l[k].a l[k].l.length l[k].c) := by have := HX.out.cell (hc k (by simpa using hlt) 0 (by omega)); simpa [slC] using this
      clear hc
      have HAn : Hid ((l.take (k + 1)).all (fun x => t.l.any fun y => decide (x.l = y.l)) = ((l.take k).all (fun x => t.l.any fun y => decide (x.l = y.l)) && (t.l.any fun y => decide (l[k].l = y.l)))) := all_take_succ _ _ _ hlt
      have HMy : Hid (l[k] ∈ l) := List.getElem_mem _
      generalize l[k] = y at *
      go_wp2_with fail
      have hx1 : Ext w (wr.alloc (.cells #[.slice y.a y.l.length y.c] 25)) := HX.out.alloc _
      refine (containsRow_any 58 #[.pointer (some ⟨wr.heap.size, 0, none⟩)] (fun r => r ∈ t.l) (fun r => decide (y.l = r.l)) t.a t.l.length t.c t.l _ enters_58 rfl (HT.out.ext hx1) ?_ (fun x hx => hx)).mono ?_
      · intro r hr w' hw'
        exact among1_any wr.heap.size y r w' (hw'.block (World.alloc_heap_new wr _)) ((HRs.out y HMy.out).ext (hx1.trans hw')) ((HRt.out r hr).ext (hx1.trans hw'))
      · rintro e w1 ⟨rfl, hx2⟩
        have HX2 : Hid (Ext w w1) := hx1.trans hx2
        clear hx1 hx2
        cases hb : t.l.any fun r => decide (y.l = r.l)
        · have HB := Lib.hid hb; clear hb
          go_wp2
          go_ret
          refine ⟨?_, HX2.out⟩
          have : (l.all fun x => t.l.any fun y => decide (x.l = y.l)) = false := by
            rw [List.all_eq_false]; exact ⟨y, HMy.out, by rw [HB.out]; simp⟩
          rw [this]; rfl
        · have HB := Lib.hid hb; clear hb
          go_wp2
          go_roundw
          case rel => exact ⟨k + 1, by omega, by go_num, by show _ = true; rw [HAn.out, HA.out, HB.out]; rfl, HX2⟩
          case measure => simp [intOf]; omega
    · have dk : decide ((k : Int) < (l.length : Int)) = false := decide_eq_false (by omega)
      have HA2 : Hid ((l.all fun x => t.l.any fun y => decide (x.l = y.l)) = true) := by
        have := HA.out
        rwa [List.take_of_length_le (by omega)] at this
      clear HA
      go_wp2
      go_ret
      exact ⟨by rw [HA2.out]; rfl, HX.out⟩
end Go.Proofs.YtopjjcgmcieboaaGreatDoor

namespace Go.Proofs.YtopjjcgmcieboaaGreatDoor
open Go.RowKit

/-- The two copies of a treaty, in boxes. -/
def TwoOf (t : TV) (w : World) (s9 s10 : Value) (wx : World) : Prop :=
  ∃ (A B : Nat) (ta tb : TV), s9 = .pointer (some ⟨A, 0, none⟩) ∧ s10 = .pointer (some ⟨B, 0, none⟩) ∧ A ≠ B ∧ w.heap.size ≤ A ∧ w.heap.size ≤ B ∧ A < wx.heap.size ∧ B < wx.heap.size ∧
    Hid (MkT wx A ta.P ta.ways.v ta.words.v ta.starts.v ta.legs.v) ∧ Hid (MkT wx B tb.P tb.ways.v tb.words.v tb.starts.v tb.legs.v) ∧ Hid (∀ w', G2 A B wx w' → IsT w' ta ∧ IsT w' tb) ∧ Hid (SameT t ta) ∧ Hid (SameT t tb) ∧ Hid (Ext w wx)

theorem G2.setA {D B : Nat} {a b : World} (h : G2 D B a b) (i : Nat) (v : Value) : G2 D B a (b.setCell ⟨D, i, none⟩ v) :=
  h.step (row := some D) ⟨rfl, rfl, rfl, by simp [World.setCell], fun k _ hne => Below.heap_setCell _ _ _ _ (fun e => hne (by rw [e]))⟩ (fun i e => by cases e; exact .inl rfl)
theorem G2.al {D B : Nat} {a b : World} (h : G2 D B a b) (o : Obj) : G2 D B a (b.alloc o) := h.ext ((Ext.refl b).alloc o)
theorem G2.dr {D B : Nat} {a b : World} (h : G2 D B a b) : G2 D B a b.drew := h.ext (Ext.refl b).drew
theorem MkT.al {w : World} {B P : Nat} {a b c d : Value} (h : MkT w B P a b c d) (o : Obj) : MkT (w.alloc o) B P a b c d := ((Ext.refl w).alloc o).block h
theorem MkT.dr {w : World} {B P : Nat} {a b c d : Value} (h : MkT w B P a b c d) : MkT w.drew B P a b c d := ((Ext.refl w).drew).block h
theorem MkT.ne {w : World} {A B P i : Nat} {a b c d v : Value} (h : MkT w B P a b c d) (hne : A ≠ B) : MkT (w.setCell ⟨A, i, none⟩ v) B P a b c d := heap_set_other _ _ _ _ h (fun e => hne e.symm)
theorem ZB.al {w : World} {B : Nat} (h : ZB w B) (o : Obj) : ZB (w.alloc o) B := h.ext ((Ext.refl w).alloc o)
theorem ZB.ne {w : World} {A B i : Nat} {v : Value} (h : ZB w B) (hne : A ≠ B) : ZB (w.setCell ⟨A, i, none⟩ v) B := heap_set_other _ _ _ _ h (fun e => hne e.symm)
theorem mkt_new (w : World) (P : Nat) (a b c d : Value) : MkT (w.alloc (.cells #[.int .i64 (P : Int), a, b, c, d] 28)) w.heap.size P a b c d := World.alloc_heap_new w _
theorem mkt_new1 (w : World) (o : Obj) (P : Nat) (a b c d : Value) : MkT ((w.alloc o).alloc (.cells #[.int .i64 (P : Int), a, b, c, d] 28)) (w.heap.size + 1) P a b c d := by
  have := World.alloc_heap_new (w.alloc o) (.cells #[.int .i64 (P : Int), a, b, c, d] 28); rwa [World.size_alloc] at this
theorem zb_at (w : World) : ZB (w.alloc boxZ) w.heap.size := World.alloc_heap_new w _
theorem zb_at1 (w : World) (o : Obj) : ZB ((w.alloc o).alloc boxZ) (w.heap.size + 1) := by
  have := World.alloc_heap_new (w.alloc o) boxZ; rwa [World.size_alloc] at this
theorem zb_call2 {w v : World} (h : Ext ((w.alloc boxZ).alloc boxZ).drew v) : ZB v w.heap.size ∧ ZB v (w.heap.size + 1) := ⟨h.block (show ZB ((w.alloc boxZ).alloc boxZ) w.heap.size from (zb_at w).al _), h.block (show ZB ((w.alloc boxZ).alloc boxZ) (w.heap.size + 1) from zb_at1 w _)⟩
theorem zb_new2 {w v : World} (h : Ext ((w.alloc boxZ).alloc boxZ) v) : ZB v w.heap.size ∧ ZB v (w.heap.size + 1) := ⟨((zb_at w).al _).ext h, (zb_at1 w _).ext h⟩
theorem sz0d (w : World) : w.drew.heap.size = w.heap.size := rfl
theorem sz1 (w : World) (o : Obj) : (w.alloc o).heap.size = w.heap.size + 1 := World.size_alloc _ _
theorem sz2 (w : World) (o o' : Obj) : ((w.alloc o).alloc o').heap.size = w.heap.size + 2 := by rw [World.size_alloc, World.size_alloc]
theorem sz1d (w : World) (o : Obj) : (w.alloc o).drew.heap.size = w.heap.size + 1 := sz1 w o
theorem sz2d (w : World) (o o' : Obj) : ((w.alloc o).alloc o').drew.heap.size = w.heap.size + 2 := sz2 w o o'
theorem istk_at {X v : World} {t : TV} (h : IsTK X.heap.size v t) (hx : Ext X v) : ∃ lo, lo = X.heap.size ∧ lo ≤ v.heap.size ∧ Hid (IsTK lo v t) := ⟨_, rfl, hx.size, h⟩

theorem ext_g2 {w a b : World} {A B : Nat} (h : Ext w a) (g : G2 A B a b) (hA : w.heap.size ≤ A) (hB : w.heap.size ≤ B) : Ext w b :=
  ⟨g.os.trans h.os, g.tape.trans h.tape, g.output.trans h.output, Nat.le_trans h.size g.size, fun c hc => (g.block c (by have := h.size; omega) (by omega) (by omega)).trans (Below.block h c hc)⟩

theorem two_fin {w3 v1 v2 W : World} {A B lo1 lo2 : Nat} {t ta tb : TV} (hne : A ≠ B) (hA : w3.heap.size ≤ A) (hB : w3.heap.size ≤ B) (K1 : IsTK lo1 v1 ta) (K2 : IsTK lo2 v2 tb) (X1 : Ext w3 v1) (X12 : Ext v1 v2)
    (dA1 : A < lo1 ∨ v1.heap.size ≤ A) (dB1 : B < lo1 ∨ v1.heap.size ≤ B) (dA2 : A < lo2 ∨ v2.heap.size ≤ A) (dB2 : B < lo2 ∨ v2.heap.size ≤ B) (Sa : SameT t ta) (Sb : SameT t tb) (g : G2 A B v2 W)
    (MA : MkT W A ta.P ta.ways.v ta.words.v ta.starts.v ta.legs.v) (MB : MkT W B tb.P tb.ways.v tb.words.v tb.starts.v tb.legs.v) : TwoOf t w3 (.pointer (some ⟨A, 0, none⟩)) (.pointer (some ⟨B, 0, none⟩)) W := by
  have h3 := X1.trans X12
  have hs1 := X12.size
  have hs2 := g.size
  refine ⟨A, B, ta, tb, rfl, rfl, hne, hA, hB, (Array.getElem?_eq_some_iff.1 MA).1, (Array.getElem?_eq_some_iff.1 MB).1, MA, MB, fun w' k => ⟨K1 w' fun b h1 h2 => ?_, K2 w' fun b h1 h2 => ?_⟩, Sa, Sb, ext_g2 h3 g hA hB⟩
  · exact ((k.block b (by omega) (by omega) (by omega)).trans (g.block b (by omega) (by omega) (by omega))).trans (Below.block X12 b h2)
  · exact (k.block b (by omega) (by omega) (by omega)).trans (g.block b (by omega) (by omega) (by omega))

theorem IsSl.take {α : Type} {sz : Nat} {cs : α → Nat → Value} {w : World} {a : Option Addr} {c : Nat} {l : List α} (h : IsSl sz cs w ⟨a, c, l⟩) (k : Nat) : IsSl sz cs w ⟨a, c, l.take k⟩ := by
  obtain ⟨h1, h2, h3⟩ := h
  dsimp only at h1 h2 h3
  refine ⟨by simp only [List.length_take]; omega, by simp only [List.length_take]; omega, ?_⟩
  rcases h3 with h3 | ⟨b, off, h4, h5⟩
  · exact .inl (by simp only [List.length_take]; omega)
  · refine .inr ⟨b, off, h4, fun i hi j hj => ?_⟩
    simp only [List.length_take] at hi
    rw [h5 i (by omega) j hj]; simp
theorem IsSl.drop {α : Type} {sz : Nat} {cs : α → Nat → Value} {w : World} {a : Option Addr} {c : Nat} {l : List α} (h : IsSl sz cs w ⟨a, c, l⟩) (k : Nat) : IsSl sz cs w ⟨if c = k then a else a.map (·.add (k * sz)), c - k, l.drop k⟩ := by
  obtain ⟨h1, h2, h3⟩ := h
  dsimp only at h1 h2 h3
  refine ⟨by simp only [List.length_drop]; omega, by simp only [List.length_drop]; omega, ?_⟩
  by_cases hk : l.length ≤ k
  · exact .inl (by simp only [List.length_drop]; omega)
  · rcases h3 with h3 | ⟨b, off, h4, h5⟩
    · exact .inl (by simp only [List.length_drop]; omega)
    · refine .inr ⟨b, off + k * sz, ?_, fun i hi j hj => ?_⟩
      · dsimp only; rw [if_neg (by omega), h4, Option.map_some, Addr.add_lit]
      · simp only [List.length_drop] at hi
        have := h5 (k + i) (by omega) j hj
        rw [Nat.add_mul] at this
        simp only [List.getElem_drop]
        rw [← this, show off + k * sz + i * sz + j = off + (k * sz + i * sz) + j by omega]

/-- The two parts of a treaty, in boxes: the second one still with the starts of the whole. -/
def Cut6 (t : TV) (k A B : Nat) (w3 W : World) : Prop :=
  ∃ ta tb : TV, Hid (MkT W A ta.P ta.ways.v ta.words.v ta.starts.v ta.legs.v) ∧ Hid (MkT W B tb.P tb.ways.v tb.words.v tb.starts.v tb.legs.v) ∧ Hid (∀ w', G2 A B W w' → IsT w' ta ∧ IsT w' tb) ∧
    Hid (SameW t ta) ∧ Hid (SameW t tb) ∧ Hid (ta.starts.l = t.starts.l) ∧ Hid (ta.legs.l = t.legs.l.take k) ∧ Hid (tb.legs.l = t.legs.l.drop k) ∧ Hid (Ext w3 W)

theorem cut6_mk {t ta tb : TV} {k A B : Nat} {w3 wc W : World} (hG : ∀ w', G2 A B wc w' → IsT w' ta ∧ IsT w' tb) (Sa : SameT t ta) (Sb : SameT t tb) (hk : k ≤ t.legs.l.length) (HX : Ext w3 wc) (hA : w3.heap.size ≤ A) (hB : w3.heap.size ≤ B) (g : G2 A B wc W)
    (MA : MkT W A ta.P ta.ways.v ta.words.v ta.starts.v (.slice ta.legs.a k ta.legs.c)) (MB : MkT W B tb.P tb.ways.v tb.words.v tb.starts.v (.slice (if tb.legs.c = k then tb.legs.a else tb.legs.a.map (·.add (k * 2))) (tb.legs.l.length - k) (tb.legs.c - k))) : Cut6 t k A B w3 W := by
  refine ⟨⟨ta.P, ta.ways, ta.words, ta.starts, ⟨ta.legs.a, ta.legs.c, ta.legs.l.take k⟩⟩, ⟨tb.P, tb.ways, tb.words, tb.starts, ⟨if tb.legs.c = k then tb.legs.a else tb.legs.a.map (·.add (k * 2)), tb.legs.c - k, tb.legs.l.drop k⟩⟩, ?_, ?_, ?_, ⟨Sa.P, Sa.ways, Sa.words⟩, ⟨Sb.P, Sb.ways, Sb.words⟩, Sa.starts, ?_, ?_, ext_g2 HX g hA hB⟩
  · have : (ta.legs.l.take k).length = k := by rw [List.length_take, Sa.legs]; omega
    show MkT W A _ _ _ _ (.slice _ (ta.legs.l.take k).length _)
    rw [this]; exact MA
  · show MkT W B _ _ _ _ (.slice _ (tb.legs.l.drop k).length _)
    rw [List.length_drop]; exact MB
  · intro w' g'
    obtain ⟨h1, h2⟩ := hG w' (g.trans g')
    exact ⟨⟨h1.ways, h1.words, h1.word, h1.starts, h1.legs.take k⟩, ⟨h2.ways, h2.words, h2.word, h2.starts, h2.legs.drop k⟩⟩
  · show ta.legs.l.take k = _; rw [Sa.legs]
  · show tb.legs.l.drop k = _; rw [Sb.legs]

theorem start_leaf {A B base P Pa j : Nat} {w7 v2 v3 : World} {wv qv lv a1 a2 a3 a4 : Value} {s : SL Nat} {tmp : Obj} {g cap : Nat} (hA : A < base) (hB : B < base) (hAB : A ≠ B) (hbase : w7.heap.size = base)
    (HO : v2.ownsRow base 3 1 (.slice s.a s.l.length s.c) s.l.length (nums s.l)) (HM : MkT v2 B P wv qv s.v lv) (HMA : MkT v2 A Pa a1 a2 a3 a4) (HG : G2 A B w7 v2)
    (hown : v3.ownsRow base 3 1 (.slice (some ⟨g, 0, none⟩) (s.l.length + 1) cap) (s.l.length + 1) (nums s.l ++ nums [j])) (hgrow : (v2.alloc tmp).grownBy v3 (Value.slice s.a s.l.length s.c).ownBlock) :
    (v3.cell? ⟨B, 3, none⟩ = some (.slice s.a s.l.length s.c) ∧ v3.frozen? ⟨B, 3, none⟩ = false) ∧
      Hid ((v3.setCell ⟨B, 3, none⟩ (.slice (some ⟨g, 0, none⟩) (s.l.length + 1) cap)).ownsRow base 3 1 (.slice (some ⟨g, 0, none⟩) (s.l ++ [j]).length cap) (s.l ++ [j]).length (nums (s.l ++ [j]))) ∧
        Hid (MkT (v3.setCell ⟨B, 3, none⟩ (.slice (some ⟨g, 0, none⟩) (s.l.length + 1) cap)) B P wv qv (.slice (some ⟨g, 0, none⟩) (s.l ++ [j]).length cap) lv) ∧ Hid (MkT (v3.setCell ⟨B, 3, none⟩ (.slice (some ⟨g, 0, none⟩) (s.l.length + 1) cap)) A Pa a1 a2 a3 a4) ∧ Hid (G2 A B w7 (v3.setCell ⟨B, 3, none⟩ (.slice (some ⟨g, 0, none⟩) (s.l.length + 1) cap))) := by
  have hrow : ∀ i, (Value.slice s.a s.l.length s.c).ownBlock = some i → base ≤ i := fun i hi => own_lt HO i hi
  have hxx := (Ext.refl v2).alloc tmp
  have HM3 : MkT v3 B P wv qv s.v lv := MkT.grown (hxx.block HM) hgrow (fun i hi => by have := hrow i hi; omega)
  have HA3 : MkT v3 A Pa a1 a2 a3 a4 := MkT.grown (hxx.block HMA) hgrow (fun i hi => by have := hrow i hi; omega)
  have HG3 : G2 A B w7 v3 := (HG.ext hxx).step hgrow (fun i hi => .inr (.inr (by have := hrow i hi; omega)))
  have hlen : (s.l ++ [j]).length = s.l.length + 1 := by simp
  refine ⟨⟨HM3.five.2.2.2.1, HM3.frozen 3⟩, ?_, ?_, HA3.ne (fun e => hAB e.symm), HG3.setB 3 _⟩
  · show World.ownsRow _ base 3 1 (.slice _ (s.l ++ [j]).length cap) (s.l ++ [j]).length (nums (s.l ++ [j]))
    rw [show nums (s.l ++ [j]) = nums s.l ++ nums [j] from List.map_append .., hlen]
    exact G2.own hown ((G2.refl A B v3).setB 3 _) hA hB
  · show MkT _ B P _ _ (.slice _ (s.l ++ [j]).length cap) _
    rw [hlen]; exact HM3.set3 _

/-- What Lines returns: all lines, or the error where there are too many. -/
def LinesG (t : TV) (r : List Nat) (w : World) (e : Ending) (w' : World) : Prop :=
  ∃ (a : Option Addr) (c : Nat) (l : List (SL Nat)) (er : Int), e = .returned (.tuple #[.slice a l.length c, .int .i64 er]) ∧ Hid (IsTbl w' ⟨a, c, l⟩) ∧ ((er = 0 ∧ l.map (fun r => r.l) = linesR t (leadsOf t r) ∧ (linesR t (leadsOf t r)).length ≤ 200) ∨ er = 11) ∧ Ext w w'
theorem Lines_gen (t : TV) (r : SL Nat) (w : World) (ht : IsT w t) (hk : OkT t) (hr : IsSl 1 num w r) (hR : RdOk t r.l) : Calls Tryz.prog 21 #[t.v, .slice r.a r.l.length r.c] w (LinesG t r.l w) := by
  refine (Lines_any t r w ht hk hr hR).mono ?_
  rintro e w' ⟨⟨h1, a, c, rows, rfl, h2, h3, h4⟩ | ⟨h1, rfl⟩, hx⟩
  · exact ⟨a, c, rows, 0, rfl, ⟨h2, h3⟩, .inl ⟨rfl, h4, h1⟩, hx⟩
  · exact ⟨none, 0, [], 11, rfl, ⟨⟨Nat.le_refl _, by simp, .inl rfl⟩, fun r hr => by simp at hr⟩, .inr rfl, hx⟩

theorem num_at {w : World} {a : Option Addr} {c : Nat} {l : List Nat} (h : IsSl 1 num w ⟨a, c, l⟩) (hl : 0 < l.length) : ∃ b off, a = some ⟨b, off, none⟩ ∧ l.length ≤ c ∧ ∀ i, i < l.length → w.cell? ⟨b, off + i, none⟩ = some (.int .i64 (gt l i : Int)) := by
  obtain ⟨h1, h2, h3⟩ := h
  obtain ⟨b, off, h4, h5⟩ := h3.resolve_left (by dsimp only; omega)
  refine ⟨b, off, h4, h1, fun i hi => ?_⟩
  have := h5 i hi 0 (by omega)
  unfold gt
  rw [List.getElem?_eq_getElem hi]
  simpa [num] using this
theorem rows_at {w : World} {a : Option Addr} {c : Nat} {l : List (SL Nat)} (h : IsTbl w ⟨a, c, l⟩) (hl : 0 < l.length) : ∃ b off, a = some ⟨b, off, none⟩ ∧ ∀ i (hi : i < l.length), w.cell? ⟨b, off + i, none⟩ = some (.slice l[i].a l[i].l.length l[i].c) := by
  obtain ⟨⟨h1, h2, h3⟩, -⟩ := h
  obtain ⟨b, off, h4, h5⟩ := h3.resolve_left (by dsimp only; omega)
  refine ⟨b, off, h4, fun i hi => ?_⟩
  have := h5 i hi 0 (by omega)
  simpa [slC] using this

/-- What is known of the lines of a treaty and of its parts, row by row. -/
structure PartR (k N : Nat) (lx la lb : List (SL Nat)) : Prop where
  a : ∀ r ∈ la, r.l.length = k + 1
  b : ∀ r ∈ lb, r.l.length = N - k + 1
  x : ∀ r ∈ lx, r.l.length = N + 1 ∧ r.l.take (k + 1) ∈ la.map (fun r => r.l) ∧ r.l.drop k ∈ lb.map (fun r => r.l)
  m : metS k (la.map fun r => r.l) (lb.map fun r => r.l) = lx.length
theorem part_rows {t a b : TV} {L La Lb : Nat → Nat → Nat → Bool} {k : Nat} (h : PartT t a b L La Lb k) (hst : ∀ x ∈ t.starts.l, x < t.P) (hn : t.starts.l.Pairwise (· < ·)) {lx la lb : List (SL Nat)} (ex : lx.map (fun r => r.l) = linesR t L) (ea : la.map (fun r => r.l) = linesR a La) (eb : lb.map (fun r => r.l) = linesR b Lb) :
    PartR k t.legs.l.length lx la lb where
  a r hr := ((part_fst h hst r.l).1 (by rw [← ea]; exact List.mem_map_of_mem hr)).1
  b r hr := ((part_snd h r.l).1 (by rw [← eb]; exact List.mem_map_of_mem hr)).1
  x r hr := by
    have := part_halves h hst (l := r.l) (by rw [← ex]; exact List.mem_map_of_mem hr)
    rw [ea, eb]; exact this
  m := by
    rw [ea, eb, part_many h hst (hn.imp fun h => Nat.ne_of_lt h), ← ex, List.length_map]

theorem among_in (b : Nat) (x : SL Nat) (s : SL (SL Nat)) (w : World) (hb : w.heap[b]? = some (.cells #[.slice x.a x.l.length x.c] 25 (0, 0))) (hx : IsSl 1 num w x) (hs : IsTbl w s) (hin : x.l ∈ s.l.map (fun r => r.l)) :
    Calls Tryz.prog 29 #[.slice (some ⟨b, 0, none⟩) 1 1, .slice s.a s.l.length s.c] w fun e w' => e = .returned (.bool true) ∧ Ext w w' := by
  refine (among_any ⟨some ⟨b, 0, none⟩, 1, [x]⟩ s w ⟨Nat.le_refl _, by simp, .inr ⟨b, 0, rfl, fun i hi j hj => ?_⟩⟩ hs.1 (fun r hr => ?_) hs.2).mono ?_
  · have hi0 : i = 0 := by simpa using hi
    have hj0 : j = 0 := by omega
    subst hi0; subst hj0
    exact (cell_at hb 0).trans rfl
  · simp only [List.mem_singleton] at hr; subst hr; exact hx
  · rintro e w' ⟨rfl, hx⟩
    refine ⟨?_, hx⟩
    obtain ⟨r, hr, hrl⟩ := List.mem_map.1 hin
    have : ([x].all fun x => s.l.any fun y => decide (x.l = y.l)) = true := by
      simp only [List.all_cons, List.all_nil, Bool.and_true]
      exact List.any_eq_true.2 ⟨r, hr, by simpa using hrl.symm⟩
    rw [this]

theorem metS_succ (k : Nat) (A B : List (List Nat)) (i : Nat) (h : i < A.length) : metS k (A.take (i + 1)) B = metS k (A.take i) B + metN k A[i] B := by
  unfold metS
  rw [List.take_succ_eq_append_getElem h, List.map_append, List.sum_append]
  simp
theorem metN_succ (k : Nat) (m : List Nat) (B : List (List Nat)) (j : Nat) (h : j < B.length) : metN k m (B.take (j + 1)) = metN k m (B.take j) + if metB k m B[j] then 1 else 0 := by
  unfold metN
  rw [List.take_succ_eq_append_getElem h, List.filter_append, List.length_append]
  by_cases e : metB k m B[j] = true <;> simp [e]
theorem metN_le (k : Nat) (m : List Nat) (B : List (List Nat)) : metN k m B ≤ B.length := List.length_filter_le _ _
theorem metS_le (k : Nat) (B : List (List Nat)) : ∀ (A : List (List Nat)), metS k A B ≤ A.length * B.length
  | [] => by simp [metS]
  | m :: A => by
    have h1 := metS_le k B A
    have h2 := metN_le k m B
    have h3 : metS k (m :: A) B = metN k m B + metS k A B := by simp [metS]
    rw [h3, List.length_cons, Nat.add_mul]; omega
theorem yl_few (t : TV) (hk : OkT t) (r : List Nat) : (yieldL (leadsOf t r) t.P t.starts.l t.legs.l.length).length = fewR t r :=
  yieldL_length (leadsOf t r) t.P t.starts.l t.legs.l.length ⟨t.starts.l[0]'(by have := hk.starts1; omega), List.getElem_mem _, hk.start.1 _ (List.getElem_mem _)⟩ hk.legs
end Go.Proofs.YtopjjcgmcieboaaGreatDoor

namespace Go.Proofs.YtopjjcgmcieboaaGreatDoor

/-- A treaty has all that another one has, and perhaps more: meanings behind the ones that were there, ways, kinds and ends. -/
structure MoreT (t t' : TV) : Prop where
  P : t'.P = t.P
  starts : t'.starts.l = t.starts.l
  legs : t'.legs.l = t.legs.l
  ways : ∀ x ∈ t.ways.l, x ∈ t'.ways.l
  many : t'.words.l.length = t.words.l.length
  word : ∀ k (h : k < t.words.l.length) (h' : k < t'.words.l.length) j (hj : j < t.words.l[k].l.length), ∃ hj' : j < t'.words.l[k].l.length, (∀ x ∈ t.words.l[k].l[j].k.l, x ∈ t'.words.l[k].l[j].k.l) ∧ ∀ x ∈ t.words.l[k].l[j].e.l, x ∈ t'.words.l[k].l[j].e.l
/-- The same, but legs may be told by a second word. -/
structure StrictT (t t' : TV) : Prop extends SameW t t' where
  starts : t'.starts.l = t.starts.l
  many : t'.legs.l.length = t.legs.l.length
  leg : ∀ k (h : k < t.legs.l.length) (h' : k < t'.legs.l.length), t'.legs.l[k] = t.legs.l[k] ∨ (t.legs.l[k].2 = -1 ∧ t'.legs.l[k].1 = t.legs.l[k].1 ∧ 0 ≤ t'.legs.l[k].2)

theorem dist_sub (l : List (Nat × Nat × Nat)) : ∀ y ∈ dist l, y ∈ l := by
  have h := (distTo_mem l l.length (Nat.le_refl _)).1
  have e : distTo l l.length = dist l := by unfold distTo; rw [List.take_length]
  rw [e, List.take_length] at h
  exact h
theorem MoreT.rd {t t' : TV} (h : MoreT t t') {r : List Nat} (hr : RdOk t r) : RdOk t' r := by
  refine ⟨hr.1.trans h.many.symm, fun k hk hk' => ?_⟩
  have hk2 : k < t.words.l.length := by rw [← h.many]; exact hk'
  exact (h.word k hk2 hk' r[k] (hr.2 k hk hk2)).1
theorem MoreT.mean {t t' : TV} (h : MoreT t t') {r : List Nat} (hr : RdOk t r) (k : Nat) (hk : k < t.words.l.length) : (∀ x ∈ (meanAt t r k).1, x ∈ (meanAt t' r k).1) ∧ ∀ x ∈ (meanAt t r k).2, x ∈ (meanAt t' r k).2 := by
  have h1 : k < r.length := by rw [hr.1]; exact hk
  have h2 : k < t'.words.l.length := by rw [h.many]; exact hk
  obtain ⟨h3, h4, h5⟩ := h.word k hk h2 r[k] (hr.2 k h1 hk)
  rw [meanAt_eq t r k hk h1 (hr.2 k h1 hk), meanAt_eq t' r k h2 h1 h3]
  exact ⟨h4, h5⟩
theorem both_mono {a a' b b' : List Nat} (ha : ∀ x ∈ a, x ∈ a') (hb : ∀ x ∈ b, x ∈ b') : ∀ x ∈ both a b, x ∈ both a' b' := by
  intro x hx
  unfold both at hx ⊢
  rw [List.mem_filter] at hx ⊢
  exact ⟨ha x hx.1, by have := hx.2; rw [List.contains_iff_mem] at this ⊢; exact hb x this⟩
theorem MoreT.legMean {t t' : TV} (h : MoreT t t') {r : List Nat} (hr : RdOk t r) (x : Nat × Int) (hx : x.1 < t.words.l.length ∧ (x.2 = -1 ∨ (0 ≤ x.2 ∧ x.2 < t.words.l.length))) :
    (∀ y ∈ (legMean t r x).1, y ∈ (legMean t' r x).1) ∧ ∀ y ∈ (legMean t r x).2, y ∈ (legMean t' r x).2 := by
  unfold Go.Proofs.YtopjjcgmcieboaaGreatDoor.legMean
  obtain ⟨h1, h2⟩ := h.mean hr x.1 hx.1
  by_cases e : x.2 = -1
  · rw [if_pos e, if_pos e]; exact ⟨h1, h2⟩
  · rw [if_neg e, if_neg e]
    obtain ⟨h3, h4⟩ := h.mean hr x.2.toNat (by omega)
    exact ⟨both_mono h1 h3, both_mono h2 h4⟩
theorem way12 {t : TV} (hk : OkT t) : ∀ x ∈ dist t.ways.l, x.1 < 12 ∧ x.2.1 < 12 := fun x hx => by
  have h1 := hk.way x (dist_sub _ x hx)
  have := hk.p2
  omega
theorem leadF_mono {l l' : List (Nat × Nat × Nat)} {ks ks' es es' : List Nat} (h : ∀ x ∈ dist l, x.1 < 12 ∧ x.2.1 < 12) (h' : ∀ x ∈ dist l', x.1 < 12 ∧ x.2.1 < 12) (hl : ∀ x ∈ l, x ∈ l') (hks : ∀ x ∈ ks, x ∈ ks') (hes : ∀ x ∈ es, x ∈ es') {f g : Nat} (hf : f < 12) (hg : g < 12) (hh : leadF (dist l) ks es f g = true) : leadF (dist l') ks' es' f g = true := by
  rw [leadF_spec _ _ _ h f g hf hg] at hh
  rw [leadF_spec _ _ _ h' f g hf hg]
  refine ⟨trans_mono (fun a b hs => ?_) hh.1, hes g hh.2⟩
  rw [stepW_dist] at hs ⊢
  obtain ⟨x, hx, hk, hs⟩ := hs
  exact ⟨x, hl x hx, hks _ hk, hs⟩
theorem MoreT.leads {t t' : TV} (h : MoreT t t') (hk : OkT t) (hk' : OkT t') {r : List Nat} (hr : RdOk t r) {k f g : Nat} (hf : f < 12) (hg : g < 12) (hh : leadsOf t r k f g = true) : leadsOf t' r k f g = true := by
  unfold leadsOf at hh ⊢
  rw [h.legs]
  cases hx : t.legs.l[k]? with
  | none => rw [hx] at hh; simp at hh
  | some x =>
    rw [hx] at hh
    have hm := h.legMean hr x (hk.leg x (List.mem_of_getElem? hx))
    exact leadF_mono (way12 hk) (way12 hk') h.ways hm.1 hm.2 hf hg hh
theorem StrictT.leads {t t' : TV} (h : StrictT t t') (hk : OkT t) (hk' : OkT t') {r : List Nat} {k f g : Nat} (hf : f < 12) (hg : g < 12) (hh : leadsOf t' r k f g = true) : leadsOf t r k f g = true := by
  unfold leadsOf at hh ⊢
  cases hx : t'.legs.l[k]? with
  | none => rw [hx] at hh; simp at hh
  | some x' =>
    rw [hx] at hh
    obtain ⟨h1, e1⟩ := List.getElem?_eq_some_iff.1 hx
    have h2 : k < t.legs.l.length := by rw [← h.many]; exact h1
    rw [List.getElem?_eq_getElem h2]
    refine leadF_mono (way12 hk') (way12 hk) (fun x hx => by rw [h.ways] at hx; exact hx) ?_ ?_ hf hg hh
    all_goals
      rw [legMean_same h.toSameW, ← e1]
      rcases h.leg k h2 h1 with e | ⟨e2, e3, e4⟩
      · rw [e]; exact fun _ h => h
      · unfold legMean
        rw [if_pos e2, if_neg (by omega), e3]
        intro x hx
        unfold both at hx
        exact (List.mem_filter.1 hx).1
theorem lines_mono {t t' : TV} {L L' : Nat → Nat → Nat → Bool} (hP : t'.P = t.P) (hs : t'.starts.l = t.starts.l) (hl : t'.legs.l.length = t.legs.l.length) (hst : ∀ x ∈ t.starts.l, x < t.P) (h : ∀ k f g, f < t.P → g < t.P → L k f g = true → L' k f g = true) : ∀ x ∈ linesR t L, x ∈ linesR t' L' := by
  intro x hx
  rw [mem_linesR t L hst] at hx
  rw [mem_linesR t' L' (by rw [hs, hP]; exact hst), hP, hs, hl]
  obtain ⟨h1, h2, h3, h4⟩ := hx
  exact ⟨h1, h2, h3, fun i hi => h i _ _ (h3 i (by omega)) (h3 (i + 1) (by omega)) (h4 i hi)⟩
theorem MoreT.all {t t' : TV} (h : MoreT t t') (hk : OkT t) (hk' : OkT t') : ∀ x ∈ allD t, x ∈ allD t' := by
  intro x hx
  obtain ⟨r, hr, hx⟩ := mem_allD.1 hx
  have hR := allR_rd hk hr
  have := hk.p2
  exact mem_allD.2 ⟨r, rd_all hk' (h.rd hR), lines_mono h.P h.starts (by rw [h.legs]) hk.start.1 (fun k f g hf hg => h.leads hk hk' hR (by omega) (by omega)) x hx⟩
theorem StrictT.all {t t' : TV} (h : StrictT t t') (hk : OkT t) (hk' : OkT t') : ∀ x ∈ allD t', x ∈ allD t := by
  intro x hx
  obtain ⟨r, hr, hx⟩ := mem_allD.1 hx
  have hR : RdOk t r := RdOk.same ⟨h.P.symm, h.ways.symm, h.words.symm⟩ (allR_rd hk' hr)
  have := hk'.p2
  exact mem_allD.2 ⟨r, rd_all hk hR, lines_mono h.P.symm h.starts.symm h.many.symm hk'.start.1 (fun k f g hf hg => h.leads hk hk' (by omega) (by omega)) x hx⟩
theorem all_le {t t' : TV} (h : ∀ x ∈ allD t, x ∈ allD t') : (allD t).length ≤ (allD t').length := nodup_sub (nodup_allD t) h
theorem few_mono {L L' : Nat → Nat → Nat → Bool} {P : Nat} {st : List Nat} {N : Nat} (hs : ∃ s ∈ st, s < P) (hN : N ≤ 10) (h : ∀ k f g, f < P → g < P → L k f g = true → L' k f g = true) : leastF L' P st N ≤ leastF L P st N := by
  obtain ⟨p, p1, p2, p3⟩ := yieldL_path L P st N hs hN
  rw [← yieldL_length L P st N hs hN]
  refine Nat.le_trans (leastF_brk L' P st p N p1 p2) (nodup_sub_length (List.Pairwise.filter _ List.nodup_range) fun k hk => ?_)
  unfold brkP at hk
  rw [List.mem_filter, List.mem_range] at hk
  rcases p3 k hk.1 with h1 | h1
  · have := h k _ _ (p2 k (by omega)) (p2 (k + 1) (by omega)) h1
    rw [this] at hk; simp at hk
  · exact h1
theorem MoreT.best {t t' : TV} (h : MoreT t t') (hk : OkT t) (hk' : OkT t') : (bestR t' (allR (cntR t'))).2 ≤ (bestR t (allR (cntR t))).2 := by
  obtain ⟨h1, h2, _⟩ := best_few t hk
  rw [h2]
  refine Nat.le_trans ((best_few t' hk').2.2 _ (h.rd h1)) ?_
  unfold fewR
  rw [h.P, h.starts, h.legs]
  have := hk.p2
  exact few_mono ⟨t.starts.l[0]'(by have := hk.starts1; omega), List.getElem_mem _, hk.start.1 _ (List.getElem_mem _)⟩ hk.legs (fun k f g hf hg => h.leads hk hk' h1 (by omega) (by omega))
end Go.Proofs.YtopjjcgmcieboaaGreatDoor

namespace Go.Proofs.YtopjjcgmcieboaaGreatDoor
open Go.RowKit

/-- What holds while three copies are made: 2 * k: the treaty was loaded; 2 * k + 1: it was copied; 6 + k: its box is there; 9 + k: it is in its box. -/
structure Part7 (t : TV) (w3 : World) (L : Nat → Prop) (X C A : Nat → Value) (l h B : Nat → Nat) (ts : Nat → TV) (w : World) (k : Nat) : Prop where
  load : L (2 * k) → X k = t.v
  call : L (2 * k + 1) → C k = (ts k).v ∧ SameT t (ts k) ∧ OwnS (fun g => l k ≤ g ∧ g < h k) w (ts k)
  low : w3.heap.size ≤ l k
  high : h k ≤ w.heap.size
  box : L (6 + k) → A k = .pointer (some ⟨B k, 0, none⟩) ∧ w3.heap.size ≤ B k ∧ B k < w.heap.size ∧ (¬ L (9 + k) → ZB w (B k))
  put : L (9 + k) → MkT w (B k) (ts k).P (ts k).ways.v (ts k).words.v (ts k).starts.v (ts k).legs.v
  apart : ∀ j, j < 3 → j ≠ k → h j ≤ l k ∨ h k ≤ l j
  out : ∀ j, j < 3 → L (6 + k) → B k < l j ∨ h j ≤ B k
  other : ∀ j, j < 3 → j ≠ k → L (6 + k) → L (6 + j) → B k ≠ B j
def Inv7 (t : TV) (w3 : World) (L : Nat → Prop) (X C A : Nat → Value) (w : World) : Prop :=
  ∃ (l h B : Nat → Nat) (ts : Nat → TV), Ext w3 w ∧ (∀ k, k < 3 → L (9 + k) → L (6 + k) ∧ L (2 * k + 1)) ∧ ∀ k, k < 3 → Part7 t w3 L X C A l h B ts w k

def updV (X : Nat → Value) (k : Nat) (v : Value) (j : Nat) : Value := if j = k then v else X j
def updN (X : Nat → Nat) (k : Nat) (v : Nat) (j : Nat) : Nat := if j = k then v else X j
theorem Inv7.start (t : TV) (w3 : World) (X C A : Nat → Value) (w : World) (hx : Ext w3 w) : Inv7 t w3 (fun _ => False) X C A w :=
  ⟨fun _ => w3.heap.size, fun _ => w3.heap.size, fun _ => 0, fun _ => t, hx, fun _ _ h => h.elim, fun _ _ => ⟨fun h => h.elim, fun h => h.elim, Nat.le_refl _, hx.size, fun h => h.elim, fun h => h.elim, fun _ _ _ => .inl (Nat.le_refl _), fun _ _ h => h.elim, fun _ _ _ h => h.elim⟩⟩
theorem Inv7.load {t : TV} {w3 w : World} {L : Nat → Prop} {X C A : Nat → Value} (I : Inv7 t w3 L X C A w) (k : Nat) (hk : k < 3) : Inv7 t w3 (fun j => j = 2 * k ∨ L j) (updV X k t.v) C A w := by
  obtain ⟨l, h, B, ts, hx, h0, hp⟩ := I
  refine ⟨l, h, B, ts, hx, fun j hj hl => ?_, fun j hj => ?_⟩
  · have := h0 j hj (hl.resolve_left (by omega))
    exact ⟨.inr this.1, .inr this.2⟩
  · have p := hp j hj
    refine ⟨fun hl => ?_, fun hl => p.call (hl.resolve_left (by omega)), p.low, p.high, fun hl => ?_, fun hl => p.put (hl.resolve_left (by omega)), p.apart, fun i hi hl => p.out i hi (hl.resolve_left (by omega)), fun i hi hij hl hl2 => p.other i hi hij (hl.resolve_left (by omega)) (hl2.resolve_left (by omega))⟩
    · unfold updV
      by_cases e : j = k
      · rw [if_pos e]
      · rw [if_neg e]; exact p.load (hl.resolve_left (by omega))
    · obtain ⟨q1, q2, q3, q4⟩ := p.box (hl.resolve_left (by omega))
      exact ⟨q1, q2, q3, fun hn => q4 (fun hh => hn (.inr hh))⟩
theorem Inv7.call {t t' : TV} {w3 w w' : World} {L : Nat → Prop} {X C A : Nat → Value} (I : Inv7 t w3 L X C A w) (k : Nat) (hk : k < 3) (hn : ¬ L (2 * k + 1)) (ho : OwnS (fun g => w.heap.size ≤ g ∧ g < w'.heap.size) w' t') (hs : SameT t t') (hx' : Ext w w') : Inv7 t w3 (fun j => j = 2 * k + 1 ∨ L j) X (updV C k t'.v) A w' := by
  obtain ⟨l, h, B, ts, hx, h0, hp⟩ := I
  have hsz := hx'.size
  refine ⟨updN l k w.heap.size, updN h k w'.heap.size, B, fun j => if j = k then t' else ts j, hx.trans hx', fun j hj hl => ?_, fun j hj => ?_⟩
  · have := h0 j hj (hl.resolve_left (by omega))
    exact ⟨.inr this.1, .inr this.2⟩
  · have p := hp j hj
    unfold updN updV
    refine ⟨fun hl => p.load (hl.resolve_left (by omega)), fun hl => ?_, ?_, ?_, fun hl => ?_, fun hl => ?_, fun i hi hij => ?_, fun i hi hl => ?_, fun i hi hij hl hl2 => p.other i hi hij (hl.resolve_left (by omega)) (hl2.resolve_left (by omega))⟩
    · by_cases e : j = k
      · simp only [if_pos e]; exact ⟨trivial, hs, ho⟩
      · simp only [if_neg e]
        obtain ⟨q1, q2, q3⟩ := p.call (hl.resolve_left (by omega))
        exact ⟨q1, q2, q3.ext hx'⟩
    · by_cases e : j = k
      · rw [if_pos e]; exact hx.size
      · rw [if_neg e]; exact p.low
    · by_cases e : j = k
      · rw [if_pos e]; exact Nat.le_refl _
      · rw [if_neg e]; have := p.high; omega
    · obtain ⟨q1, q2, q3, q4⟩ := p.box (hl.resolve_left (by omega))
      exact ⟨q1, q2, by omega, fun hn' => (q4 (fun hh => hn' (.inr hh))).ext hx'⟩
    · have hl' := hl.resolve_left (by omega)
      have hjk : j ≠ k := fun e => hn (e ▸ (h0 j hj hl').2)
      simp only [if_neg hjk]
      exact hx'.block (p.put hl')
    · have p2 := hp i hi
      by_cases e : j = k
      · have e2 : i ≠ k := fun e2 => hij (e2.trans e.symm)
        rw [if_neg e2, if_pos e]
        left; exact p2.high
      · by_cases e2 : i = k
        · rw [if_pos e2, if_neg e, if_neg e, if_pos e2]
          right; exact p.high
        · rw [if_neg e2, if_neg e, if_neg e, if_neg e2]; exact p.apart i hi hij
    · have hl' := hl.resolve_left (by omega)
      by_cases e2 : i = k
      · rw [if_pos e2]
        left; exact (p.box hl').2.2.1
      · rw [if_neg e2, if_neg e2]; exact p.out i hi hl'
theorem Inv7.box {t : TV} {w3 w : World} {L : Nat → Prop} {X C A : Nat → Value} (I : Inv7 t w3 L X C A w) (k : Nat) (hk : k < 3) (hn : ¬ L (6 + k)) : Inv7 t w3 (fun j => j = 6 + k ∨ L j) X C (updV A k (.pointer (some ⟨w.heap.size, 0, none⟩))) (w.alloc boxZ) := by
  obtain ⟨l, h, B, ts, hx, h0, hp⟩ := I
  have hx' : Ext w (w.alloc boxZ) := (Ext.refl w).alloc _
  have hsz : (w.alloc boxZ).heap.size = w.heap.size + 1 := World.size_alloc _ _
  refine ⟨l, h, updN B k w.heap.size, ts, hx.trans hx', fun j hj hl => ?_, fun j hj => ?_⟩
  · have := h0 j hj (hl.resolve_left (by omega))
    exact ⟨.inr this.1, .inr this.2⟩
  · have p := hp j hj
    unfold updN updV
    refine ⟨fun hl => p.load (hl.resolve_left (by omega)), fun hl => ?_, p.low, ?_, fun hl => ?_, fun hl => ?_, p.apart, fun i hi hl => ?_, fun i hi hij hl hl2 => ?_⟩
    · obtain ⟨q1, q2, q3⟩ := p.call (hl.resolve_left (by omega))
      exact ⟨q1, q2, q3.ext hx'⟩
    · have := p.high; omega
    · by_cases e : j = k
      · simp only [if_pos e]
        exact ⟨trivial, hx.size, by omega, fun _ => zb_at w⟩
      · simp only [if_neg e]
        obtain ⟨q1, q2, q3, q4⟩ := p.box (hl.resolve_left (by omega))
        exact ⟨q1, q2, by omega, fun hn' => (q4 (fun hh => hn' (.inr hh))).ext hx'⟩
    · have hl' := hl.resolve_left (by omega)
      have hjk : j ≠ k := fun e => hn (e ▸ (h0 j hj hl').1)
      rw [if_neg hjk]
      exact hx'.block (p.put hl')
    · by_cases e : j = k
      · rw [if_pos e]; right; exact (hp i hi).high
      · rw [if_neg e]; exact p.out i hi (hl.resolve_left (by omega))
    · by_cases e : j = k
      · have e2 : i ≠ k := fun e2 => hij (e2.trans e.symm)
        rw [if_pos e, if_neg e2]
        have := ((hp i hi).box (hl2.resolve_left (by omega))).2.2.1
        omega
      · by_cases e2 : i = k
        · rw [if_neg e, if_pos e2]
          have := (p.box (hl.resolve_left (by omega))).2.2.1
          omega
        · rw [if_neg e, if_neg e2]; exact p.other i hi hij (hl.resolve_left (by omega)) (hl2.resolve_left (by omega))
/-- What is stored, and where. -/
theorem Inv7.at {t : TV} {w3 w : World} {L : Nat → Prop} {X C A : Nat → Value} (I : Inv7 t w3 L X C A w) (k : Nat) (hk : k < 3) (h6 : L (6 + k)) (h1 : L (2 * k + 1)) (hn : ¬ L (9 + k)) : ∃ (b : Nat) (t' : TV), A k = .pointer (some ⟨b, 0, none⟩) ∧ C k = t'.v ∧ ZB w b ∧
    Inv7 t w3 (fun j => j = 9 + k ∨ L j) X C A (((((w.setCell ⟨b, 0, none⟩ (.int .i64 (t'.P : Int))).setCell ⟨b, 1, none⟩ t'.ways.v).setCell ⟨b, 2, none⟩ t'.words.v).setCell ⟨b, 3, none⟩ t'.starts.v).setCell ⟨b, 4, none⟩ t'.legs.v) := by
  obtain ⟨l, h, B, ts, hx, h0, hp⟩ := I
  obtain ⟨q1, q2, q3, q4⟩ := (hp k hk).box h6
  obtain ⟨c1, c2, c3⟩ := (hp k hk).call h1
  have hz := q4 hn
  refine ⟨B k, ts k, q1, c1, hz, ?_⟩
  have hset := zb_set (P := (ts k).P) (a := (ts k).ways.v) (b := (ts k).words.v) (c := (ts k).starts.v) (d := (ts k).legs.v) hz
  have hK : Keep (fun g => g ≠ B k) w (((((w.setCell ⟨B k, 0, none⟩ (.int .i64 ((ts k).P : Int))).setCell ⟨B k, 1, none⟩ (ts k).ways.v).setCell ⟨B k, 2, none⟩ (ts k).words.v).setCell ⟨B k, 3, none⟩ (ts k).starts.v).setCell ⟨B k, 4, none⟩ (ts k).legs.v) :=
    (((((Keep.refl _ w).setCell _ _ (fun _ h => h rfl)).setCell _ _ (fun _ h => h rfl)).setCell _ _ (fun _ h => h rfl)).setCell _ _ (fun _ h => h rfl)).setCell _ _ (fun _ h => h rfl)
  have hE : Ext w3 (((((w.setCell ⟨B k, 0, none⟩ (.int .i64 ((ts k).P : Int))).setCell ⟨B k, 1, none⟩ (ts k).ways.v).setCell ⟨B k, 2, none⟩ (ts k).words.v).setCell ⟨B k, 3, none⟩ (ts k).starts.v).setCell ⟨B k, 4, none⟩ (ts k).legs.v) :=
    ((((hx.setCell q2 _).setCell q2 _).setCell q2 _).setCell q2 _).setCell q2 _
  have hsz : (((((w.setCell ⟨B k, 0, none⟩ (.int .i64 ((ts k).P : Int))).setCell ⟨B k, 1, none⟩ (ts k).ways.v).setCell ⟨B k, 2, none⟩ (ts k).words.v).setCell ⟨B k, 3, none⟩ (ts k).starts.v).setCell ⟨B k, 4, none⟩ (ts k).legs.v).heap.size = w.heap.size := by simp
  generalize ((((w.setCell ⟨B k, 0, none⟩ (.int .i64 ((ts k).P : Int))).setCell ⟨B k, 1, none⟩ (ts k).ways.v).setCell ⟨B k, 2, none⟩ (ts k).words.v).setCell ⟨B k, 3, none⟩ (ts k).starts.v).setCell ⟨B k, 4, none⟩ (ts k).legs.v = W at *
  refine ⟨l, h, B, ts, hE, fun j hj hl => ?_, fun j hj => ?_⟩
  · by_cases e : j = k
    · subst e; exact ⟨.inr h6, .inr h1⟩
    · have := h0 j hj (hl.resolve_left (by omega))
      exact ⟨.inr this.1, .inr this.2⟩
  · have p := hp j hj
    refine ⟨fun hl => p.load (hl.resolve_left (by omega)), fun hl => ?_, p.low, by rw [hsz]; exact p.high, fun hl => ?_, fun hl => ?_, p.apart, fun i hi hl => p.out i hi (hl.resolve_left (by omega)), fun i hi hij hl hl2 => p.other i hi hij (hl.resolve_left (by omega)) (hl2.resolve_left (by omega))⟩
    · obtain ⟨r1, r2, r3⟩ := p.call (hl.resolve_left (by omega))
      refine ⟨r1, r2, r3.keep hK (fun g _ hg => ?_)⟩
      have := (hp k hk).out j hj h6
      omega
    · obtain ⟨r1, r2, r3, r4⟩ := p.box (hl.resolve_left (by omega))
      refine ⟨r1, r2, by rw [hsz]; exact r3, fun hn' => ?_⟩
      have hjk : j ≠ k := fun e => hn' (.inl (by omega))
      exact hK.heap (r4 (fun hh => hn' (.inr hh))) (p.other k hk (fun e => hjk e.symm) (hl.resolve_left (by omega)) h6)
    · by_cases e : j = k
      · subst e; exact hset
      · have hl' := hl.resolve_left (by omega)
        exact hK.heap (p.put hl') (p.other k hk (fun e' => e e'.symm) (h0 j hj hl').1 h6)
/-- Three copies of a treaty, in boxes. -/
def ThreeOf (t : TV) (w3 : World) (s12 s13 s14 : Value) (w : World) : Prop :=
  ∃ (l h B : Nat → Nat) (ts : Nat → TV), s12 = .pointer (some ⟨B 0, 0, none⟩) ∧ s13 = .pointer (some ⟨B 1, 0, none⟩) ∧ s14 = .pointer (some ⟨B 2, 0, none⟩) ∧ Hid (Ext w3 w) ∧
    Hid (∀ k, k < 3 → SameT t (ts k) ∧ OwnS (fun g => l k ≤ g ∧ g < h k) w (ts k) ∧ w3.heap.size ≤ l k ∧ h k ≤ w.heap.size ∧ w3.heap.size ≤ B k ∧ B k < w.heap.size ∧ MkT w (B k) (ts k).P (ts k).ways.v (ts k).words.v (ts k).starts.v (ts k).legs.v ∧ ∀ j, j < 3 → (j ≠ k → (h j ≤ l k ∨ h k ≤ l j) ∧ B k ≠ B j) ∧ (B k < l j ∨ h j ≤ B k))
theorem Inv7.done {t : TV} {w3 w : World} {L : Nat → Prop} {X C A : Nat → Value} (I : Inv7 t w3 L X C A w) (hL : ∀ i, i < 12 → L i) : ThreeOf t w3 (A 0) (A 1) (A 2) w := by
  obtain ⟨l, h, B, ts, hx, h0, hp⟩ := I
  have p0 := ((hp 0 (by omega)).box (hL _ (by omega))).1
  have p1 := ((hp 1 (by omega)).box (hL _ (by omega))).1
  have p2 := ((hp 2 (by omega)).box (hL _ (by omega))).1
  refine ⟨l, h, B, ts, p0, p1, p2, hx, fun k hk => ?_⟩
  have p := hp k hk
  obtain ⟨-, q2, q3, -⟩ := p.box (hL _ (by omega))
  obtain ⟨-, r2, r3⟩ := p.call (hL _ (by omega))
  exact ⟨r2, r3, p.low, p.high, q2, q3, p.put (hL _ (by omega)), fun j hj => ⟨fun hjk => ⟨p.apart j hj hjk, p.other j hj hjk (hL _ (by omega)) (hL _ (by omega))⟩, p.out j hj (hL _ (by omega))⟩⟩
end Go.Proofs.YtopjjcgmcieboaaGreatDoor

namespace Go.Proofs.YtopjjcgmcieboaaGreatDoor
open Go.RowKit

/-- What is done is closed under what it waited for. -/
def Closed (ops : Array Oper) (L : Nat → Prop) : Prop := ∀ i o, L i → ops[i]? = some o → ∀ e ∈ o.after, Region.binds .any e = true → L e.on
theorem wp_region_inv2 {P : Program} {ops : Array Oper} {Q : Exit → Act → World → Prop} {id : Nat} {a : Act} {w : World} (hm : P.follows .mixedOrders = true) (hb : backB .any ops = true) (I : (Nat → Prop) → Act → World → Prop) (h0 : I (fun _ => False) a w.drew)
    (hstep : ∀ (L : Nat → Prop) (a : Act) (w : World) (i : Nat) (o : Oper), I L a w → Closed ops L → ¬ L i → ops[i]? = some o → (∀ e ∈ o.after, Region.binds .any e = true → L e.on) → wpOp P ops Q i (fun a' w' => I (fun j => j = i ∨ L j) a' w') a w)
    (hdone : ∀ (L : Nat → Prop) (a : Act) (w : World), I L a w → (∀ i, i < ops.size → L i) → Q .normal a w) : (Code.region id ops true).wp P Q a w := by
  refine wp_region_inv hm hb (fun L a w => I L a w ∧ Closed ops L) ⟨h0, fun i o h => h.elim⟩ (fun L a w i o hI hn ho hw => ?_) (fun L a w hI hL => hdone L a w hI.1 hL)
  refine wpOp_mono (fun a' w' hI' => ⟨hI', ?_⟩) (hstep L a w i o hI.1 hI.2 hn ho hw)
  rintro j oj (rfl | hj) hoj e he hbd
  · rw [ho] at hoj
    cases hoj
    exact .inr (hw e he hbd)
  · exact .inr (hI.2 j oj hj hoj e he hbd)

/-- A treaty with other words. -/
abbrev withWords (t : TV) (q : List (SL MV)) : TV := ⟨t.P, t.ways, ⟨t.words.a, t.words.c, q⟩, t.starts, t.legs⟩
/-- The words by then: no meaning has less than it had. -/
structure WideQ (P : Nat) (l0 q : List (SL MV)) : Prop where
  len : q.length = l0.length
  word : ∀ k (h : k < l0.length) (h' : k < q.length), q[k].a = l0[k].a ∧ q[k].c = l0[k].c ∧ q[k].l.length = l0[k].l.length
  mean : ∀ k (h : k < l0.length) (h' : k < q.length) j (hj : j < l0[k].l.length) (hj' : j < q[k].l.length),
    (∀ x ∈ l0[k].l[j].k.l, x ∈ q[k].l[j].k.l) ∧ (∀ x ∈ l0[k].l[j].e.l, x ∈ q[k].l[j].e.l) ∧ ((∀ x ∈ q[k].l[j].k.l, x ≤ 7) ∧ q[k].l[j].k.l.Pairwise (· < ·)) ∧ ((∀ x ∈ q[k].l[j].e.l, x < P) ∧ q[k].l[j].e.l.Pairwise (· < ·))
theorem WideQ.start {t : TV} (hk : OkT t) : WideQ t.P t.words.l t.words.l :=
  ⟨rfl, fun _ _ _ => ⟨rfl, rfl, rfl⟩, fun _ h _ _ hj _ => ⟨fun _ h => h, fun _ h => h, hk.kinds _ (List.getElem_mem h) _ (List.getElem_mem hj), hk.ends _ (List.getElem_mem h) _ (List.getElem_mem hj)⟩⟩
theorem WideQ.ok {t : TV} {q : List (SL MV)} (h : WideQ t.P t.words.l q) (hk : OkT t) : OkT (withWords t q) := by
  have hw : ∀ s ∈ q, ∃ k, ∃ (h1 : k < t.words.l.length) (h2 : k < q.length), s = q[k] := fun s hs => by
    obtain ⟨k, hk', rfl⟩ := List.getElem_of_mem hs
    exact ⟨k, by rw [← h.len]; exact hk', hk', rfl⟩
  have hmap : q.map (·.l.length) = t.words.l.map (·.l.length) := by
    apply List.ext_getElem
    · simp [h.len]
    · intro k h1 h2
      have h1' : k < q.length := by simpa using h1
      have h2' : k < t.words.l.length := by simpa using h2
      simp only [List.getElem_map]
      exact (h.word k h2' h1').2.2
  refine ⟨hk.p1, hk.p2, hk.ways, by show q.length ≤ 6; rw [h.len]; exact hk.words, hk.starts1, hk.starts2, hk.legs, fun s hs => ?_, hk.way, fun s hs m hm => ?_, fun s hs m hm => ?_, hk.start, fun g hg => ?_, ?_⟩
  · obtain ⟨k, h1, h2, rfl⟩ := hw s hs
    rw [(h.word k h1 h2).2.2]
    exact hk.word _ (List.getElem_mem h1)
  · obtain ⟨k, h1, h2, rfl⟩ := hw s hs
    obtain ⟨j, hj, rfl⟩ := List.getElem_of_mem hm
    exact (h.mean k h1 h2 j (by rw [← (h.word k h1 h2).2.2]; exact hj) hj).2.2.1
  · obtain ⟨k, h1, h2, rfl⟩ := hw s hs
    obtain ⟨j, hj, rfl⟩ := List.getElem_of_mem hm
    exact (h.mean k h1 h2 j (by rw [← (h.word k h1 h2).2.2]; exact hj) hj).2.2.2
  · have := hk.leg g hg
    show g.1 < q.length ∧ _
    rw [h.len]; exact this
  · show (q.map (·.l.length)).foldl (· * ·) 1 ≤ 256
    rw [hmap]; exact hk.many
theorem WideQ.more {t0 t : TV} {q : List (SL MV)} (hm : MoreT t0 t) (h : WideQ t.P t.words.l q) : MoreT t0 (withWords t q) := by
  refine ⟨hm.P, hm.starts, hm.legs, hm.ways, by show q.length = _; rw [h.len]; exact hm.many, fun k hk hk' j hj => ?_⟩
  have hk2 : k < t.words.l.length := by rw [hm.many]; assumption
  obtain ⟨h1, h2, h3⟩ := hm.word k (by assumption) hk2 j hj
  have h4 : j < q[k].l.length := by rw [(h.word k hk2 hk').2.2]; exact h1
  obtain ⟨h5, h6, -⟩ := h.mean k hk2 hk' j h1 h4
  exact ⟨h4, fun x hx => h5 x (h2 x hx), fun x hx => h6 x (h3 x hx)⟩
/-- One meaning is another one. -/
theorem WideQ.set {P : Nat} {l0 q : List (SL MV)} (h : WideQ P l0 q) {k j : Nat} (_hk : k < l0.length) (hk' : k < q.length) (hj : j < q[k].l.length) (m : MV)
    (h1 : (∀ x ∈ q[k].l[j].k.l, x ∈ m.k.l) ∧ (∀ x ∈ q[k].l[j].e.l, x ∈ m.e.l) ∧ ((∀ x ∈ m.k.l, x ≤ 7) ∧ m.k.l.Pairwise (· < ·)) ∧ ((∀ x ∈ m.e.l, x < P) ∧ m.e.l.Pairwise (· < ·))) :
    WideQ P l0 (q.set k ⟨q[k].a, q[k].c, q[k].l.set j m⟩) := by
  refine ⟨by rw [List.length_set]; exact h.len, fun i hi hi' => ?_, fun i hi hi' y hy hy' => ?_⟩
  · have hi2 : i < q.length := by simpa using hi'
    by_cases e : k = i
    · subst e
      simp only [List.getElem_set_self, List.length_set]
      exact h.word k hi hi2
    · simp only [List.getElem_set_ne e]; exact h.word i hi hi2
  · have hi2 : i < q.length := by simpa using hi'
    by_cases e : k = i
    · subst e
      simp only [List.getElem_set_self] at hy' ⊢
      have hy2 : y < q[k].l.length := by simpa using hy'
      obtain ⟨g1, g2, g3, g4⟩ := h.mean k hi hi2 y hy hy2
      by_cases e2 : j = y
      · subst e2
        simp only [List.getElem_set_self]
        exact ⟨fun x hx => h1.1 x (g1 x hx), fun x hx => h1.2.1 x (g2 x hx), h1.2.2⟩
      · simp only [List.getElem_set_ne e2]; exact ⟨g1, g2, g3, g4⟩
    · simp only [List.getElem_set_ne e] at hy' ⊢; exact h.mean i hi hi2 y hy hy'

theorem updV_self {x : Nat → Value} {k : Nat} {v : Value} (h : x k = v) : updV x k v = x := by
  funext n
  unfold updV
  by_cases e : n = k
  · rw [if_pos e, e, h]
  · rw [if_neg e]
/-- The words with one meaning put in the place of another one. -/
abbrev putM (q : List (SL MV)) (k j : Nat) (a : Option Addr) (c : Nat) (l : List MV) (m : MV) : List (SL MV) := q.set k ⟨a, c, l.set j m⟩
theorem OwnS.curSet {S : Nat → Prop} {w : World} {t : TV} {q : List (SL MV)} {k j : Nat} {a : Option Addr} {c : Nat} {l : List MV} {m : MV} (h : OwnS S w (withWords t (putM q k j a c l m))) (hk : k < q.length) (hj : j < l.length) (b : Nat) (hb : b < 2) (m' : MV) (u : Value) (hm : ∀ j', j' < 2 → meanC m' j' = if j' = b then u else meanC m j')
    (hr : RowS S w 3 1 m'.k.v m'.k.l.length (nums m'.k.l) ∧ RowS S w 3 1 m'.e.v m'.e.l.length (nums m'.e.l)) {g : Nat} (hg : a = some ⟨g, 0, none⟩) : OwnS S (w.setCell ⟨g, j * 2 + b, none⟩ u) (withWords t (putM q k j a c l m')) := by
  have hk2 : k < (putM q k j a c l m).length := by simpa using hk
  have e1 : (putM q k j a c l m)[k] = ⟨a, c, l.set j m⟩ := by simp [putM]
  have hj2 : j < ((putM q k j a c l m)[k]).l.length := by rw [e1]; simpa using hj
  have e2 : ((putM q k j a c l m)[k]).l[j] = m := by simp [putM]
  have := h.setMean k hk2 j hj2 b hb m' u (by rw [e2]; exact hm) hr (g := g) (by rw [e1]; exact hg)
  simp only [putM, List.getElem_set_self, List.set_set] at this
  exact this
theorem putM_self {q : List (SL MV)} {k j : Nat} (hk : k < q.length) (hj : j < q[k].l.length) : putM q k j q[k].a q[k].c q[k].l q[k].l[j] = q := by
  unfold putM
  rw [List.set_getElem_self]
  exact List.set_getElem_self hk
/-- What joined makes. -/
def JP (l : List Nat) (x : Nat) (m : List Nat) : Prop := (∀ y ∈ l, y ∈ m) ∧ (∀ y ∈ m, y ∈ l ∨ y = x) ∧ m.Pairwise (· < ·)
/-- Simple operations: what they yield. -/
def simE (g j x1 x2 : Nat) (m0 : MV) (i : Nat) : Value :=
  if i = 5 then .slice m0.k.a m0.k.l.length m0.k.c else if i = 6 then .int .i64 (x1 : Int) else if i = 11 then .slice m0.e.a m0.e.l.length m0.e.c else if i = 12 then .int .i64 (x2 : Int) else if i = 10 ∨ i = 18 then .pointer (some ⟨g, j * 2 + 1, none⟩) else .pointer (some ⟨g, j * 2, none⟩)
/-- What holds while a meaning's kinds and ends are joined. R: what else is there. -/
structure Inv20 (R : World → Prop) (S : Nat → Prop) (t : TV) (q : List (SL MV)) (k j g : Nat) (a : Option Addr) (c : Nat) (l : List MV) (x1 x2 : Nat) (m0 : MV) (L : Nat → Prop) (x : Nat → Value) (m1 : MV) (w : World) : Prop where
  sim : ∀ i, i ≠ 7 → i ≠ 13 → i ≠ 16 → i ≠ 19 → L i → x i = simE g j x1 x2 m0 i
  rest : R w
  own : OwnS S w (withWords t (putM q k j a c l m1))
  k0 : ¬ L 16 → m1.k = m0.k
  e0 : ¬ L 19 → m1.e = m0.e
  kn : L 7 → ∃ s : SL Nat, x 7 = .slice s.a s.l.length s.c ∧ RowS S w 3 1 s.v s.l.length (nums s.l) ∧ JP m0.k.l x1 s.l ∧ (L 16 → m1.k = s)
  en : L 13 → ∃ s : SL Nat, x 13 = .slice s.a s.l.length s.c ∧ RowS S w 3 1 s.v s.l.length (nums s.l) ∧ JP m0.e.l x2 s.l ∧ (L 19 → m1.e = s)
section
variable {R : World → Prop} {S : Nat → Prop} {t : TV} {q : List (SL MV)} {k j g : Nat} {a : Option Addr} {c : Nat} {l : List MV} {x1 x2 : Nat} {m0 m1 : MV} {L : Nat → Prop} {x : Nat → Value} {w w' : World}
theorem Inv20.simple (h : Inv20 R S t q k j g a c l x1 x2 m0 L x m1 w) (i : Nat) (h7 : i ≠ 7) (h13 : i ≠ 13) (h16 : i ≠ 16) (h19 : i ≠ 19) : Inv20 R S t q k j g a c l x1 x2 m0 (fun n => n = i ∨ L n) (updV x i (simE g j x1 x2 m0 i)) m1 w := by
  refine ⟨fun n q1 q2 q3 q4 hl => ?_, h.rest, h.own, fun hn => h.k0 (fun hh => hn (.inr hh)), fun hn => h.e0 (fun hh => hn (.inr hh)), fun hl => ?_, fun hl => ?_⟩
  · unfold updV
    by_cases e : n = i
    · rw [if_pos e, e]
    · rw [if_neg e]; exact h.sim n q1 q2 q3 q4 (hl.resolve_left e)
  · obtain ⟨s, r1, r2, r3, r4⟩ := h.kn (hl.resolve_left (fun e => h7 e.symm))
    refine ⟨s, ?_, r2, r3, fun hh => r4 (hh.resolve_left (fun e => h16 e.symm))⟩
    unfold updV; rw [if_neg (fun e => h7 e.symm)]; exact r1
  · obtain ⟨s, r1, r2, r3, r4⟩ := h.en (hl.resolve_left (fun e => h13 e.symm))
    refine ⟨s, ?_, r2, r3, fun hh => r4 (hh.resolve_left (fun e => h19 e.symm))⟩
    unfold updV; rw [if_neg (fun e => h13 e.symm)]; exact r1
theorem Inv20.call7 (h : Inv20 R S t q k j g a c l x1 x2 m0 L x m1 w) (hc : L 16 → L 7) (hn : ¬ L 7) (hx : Ext w w') (hR : R w → R w') {s : SL Nat} (hr : RowS S w' 3 1 s.v s.l.length (nums s.l)) (hj : JP m0.k.l x1 s.l) : Inv20 R S t q k j g a c l x1 x2 m0 (fun n => n = 7 ∨ L n) (updV x 7 (.slice s.a s.l.length s.c)) m1 w' := by
  refine ⟨fun n q1 q2 q3 q4 hl => ?_, hR h.rest, h.own.ext hx, fun hn => h.k0 (fun hh => hn (.inr hh)), fun hn => h.e0 (fun hh => hn (.inr hh)), fun _ => ⟨s, by unfold updV; rw [if_pos rfl], hr, hj, fun hh => (hn (hc (hh.resolve_left (by omega)))).elim⟩, fun hl => ?_⟩
  · unfold updV; rw [if_neg q1]; exact h.sim n q1 q2 q3 q4 (hl.resolve_left q1)
  · obtain ⟨s', r1, r2, r3, r4⟩ := h.en (hl.resolve_left (by omega))
    refine ⟨s', ?_, r2.keep (D := fun _ => True) (Keep.of_ext hx) (fun _ _ _ => trivial), r3, fun hh => r4 (hh.resolve_left (by omega))⟩
    unfold updV; rw [if_neg (by omega)]; exact r1
theorem Inv20.call13 (h : Inv20 R S t q k j g a c l x1 x2 m0 L x m1 w) (hc : L 19 → L 13) (hn : ¬ L 13) (hx : Ext w w') (hR : R w → R w') {s : SL Nat} (hr : RowS S w' 3 1 s.v s.l.length (nums s.l)) (hj : JP m0.e.l x2 s.l) : Inv20 R S t q k j g a c l x1 x2 m0 (fun n => n = 13 ∨ L n) (updV x 13 (.slice s.a s.l.length s.c)) m1 w' := by
  refine ⟨fun n q1 q2 q3 q4 hl => ?_, hR h.rest, h.own.ext hx, fun hn => h.k0 (fun hh => hn (.inr hh)), fun hn => h.e0 (fun hh => hn (.inr hh)), fun hl => ?_, fun _ => ⟨s, by unfold updV; rw [if_pos rfl], hr, hj, fun hh => (hn (hc (hh.resolve_left (by omega)))).elim⟩⟩
  · unfold updV; rw [if_neg q2]; exact h.sim n q1 q2 q3 q4 (hl.resolve_left q2)
  · obtain ⟨s', r1, r2, r3, r4⟩ := h.kn (hl.resolve_left (by omega))
    refine ⟨s', ?_, r2.keep (D := fun _ => True) (Keep.of_ext hx) (fun _ _ _ => trivial), r3, fun hh => r4 (hh.resolve_left (by omega))⟩
    unfold updV; rw [if_neg (by omega)]; exact r1
theorem Inv20.rows (h : OwnS S w (withWords t (putM q k j a c l m1))) (hk : k < q.length) (hj : j < l.length) : RowS S w 3 1 m1.k.v m1.k.l.length (nums m1.k.l) ∧ RowS S w 3 1 m1.e.v m1.e.l.length (nums m1.e.l) := by
  have h1 := h.word ⟨a, c, l.set j m1⟩ (List.mem_set hk _)
  exact h1.2 m1 (List.mem_set hj _)
theorem Inv20.put16 (h : Inv20 R S t q k j g a c l x1 x2 m0 L x m1 w) (_hn : ¬ L 16) (h7 : L 7) (hk : k < q.length) (hj : j < l.length) (hg : a = some ⟨g, 0, none⟩) {s : SL Nat} (hs : x 7 = .slice s.a s.l.length s.c) (hR : R w → R (w.setCell ⟨g, j * 2, none⟩ (.slice s.a s.l.length s.c))) :
    ∃ s' : SL Nat, x 7 = .slice s'.a s'.l.length s'.c ∧ (s'.a = s.a ∧ s'.c = s.c) ∧ Inv20 R S t q k j g a c l x1 x2 m0 (fun n => n = 16 ∨ L n) x ⟨s', m1.e⟩ (w.setCell ⟨g, j * 2, none⟩ (.slice s'.a s'.l.length s'.c)) := by
  obtain ⟨s', r1, r2, r3, r4⟩ := h.kn h7
  have he : Value.slice s'.a s'.l.length s'.c = Value.slice s.a s.l.length s.c := r1.symm.trans hs
  have hB : ∃ cur, w.heap[g]? = some (.cells cur 57 (0, 0)) := by
    have h1 := (h.own.word ⟨a, c, l.set j m1⟩ (List.mem_set hk _)).1
    obtain ⟨g', cur, ha, -, hB, -⟩ := RowS.at (S := S) (w := w) (a := a) (c := c) (n := (l.set j m1).length) (e := 57) (size := 2) (xs := flat 2 meanC (l.set j m1)) h1 (by rw [List.length_set]; omega)
    rw [hg] at ha; cases ha
    exact ⟨cur, hB⟩
  obtain ⟨cur, hB⟩ := hB
  have hrows := Inv20.rows h.own hk hj
  have ho := h.own.curSet hk hj 0 (by omega) ⟨s', m1.e⟩ (.slice s'.a s'.l.length s'.c) (fun j' hj' => by
    have : j' = 0 ∨ j' = 1 := by omega
    rcases this with rfl | rfl <;> simp [meanC]) ⟨r2, hrows.2⟩ hg
  rw [Nat.add_zero] at ho
  refine ⟨s', r1, ?_, ⟨fun n q1 q2 q3 q4 hl => h.sim n q1 q2 q3 q4 (hl.resolve_left q3), by rw [he]; exact hR h.rest, ho, fun hn' => (hn' (.inl rfl)).elim, fun hn' => h.e0 (fun hh => hn' (.inr hh)), fun _ => ⟨s', r1, r2.other hB (by decide), r3, fun _ => rfl⟩, fun hl => ?_⟩⟩
  · simp only [Value.slice.injEq] at he; exact ⟨he.1, he.2.2⟩
  · obtain ⟨z, z1, z2, z3, z4⟩ := h.en (hl.resolve_left (by omega))
    exact ⟨z, z1, z2.other hB (by decide), z3, fun hh => z4 (hh.resolve_left (by omega))⟩
theorem Inv20.put19 (h : Inv20 R S t q k j g a c l x1 x2 m0 L x m1 w) (_hn : ¬ L 19) (h7 : L 13) (hk : k < q.length) (hj : j < l.length) (hg : a = some ⟨g, 0, none⟩) {s : SL Nat} (hs : x 13 = .slice s.a s.l.length s.c) (hR : R w → R (w.setCell ⟨g, j * 2 + 1, none⟩ (.slice s.a s.l.length s.c))) :
    ∃ s' : SL Nat, x 13 = .slice s'.a s'.l.length s'.c ∧ (s'.a = s.a ∧ s'.c = s.c) ∧ Inv20 R S t q k j g a c l x1 x2 m0 (fun n => n = 19 ∨ L n) x ⟨m1.k, s'⟩ (w.setCell ⟨g, j * 2 + 1, none⟩ (.slice s'.a s'.l.length s'.c)) := by
  obtain ⟨s', r1, r2, r3, r4⟩ := h.en h7
  have he : Value.slice s'.a s'.l.length s'.c = Value.slice s.a s.l.length s.c := r1.symm.trans hs
  have hB : ∃ cur, w.heap[g]? = some (.cells cur 57 (0, 0)) := by
    have h1 := (h.own.word ⟨a, c, l.set j m1⟩ (List.mem_set hk _)).1
    obtain ⟨g', cur, ha, -, hB, -⟩ := RowS.at (S := S) (w := w) (a := a) (c := c) (n := (l.set j m1).length) (e := 57) (size := 2) (xs := flat 2 meanC (l.set j m1)) h1 (by rw [List.length_set]; omega)
    rw [hg] at ha; cases ha
    exact ⟨cur, hB⟩
  obtain ⟨cur, hB⟩ := hB
  have hrows := Inv20.rows h.own hk hj
  have ho := h.own.curSet hk hj 1 (by omega) ⟨m1.k, s'⟩ (.slice s'.a s'.l.length s'.c) (fun j' hj' => by
    have : j' = 0 ∨ j' = 1 := by omega
    rcases this with rfl | rfl <;> simp [meanC]) ⟨hrows.1, r2⟩ hg
  refine ⟨s', r1, ?_, ⟨fun n q1 q2 q3 q4 hl => h.sim n q1 q2 q3 q4 (hl.resolve_left q4), by rw [he]; exact hR h.rest, ho, fun hn' => h.k0 (fun hh => hn' (.inr hh)), fun hn' => (hn' (.inl rfl)).elim, fun hl => ?_, fun _ => ⟨s', r1, r2.other hB (by decide), r3, fun _ => rfl⟩⟩⟩
  · simp only [Value.slice.injEq] at he; exact ⟨he.1, he.2.2⟩
  · obtain ⟨z, z1, z2, z3, z4⟩ := h.kn (hl.resolve_left (by omega))
    exact ⟨z, z1, z2.other hB (by decide), z3, fun hh => z4 (hh.resolve_left (by omega))⟩
end
end Go.Proofs.YtopjjcgmcieboaaGreatDoor
