/-
  Words and laws that the other texts of this claim use: a world that extends another one, slices, rows, decks, lists that are cloned and compared. The deck deals numbers that are in range; Clone, Equal, EqualAll of the statements' kit, slices.Clone, slices.Index, slices.Contains and slices.Delete return what they say. Each list must read as told.
-/
import Derived.Test.YtlaolokakaheaaaProg
import Derived.WalkKit
import Derived.Below
import Derived.IntWalk
import Derived.Lib.Hide
import Derived.Deep.QuietTactic
import Derived.BigQuiet
import Derived.RangeFuncNested
import Derived.RangeFuncCalls
import Derived.Shelf.Abstract
import Derived.Laws.AppendOwnNone
import Derived.Laws.Rows
import Derived.RegionTactic
import Derived.Deep.RegionWith
import Derived.Deep.DeepMust
import Derived.Deep.RegionLaw
import Derived.Lib.SliceRun
namespace Go.Proofs.Ytlaolokakaheaaa
open Go.RowKit
/-- What was there is as it was. -/
def Ext (w w' : World) : Prop := Below w.heap.size w w'

theorem Ext.refl (w : World) : Ext w w := Below.refl _ _

theorem Ext.trans {a b c : World} (h : Ext a b) (k : Ext b c) : Ext a c := Below.trans h (Below.mono k h.size)

theorem Ext.drew {a w : World} (h : Ext a w) : Ext a w.drew := Below.drew h

theorem Ext.alloc {a w : World} (h : Ext a w) (o : Obj) : Ext a (w.alloc o) := Below.alloc h h.size o

theorem Ext.size {a w : World} (h : Ext a w) : a.heap.size ≤ w.heap.size := Below.size h

theorem Ext.setCell {a w : World} (h : Ext a w) {p : Addr} (hp : a.heap.size ≤ p.block) (u : Value) : Ext a (w.setCell p u) := Below.setCell h hp u

theorem Ext.below {a w : World} (h : Ext a w) : Below a.heap.size a w := h

theorem Ext.of {a w : World} (h : Below a.heap.size a w) : Ext a w := h

theorem lt_of_cell {w : World} {p : Addr} {v : Value} (h : w.cell? p = some v) : p.block < w.heap.size := by
  unfold World.cell? at h
  cases ho : w.heap[p.block]? with
  | none => simp [ho] at h
  | some o => exact (Array.getElem?_eq_some_iff.1 ho).1

theorem Ext.cell {w w' : World} (h : Ext w w') {p : Addr} {v : Value} (hc : w.cell? p = some v) : w'.cell? p = some v :=
  (Below.cell h (lt_of_cell hc)).trans hc

theorem Ext.block {w w' : World} (h : Ext w w') {b : Nat} {o : Obj} (hb : w.heap[b]? = some o) : w'.heap[b]? = some o :=
  (Below.block h b (Array.getElem?_eq_some_iff.1 hb).1).trans hb

/-- The function value with number g and captured values cap answers p where D holds, in each world that extends w. -/
def Asks {α : Type} (P : Program) (g : Nat) (cap : Array Value) (enc : α → Array Value) (D : α → Prop) (p : α → Bool) (w : World) : Prop :=
  ∀ (x : α), D x → ∀ (w' : World), Ext w w' → Calls P g (enc x ++ cap) w' fun e w'' => e = .returned (.bool (p x)) ∧ Ext w' w''

theorem Asks.ext {α : Type} {P : Program} {g : Nat} {cap : Array Value} {enc : α → Array Value} {D : α → Prop} {p : α → Bool} {w w' : World} (h : Asks P g cap enc D p w) (k : Ext w w') : Asks P g cap enc D p w' :=
  fun x hx w'' k' => h x hx w'' (k.trans k')

/-- The function with number g is there to be entered. -/
def Enters (P : Program) (g : Nat) : Prop := ∀ args w, (callFunc g args).run P w = .ok (.enter g args) w

/-- A slice: where it lies, its capacity, and the list that it reads as. -/
structure SL (α : Type) where
  a : Option Addr
  c : Nat
  l : List α

/-- The slice as a value. -/
abbrev SL.v {α : Type} (s : SL α) : Value := .slice s.a s.l.length s.c

/-- The slice s reads as its list in the world w, each of whose elements has sz cells. -/
def IsSl {α : Type} (sz : Nat) (cs : α → Nat → Value) (w : World) (s : SL α) : Prop :=
  s.l.length ≤ s.c ∧ s.l.length ≤ 1000000 ∧
    (s.l.length = 0 ∨ ∃ b off, s.a = some ⟨b, off, none⟩ ∧ ∀ i (h : i < s.l.length) j, j < sz → w.cell? ⟨b, off + i * sz + j, none⟩ = some (cs s.l[i] j))

theorem IsSl.ext {α : Type} {sz : Nat} {cs : α → Nat → Value} {w w' : World} {s : SL α} (h : IsSl sz cs w s) (k : Ext w w') : IsSl sz cs w' s := by
  obtain ⟨h1, h2, h3⟩ := h
  refine ⟨h1, h2, ?_⟩
  rcases h3 with h3 | ⟨b, off, ha, hc⟩
  · exact .inl h3
  · exact .inr ⟨b, off, ha, fun i hi j hj => k.cell (hc i hi j hj)⟩

/-- How a number lies in a cell. -/
def num (n : Nat) (_ : Nat) : Value := .int .i64 (n : Int)

/-- How a slice lies in a cell. -/
def slC {α : Type} (x : SL α) (_ : Nat) : Value := x.v

theorem all_take_succ {α : Type} (p : α → Bool) (l : List α) (k : Nat) (h : k < l.length) : (l.take (k + 1)).all p = ((l.take k).all p && p l[k]) := by
  rw [List.take_succ_eq_append_getElem h]; simp only [List.all_append, List.all_cons, List.all_nil, Bool.and_true]

theorem cell_at {w : World} {b : Nat} {cs : Array Value} {T : TypeId} {fr : Nat × Nat} (h : w.heap[b]? = some (.cells cs T fr)) (i : Nat) : w.cell? ⟨b, i, none⟩ = cs[i]? := by
  simp [World.cell?, h]

/-- A block that was just laid, behind whatever else has extended the world. -/
theorem Ext.laid {w w1 : World} {o : Obj} (h : Ext (w.alloc o) w1) : w1.heap[w.heap.size]? = some o := h.block (World.alloc_heap_new w o)

theorem Ext.unlaid {w w1 : World} {o : Obj} (h : Ext (w.alloc o) w1) : Ext w w1 := ((Ext.refl w).alloc o).trans h

theorem below_drewN {B n : Nat} {a w : World} (h : Below B a w) : Below B a (w.drewN n) := ⟨h.os, h.tape, h.output, h.size, h.block⟩

theorem Ext.drewN {a w : World} (h : Ext a w) (n : Nat) : Ext a (w.drewN n) := below_drewN h

theorem sorted_at {l : List Nat} (h : l.Pairwise (· < ·)) (j : Nat) (hj : j + 1 < l.length) : l[j] < l[j + 1] :=
  List.pairwise_iff_getElem.1 h j (j + 1) (by omega) hj (by omega)

theorem quiet_same {P : Program} {f : FuncId} {args : Array Value} {w : World} {n : Nat} {v : Value} (h : Calls P f args (w.drewN n) fun e w' => e = .returned v ∧ w.drewN n = w') :
    Calls P f args (w.drewN n) fun e w'' => e = .returned v ∧ ∃ m, w'' = w.drewN m := h.mono fun _ _ ⟨he, hm⟩ => ⟨he, n, hm.symm⟩

/-- r is the first place of x in l, or -1. -/
def IdxOf (l : List Nat) (x : Nat) (r : Int) : Prop := (r = -1 ∧ x ∉ l) ∨ ∃ (i : Nat) (h : i < l.length), r = i ∧ l[i] = x ∧ ∀ j (hj : j < i), l[j]'(by omega) ≠ x

/-- The cells of a list of numbers. -/
def nums (l : List Nat) : List Value := l.map fun n : Nat => Value.int .i64 (n : Int)

theorem nums_length (l : List Nat) : (nums l).length = l.length := by simp [nums]

theorem nums_append (l m : List Nat) : nums (l ++ m) = nums l ++ nums m := by simp [nums]

theorem nums_get (l : List Nat) (j : Nat) (h : j < l.length) : (nums l)[j]? = some (.int .i64 (l[j] : Int)) := by simp [nums, h]

theorem nums_one (l : List Nat) : ∀ u ∈ nums l, u.oneCell' = true := by
  intro u hu; simp only [nums, List.mem_map] at hu; obtain ⟨n, _, rfl⟩ := hu; rfl

theorem own_form {w : World} {base : Nat} {e : TypeId} {size : Nat} {v : Value} {n : Nat} {xs : List Value} (h : w.ownsRow base e size v n xs) : ∃ a c, v = .slice a n c := by
  rcases h.2 with ⟨rfl, rfl⟩ | ⟨g, cap, cur, rfl, _⟩
  · exact ⟨none, 0, rfl⟩
  · exact ⟨_, _, rfl⟩

/-- An owned row of numbers reads as its list. -/
theorem own_sl {w : World} {base : Nat} {e : TypeId} {a : Option Addr} {c : Nat} {l : List Nat} (h : w.ownsRow base e 1 (.slice a l.length c) l.length (nums l)) (hl : l.length ≤ 1000000) : IsSl 1 num w ⟨a, c, l⟩ := by
  obtain ⟨h1, h2⟩ := h
  rcases h2 with ⟨h2, h3⟩ | ⟨g, cap, cur, h2, hb, hh, hn, hm, hs, ht⟩
  · simp only [Value.slice.injEq] at h2
    exact ⟨by simp only [h3]; omega, hl, .inl h3⟩
  · simp only [Value.slice.injEq] at h2
    obtain ⟨rfl, _, rfl⟩ := h2
    refine ⟨hn, hl, .inr ⟨g, 0, rfl, fun i hi j hj => ?_⟩⟩
    have hj0 : j = 0 := by omega
    subst hj0
    dsimp only at hi ⊢
    rw [cell_at hh]
    have e1 : cur[0 + i * 1 + 0]? = (cur.toList.take (l.length * 1))[i]? := by
      rw [List.getElem?_take]; simp [hi]
    rw [e1, ht, nums_get _ _ hi]; rfl

theorem ext_grown {w w' : World} (h : w.grownBy w' none) : Ext w w' := ⟨h.os, h.tape, h.output, h.size, fun k hk => h.block k hk (by simp)⟩

/-- What a row of the call's own grew by, if the row lies in new memory. -/
theorem ext_grown_of {a w w' : World} {row : Option Nat} (h0 : Ext a w) (h : w.grownBy w' row) (hr : ∀ k, row = some k → a.heap.size ≤ k) : Ext a w' := Below.grown h0 h h0.size hr

theorem info3 : (Try.prog.info? 3).map (fun i => (i.zero, i.size, i.bytes)) = some (some (.int .i64 0), 1, 8) := by kernel_rfl

/-- A list as its clone finds it: no memory, or a row of cells. -/
theorem cells_of_sl {w : World} {a : Option Addr} {c : Nat} {l : List Nat} (h : IsSl 1 num w ⟨a, c, l⟩) (ha : a ≠ none) : ∃ ad, a = some ad ∧ ∀ j u, (nums l)[j]? = some u → w.cell? (ad.add j) = some u := by
  obtain ⟨h1, h2, h3⟩ := h
  cases a with
  | none => exact absurd rfl ha
  | some ad =>
    refine ⟨ad, rfl, fun j u hu => ?_⟩
    have hj : j < l.length := by have := (List.getElem?_eq_some_iff.1 hu).1; simpa [nums] using this
    rcases h3 with h3 | ⟨b, off, h3, hc⟩
    · dsimp only at h3; omega
    · cases h3
      have := hc j hj 0 (by omega)
      rw [nums_get _ _ hj] at hu
      cases hu
      have e1 : (⟨b, off, none⟩ : Addr).add j = ⟨b, off + j, none⟩ := by
        unfold Addr.add; split
        · rename_i h0; simp_all
        · rfl
      rw [e1]
      simpa [num] using this

set_option maxHeartbeats 400000 in
theorem kitClone_any (a : Option Addr) (n c : Nat) (l : List Nat) (w : World) (hn : l.length = n) (hv : IsSl 1 num w ⟨a, c, l⟩) :
    Calls Try.prog 44 #[.slice a n c] w fun e w' => ∃ a' c', e = .returned (.slice a' n c') ∧ w'.ownsRow w.heap.size 3 1 (.slice a' n c') n (nums l) ∧ Ext w w' := by
  subst hn
  have hl : l.length ≤ 1000000 := hv.2.1
  obtain ⟨i0, hi, hz0, hz1, hz2⟩ := info_parts info3
  by_cases ha : a = none
  · subst ha
    have h0 : l = [] := by
      rcases hv.2.2 with h | ⟨b, off, h, _⟩
      · exact List.eq_nil_of_length_eq_zero h
      · cases h
    subst h0
    clear hv
    go_enter Try.func44, Try.ntmps44
    go_wp2
    go_ret
    exact ⟨none, 0, rfl, World.ownsRow_nil _ _ _ _, Ext.refl _⟩
  · obtain ⟨ad, rfl, hc⟩ := cells_of_sl hv ha
    have HC := Lib.hid hc; clear hc hv ha
    go_enter Try.func44, Try.ntmps44
    go_wp2_with (at_builtin; go_must (refine wpList_append_own _ rfl _ _ 24 rfl w.heap.size 3 i0 (.int .i64 0) 1 8 Try.underlying24 hi hz0 hz1 hz2 rfl (by decide) _ 0 [] rfl (World.ownsRow_nil _ _ _ _) ad l.length c (nums l) rfl (by simp [nums]) HC.out (nums_one l) (by unfold maxLen; omega) (by omega) (Nat.le_refl _) ?_); intro v' w1 hown hgrow _)
    rw [Nat.zero_add, List.nil_append] at hown
    obtain ⟨a', c', rfl⟩ := own_form hown
    have HO := Lib.hid hown
    have HG := Lib.hid (ext_grown hgrow); clear hown hgrow
    go_wp2
    go_ret
    exact ⟨a', c', rfl, HO.out, HG.out⟩

set_option maxHeartbeats 400000 in
theorem clone_any (a : Option Addr) (n c : Nat) (l : List Nat) (w : World) (hn : l.length = n) (hv : IsSl 1 num w ⟨a, c, l⟩) :
    Calls Try.prog 70 #[.slice a n c] w fun e w' => ∃ a' c', e = .returned (.slice a' n c') ∧ w'.ownsRow w.heap.size 3 1 (.slice a' n c') n (nums l) ∧ Ext w w' := by
  subst hn
  have hl : l.length ≤ 1000000 := hv.2.1
  obtain ⟨i0, hi, hz0, hz1, hz2⟩ := info_parts info3
  have q25 : ∀ (w : World) (a : Option Addr) (n c n' c' : Nat), (binOp .eql 24 (.slice a n c) (.slice none n' c')).run Try.prog w = .ok (.bool a.isNone) w := fun w a n c n' c' => Lib.run_eql_slice_nil w _ _ a n c n' c' Try.underlying24
  by_cases ha : a = none
  · subst ha
    have h0 : l = [] := by
      rcases hv.2.2 with h | ⟨b, off, h, _⟩
      · exact List.eq_nil_of_length_eq_zero h
      · cases h
    subst h0
    clear hv
    go_enter Try.func70, Try.ntmps70
    go_wp2
    go_ret
    exact ⟨none, 0, rfl, World.ownsRow_nil _ _ _ _, Ext.refl _⟩
  · obtain ⟨ad, rfl, hc⟩ := cells_of_sl hv ha
    have HC := Lib.hid hc; clear hc hv ha
    go_enter Try.func70, Try.ntmps70
    go_wp2_with (at_builtin; go_must (refine wpList_append_own _ rfl _ _ 24 rfl w.heap.size 3 i0 (.int .i64 0) 1 8 Try.underlying24 hi hz0 hz1 hz2 rfl (by decide) _ 0 [] rfl (World.ownsRow_made w #[] 0 (Nat.le_refl _) (by decide) rfl) ad l.length c (nums l) rfl (by simp [nums]) (fun j u hu => ((Ext.refl w).alloc _).cell (HC.out j u hu)) (nums_one l) (by unfold maxLen; omega) (by omega) (by simp) ?_); intro v' w1 hown hgrow _)
    rw [Nat.zero_add, List.nil_append] at hown
    obtain ⟨a', c', rfl⟩ := own_form hown
    have HO := Lib.hid hown
    have HG := Lib.hid (ext_grown_of ((Ext.refl w).alloc _) hgrow (fun k hk => by cases hk; exact Nat.le_refl _)); clear hown hgrow
    go_wp2
    go_ret
    exact ⟨a', c', rfl, HO.out, HG.out⟩

/-- Block g holds cap cells, the first of which are the numbers L; it is not frozen. -/
def Row (w : World) (g : Nat) (L : List Nat) (cap : Nat) : Prop :=
  ∃ cur : Array Value, w.heap[g]? = some (.cells cur 3 (0, 0)) ∧ cur.size = cap ∧ L.length ≤ cap ∧ ∀ i (h : i < L.length), cur[i]? = some (.int .i64 (L[i] : Int))

theorem Row.ext {w w' : World} {g : Nat} {L : List Nat} {cap : Nat} (h : Row w g L cap) (k : Ext w w') : Row w' g L cap := by
  obtain ⟨cur, h1, h2⟩ := h; exact ⟨cur, k.block h1, h2⟩

theorem Row.lt {w : World} {g : Nat} {L : List Nat} {cap : Nat} (h : Row w g L cap) : g < w.heap.size := by
  obtain ⟨cur, h1, h2⟩ := h; exact (Array.getElem?_eq_some_iff.1 h1).1

theorem Row.le {w : World} {g : Nat} {L : List Nat} {cap : Nat} (h : Row w g L cap) : L.length ≤ cap := by
  obtain ⟨cur, h1, h2, h3, h4⟩ := h; exact h3

theorem Row.cell {w : World} {g : Nat} {L : List Nat} {cap : Nat} (h : Row w g L cap) (i : Nat) (hi : i < L.length) : w.cell? ⟨g, i, none⟩ = some (.int .i64 (L[i] : Int)) := by
  obtain ⟨cur, h1, h2, h3, h4⟩ := h; rw [cell_at h1, h4 i hi]

theorem Row.frozen {w : World} {g : Nat} {L : List Nat} {cap : Nat} (h : Row w g L cap) (i : Nat) : w.frozen? ⟨g, i, none⟩ = false := by
  obtain ⟨cur, h1, h2⟩ := h; simp [World.frozen?, h1]

theorem Row.take {w : World} {g : Nat} {L : List Nat} {cap : Nat} (h : Row w g L cap) (m : Nat) : Row w g (L.take m) cap := by
  obtain ⟨cur, h1, h2, h3, h4⟩ := h
  refine ⟨cur, h1, h2, by rw [List.length_take]; omega, fun i hi => ?_⟩
  rw [List.length_take] at hi
  rw [h4 i (by omega), List.getElem_take]

theorem heap_setCell_same {w : World} {g i : Nat} {cur : Array Value} {T : TypeId} {fr : Nat × Nat} (h : w.heap[g]? = some (.cells cur T fr)) (v : Value) : (w.setCell ⟨g, i, none⟩ v).heap[g]? = some (.cells (cur.setIfInBounds i v) T fr) := by
  simp [World.setCell, Array.getElem?_modify, h]

theorem Row.set {w : World} {g : Nat} {L : List Nat} {cap : Nat} (h : Row w g L cap) (i x : Nat) (hi : i < L.length) : Row (w.setCell ⟨g, i, none⟩ (.int .i64 (x : Int))) g (L.set i x) cap := by
  obtain ⟨cur, h1, h2, h3, h4⟩ := h
  refine ⟨_, heap_setCell_same h1 _, by simpa using h2, by simpa using h3, fun j hj => ?_⟩
  rw [List.length_set] at hj
  rw [Array.getElem?_setIfInBounds, List.getElem_set]
  split
  · rename_i e; subst e; simp; omega
  · exact h4 j hj

theorem Row.of_own {w : World} {base : Nat} {g c : Nat} {l : List Nat} (h : w.ownsRow base 3 1 (.slice (some ⟨g, 0, none⟩) l.length c) l.length (nums l)) : Row w g l c ∧ base ≤ g := by
  obtain ⟨h1, h2⟩ := h
  rcases h2 with ⟨h2, h3⟩ | ⟨g', cap, cur, h2, hb, hh, hn, hm, hs, ht⟩
  · cases h2
  · simp only [Value.slice.injEq, Option.some.injEq, Addr.mk.injEq, and_true, true_and] at h2
    obtain ⟨rfl, rfl⟩ := h2
    refine ⟨⟨cur, hh, by omega, hn, fun i hi => ?_⟩, hb⟩
    have e1 : cur[i]? = (cur.toList.take (l.length * 1))[i]? := by
      rw [List.getElem?_take]; simp [hi]
    rw [e1, ht, nums_get _ _ hi]

theorem Row.own {w : World} {base g cap : Nat} {L : List Nat} (h : Row w g L cap) (hb : base ≤ g) (hm : cap ≤ maxLen) : w.ownsRow base 3 1 (.slice (some ⟨g, 0, none⟩) L.length cap) L.length (nums L) := by
  obtain ⟨cur, h1, h2, h3, h4⟩ := h
  refine ⟨by simp [nums], .inr ⟨g, cap, cur, rfl, hb, h1, h3, hm, by omega, ?_⟩⟩
  apply List.ext_getElem?
  intro i
  rw [List.getElem?_take]
  by_cases hi : i < L.length
  · rw [nums_get _ _ hi, if_pos (by omega)]; simpa using h4 i hi
  · rw [if_neg (by omega), List.getElem?_eq_none (by rw [nums_length]; omega)]

theorem Row.cells_past {w : World} {g : Nat} {L : List Nat} {cap o : Nat} (h : Row w g L cap) (vs : List Value) (ho : L.length ≤ o) : Row (w.setCells g o vs) g L cap := by
  induction vs generalizing w o with
  | nil => exact h
  | cons v r ih =>
    refine ih ?_ (by omega)
    obtain ⟨cur, h1, h2, h3, h4⟩ := h
    refine ⟨_, heap_setCell_same h1 _, by simpa using h2, h3, fun j hj => ?_⟩
    rw [Array.getElem?_setIfInBounds, if_neg (by omega)]
    exact h4 j hj

theorem below_setCells {B : Nat} {a w : World} {g : Nat} (h : Below B a w) (hg : B ≤ g) (vs : List Value) (o : Nat) : Below B a (w.setCells g o vs) := by
  induction vs generalizing w o with
  | nil => exact h
  | cons v r ih => exact ih (h.setCell (p := ⟨g, o, none⟩) hg _) _

theorem zeroValue3 (w : World) : (zeroValue 3).run Try.prog w = .ok (.int .i64 0) w := by kernel_rfl

theorem ret_bool {a b : Bool} (h : a = b) : Ending.returned (.bool a) = Ending.returned (.bool b) := by rw [h]

/-- The cells of a list, element by element. -/
def flat {α : Type} (sz : Nat) (cs : α → Nat → Value) (l : List α) : List Value := l.flatMap fun x => (List.range sz).map (cs x)

theorem flat_length {α : Type} (sz : Nat) (cs : α → Nat → Value) (l : List α) : (flat sz cs l).length = l.length * sz := by
  unfold flat
  induction l with
  | nil => simp
  | cons x r ih => simp only [List.flatMap_cons, List.length_append, ih, List.length_map, List.length_range, List.length_cons, Nat.succ_mul]; omega

theorem flat_append {α : Type} (sz : Nat) (cs : α → Nat → Value) (l m : List α) : flat sz cs (l ++ m) = flat sz cs l ++ flat sz cs m := by simp [flat]

theorem flat_get {α : Type} (sz : Nat) (cs : α → Nat → Value) (l : List α) (i j : Nat) (hi : i < l.length) (hj : j < sz) : (flat sz cs l)[i * sz + j]? = some (cs l[i] j) := by
  unfold flat
  induction l generalizing i with
  | nil => simp at hi
  | cons x r ih =>
    rw [List.flatMap_cons]
    cases i with
    | zero => rw [List.getElem?_append_left (by simp; omega)]; simp [hj]
    | succ i =>
      rw [List.getElem?_append_right (by simp [Nat.succ_mul]; omega)]
      have : (i + 1) * sz + j - ((List.range sz).map (cs x)).length = i * sz + j := by simp [Nat.succ_mul]; omega
      rw [this, ih i (by simpa using hi)]
      simp

/-- An owned row reads as its list. -/
theorem own_slG {α : Type} {sz : Nat} {cs : α → Nat → Value} {w : World} {base : Nat} {e : TypeId} {a : Option Addr} {c : Nat} {l : List α} (h : w.ownsRow base e sz (.slice a l.length c) l.length (flat sz cs l)) (hl : l.length ≤ 1000000) : IsSl sz cs w ⟨a, c, l⟩ := by
  obtain ⟨h1, h2⟩ := h
  rcases h2 with ⟨h2, h3⟩ | ⟨g, cap, cur, h2, hb, hh, hn, hm, hs, ht⟩
  · exact ⟨by simp only [h3]; omega, hl, .inl h3⟩
  · simp only [Value.slice.injEq] at h2
    obtain ⟨rfl, _, rfl⟩ := h2
    refine ⟨hn, hl, .inr ⟨g, 0, rfl, fun i hi j hj => ?_⟩⟩
    dsimp only at hi ⊢
    rw [cell_at hh]
    have hlt : i * sz + j < l.length * sz := by
      have : (i + 1) * sz ≤ l.length * sz := Nat.mul_le_mul_right sz hi
      rw [Nat.succ_mul] at this; omega
    have e1 : cur[0 + i * sz + j]? = (cur.toList.take (l.length * sz))[i * sz + j]? := by
      rw [List.getElem?_take, if_pos hlt]; simp
    rw [e1, ht, flat_get _ _ _ _ _ hi hj]

theorem own_ext {w w' : World} {base : Nat} {e : TypeId} {size : Nat} {v : Value} {n : Nat} {xs : List Value} (h : w.ownsRow base e size v n xs) (k : Ext w w') : w'.ownsRow base e size v n xs := by
  obtain ⟨h1, h2⟩ := h
  refine ⟨h1, ?_⟩
  rcases h2 with h2 | ⟨g, cap, cur, h2, hb, hh, r⟩
  · exact .inl h2
  · exact .inr ⟨g, cap, cur, h2, hb, k.block hh, r⟩

theorem own_lt {w : World} {base : Nat} {e : TypeId} {size : Nat} {v : Value} {n : Nat} {xs : List Value} (h : w.ownsRow base e size v n xs) : ∀ k, v.ownBlock = some k → base ≤ k := fun k hk => (h.lt k hk).1

theorem new_cells (w : World) (cs : List Value) (T : TypeId) : ∀ (j : Nat) (u : Value), cs[j]? = some u → (w.alloc (.cells cs.toArray T)).cell? ((⟨w.heap.size, 0, none⟩ : Addr).add j) = some u := by
  intro j u hu
  have e1 : (⟨w.heap.size, 0, none⟩ : Addr).add j = ⟨w.heap.size, j, none⟩ := by
    unfold Addr.add; split
    · rename_i h0; simp_all
    · simp
  rw [e1, cell_at (World.alloc_heap_new w _)]; simpa using hu

theorem alloc_get (w : World) (o : Obj) (i : Nat) : (w.alloc o).heap[i]? = if i = w.heap.size then some o else w.heap[i]? := by
  unfold World.alloc
  simp only [Array.getElem?_push]

theorem alloc_old {w : World} {o : Obj} {i : Nat} (h : i < w.heap.size) : (w.alloc o).heap[i]? = w.heap[i]? := by
  rw [alloc_get, if_neg (by omega)]

theorem alloc_new {w : World} {o : Obj} {i : Nat} (h : i = w.heap.size) : (w.alloc o).heap[i]? = some o := by
  rw [alloc_get, if_pos h]

/-- A block of cells reads as the slice that it holds. -/
theorem isSl_of_block {α : Type} {sz : Nat} {cs : α → Nat → Value} {w : World} {b c : Nat} {l : List α} {cells : Array Value} {T : TypeId} {fr : Nat × Nat} (h : w.heap[b]? = some (.cells cells T fr)) (hlc : l.length ≤ c) (hl : l.length ≤ 1000000)
    (hc : ∀ i (h : i < l.length) j, j < sz → cells[i * sz + j]? = some (cs l[i] j)) : IsSl sz cs w ⟨some ⟨b, 0, none⟩, c, l⟩ := by
  refine ⟨hlc, hl, .inr ⟨b, 0, rfl, fun i hi j hj => ?_⟩⟩
  have := cell_at h (0 + i * sz + j)
  rw [this]
  simpa using hc i hi j hj

theorem heap_set_other {w : World} {o : Obj} (b g i : Nat) (v : Value) (h : w.heap[b]? = some o) (hne : b ≠ g) : (w.setCell ⟨g, i, none⟩ v).heap[b]? = some o := by
  rw [Below.heap_setCell _ _ _ _ hne]; exact h

theorem Ext.setRow {a w : World} (h : Ext a w) {g : Nat} (hg : a.heap.size ≤ g) (cs : Array Value) : Ext a (w.setRow g cs) := by
  refine Below.trans h ⟨rfl, rfl, rfl, by simp [World.setRow], fun k hk => ?_⟩
  simp only [World.setRow, Array.getElem?_modify]
  rw [if_neg (by omega)]

/-- A slice of bytes. -/
def IsBytes (w : World) (a : Option Addr) (n c : Nat) : Prop := n ≤ c ∧ n ≤ 140737488351232 ∧ (n = 0 ∨ ∃ b off, a = some ⟨b, off, none⟩ ∧ ∀ i, i < n → ∃ v : Nat, v < 256 ∧ w.cell? ⟨b, off + i, none⟩ = some (.int .u8 (v : Int)))

theorem IsBytes.ext {w w' : World} {a : Option Addr} {n c : Nat} (h : IsBytes w a n c) (k : Ext w w') : IsBytes w' a n c := by
  obtain ⟨h1, h2, h3⟩ := h
  refine ⟨h1, h2, ?_⟩
  rcases h3 with h3 | ⟨b, off, ha, hc⟩
  · exact .inl h3
  · exact .inr ⟨b, off, ha, fun i hi => by obtain ⟨v, hv, h⟩ := hc i hi; exact ⟨v, hv, k.cell h⟩⟩

/-- A deck in block D, of cards in another block, that has dealt k numbers. -/
def IsDeck (w : World) (D : Nat) (a : Option Addr) (n c k : Nat) : Prop :=
  ∃ s : Nat, s < 4294967296 ∧ w.heap[D]? = some (.cells #[.slice a n c, .int .i64 (k : Int), .int .u32 (s : Int)] 57) ∧ IsBytes w a n c ∧ (∀ b off, a = some ⟨b, off, none⟩ → 0 < n → b ≠ D)

theorem ret_mod (x : Int) (m : Nat) (hm : 0 < m) : ∃ r : Nat, r < m ∧ Ending.returned (.int .i64 (x % (m : Int))) = Ending.returned (.int .i64 (r : Int)) := by
  refine ⟨(x % (m : Int)).toNat, ?_, ?_⟩
  · have := Int.emod_lt_of_pos x (show (0 : Int) < m by omega); have := Int.emod_nonneg x (show (m : Int) ≠ 0 by omega); omega
  · have := Int.emod_nonneg x (show (m : Int) ≠ 0 by omega); rw [Int.toNat_of_nonneg this]

theorem deck_turned {w : World} {D b off n c k s N : Nat} (hh : w.heap[D]? = some (.cells #[.slice (some ⟨b, off, none⟩) n c, .int .i64 (k : Int), .int .u32 (s : Int)] 57)) (hb1 : n ≤ c) (hb2 : n ≤ 140737488351232)
    (hc : ∀ i, i < n → ∃ v : Nat, v < 256 ∧ w.cell? ⟨b, off + i, none⟩ = some (.int .u8 (v : Int))) (hne : b ≠ D) (S : Int) (hS : 0 ≤ S ∧ S < 4294967296) :
    IsDeck (((w.drewN N).setCell ⟨D, 1, none⟩ (.int .i64 ((k : Int) + 1))).setCell ⟨D, 2, none⟩ (.int .u32 S)) D (some ⟨b, off, none⟩) n c (k + 1) ∧
      w.grownBy (((w.drewN N).setCell ⟨D, 1, none⟩ (.int .i64 ((k : Int) + 1))).setCell ⟨D, 2, none⟩ (.int .u32 S)) (some D) := by
  have hh' : (w.drewN N).heap[D]? = some (.cells #[.slice (some ⟨b, off, none⟩) n c, .int .i64 (k : Int), .int .u32 (s : Int)] 57) := hh
  refine ⟨⟨S.toNat, by omega, ?_, ⟨hb1, hb2, .inr ⟨b, off, rfl, fun i hi => ?_⟩⟩, fun b' off' e _ => by cases e; exact hne⟩, ⟨rfl, rfl, rfl, by simp [World.setCell, World.drewN], fun j _ hj => ?_⟩⟩
  · rw [Ytlaolokakaheaaa.heap_setCell_same (Ytlaolokakaheaaa.heap_setCell_same hh' _) _, Int.toNat_of_nonneg hS.1]
    rfl
  · obtain ⟨v, hv, h⟩ := hc i hi
    refine ⟨v, hv, ?_⟩
    have e1 : (((w.drewN N).setCell ⟨D, 1, none⟩ (.int .i64 ((k : Int) + 1))).setCell ⟨D, 2, none⟩ (.int .u32 S)).heap[b]? = w.heap[b]? := by rw [Below.heap_setCell _ _ _ _ hne, Below.heap_setCell _ _ _ _ hne]; rfl
    exact (World.cell?_of_block (a := ⟨b, off + i, none⟩) e1).trans h
  · have hj' : j ≠ D := fun e => hj (by rw [e])
    rw [Below.heap_setCell _ _ _ _ hj', Below.heap_setCell _ _ _ _ hj']; rfl

set_option maxRecDepth 100000 in
set_option maxHeartbeats 1000000 in
theorem draw_some (D : Nat) (a : Option Addr) (n c k m : Nat) (w : World) (hd : IsDeck w D a n c k) (hk : k ≤ 1000000) (hm : m ≤ 1000000) (hm1 : 1 < m) (hn : 0 < n) :
    Calls Try.prog 22 #[.pointer (some ⟨D, 0, none⟩), .int .i64 (m : Int)] w fun e w' => (∃ r : Nat, r < m ∧ e = .returned (.int .i64 (r : Int))) ∧ IsDeck w' D a n c (k + 1) ∧ w.grownBy w' (some D) := by
  obtain ⟨s, hs, hh, ⟨hb1, hb2, hb3⟩, hne⟩ := hd
  obtain ⟨b, off, rfl, hc⟩ := hb3.resolve_left (by omega)
  have hbD := hne b off rfl hn
  have hqn := Nat.mod_lt k hn
  have hqk : k / n ≤ 1000000 := Nat.le_trans (Nat.div_le_self _ _) hk
  have htm : (k : Int).tmod (n : Int) = ((k % n : Nat) : Int) := rfl
  have hdv : (k : Int) / (n : Int) = ((k / n : Nat) : Int) := rfl
  generalize k % n = q at *
  generalize k / n = d at *
  obtain ⟨v, hv, hcell⟩ := hc q hqn
  have HC := Lib.hid hc; clear hc hb3 hne
  have hc0 := cell_at hh 0
  have hc1 := cell_at hh 1
  have hc2 := cell_at hh 2
  simp only [List.getElem?_toArray, List.getElem?_cons_succ, List.getElem?_cons_zero] at hc0 hc1 hc2
  have hfz : ∀ i, w.frozen? ⟨D, i, none⟩ = false := fun i => by simp [World.frozen?, hh]
  have HH := Lib.hid hh; clear hh
  have hmi : ¬ ((m : Int) ≤ 1) := by omega
  have dm : decide ((m : Int) ≤ 1) = false := decide_eq_false (by omega)
  have hn0 : ((n : Int) == 0) = false := by rw [beq_eq_false_iff_ne]; omega
  have hnz : ¬ (n : Int) = 0 := by omega
  have hn1 : (0 : Int) < (n : Int) := by omega
  have hk0 : (0 : Int) ≤ (k : Int) := by omega
  have hn00 : ¬ n = 0 := by omega
  have hwd : IntKind.i64.wrap (d : Int) = (d : Int) := IntWalk.i64_in _ (by omega)
  have hq0 : (0 : Int) ≤ (q : Int) := by omega
  have hqi : (q : Int) < (n : Int) := by omega
  go_enter Try.func22, Try.ntmps22
  go_wp2_with fail
  go_quiet (fail)
  go_wp2_with fail
  go_quiet (fail)
  clear hwd hdv htm
  go_wp2
  all_goals
    go_ret
    refine ⟨?_, ?_⟩
    · exact ret_mod _ m (by omega)
    · exact deck_turned HH.out hb1 hb2 HC.out hbD _ ⟨Int.emod_nonneg _ (by omega), Int.lt_trans (Int.emod_lt_of_pos _ (by omega)) (by omega)⟩

theorem IsDeck.more {w : World} {D : Nat} {a : Option Addr} {n c k : Nat} (h : IsDeck w D a n c k) : w.grownBy w (some D) ∧ IsDeck w D a n c k := ⟨⟨rfl, rfl, rfl, Nat.le_refl _, fun _ _ _ => rfl⟩, h⟩

/-- A number less than m, or 0, was dealt. -/
def Dealt (w : World) (D : Nat) (a : Option Addr) (n c k m : Nat) (e : Ending) (w' : World) : Prop :=
  ∃ r k' : Nat, (r < m ∨ r = 0) ∧ k' ≤ k + 1 ∧ e = .returned (.int .i64 (r : Int)) ∧ IsDeck w' D a n c k' ∧ w.grownBy w' (some D)

set_option maxHeartbeats 1000000 in
/-- Draw deals a number less than m, or 0. -/
theorem draw_any (D : Nat) (a : Option Addr) (n c k m : Nat) (w : World) (hd : IsDeck w D a n c k) (hk : k ≤ 1000000) (hm : m ≤ 1000000) :
    Calls Try.prog 22 #[.pointer (some ⟨D, 0, none⟩), .int .i64 (m : Int)] w (Dealt w D a n c k m) := by
  by_cases hm1 : m ≤ 1
  · have HD := Lib.hid hd; clear hd
    have dm : decide ((m : Int) ≤ 1) = true := decide_eq_true (by omega)
    have hmi : (m : Int) ≤ 1 := by omega
    go_enter Try.func22, Try.ntmps22
    go_wp2
    go_ret
    exact ⟨0, k, .inr rfl, by omega, rfl, HD.out, HD.out.more.1⟩
  · by_cases hn : n = 0
    · subst hn
      have HD := Lib.hid hd
      obtain ⟨s, hs, hh, _⟩ := hd
      have hc0 := cell_at hh 0
      simp only [List.getElem?_toArray, List.getElem?_cons_zero] at hc0
      clear hh
      have dm : decide ((m : Int) ≤ 1) = false := decide_eq_false (by omega)
      have hmi : ¬ (m : Int) ≤ 1 := by omega
      go_enter Try.func22, Try.ntmps22
      go_wp2
      go_ret
      exact ⟨0, k, .inr rfl, by omega, rfl, HD.out, HD.out.more.1⟩
    · refine (draw_some D a n c k m w hd hk hm (by omega) (by omega)).mono ?_
      rintro e w' ⟨⟨r, hr, rfl⟩, h2, h3⟩
      exact ⟨r, k + 1, .inl hr, Nat.le_refl _, rfl, h2, h3⟩

/-- A number from x to y was dealt. -/
def DealtB (w : World) (D : Nat) (a : Option Addr) (n c k : Nat) (x y : Int) (e : Ending) (w' : World) : Prop :=
  ∃ (r : Int) (k' : Nat), x ≤ r ∧ (r ≤ y ∨ r = x) ∧ k' ≤ k + 1 ∧ e = .returned (.int .i64 r) ∧ IsDeck w' D a n c k' ∧ w.grownBy w' (some D)

set_option maxHeartbeats 1000000 in
theorem dbetween_any (D : Nat) (a : Option Addr) (n c k : Nat) (x y : Int) (w : World) (hd : IsDeck w D a n c k) (hk : k ≤ 1000000) (hx : -1000 ≤ x) (hxy : x ≤ y + 1) (hy : y ≤ 1000) :
    Calls Try.prog 20 #[.pointer (some ⟨D, 0, none⟩), .int .i64 x, .int .i64 y] w (DealtB w D a n c k x y) := by
  obtain ⟨m, hm⟩ : ∃ m : Nat, y - x + 1 = (m : Int) := ⟨(y - x + 1).toNat, by omega⟩
  have HD := Lib.hid (draw_any D a n c k m w hd hk (by omega)); clear hd
  have HM := Lib.hid hm
  go_enter Try.func20, Try.ntmps20
  go_wp2_with fail
  refine HD.out.mono ?_
  rintro e w1 ⟨r, k', hr, hk', rfl, hd1, hg1⟩
  have hr2 : r < m ∨ r = 0 := hr
  have HR := Lib.hid hr; clear hr
  have HD1 := Lib.hid hd1; clear hd1
  have HG1 := Lib.hid hg1; clear hg1
  have b1 : (r : Int) ≤ 2001 := by omega
  clear hr2 hm
  go_wp2
  go_ret
  exact ⟨x + (r : Int), k', by omega, by have := HR.out; have := HM.out; omega, hk', rfl, HD1.out, HG1.out⟩

/-- A coin was thrown. -/
def DealtC (w : World) (D : Nat) (a : Option Addr) (n c k : Nat) (e : Ending) (w' : World) : Prop :=
  ∃ (r : Bool) (k' : Nat), k' ≤ k + 1 ∧ e = .returned (.bool r) ∧ IsDeck w' D a n c k' ∧ w.grownBy w' (some D)

set_option maxHeartbeats 1000000 in
theorem coin_any (D : Nat) (a : Option Addr) (n c k m : Nat) (w : World) (hd : IsDeck w D a n c k) (hk : k ≤ 1000000) (hm : m ≤ 1000000) :
    Calls Try.prog 36 #[.pointer (some ⟨D, 0, none⟩), .int .i64 (m : Int)] w (DealtC w D a n c k) := by
  have HD := Lib.hid (draw_any D a n c k m w hd hk hm); clear hd
  go_enter Try.func36, Try.ntmps36
  go_wp2_with fail
  refine HD.out.mono ?_
  rintro e w1 ⟨r, k', hr, hk', rfl, hd1, hg1⟩
  have HD1 := Lib.hid hd1; clear hd1
  have HG1 := Lib.hid hg1; clear hg1
  clear hr
  go_wp2
  go_ret
  exact ⟨((r : Int) == 0), k', hk', rfl, HD1.out, HG1.out⟩

theorem of_any (a : Option Addr) (n c : Nat) (w : World) (h : IsBytes w a n c) :
    Calls Try.prog 9 #[.slice a n c] w fun e w' => e = .returned (.pointer (some ⟨w.heap.size, 0, none⟩)) ∧ IsDeck w' w.heap.size a n c 0 ∧ Ext w w' := by
  have HH := Lib.hid h; clear h
  go_enter Try.func9, Try.ntmps9
  go_wp2
  go_ret
  refine ⟨rfl, ⟨9, by omega, World.alloc_heap_new w _, HH.out.ext ((Ext.refl w).alloc _), fun b off ha hn => ?_⟩, (Ext.refl w).alloc _⟩
  rcases HH.out.2.2 with h0 | ⟨b', off', ha', hc⟩
  · omega
  · rw [ha] at ha'; cases ha'
    obtain ⟨v, _, hv⟩ := hc 0 hn
    have := lt_of_cell hv
    dsimp only at this
    omega

/-- What was there is as it was, but for block D. -/
def DExt (D : Nat) (w w' : World) : Prop := w.grownBy w' (some D)

theorem DExt.refl (D : Nat) (w : World) : DExt D w w := ⟨rfl, rfl, rfl, Nat.le_refl _, fun _ _ _ => rfl⟩

theorem DExt.trans {D : Nat} {a b c : World} (h : DExt D a b) (k : DExt D b c) : DExt D a c :=
  ⟨k.os.trans h.os, k.tape.trans h.tape, k.output.trans h.output, Nat.le_trans h.size k.size, fun i hi hne => (k.block i (Nat.lt_of_lt_of_le hi h.size) hne).trans (h.block i hi hne)⟩

theorem DExt.ext {D : Nat} {a b c : World} (h : DExt D a b) (k : Ext b c) : DExt D a c := h.trans ⟨Below.os k, Below.tape k, Below.output k, Below.size k, fun i hi _ => Below.block k i hi⟩

theorem DExt.grown {D : Nat} {a b c : World} {row : Option Nat} (h : DExt D a b) (k : b.grownBy c row) (hr : ∀ i, row = some i → a.heap.size ≤ i) : DExt D a c :=
  ⟨k.os.trans h.os, k.tape.trans h.tape, k.output.trans h.output, Nat.le_trans h.size k.size, fun i hi hne => (k.block i (Nat.lt_of_lt_of_le hi h.size) (fun e => by have := hr i e.symm; omega)).trans (h.block i hi hne)⟩

theorem DExt.cell {D : Nat} {w w' : World} (h : DExt D w w') {p : Addr} {v : Value} (hc : w.cell? p = some v) (hne : p.block ≠ D) : w'.cell? p = some v :=
  (World.cell?_of_block (h.block p.block (lt_of_cell hc) (fun e => hne (by cases e; rfl)))).trans hc

theorem IsDeck.lt {w : World} {D : Nat} {a : Option Addr} {n c k : Nat} (h : IsDeck w D a n c k) : D < w.heap.size := by
  obtain ⟨s, _, hh, _⟩ := h; exact (Array.getElem?_eq_some_iff.1 hh).1

theorem IsDeck.ext {w w' : World} {D : Nat} {a : Option Addr} {n c k : Nat} (h : IsDeck w D a n c k) (x : Ext w w') : IsDeck w' D a n c k := by
  obtain ⟨s, hs, hh, hb, hne⟩ := h; exact ⟨s, hs, x.block hh, hb.ext x, hne⟩

/-- A deck is left alone by what grows in other blocks. -/
theorem IsDeck.grown {w w' : World} {D : Nat} {a : Option Addr} {n c k base : Nat} {row : Option Nat} (h : IsDeck w D a n c k) (g : w.grownBy w' row) (hr : ∀ i, row = some i → base ≤ i) (hD : D < base) (hb : ∀ b off, a = some ⟨b, off, none⟩ → 0 < n → b < base) : IsDeck w' D a n c k := by
  obtain ⟨s, hs, hh, ⟨h1, h2, h3⟩, hne⟩ := h
  have hlt := (Array.getElem?_eq_some_iff.1 hh).1
  refine ⟨s, hs, (g.block D hlt (fun e => by have := hr D e.symm; omega)).trans hh, ⟨h1, h2, ?_⟩, hne⟩
  rcases h3 with h3 | ⟨b, off, ha, hc⟩
  · exact .inl h3
  · by_cases hn : n = 0
    · exact .inl hn
    · refine .inr ⟨b, off, ha, fun i hi => ?_⟩
      obtain ⟨v, hv, hcell⟩ := hc i hi
      refine ⟨v, hv, (World.cell?_of_block (a := ⟨b, off + i, none⟩) (g.block b (lt_of_cell hcell) (fun e => ?_))).trans hcell⟩
      have := hr b e.symm; have := hb b off ha (by omega); omega

/-- Some draws. -/
def Dr (w w' : World) : Prop := ∃ n, w' = w.drewN n

theorem Dr.refl (w : World) : Dr w w := ⟨0, rfl⟩

theorem drewN_add (w : World) (n m : Nat) : (w.drewN n).drewN m = w.drewN (n + m) := by
  unfold World.drewN; simp [Nat.add_assoc]

theorem Dr.more {w w' : World} (h : Dr w w') (m : Nat) : Dr w (w'.drewN m) := by
  obtain ⟨n, rfl⟩ := h; exact ⟨n + m, drewN_add _ _ _⟩

theorem Dr.trans {a b c : World} (h : Dr a b) (k : Dr b c) : Dr a c := by
  obtain ⟨m, rfl⟩ := k; exact h.more m

theorem Dr.ext {w w' : World} (h : Dr w w') : Ext w w' := by obtain ⟨n, rfl⟩ := h; exact (Ext.refl w).drewN n

theorem Dr.cell {w w' : World} (h : Dr w w') {a : Addr} {v : Value} (hc : w.cell? a = some v) : w'.cell? a = some v := h.ext.cell hc

set_option maxRecDepth 100000 in
set_option maxHeartbeats 1000000 in
theorem equal_any (a b : SL Nat) (w : World) (ha : IsSl 1 num w a) (hb : IsSl 1 num w b) :
    Calls Try.prog 24 #[.slice a.a a.l.length a.c, .slice b.a b.l.length b.c] w fun e w' => e = .returned (.bool (decide (a.l = b.l))) ∧ Dr w w' := by
  obtain ⟨a1, a2, a3⟩ := ha
  obtain ⟨b1, b2, b3⟩ := hb
  have HA3 := Lib.hid a3; clear a3 a1
  have HB3 := Lib.hid b3; clear b3 b1
  have n1 : (0 : Int) ≤ (a.l.length : Int) := by omega
  have n2 : (a.l.length : Int) ≤ 1000000 := by omega
  go_enter Try.func24, Try.ntmps24
  go_wp2_with fail
  go_loopw [8] (fun i wr => ∃ k : Nat, k ≤ a.l.length ∧ i = .int .i64 (k : Int) ∧ k ≤ b.l.length ∧ Hid (a.l.take k = b.l.take k) ∧ Hid (Dr w wr)) (fun i _ => a.l.length - (intOf i).toNat)
  case atStart => exact ⟨0, Nat.zero_le _, rfl, Nat.zero_le _, rfl, Dr.refl w⟩
  case round =>
    obtain ⟨wo, rfl⟩ : ∃ wo : World, wo = wr := ⟨_, rfl⟩
    obtain ⟨k, hk, rfl, hkb, HT, HD⟩ := hrel
    by_cases hlt : k < a.l.length
    · have dk : decide ((k : Int) < (a.l.length : Int)) = true := decide_eq_true (by omega)
      obtain ⟨ba, oa, haa, hac⟩ := HA3.out.resolve_left (by omega)
      have ca : wo.cell? ⟨ba, oa + k, none⟩ = some (.int .i64 (a.l[k] : Int)) := by have := HD.out.cell (hac k hlt 0 (by omega)); simpa [num] using this
      have k0 : (0 : Int) ≤ k := by omega
      have k1 : (k : Int) < (a.l.length : Int) := by omega
      rw [haa]
      by_cases hltb : k < b.l.length
      · obtain ⟨bb, ob, hbb, hbc⟩ := HB3.out.resolve_left (by omega)
        have cb : wo.cell? ⟨bb, ob + k, none⟩ = some (.int .i64 (b.l[k] : Int)) := by have := HD.out.cell (hbc k hltb 0 (by omega)); simpa [num] using this
        have k2 : (k : Int) < (b.l.length : Int) := by omega
        have d2 : decide ((b.l.length : Int) ≤ (k : Int)) = false := decide_eq_false (by omega)
        have HTs : Hid (a.l[k] = b.l[k] → a.l.take (k + 1) = b.l.take (k + 1)) := fun h => by
          rw [List.take_succ_eq_append_getElem hlt, List.take_succ_eq_append_getElem hltb, HT.out, h]
        have HTn : Hid (a.l[k] ≠ b.l[k] → decide (a.l = b.l) = false) := fun h => by
          rw [decide_eq_false_iff_not]; intro e; apply h; simp [e]
        generalize a.l[k] = x at *
        generalize b.l[k] = y at *
        rw [hbb]
        have HAa := Lib.hid haa; clear haa
        have HBb := Lib.hid hbb; clear hbb hac hbc
        by_cases hxy : x = y
        · have hq : ((x : Int) != (y : Int)) = false := by rw [bne_eq_false_iff_eq]; omega
          have HTt : Hid (a.l.take (k + 1) = b.l.take (k + 1)) := HTs.out hxy
          clear HTs HTn hxy
          go_wp2_with fail
          go_quiet (fail)
          go_wp2
          go_roundw
          case rel => exact ⟨k + 1, by omega, by go_num, by omega, HTt, HD.out.more _⟩
          case measure => simp [intOf]; omega
        · have hq : ((x : Int) != (y : Int)) = true := by rw [bne_iff_ne]; omega
          have HTf : Hid (decide (a.l = b.l) = false) := HTn.out hxy
          clear HTs HTn hxy
          go_wp2_with fail
          go_quiet (fail)
          go_wp2
          go_ret
          exact ⟨by rw [HTf.out]; rfl, HD.out.more _⟩
      · have d2 : decide ((b.l.length : Int) ≤ (k : Int)) = true := decide_eq_true (by omega)
        have d3 : (b.l.length : Int) ≤ (k : Int) := by omega
        have HTf : Hid (decide (a.l = b.l) = false) := by
          show _ = _; rw [decide_eq_false_iff_not]; intro e; have := congrArg List.length e; omega
        generalize a.l[k] = x at *
        clear hac
        have HAa := Lib.hid haa; clear haa
        go_wp2_with fail
        go_quiet (fail)
        go_wp2
        go_ret
        exact ⟨by rw [HTf.out]; rfl, HD.out.more _⟩
    · have hke : k = a.l.length := by omega
      have HKe := Lib.hid hke
      have HTf : Hid (decide (a.l = b.l) = ((a.l.length : Int) == (b.l.length : Int))) := by
        show _ = _
        by_cases e : a.l.length = b.l.length
        · have h1 := HT.out
          rw [hke, List.take_of_length_le (Nat.le_refl _), e, List.take_of_length_le (Nat.le_refl _)] at h1
          rw [decide_eq_true h1]; symm; rw [beq_iff_eq]; omega
        · rw [decide_eq_false (fun h => e (by rw [h]))]; symm; rw [beq_eq_false_iff_ne]; omega
      have dk : decide ((k : Int) < (a.l.length : Int)) = false := decide_eq_false (by omega)
      clear hke
      go_wp2
      go_ret
      exact ⟨by rw [HTf.out]; rfl, HD.out⟩

theorem equal_quiet (x y : SL Nat) (w : World) (hx : IsSl 1 num w x) (hy : IsSl 1 num w y) (n : Nat) :
    Calls Try.prog 24 #[.slice x.a x.l.length x.c, .slice y.a y.l.length y.c] (w.drewN n) fun e w'' => e = .returned (.bool (decide (x.l = y.l))) ∧ ∃ m, w'' = w.drewN m :=
  (equal_any x y _ (hx.ext ((Ext.refl w).drewN n)) (hy.ext ((Ext.refl w).drewN n))).mono fun _ _ ⟨h1, h2⟩ => ⟨h1, by obtain ⟨m, h2⟩ := h2; exact ⟨n + m, by rw [h2, drewN_add]⟩⟩

theorem Row.move {w : World} {g cap o : Nat} {L : List Nat} (h : Row w g L cap) (ns : List Nat) (ho : o + ns.length ≤ L.length) : Row (w.setCells g o (nums ns)) g (L.take o ++ ns ++ L.drop (o + ns.length)) cap := by
  induction ns generalizing w o L with
  | nil => simpa [nums, World.setCells] using h
  | cons x ns ih =>
    rw [List.length_cons] at ho
    have h1 := ih (o := o + 1) (h.set o x (by omega)) (by rw [List.length_set]; omega)
    have e : (L.set o x).take (o + 1) ++ ns ++ (L.set o x).drop (o + 1 + ns.length) = L.take o ++ x :: ns ++ L.drop (o + (x :: ns).length) := by
      rw [List.take_succ_eq_append_getElem (by rw [List.length_set]; omega), List.getElem_set_self, List.take_set_of_le (Nat.le_refl _), List.drop_set_of_lt (by omega), List.length_cons, show o + 1 + ns.length = o + (ns.length + 1) by omega]
      simp
    rw [e] at h1
    exact h1

theorem erase_move (l : List Nat) (i : Nat) (hi : i < l.length) : (l.take i ++ l.drop (i + 1) ++ l.drop (i + (l.drop (i + 1)).length)).take (l.length - 1) = l.eraseIdx i ∧ (l.take i ++ l.drop (i + 1) ++ l.drop (i + (l.drop (i + 1)).length)).length = l.length := by
  have h1 : (l.take i ++ l.drop (i + 1)).length = l.length - 1 := by rw [List.length_append, List.length_take, List.length_drop]; omega
  constructor
  · rw [← h1, List.take_left, List.eraseIdx_eq_take_drop_succ]
  · rw [List.length_append, h1, List.length_drop, List.length_drop]; omega

theorem isNum {w : World} {b c : Nat} {l : List Nat} {T : TypeId} {fr : Nat × Nat} {cells : Array Value} (h : w.heap[b]? = some (.cells cells T fr)) (hc : cells = (nums l).toArray) (hlc : l.length ≤ c) (hl : l.length ≤ 1000000) : IsSl 1 num w ⟨some ⟨b, 0, none⟩, c, l⟩ := by
  subst hc
  refine isSl_of_block h hlc hl (fun i hi j hj => ?_)
  obtain rfl : j = 0 := by omega
  simp [nums, num, hi]

end Go.Proofs.Ytlaolokakaheaaa