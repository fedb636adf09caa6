/-
  Words that the other texts of this claim use: a world that extends another one (what was there is as it was), function values that answer a question. Nothing is claimed of the program here.
-/
import Derived.WalkKit
import Derived.Below
import Derived.Lib.Hide
import Derived.Deep.QuietTactic
import Derived.BigQuiet
import Derived.RangeFuncNested
import Derived.RangeFuncCalls
namespace Go.Proofs.YtopjjcgmcieboaaGreatDoor
open Go.RowKit

/-- What was there is as it was. -/
def Ext (w w' : World) : Prop := Below w.heap.size w w'

theorem Ext.refl (w : World) : Ext w w := Below.refl _ _
theorem Ext.trans {a b c : World} (h : Ext a b) (k : Ext b c) : Ext a c := Below.trans h (Below.mono k h.size)
theorem Ext.drew {a w : World} (h : Ext a w) : Ext a w.drew := Below.drew h
theorem Ext.alloc {a w : World} (h : Ext a w) (o : Obj) : Ext a (w.alloc o) := Below.alloc h h.size o
theorem Ext.size {a w : World} (h : Ext a w) : a.heap.size ≤ w.heap.size := Below.size h
theorem Ext.setCell {a w : World} (h : Ext a w) {p : Addr} (hp : a.heap.size ≤ p.block) (u : Value) : Ext a (w.setCell p u) := Below.setCell h hp u
theorem Ext.below {a w : World} (h : Ext a w) : Below a.heap.size a w := h
theorem Ext.of {a w : World} (h : Below a.heap.size a w) : Ext a w := h

theorem lt_of_cell {w : World} {p : Addr} {v : Value} (h : w.cell? p = some v) : p.block < w.heap.size := by
  unfold World.cell? at h
  cases ho : w.heap[p.block]? with
  | none => simp [ho] at h
  | some o => exact (Array.getElem?_eq_some_iff.1 ho).1

theorem Ext.cell {w w' : World} (h : Ext w w') {p : Addr} {v : Value} (hc : w.cell? p = some v) : w'.cell? p = some v :=
  (Below.cell h (lt_of_cell hc)).trans hc
theorem Ext.block {w w' : World} (h : Ext w w') {b : Nat} {o : Obj} (hb : w.heap[b]? = some o) : w'.heap[b]? = some o :=
  (Below.block h b (Array.getElem?_eq_some_iff.1 hb).1).trans hb

/-- The function value with number g and captured values cap answers p where D holds, in each world that extends w. -/
def Asks {α : Type} (P : Program) (g : Nat) (cap : Array Value) (enc : α → Array Value) (D : α → Prop) (p : α → Bool) (w : World) : Prop :=
  ∀ (x : α), D x → ∀ (w' : World), Ext w w' → Calls P g (enc x ++ cap) w' fun e w'' => e = .returned (.bool (p x)) ∧ Ext w' w''

theorem Asks.ext {α : Type} {P : Program} {g : Nat} {cap : Array Value} {enc : α → Array Value} {D : α → Prop} {p : α → Bool} {w w' : World} (h : Asks P g cap enc D p w) (k : Ext w w') : Asks P g cap enc D p w' :=
  fun x hx w'' k' => h x hx w'' (k.trans k')

/-- The function with number g is there to be entered. -/
def Enters (P : Program) (g : Nat) : Prop := ∀ args w, (callFunc g args).run P w = .ok (.enter g args) w

/-- A slice: where it lies, its capacity, and the list that it reads as. -/
structure SL (α : Type) where
  a : Option Addr
  c : Nat
  l : List α
/-- The slice as a value. -/
abbrev SL.v {α : Type} (s : SL α) : Value := .slice s.a s.l.length s.c

/-- The slice s reads as its list in the world w, each of whose elements has sz cells. -/
def IsSl {α : Type} (sz : Nat) (cs : α → Nat → Value) (w : World) (s : SL α) : Prop :=
  s.l.length ≤ s.c ∧ s.l.length ≤ 1000000 ∧
    (s.l.length = 0 ∨ ∃ b off, s.a = some ⟨b, off, none⟩ ∧ ∀ i (h : i < s.l.length) j, j < sz → w.cell? ⟨b, off + i * sz + j, none⟩ = some (cs s.l[i] j))

theorem IsSl.ext {α : Type} {sz : Nat} {cs : α → Nat → Value} {w w' : World} {s : SL α} (h : IsSl sz cs w s) (k : Ext w w') : IsSl sz cs w' s := by
  obtain ⟨h1, h2, h3⟩ := h
  refine ⟨h1, h2, ?_⟩
  rcases h3 with h3 | ⟨b, off, ha, hc⟩
  · exact .inl h3
  · exact .inr ⟨b, off, ha, fun i hi j hj => k.cell (hc i hi j hj)⟩

/-- How a number lies in a cell. -/
def num (n : Nat) (_ : Nat) : Value := .int .i64 (n : Int)
/-- How a way lies in cells. -/
def wayC (x : Nat × Nat × Nat) (j : Nat) : Value := if j = 0 then .int .i64 (x.1 : Int) else if j = 1 then .int .i64 (x.2.1 : Int) else .int .i64 (x.2.2 : Int)
/-- A way as a value. -/
abbrev wayV (x : Nat × Nat × Nat) : Value := .agg #[.int .i64 (x.1 : Int), .int .i64 (x.2.1 : Int), .int .i64 (x.2.2 : Int)]
/-- How a leg lies in cells. -/
def legC (x : Nat × Int) (j : Nat) : Value := if j = 0 then .int .i64 (x.1 : Int) else .int .i64 x.2
abbrev legV (x : Nat × Int) : Value := .agg #[.int .i64 (x.1 : Int), .int .i64 x.2]
/-- A meaning: its kinds and its ends. -/
structure MV where
  k : SL Nat
  e : SL Nat
def meanC (x : MV) (j : Nat) : Value := if j = 0 then x.k.v else x.e.v
abbrev meanV (x : MV) : Value := .agg #[.slice x.k.a x.k.l.length x.k.c, .slice x.e.a x.e.l.length x.e.c]
/-- How a slice lies in a cell. -/
def slC {α : Type} (x : SL α) (_ : Nat) : Value := x.v

theorem all_take_succ {α : Type} (p : α → Bool) (l : List α) (k : Nat) (h : k < l.length) : (l.take (k + 1)).all p = ((l.take k).all p && p l[k]) := by
  rw [List.take_succ_eq_append_getElem h]; simp only [List.all_append, List.all_cons, List.all_nil, Bool.and_true]

end Go.Proofs.YtopjjcgmcieboaaGreatDoor
