/-
  A region that draws its order, whose operations read, and whose callees leave what was there as it was, though they may make memory: one walk. Nothing is claimed of the program here.
-/
import Derived.Test.YtlaolokakaheaaaL
namespace Go.Proofs.Ytlaolokakaheaaa
open Go.RowKit

/-- No fewer questions were drawn. -/
def Dw (w w' : World) : Prop := w.drawn ≤ w'.drawn
theorem Dw.refl (w : World) : Dw w w := Nat.le_refl _
theorem Dw.trans {a b c : World} (h : Dw a b) (k : Dw b c) : Dw a c := Nat.le_trans h k
theorem Dw.drewN {a b : World} (h : Dw a b) (n : Nat) : Dw a (b.drewN n) := Nat.le_trans h (Nat.le_add_right _ _)
/-- A world that extends another one. -/
structure XW (V : World) where
  w : World
  x : Ext V w
  d : Dw V w
instance XW.nonempty {V : World} : Nonempty (XW V) := ⟨⟨V, Ext.refl V, Dw.refl V⟩⟩
theorem XW.cell {V : World} (E : XW V) {p : Addr} {v : Value} (h : V.cell? p = some v) : E.w.cell? p = some v := E.x.cell h
section
variable {P : Program} {n r : Nat}
theorem region_quietX {id : Nat} {Q : Exit → Act → World → Prop} {a : Act} {w : World} {l : List Oper} (hm : P.follows .mixedOrders = true) (hB : Region.lexB .any l.toArray = true)
    (h : wpQuiet P l.toArray (fun w' => ∃ E : XW w, w' = E.w) (fun a' => ∀ w', (∃ E : XW w, w' = E.w) → Q .normal a' w') l a) : (Code.region id l.toArray true).wp P Q a w :=
  wp_region_quiet (C := fun w' => ∃ E : XW w, w' = E.w) hm hB ⟨⟨_, (Ext.refl w).drew, Nat.le_succ _⟩, rfl⟩ (by simpa using h)
theorem round_quietX {id : Nat} {Q : Exit → Act → World → Prop} {a : Act} {w : World} {l : List Oper} (hm : P.follows .mixedOrders = true) (hB : Region.lexB .any l.toArray = true) (hn : l.all noDefer = true)
    (h : wpQuiet P l.toArray (fun w' => ∃ E : XW w, w' = E.w) (fun a' => ∀ w', (∃ E : XW w, w' = E.w) → Q .normal a' w') l a) : (Code.region id l.toArray true).wpIn (Fence.wide.inRound r) n P Q a w := by
  simp only [Region.lexB, Bool.and_eq_true] at hB
  refine wpIn_region_any hm (round_any (Q := fun a' => ∀ w', (∃ E : XW w, w' = E.w) → Q .normal a' w') (C := fun w' => ∃ E : XW w, w' = E.w) (fun i o ho => ?_) (fun _ w' hw' h => h w' hw') _ _ _ _ ⟨⟨_, (Ext.refl w).drew, Nat.le_succ _⟩, rfl⟩ ?_)
  · rw [List.getElem?_toArray] at ho
    exact List.all_eq_true.1 hn o (List.mem_of_getElem? ho)
  · have := wpAnyQ_lex (C := fun w' => ∃ E : XW w, w' = E.w) (md := .any) hB.1 l 0 (Array.replicate l.toArray.size false) a (by simp) (by simpa using hB.2) h
    simpa using this
/-- A callee's contract. -/
theorem Calls.quietX {V : World} {f : FuncId} {args : Array Value} {E : XW V} {v : Value} (h : Calls P f args E.w fun e w' => e = .returned v ∧ Ext E.w w' ∧ Dw E.w w') : Calls P f args E.w fun e w'' => e = .returned v ∧ ∃ E' : XW V, w'' = E'.w :=
  h.mono fun _ w' ⟨he, hx, hd⟩ => ⟨he, ⟨w', E.x.trans hx, E.d.trans hd⟩, rfl⟩
end
end Go.Proofs.Ytlaolokakaheaaa
