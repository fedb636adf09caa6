/-
  Numbers by numbers, kept in a map that a call makes: what a look-up gives, and what a store leaves. Nothing is claimed of the program here.
-/
import Derived.Maps.OwnIn
import Derived.Maps.OwnSet
import Derived.Maps.Views
import Derived.Test.YtlaolokakaheaaaG
namespace Go.Proofs.Ytlaolokakaheaaa
open Go.Maps Go.RowKit Go.WideMaps

theorem mapLaw : Keyed Try.prog 3 := int_keyed (q := .i64) (by kernel_rfl)
theorem und3 : Try.prog.underlying 3 = some (.int .i64) := by kernel_rfl
theorem und102 : Try.prog.underlying 102 = some (.map 3 3) := by kernel_rfl
theorem keyN (x : Nat) (h : x ≤ 1000000) : keyOf Try.prog 3 (.int .i64 (x : Int)) = some (.int .i64 (x : Int)) := keyOf_int_mk und3 (WalkArith.wf_i64 (by omega))

/-- Block b is a map that reads as N. -/
def MapN (w : World) (b : Nat) (N : Nat → Option Nat) (k : Nat) : Prop :=
  ∃ D : DataW Unit, w.ownsMap (H := Unit) Try.prog 3 (plainElem Try.prog 3) b k D ∧ ∀ x : Nat, x ≤ 1000000 → Maps.has D (.int .i64 (x : Int)) = (N x).isSome ∧ D.atKey (.int .i64 (x : Int)) (.lit (.int .i64 0)) = .lit (.int .i64 ((N x).getD 0 : Nat))
theorem MapN.made (w : World) : MapN (w.alloc (.map #[] 0)) w.heap.size (fun _ => none) 0 :=
  ⟨_, World.ownsMap_made _ _ _ _, fun _ _ => ⟨rfl, rfl⟩⟩
theorem MapN.lt {w : World} {b k : Nat} {N : Nat → Option Nat} (h : MapN w b N k) : b < w.heap.size := by obtain ⟨D, h, _⟩ := h; exact World.ownsMap.lt h
theorem MapN.heap {w w' : World} {b k : Nat} {N : Nat → Option Nat} (h : MapN w b N k) (hb : w'.heap[b]? = w.heap[b]?) : MapN w' b N k := by
  obtain ⟨D, ⟨es, clock, h1, h2⟩, h3⟩ := h
  exact ⟨D, ⟨es, clock, hb.trans h1, h2⟩, h3⟩
theorem MapN.keep {D : Nat → Prop} {w w' : World} {b k : Nat} {N : Nat → Option Nat} (h : MapN w b N k) (q : Keep D w w') (hd : D b) : MapN w' b N k := h.heap (q.block b h.lt hd)
theorem MapN.ext {w w' : World} {b k : Nat} {N : Nat → Option Nat} (h : MapN w b N k) (q : Ext w w') : MapN w' b N k := h.heap (Below.block q b h.lt)
theorem MapN.notCells {w : World} {b k : Nat} {N : Nat → Option Nat} (h : MapN w b N k) : ∃ es c, w.heap[b]? = some (.map es c) := by
  obtain ⟨D, ⟨es, clock, h1, h2⟩, h3⟩ := h; exact ⟨es, clock, h1⟩
theorem zero3 (w : World) : (zeroValue 3).run Try.prog w = .ok (.int .i64 0) w := zeroValue3 w
theorem lit_inj {a b : Int} (h : (DataW.lit (H := Unit) (.int .i64 a)) = .lit (.int .i64 b)) : a = b := by cases h; rfl
theorem MapN.look {w : World} {b k : Nat} {N : Nat → Option Nat} (h : MapN w b N k) (x : Nat) (hx : x ≤ 1000000) : (Instr.lookup 102 (.map (some b)) (.int .i64 (x : Int)) false).run Try.prog w = .ok (.int .i64 ((N x).getD 0 : Nat)) w := by
  obtain ⟨D, h1, h2⟩ := h
  obtain ⟨c, hrun, hat, _⟩ := h1.lookup_int mapLaw und102 und3 (zero3 w) (keyN x hx)
  rw [(h2 x hx).2] at hat
  rw [hrun, ← lit_inj hat]
theorem MapN.lookOk {w : World} {b k : Nat} {N : Nat → Option Nat} (h : MapN w b N k) (x : Nat) (hx : x ≤ 1000000) : (Instr.lookup 102 (.map (some b)) (.int .i64 (x : Int)) true).run Try.prog w = .ok (.tuple #[.int .i64 ((N x).getD 0 : Nat), .bool (N x).isSome]) w := by
  obtain ⟨D, h1, h2⟩ := h
  obtain ⟨v, ps, hrun, hv⟩ := h1.look_ok mapLaw und102 (zero3 w) (plainElem_int und3 (by decide)) (keyN x hx)
  obtain ⟨c, rfl, hc, hwc⟩ := plainElem_int_inv und3 hv
  have hat := congrArg Prod.fst hc
  simp only at hat
  rw [(h2 x hx).2] at hat
  rw [hrun, ← lit_inj hat, (h2 x hx).1]
/-- A number put at a key. -/
def putN (N : Nat → Option Nat) (x m : Nat) : Nat → Option Nat := fun y => if y = x then some m else N y
theorem MapN.update {w : World} {b k : Nat} {N : Nat → Option Nat} (h : MapN w b N k) (x m : Nat) (hx : x ≤ 1000000) (hm : m ≤ 1000000) (hk : k < 1000000) :
    ∃ w', (Instr.mapUpdate 102 (.map (some b)) (.int .i64 (x : Int)) (.int .i64 (m : Int))).run Try.prog w = .ok () w' ∧ MapN w' b (putN N x m) (k + 1) ∧ w.grownBy w' (some b) := by
  obtain ⟨D, h1, h2⟩ := h
  obtain ⟨w', hrun, h3, h4⟩ := h1.update mapLaw und102 (by unfold maxLen; omega) (keyN x hx) (plainElem_int und3 (WalkArith.wf_i64 (show (-9223372036854775808 : Int) ≤ (m : Int) ∧ (m : Int) ≤ 9223372036854775807 by omega)))
  refine ⟨w', hrun, ⟨_, h3, fun y hy => ?_⟩, h4⟩
  have hM := h1.isMap
  by_cases e : y = x
  · subst e
    rw [has_put_same hM (show WideAt.IsKeyLit (Lit.int .i64 (y : Int)) from trivial), atKey_put_same hM (show WideAt.IsKeyLit (Lit.int .i64 (y : Int)) from trivial)]
    simp [putN]
  · have hne : (Lit.int .i64 (y : Int)) ≠ .int .i64 (x : Int) := fun h => e (by cases h; rfl)
    rw [has_put_other hne, atKey_put_other hne, (h2 y hy).1, (h2 y hy).2]
    simp [putN, e]
end Go.Proofs.Ytlaolokakaheaaa
