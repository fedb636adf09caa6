/-
  The chapter's examples, by the model. Nothing is claimed of the program here.
-/
import Derived.Test.YtlaolokakaheaaaBQ
namespace Go.Proofs.Ytlaolokakaheaaa

/-- The land of the chapter's first example. -/
def threeL : List St := [⟨0, 10, 30, -1⟩, ⟨1, 40, 20, -1⟩, ⟨1, 20, 20, -1⟩]
def threeW : List St := [⟨0, 10, 30, 0⟩, ⟨1, 40, 20, -1⟩, ⟨1, 20, 20, -1⟩]
theorem ex_order : orderF threeL = [1, 2, 0] := by decide
theorem ex_even : byOrderF threeL true 0 = some (3, [0, 2, 0]) := by decide
theorem ex_most1 : byOrderF threeL false 30 = some (1, [0, 1, 0]) := by decide
theorem ex_most2 : byOrderF threeL false 40 = some (2, [0, 2, 1]) := by decide
theorem ex_most3 : byOrderF threeL false 61 = none := by decide
theorem ex_even2 : byOrderF threeW true 0 = some (1, [1, 0, 0]) := by decide
theorem ex_waste : wasteF threeL 1 [1, 0, 0] = some (1, 0) := by decide
theorem ex_has : hasN threeL [0, 1, 0] = 40 ∧ hasS threeL 1 [0, 1, 0] = 50 ∧ hasN threeL (nowP threeL) = 10 ∧ hasS threeL 1 (nowP threeL) = 40 := by decide
theorem ex_holds : holdsF threeL 1 [0, 1, 0] 1 1 = true := by decide
end Go.Proofs.Ytlaolokakaheaaa
