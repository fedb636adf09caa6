/-
  What the mathematics of the calls gives at the treaty of example 1.
-/
import Derived.Test.YtopjjcgmcieboaaGreatDoorJb
import Derived.Test.YtopjjcgmcieboaaGreatDoorIe
import Derived.Test.YtopjjcgmcieboaaGreatDoorIh
import Derived.Test.YtopjjcgmcieboaaGreatDoorIi
import Derived.Test.YtopjjcgmcieboaaGreatDoorIj
import Derived.Test.YtopjjcgmcieboaaGreatDoorIm
import Derived.Test.YtopjjcgmcieboaaGreatDoorDa
namespace Go.Proofs.YtopjjcgmcieboaaGreatDoor
open Go.RowKit

theorem ev_cnt (n : Nat) (o : Int) : cntR (fourG n o) = [2, 1] := by kernel_rfl
theorem ev_lines00 (n : Nat) : linesR (fourG n (-1)) (leadsOf (fourG n (-1)) [0, 0]) = [[0, 1, 3], [0, 2, 3]] := by kernel_rfl
theorem ev_lines10 (n : Nat) : linesR (fourG n (-1)) (leadsOf (fourG n (-1)) [1, 0]) = [] := by kernel_rfl
theorem ev_readings (n : Nat) : (allR (cntR (fourG n (-1)))).filter (fun r => hasB (fourG n (-1)) (leadsOf (fourG n (-1)) r)) = [[0, 0]] := by kernel_rfl
theorem ev_ends (n : Nat) : endsR (fourG n (-1)) = [[0], [1, 2], [3]] := by kernel_rfl
theorem ev_met (n : Nat) : metR (fourG n (-1)) (allR (cntR (fourG n (-1)))) 0 0 = true := by kernel_rfl
theorem ev_agrees (n : Nat) : (allR (cntR (fourG n (-1)))).find? (agB (fourG n (-1)) [0, 1, 3]) = some [0, 0] := by kernel_rfl
theorem ev_breaks (n : Nat) : brkTo (leadsOf (fourG n (-1)) [1, 0]) [0, 1, 3] 2 = [0] := by kernel_rfl
theorem ev_yield (n : Nat) : yieldL (leadsOf (fourG n (-1)) [1, 0]) 4 [0] 2 = [0] := by kernel_rfl
theorem ev_best (n : Nat) : bestR (fourG n 1) (allR (cntR (fourG n 1))) = ([0, 0], 1) := by kernel_rfl
end Go.Proofs.YtopjjcgmcieboaaGreatDoor
