/-
  Plain data: the patch of the closed facts.
-/
import Derived.Test.YtmpmaljkmfgagabPutMath
import Derived.Test.YtmpmaljkmfgagabDifThree
namespace Go.Proofs.Ytmpmaljkmfgagab
open Go.RowKit

/-- the patch of the closed facts -/
def patL : PatR := ⟨1, 2, 33012, 46707, 9, stepsL⟩
theorem patL_check : PatM.check patL = 0 := by decide
theorem patL_made : madeOf 1 2 [97, 98, 99, 100, 101, 102, 103, 104] [120, 101, 102, 103, 104, 97, 98, 99, 100] stepsL 0 = (patL, 0) := by decide
theorem patL_put : PatM.putL patL = [1, 2, 128, 244, 182, 115, 9, 3, 255, 1, 120, 4, 4, 0, 4] := by decide
theorem patL_done : doneOf patL [97, 98, 99, 100, 101, 102, 103, 104] = ([120, 101, 102, 103, 104, 97, 98, 99, 100], 0) := by decide
theorem patL_other : doneOf patL [97, 98, 99, 100, 101, 102, 103, 105] = ([], 6) := by decide

end Go.Proofs.Ytmpmaljkmfgagab
