/-
  The steps from the one image of the closed facts to the other one.
-/
import Derived.Test.YtmpmaljkmfgagaaStepsL
import Derived.Test.YtmpmaljkmfgagaaDiffSt
namespace Go.Proofs.Ytmpmaljkmfgagaa
open Go.RowKit

theorem dif_three : DeltaM.Dif [97, 98, 99, 100, 101, 102, 103, 104] [120, 101, 102, 103, 104, 97, 98, 99, 100] [] stepsL := by
  have h1 : MatchM.Best [97, 98, 99, 100, 101, 102, 103, 104] [120, 101, 102, 103, 104, 97, 98, 99, 100] 0 0 := (show MatchM.Upto _ _ 8 0 0 from ⟨by decide, by decide, by decide, by decide⟩).best
  have h2 : MatchM.Best [97, 98, 99, 100, 101, 102, 103, 104] [101, 102, 103, 104, 97, 98, 99, 100] 4 4 := (show MatchM.Upto _ _ 8 4 4 from ⟨by decide, by decide, by decide, by decide⟩).best
  have h3 : MatchM.Best [97, 98, 99, 100, 101, 102, 103, 104] [97, 98, 99, 100] 0 4 := (show MatchM.Upto _ _ 8 0 4 from ⟨by decide, by decide, by decide, by decide⟩).best
  have e3 := DeltaM.Dif.copy _ [] 0 4 _ h3 (by decide) (.done [])
  have e2 := DeltaM.Dif.copy _ [120] 4 4 _ h2 (by decide) e3
  exact .lit 120 _ [] 0 0 _ h1 (by decide) e2
end Go.Proofs.Ytmpmaljkmfgagaa
