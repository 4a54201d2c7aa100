/-
  What compose.Of and the reference's Composed return.
-/
import Derived.Test.YtmpmaljkmfgagaaDeltaRes
import Derived.Test.YtmpmaljkmfgagaaCompMath2
namespace Go.Proofs.Ytmpmaljkmfgagaa
open Go.RowKit

/-- what Composed returns -/
def GivesC (first second : List OpR) (old mid s : Int) (w : World) (e : Ending) (w' : World) : Prop :=
  ∃ a n c, e = .returned (.tuple #[.slice a n c, .int .i64 (CompM.composed first second old mid s).2]) ∧ OS w' a n c (CompM.composed first second old mid s).1 ∧ Below w.heap.size w w'
end Go.Proofs.Ytmpmaljkmfgagaa
