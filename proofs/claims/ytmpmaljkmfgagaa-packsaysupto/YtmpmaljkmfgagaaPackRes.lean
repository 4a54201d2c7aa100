/-
  What packing and unpacking return, in words that serve the reference and the program alike.
-/
import Derived.Test.YtmpmaljkmfgagaaCutB
import Derived.Test.YtmpmaljkmfgagaaPackMath
namespace Go.Proofs.Ytmpmaljkmfgagaa
open Go.RowKit

theorem ret_run {a b : Int} (h : a = b) : Ending.returned (.int .i64 a) = .returned (.int .i64 b) := by rw [h]

/-- a call that returns l packed -/
def GivesPk (l : List Int) (w : World) (e : Ending) (w' : World) : Prop :=
  ∃ (o : List Int) (a : Option Addr) (n c : Nat), PackM.Packs l o ∧ e = .returned (.slice a n c) ∧ BS w' a n c o ∧ Below w.heap.size w w'

/-- a call that returns what unpacking l to so many gives -/
def GivesU (most : Int) (l : List Int) (w : World) (e : Ending) (w' : World) : Prop :=
  ∃ (r : List Int × Int) (a : Option Addr) (n c : Nat), PackM.Unp most l [] r ∧ e = .returned (.tuple #[.slice a n c, .int .i64 r.2]) ∧ BS w' a n c r.1 ∧ Below w.heap.size w w'
def lenV : Value → Nat
  | .slice _ n _ => n
  | _ => 0
end Go.Proofs.Ytmpmaljkmfgagaa
