/-
  Two lists of chunks, held against each other one by one.
-/
import Derived.Test.YtmpmaljkmfgagabRowToOpenN
import Derived.Test.YtmpmaljkmfgagabEqBytesToEqAny
namespace Go.Proofs.Ytmpmaljkmfgagab
open Go.RowKit

/-- the rounds -/
def SameRelC (x y : List ChR) (w : World) (i : Value) (wr : World) : Prop :=
  ∃ k : Nat, i = .int .i64 k ∧ k ≤ x.length ∧ x.take k = y.take k ∧ Below w.heap.size w wr
theorem take_moreC {x y : List ChR} {k : Nat} (h : x.take k = y.take k) (hx : k < x.length) (hy : k < y.length) (he : x.getD k default = y.getD k default) : x.take (k + 1) = y.take (k + 1) := by
  rw [List.take_add_one, List.take_add_one, h]
  simp only [List.getD_eq_getElem?_getD, List.getElem?_eq_getElem hx, List.getElem?_eq_getElem hy, Option.getD_some] at he
  simp [List.getElem?_eq_getElem hx, List.getElem?_eq_getElem hy, he]
theorem ne_of_atC {x y : List ChR} {k : Nat} (h : x.getD k default ≠ y.getD k default) : decide (x = y) = false := by
  rw [decide_eq_false]
  rintro rfl
  exact h rfl
end Go.Proofs.Ytmpmaljkmfgagab
