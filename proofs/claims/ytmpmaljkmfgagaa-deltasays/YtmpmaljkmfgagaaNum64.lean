/-
  Numbers that an int can be.
-/
import Derived.Test.YtmpmaljkmfgagaaRow
namespace Go.Proofs.Ytmpmaljkmfgagaa
open Go.RowKit

/-- numbers that an int can be -/
def I64 (x : Int) : Prop := -9223372036854775808 ≤ x ∧ x ≤ 9223372036854775807
theorem I64.of_wf {x : Int} (h : (Lit.int .i64 x).wf = true) : I64 x := by
  have h1 : IntKind.i64.min = -9223372036854775808 := rfl
  have h2 : IntKind.i64.max = 9223372036854775807 := rfl
  simp only [Lit.wf, Bool.and_eq_true, decide_eq_true_eq] at h
  unfold I64
  omega
end Go.Proofs.Ytmpmaljkmfgagaa
