/-
  The closed fact on records: one is written, torn, started, confirmed.
-/
import Derived.Test.YtmpmaljkmfgagacLawSt
import Derived.Test.YtmpmaljkmfgagacRecWr
import Derived.Test.YtmpmaljkmfgagacRecStart
import Derived.Test.YtmpmaljkmfgagacRecConf
namespace Go.Proofs.Ytmpmaljkmfgagac
open Go.RowKit

namespace Kept
def f1 : RecR := ⟨1, 0, false, 0, 1, ⟨1, 3, 9⟩, ⟨0, 0, 0⟩⟩
def r0 : RecR := ⟨1, 0, true, 1, 1, ⟨1, 3, 9⟩, ⟨2, 0, 0⟩⟩
def l0 : CopsR := ⟨⟨true, f1⟩, RecM.noCop⟩
def x1 : RecR := ⟨2, 0, true, 1, 1, ⟨1, 3, 9⟩, ⟨2, 0, 0⟩⟩
def m1 : CopsR := ⟨⟨true, f1⟩, ⟨true, x1⟩⟩
def z1 : RecR := ⟨2, 0, true, 0, 1, ⟨1, 3, 9⟩, ⟨2, 0, 0⟩⟩
def t1 : RecR := ⟨2, 0, false, 0, 1, ⟨1, 3, 9⟩, ⟨2, 0, 0⟩⟩
def c1 : RecR := ⟨2, 1, false, 0, 2, ⟨1, 3, 9⟩, ⟨2, 0, 0⟩⟩
theorem w0 : RecM.writeOf l0 r0 false = (m1, 0) := by decide
theorem w1 : RecM.writeOf l0 r0 true = (l0, 0) := by decide
theorem rd0 : RecM.readOf m1 = (x1, 1, 0) := by decide
theorem rd1 : RecM.readOf l0 = (f1, 0, 0) := by decide
theorem s0 : RecM.startOf x1 = (1, z1, 0) := by decide
theorem s1 : RecM.startOf z1 = (0, t1, 0) := by decide
theorem cf : RecM.confOf x1 = (c1, 0) := by decide
theorem ck : RecM.check c1 = 0 := by decide
theorem cp : RecM.copies RecM.noCops = 7 := by decide
end Kept

set_option maxRecDepth 100000 in
theorem first_any (w : World) : Calls Try.prog 21 #[] w fun e w' => e = .returned (.agg #[.int .i64 1, .int .i64 0, .bool false, .int .i64 0, .int .i64 1, .int .i64 1, .int .i64 3, .int .i64 9, .int .i64 0, .int .i64 0, .int .i64 0]) ∧ Below w.heap.size w w' := by
  have HB := Lib.hid ((Below.refl w.heap.size w).alloc (Nat.le_refl _) (.cells #[.int .i64 1, .int .i64 0, .bool false, .int .i64 0, .int .i64 1, .int .i64 1, .int .i64 3, .int .i64 9, .int .i64 0, .int .i64 0, .int .i64 0] 26))
  go_enter Try.func21, Try.ntmps21
  go_wp2_with fail
  refine bodyPost_ret (v := .agg #[.int .i64 1, .int .i64 0, .bool false, .int .i64 0, .int .i64 1, .int .i64 1, .int .i64 3, .int .i64 9, .int .i64 0, .int .i64 0, .int .i64 0]) ?_ rfl ⟨rfl, HB.out⟩
  exact results_cell_row (fn := Try.f21) (p := 0) rfl _ _ w.heap.size 26 _ (0, 0) _ rfl (by rw [heap_at, if_pos rfl]) Try.underlying26 rfl (by kernel_rfl)
theorem built_cop0 : Try.prog.built 28 [(0, .bool true), (1, .agg #[.int .i64 1, .int .i64 0, .bool false, .int .i64 0, .int .i64 1, .int .i64 1, .int .i64 3, .int .i64 9, .int .i64 0, .int .i64 0, .int .i64 0])] = some (copCells ⟨true, Kept.f1⟩) := by kernel_rfl
theorem built_l0 : Try.prog.built 29 [(0, .agg (copCells ⟨true, Kept.f1⟩))] = some (copsCells Kept.l0) := by kernel_rfl
end Go.Proofs.Ytmpmaljkmfgagac
