/-
  The closed fact of the sums' statements: two bytes.
-/
import Derived.Test.YtmpmaljkmfgagaaSum
namespace Go.Proofs.Ytmpmaljkmfgagaa
open Go.RowKit
open SumM

set_option maxHeartbeats 400000 in
theorem added_any (w : World) :
    Calls Try.prog 17 #[] w fun e w' => e = .returned (.bool true) ∧ Below w.heap.size w w' := by
  go_enter Try.func17, Try.ntmps17
  go_wp2_with fail
  refine (on_in 1 _ 2 2 [2, 3] _ (by omega) (by omega) (two_bs _ _ 2 3 (by simp) (by simp) (by omega) (by omega))).mono ?_
  rintro e w' ⟨rfl, rfl⟩
  rw [show addL 1 [2, 3] = 1026 from rfl]
  go_wp2_with fail
  refine (on_out 65521 none 0 0 _ (by omega)).mono ?_
  rintro e w' ⟨rfl, rfl⟩
  go_wp2_with fail
  refine (of_any _ 2 2 [2, 3] _ (two_bs _ _ 2 3 (by simp) (by simp) (by omega) (by omega))).mono ?_
  rintro e w' ⟨rfl, rfl⟩
  rw [show addL 1 [2, 3] = 1026 from rfl]
  go_wp2_with fail
  refine (of_any none 0 0 [] _ (BS.nil_ _)).mono ?_
  rintro e w' ⟨rfl, rfl⟩
  rw [show addL 1 [] = 1 from rfl]
  go_wp2_with fail
  go_ret
  exact ⟨rfl, ((Below.refl _ _).alloc (Nat.le_refl _) _).alloc (by simp) _⟩
end Go.Proofs.Ytmpmaljkmfgagaa
