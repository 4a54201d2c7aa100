/-
  The closed fact of the compositions' statements: two lists of steps.
-/
import Derived.Test.YtmpmaljkmfgagaaCompose
import Derived.Test.YtmpmaljkmfgagaaDeltaSame
import Derived.Test.YtmpmaljkmfgagaaSteps
namespace Go.Proofs.Ytmpmaljkmfgagaa
open Go.RowKit

def secondL : List OpR := [⟨3, 4, []⟩, ⟨0, 0, [121]⟩, ⟨0, 2, []⟩]
def joinedL : List OpR := [⟨6, 2, []⟩, ⟨0, 2, []⟩, ⟨0, 0, [121, 120]⟩, ⟨4, 1, []⟩]
theorem composed_two : CompM.composed stepsL secondL 8 9 7 = (joinedL, 0) := by
  have h1 : DeltaM.check stepsL 8 9 = 0 := by simp [DeltaM.check, DeltaM.chk, DeltaM.badForm, DeltaM.badRange, DeltaM.size, stepsL]
  have h2 : DeltaM.check secondL 9 7 = 0 := by simp [DeltaM.check, DeltaM.chk, DeltaM.badForm, DeltaM.badRange, DeltaM.size, secondL]
  have hj : CompM.joined stepsL secondL = joinedL := by decide
  have h3 : DeltaM.check (CompM.joined stepsL secondL) 8 7 = 0 := by rw [hj]; simp [DeltaM.check, DeltaM.chk, DeltaM.badForm, DeltaM.badRange, DeltaM.size, joinedL]
  rw [CompM.composed_0 h1 h2 h3, hj]

set_option maxRecDepth 100000 in
set_option maxHeartbeats 1000000 in
theorem composedFact_any (w : World) :
    Calls Try.prog 47 #[] w fun e w' => e = .returned (.bool true) ∧ Below w.heap.size w w' := by
  have kc := fun (w : World) (C : Array Value) (n c : Nat) => Lib.run_convert_bytes_const (P := Try.prog) w 27 5 C n c Try.underlying27 Try.underlying5
  go_enter Try.func47, Try.ntmps47
  go_wp2_with fail
  refine (steps_any _).mono ?_
  rintro e W1 ⟨a1, rfl, os1, b1⟩
  have l1 := lit_bs_marked W1 [121] 1 (1, 2) rfl (by omega) (by decide)
  have c1 : Below W1.heap.size W1 (W1.alloc (.cells (([121] : List Int).map (Value.int .u8)).toArray 5 (1, 2))) := (Below.refl _ _).alloc (Nat.le_refl _) _
  have sz : (W1.alloc (.cells (([121] : List Int).map (Value.int .u8)).toArray 5 (1, 2))).heap.size = W1.heap.size + 1 := by simp
  have l2 := lit_os (W1.alloc (.cells (([121] : List Int).map (Value.int .u8)).toArray 5 (1, 2))) [⟨3, 4, .slice none 0 0⟩, ⟨0, 0, .slice (some ⟨W1.heap.size, 0, none⟩) 1 1⟩, ⟨0, 2, .slice none 0 0⟩] secondL 3 rfl rfl (by omega) (by
    intro i hi
    rcases (show i = 0 ∨ i = 1 ∨ i = 2 by omega) with rfl | rfl | rfl
    · exact ⟨_, _, _, rfl, BS.nil_ _, by unfold I64; decide, by unfold I64; decide⟩
    · exact ⟨_, _, _, rfl, l1, by unfold I64; decide, by unfold I64; decide⟩
    · exact ⟨_, _, _, rfl, BS.nil_ _, by unfold I64; decide, by unfold I64; decide⟩)
  rw [sz] at l2
  have c2 := c1.alloc c1.size (.cells (cellsV [⟨3, 4, .slice none 0 0⟩, ⟨0, 0, .slice (some ⟨W1.heap.size, 0, none⟩) 1 1⟩, ⟨0, 2, .slice none 0 0⟩]).toArray 56)
  replace os1 := os1.later c2
  have b2 := below_then b1 c2
  clear l1 c1 sz c2 b1
  go_wp2_with fail
  refine (compose_any a1 3 3 stepsL _ 3 3 secondL 8 9 7 _ os1 l2).mono ?_
  rintro e W2 ⟨ax, nx, cx, rfl, ox, b3⟩
  rw [composed_two] at ox ⊢
  replace b3 := below_then b2 b3
  simp only at ox ⊢
  clear os1 l2 b2
  have l1 := lit_bs_marked W2 [121, 120] 2 (2, 3) rfl (by omega) (by decide)
  have c1 : Below W2.heap.size W2 (W2.alloc (.cells (([121, 120] : List Int).map (Value.int .u8)).toArray 5 (2, 3))) := (Below.refl _ _).alloc (Nat.le_refl _) _
  have sz : (W2.alloc (.cells (([121, 120] : List Int).map (Value.int .u8)).toArray 5 (2, 3))).heap.size = W2.heap.size + 1 := by simp
  have l2 := lit_os (W2.alloc (.cells (([121, 120] : List Int).map (Value.int .u8)).toArray 5 (2, 3))) [⟨6, 2, .slice none 0 0⟩, ⟨0, 2, .slice none 0 0⟩, ⟨0, 0, .slice (some ⟨W2.heap.size, 0, none⟩) 2 2⟩, ⟨4, 1, .slice none 0 0⟩] joinedL 4 rfl rfl (by omega) (by
    intro i hi
    rcases (show i = 0 ∨ i = 1 ∨ i = 2 ∨ i = 3 by omega) with rfl | rfl | rfl | rfl
    · exact ⟨_, _, _, rfl, BS.nil_ _, by unfold I64; decide, by unfold I64; decide⟩
    · exact ⟨_, _, _, rfl, BS.nil_ _, by unfold I64; decide, by unfold I64; decide⟩
    · exact ⟨_, _, _, rfl, l1, by unfold I64; decide, by unfold I64; decide⟩
    · exact ⟨_, _, _, rfl, BS.nil_ _, by unfold I64; decide, by unfold I64; decide⟩)
  rw [sz] at l2
  have c2 := c1.alloc c1.size (.cells (cellsV [⟨6, 2, .slice none 0 0⟩, ⟨0, 2, .slice none 0 0⟩, ⟨0, 0, .slice (some ⟨W2.heap.size, 0, none⟩) 2 2⟩, ⟨4, 1, .slice none 0 0⟩]).toArray 56)
  replace ox := ox.later c2
  replace b3 := below_then b3 c2
  clear l1 c1 sz c2
  go_wp2_with fail
  refine (same_any ax _ nx cx 4 4 joinedL joinedL _ ox l2).mono ?_
  rintro e W3 ⟨rfl, b4⟩
  rw [decide_eq_true (rfl : joinedL = joinedL)]
  replace b4 := below_then b3 b4
  clear ox l2 b3
  go_wp2_with fail
  go_ret
  exact ⟨rfl, b4⟩
end Go.Proofs.Ytmpmaljkmfgagaa
