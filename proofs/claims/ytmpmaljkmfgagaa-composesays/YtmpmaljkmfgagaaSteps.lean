/-
  The law file's steps.
-/
import Derived.Test.YtmpmaljkmfgagaaStepsL
namespace Go.Proofs.Ytmpmaljkmfgagaa
open Go.RowKit

set_option maxRecDepth 100000 in
set_option maxHeartbeats 1000000 in
theorem steps_any (w : World) :
    Calls Try.prog 62 #[] w fun e w' => ∃ a, e = .returned (.slice a 3 3) ∧ OS w' a 3 3 stepsL ∧ Below w.heap.size w w' := by
  have kc := fun (w : World) (C : Array Value) (n c : Nat) => Lib.run_convert_bytes_const (P := Try.prog) w 27 5 C n c Try.underlying27 Try.underlying5
  have l1 := lit_bs_marked w [120] 1 (1, 2) rfl (by omega) (by decide)
  have b1 : Below w.heap.size w (w.alloc (.cells (([120] : List Int).map (Value.int .u8)).toArray 5 (1, 2))) := (Below.refl _ _).alloc (Nat.le_refl _) _
  have sz : (w.alloc (.cells (([120] : List Int).map (Value.int .u8)).toArray 5 (1, 2))).heap.size = w.heap.size + 1 := by simp
  have l2 := lit_os (w.alloc (.cells (([120] : List Int).map (Value.int .u8)).toArray 5 (1, 2))) [⟨0, 0, .slice (some ⟨w.heap.size, 0, none⟩) 1 1⟩, ⟨4, 4, .slice none 0 0⟩, ⟨0, 4, .slice none 0 0⟩] stepsL 3 rfl rfl (by omega) (by
    intro i hi
    rcases (show i = 0 ∨ i = 1 ∨ i = 2 by omega) with rfl | rfl | rfl
    · exact ⟨_, _, _, rfl, l1, by unfold I64; decide, by unfold I64; decide⟩
    · exact ⟨_, _, _, rfl, BS.nil_ _, by unfold I64; decide, by unfold I64; decide⟩
    · exact ⟨_, _, _, rfl, BS.nil_ _, by unfold I64; decide, by unfold I64; decide⟩)
  rw [sz] at l2
  have b2 := b1.alloc b1.size (.cells (cellsV [⟨0, 0, .slice (some ⟨w.heap.size, 0, none⟩) 1 1⟩, ⟨4, 4, .slice none 0 0⟩, ⟨0, 4, .slice none 0 0⟩]).toArray 56)
  have HL2 := Lib.hid l2
  have HB2 := Lib.hid b2
  clear l1 l2 b1 b2 sz
  go_enter Try.func62, Try.ntmps62
  go_wp2_with fail
  go_ret
  exact ⟨_, rfl, HL2.out, HB2.out⟩
end Go.Proofs.Ytmpmaljkmfgagaa
