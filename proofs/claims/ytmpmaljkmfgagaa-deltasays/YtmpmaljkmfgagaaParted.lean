/-
  The closed fact of the deltas' statements: three steps.
-/
import Derived.Test.YtmpmaljkmfgagaaDeltaCheck
import Derived.Test.YtmpmaljkmfgagaaDeltaSame
import Derived.Test.YtmpmaljkmfgagaaDeltaDiff
import Derived.Test.YtmpmaljkmfgagaaDeltaApply
import Derived.Test.YtmpmaljkmfgagaaDifThree
import Derived.Test.YtmpmaljkmfgagaaSteps
namespace Go.Proofs.Ytmpmaljkmfgagaa
open Go.RowKit

set_option maxRecDepth 100000 in
set_option maxHeartbeats 1000000 in
theorem parted_any (w : World) :
    Calls Try.prog 40 #[] w fun e w' => e = .returned (.bool true) ∧ Below w.heap.size w w' := by
  have kc := fun (w : World) (C : Array Value) (n c : Nat) => Lib.run_convert_bytes_const (P := Try.prog) w 27 5 C n c Try.underlying27 Try.underlying5
  have sz : ∀ (w : World) (o : Obj), (w.alloc o).heap.size = w.heap.size + 1 := fun w o => by simp
  have kc2 : ∀ (w : World) (o : Obj) (C : Array Value) (n c : Nat), (convert 27 27 (.slice (some ⟨w.heap.size + 1, 0, none⟩) n c)).run Try.prog ((w.alloc o).alloc (.cells C 5)) = .ok (.slice (some ⟨w.heap.size + 1, 0, none⟩) n c) ((w.alloc o).alloc (.cells C 5 (C.size, C.size + 1))) := fun w o C n c => by
    have := kc (w.alloc o) C n c
    rwa [sz] at this
  have l1 := lit_bs_marked w [97, 98, 99, 100, 101, 102, 103, 104] 8 (8, 9) rfl (by omega) (by decide)
  have b1 : Below w.heap.size w (w.alloc (.cells (([97, 98, 99, 100, 101, 102, 103, 104] : List Int).map (Value.int .u8)).toArray 5 (8, 9))) := (Below.refl _ _).alloc (Nat.le_refl _) _
  have l2 := lit_bs_marked (w.alloc (.cells (([97, 98, 99, 100, 101, 102, 103, 104] : List Int).map (Value.int .u8)).toArray 5 (8, 9))) [120, 101, 102, 103, 104, 97, 98, 99, 100] 9 (9, 10) rfl (by omega) (by decide)
  rw [sz] at l2
  have b2 := b1.alloc b1.size (.cells (([120, 101, 102, 103, 104, 97, 98, 99, 100] : List Int).map (Value.int .u8)).toArray 5 (9, 10))
  replace l1 := l1.later ((Below.refl _ _).alloc (Nat.le_refl _) (.cells (([120, 101, 102, 103, 104, 97, 98, 99, 100] : List Int).map (Value.int .u8)).toArray 5 (9, 10)))
  clear b1
  have SZ := Lib.hid sz
  clear sz
  go_enter Try.func40, Try.ntmps40
  go_wp2_with fail
  refine (diff_any _ _ 8 8 9 9 [97, 98, 99, 100, 101, 102, 103, 104] [120, 101, 102, 103, 104, 97, 98, 99, 100] _ l1 l2 (by omega) (by omega)).mono ?_
  rintro e W1 ⟨out, a1, n1, c1, hdif, rfl, os1, -, hb1⟩
  obtain rfl := hdif.det dif_three
  have b3 := below_then b2 hb1
  clear hdif l1 l2 b2 hb1
  have l3 := lit_bs_marked W1 [97, 98, 99, 100, 101, 102, 103, 104] 8 (8, 9) rfl (by omega) (by decide)
  have hbx : Below W1.heap.size W1 (W1.alloc (.cells (([97, 98, 99, 100, 101, 102, 103, 104] : List Int).map (Value.int .u8)).toArray 5 (8, 9))) := (Below.refl _ _).alloc (Nat.le_refl _) _
  replace os1 := os1.later hbx
  replace b3 := below_then b3 hbx
  clear hbx
  go_wp2_with fail
  refine (steps_any _).mono ?_
  rintro e W2 ⟨a2, rfl, os2, hb2⟩
  replace l3 := l3.later hb2
  replace os1 := os1.later hb2
  replace b3 := below_then b3 hb2
  clear hb2
  go_wp2_with fail
  refine (apply_any _ 8 8 [97, 98, 99, 100, 101, 102, 103, 104] a2 3 3 stepsL 9 _ l3 os2).mono ?_
  rintro e W3 ⟨a3, n3, c3, rfl, s3, hb3⟩
  have eck : DeltaM.check stepsL ([97, 98, 99, 100, 101, 102, 103, 104] : List Int).length 9 = 0 := by simp [DeltaM.check, DeltaM.chk, DeltaM.badForm, DeltaM.badRange, DeltaM.size, stepsL]
  have eap : DeltaM.applied [97, 98, 99, 100, 101, 102, 103, 104] stepsL 9 = [120, 101, 102, 103, 104, 97, 98, 99, 100] := by unfold DeltaM.applied; rw [if_pos eck]; rfl
  rw [eap] at s3
  rw [eck]
  replace os1 := os1.later hb3
  replace b3 := below_then b3 hb3
  clear hb3 l3 os2 eck eap
  go_wp2_with fail
  refine (steps_any _).mono ?_
  rintro e W4 ⟨a4, rfl, os4, hb4⟩
  replace os1 := os1.later hb4
  replace s3 := s3.later hb4
  replace b3 := below_then b3 hb4
  clear hb4
  go_wp2_with fail
  refine (same_any a1 a4 n1 c1 3 3 stepsL stepsL _ os1 os4).mono ?_
  rintro e W5 ⟨rfl, hb5⟩
  rw [decide_eq_true (rfl : stepsL = stepsL)]
  replace s3 := (s3.later hb5).string
  replace b3 := below_then b3 hb5
  rw [show strOfNums [120, 101, 102, 103, 104, 97, 98, 99, 100] = ⟨#[120, 101, 102, 103, 104, 97, 98, 99, 100]⟩ from rfl] at s3
  clear hb5 os1 os4
  go_wp2_with fail
  refine (steps_any _).mono ?_
  rintro e W6 ⟨a6, rfl, os6, hb6⟩
  replace b3 := below_then b3 hb6
  clear hb6 s3
  go_wp2_with fail
  refine (check_any a6 3 3 stepsL 8 9 _ os6).mono ?_
  rintro e W7 ⟨rfl, hb7⟩
  rw [show DeltaM.check stepsL 8 9 = 0 by simp [DeltaM.check, DeltaM.chk, DeltaM.badForm, DeltaM.badRange, DeltaM.size, stepsL]]
  replace b3 := below_then b3 hb7
  clear hb7 os6
  go_wp2_with fail
  refine (steps_any _).mono ?_
  rintro e W8 ⟨a8, rfl, os8, hb8⟩
  replace b3 := below_then b3 hb8
  clear hb8
  go_wp2_with fail
  refine (check_any a8 3 3 stepsL 7 9 _ os8).mono ?_
  rintro e W9 ⟨rfl, hb9⟩
  rw [show DeltaM.check stepsL 7 9 = 2 by simp [DeltaM.check, DeltaM.chk, DeltaM.badForm, DeltaM.badRange, DeltaM.size, stepsL]]
  replace b3 := below_then b3 hb9
  clear hb9 os8
  go_wp2_with fail
  refine (steps_any _).mono ?_
  rintro e W10 ⟨a10, rfl, os10, hb10⟩
  replace b3 := below_then b3 hb10
  clear hb10
  go_wp2_with fail
  refine (check_any a10 3 3 stepsL 8 10 _ os10).mono ?_
  rintro e W11 ⟨rfl, hb11⟩
  rw [show DeltaM.check stepsL 8 10 = 3 by simp [DeltaM.check, DeltaM.chk, DeltaM.badForm, DeltaM.badRange, DeltaM.size, stepsL]]
  replace b3 := below_then b3 hb11
  clear hb11 os10
  go_wp2_with fail
  go_ret
  exact ⟨rfl, b3⟩
end Go.Proofs.Ytmpmaljkmfgagaa
