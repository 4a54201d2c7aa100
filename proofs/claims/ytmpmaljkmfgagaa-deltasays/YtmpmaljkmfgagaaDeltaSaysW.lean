/-
  The walk of the law DeltaSays.
-/
import Derived.Test.YtmpmaljkmfgagaaDiffAll
import Derived.Test.YtmpmaljkmfgagaaSameOps
import Derived.Test.YtmpmaljkmfgagaaApplied
import Derived.Test.YtmpmaljkmfgagaaParted
namespace Go.Proofs.Ytmpmaljkmfgagaa
open Go.RowKit

set_option maxRecDepth 100000 in
set_option maxHeartbeats 1000000 in
theorem deltaSays_walk (a0 : Option Addr) (len0 cap0 : Nat) (l0 : List Int) (a1 : Option Addr) (len1 cap1 : Nat) (l1 : List Int) (a2 : Option Addr) (len2 cap2 : Nat) (l2 : List OpR) (size : Int) (a4 : Option Addr) (len4 cap4 : Nat) (l4 : List OpR) (many : Int) (w : World)
    (w0 : BS w a0 len0 cap0 l0) (w1 : BS w a1 len1 cap1 l1) (w2 : OS w a2 len2 cap2 l2) (w4 : OS w a4 len4 cap4 l4) (hM : MaxCell w) :
    Calls Try.prog 11 #[.slice a0 len0 cap0, .slice a1 len1 cap1, .slice a2 len2 cap2, .int .i64 size, .slice a4 len4 cap4, .int .i64 many] w fun e w' => e = .returned (.bool true) ∧ Below w.heap.size w w' := by
  go_enter Try.func11, Try.ntmps11
  go_wp2_with fail
  refine (diff_all a0 a1 len0 cap0 len1 cap1 l0 l1 _ w0 w1).mono ?_
  rintro e W1 ⟨out, err, ax, nx, cx, hdi, rfl, ox, b1⟩
  have HDI := Lib.hid hdi
  replace w0 := w0.later b1
  replace w1 := w1.later b1
  replace w2 := w2.later b1
  replace w4 := w4.later b1
  replace hM := hM.later b1
  clear hdi
  go_wp2_with fail
  refine (apply_any a0 len0 cap0 l0 a2 len2 cap2 l2 size _ w0 w2).mono ?_
  rintro e W2 ⟨ay, ny, cy, rfl, by_, b2⟩
  replace w0 := w0.later b2
  replace w1 := w1.later b2
  replace w2 := w2.later b2
  replace w4 := w4.later b2
  replace hM := hM.later b2
  replace ox := ox.later b2
  replace b2 := below_then b1 b2
  clear b1
  go_wp2_with fail
  refine (diffed_all a0 a1 len0 cap0 len1 cap1 l0 l1 _ w0 w1 hM).mono ?_
  rintro e W3 ⟨out', err', aX, nX, cX, hdi, rfl, oX, b3⟩
  obtain ⟨rfl, rfl⟩ := HDI.out.det hdi
  replace w0 := w0.later b3
  replace w1 := w1.later b3
  replace w2 := w2.later b3
  replace w4 := w4.later b3
  replace hM := hM.later b3
  replace ox := ox.later b3
  replace by_ := by_.later b3
  replace b3 := below_then b2 b3
  clear b2 hdi HDI
  go_wp2_with fail
  refine (applied_any a0 len0 cap0 l0 a2 len2 cap2 l2 size _ w0 w2).mono ?_
  rintro e W4 ⟨aY, nY, cY, rfl, bY, b4⟩
  replace w2 := w2.later b4
  replace w4 := w4.later b4
  replace hM := hM.later b4
  replace ox := ox.later b4
  replace oX := oX.later b4
  replace by_ := by_.later b4
  replace b4 := below_then b3 b4
  clear b3 w0 w1
  obtain ⟨F, hF⟩ : ∃ F, DeltaM.check l2 l0.length size = F := ⟨_, rfl⟩
  rw [hF]
  clear hF
  go_wp2_with fail
  refine (parted_any _).mono ?_
  rintro e W5 ⟨rfl, b5⟩
  replace w2 := w2.later b5
  replace w4 := w4.later b5
  replace ox := ox.later b5
  replace oX := oX.later b5
  replace by_ := by_.later b5
  replace bY := bY.later b5
  replace b5 := below_then b4 b5
  clear b4 hM
  go_wp2_with fail
  refine (check_any a2 len2 cap2 l2 many size _ w2).mono ?_
  rintro e W6 ⟨rfl, b6⟩
  replace w2 := w2.later b6
  replace w4 := w4.later b6
  replace ox := ox.later b6
  replace oX := oX.later b6
  replace by_ := by_.later b6
  replace bY := bY.later b6
  replace b6 := below_then b5 b6
  clear b5
  go_wp2_with fail
  refine (checkOps_any a2 len2 cap2 l2 many size _ w2).mono ?_
  rintro e W7 ⟨rfl, b7⟩
  replace w2 := w2.later b7
  replace w4 := w4.later b7
  replace ox := ox.later b7
  replace oX := oX.later b7
  replace by_ := by_.later b7
  replace bY := bY.later b7
  replace b7 := below_then b6 b7
  clear b6
  generalize DeltaM.check l2 many size = G
  have hGG : (G == G) = true := by simp
  go_wp2_with fail
  refine (same_any a2 a4 len2 cap2 len4 cap4 l2 l4 _ w2 w4).mono ?_
  rintro e W8 ⟨rfl, b8⟩
  replace w2 := w2.later b8
  replace w4 := w4.later b8
  replace ox := ox.later b8
  replace oX := oX.later b8
  replace by_ := by_.later b8
  replace bY := bY.later b8
  replace b8 := below_then b7 b8
  clear b7
  go_wp2_with fail
  refine (sameOps_any a2 a4 len2 cap2 len4 cap4 l2 l4 _ w2 w4).mono ?_
  rintro e W9 ⟨rfl, b9⟩
  replace ox := ox.later b9
  replace oX := oX.later b9
  replace by_ := by_.later b9
  replace bY := bY.later b9
  replace b9 := below_then b8 b9
  clear b8 w2 w4
  generalize decide (l2 = l4) = Q
  have hQQ : (Q == Q) = true := by simp
  have hee : (err == err) = true := by simp
  go_wp2_with fail
  refine (sameOps_any ax aX nx cx nX cX out out _ ox oX).mono ?_
  rintro e W10 ⟨rfl, b10⟩
  rw [decide_eq_true (rfl : out = out)]
  replace by_ := by_.later b10
  replace bY := bY.later b10
  replace b10 := below_then b9 b10
  clear b9 ox oX
  have hFF : (F == F) = true := by simp
  go_wp2_with fail
  refine (eqBytes_any ay aY ny cy nY cY _ _ _ by_ bY).mono ?_
  rintro e W11 ⟨rfl, rfl⟩
  rw [decide_eq_true rfl]
  go_wp2_with fail
  go_ret
  exact ⟨rfl, b10⟩
end Go.Proofs.Ytmpmaljkmfgagaa
