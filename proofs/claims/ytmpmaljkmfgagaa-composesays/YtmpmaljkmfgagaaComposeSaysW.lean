/-
  The walk of the law ComposeSays.
-/
import Derived.Test.YtmpmaljkmfgagaaCompFact
import Derived.Test.YtmpmaljkmfgagaaComposed
import Derived.Test.YtmpmaljkmfgagaaSameOps
namespace Go.Proofs.Ytmpmaljkmfgagaa
open Go.RowKit

set_option maxRecDepth 100000 in
set_option maxHeartbeats 1000000 in
theorem composeSays_walk (a0 : Option Addr) (len0 cap0 : Nat) (l0 : List OpR) (a1 : Option Addr) (len1 cap1 : Nat) (l1 : List OpR) (old mid size : Int) (w : World) (w0 : OS w a0 len0 cap0 l0) (w1 : OS w a1 len1 cap1 l1) :
    Calls Try.prog 14 #[.slice a0 len0 cap0, .slice a1 len1 cap1, .int .i64 old, .int .i64 mid, .int .i64 size] w fun e w' => e = .returned (.bool true) ∧ Below w.heap.size w w' := by
  go_enter Try.func14, Try.ntmps14
  go_wp2_with fail
  refine (compose_any a0 len0 cap0 l0 a1 len1 cap1 l1 old mid size _ w0 w1).mono ?_
  rintro e W1 ⟨ax, nx, cx, rfl, ox, b1⟩
  replace w0 := w0.later b1
  replace w1 := w1.later b1
  obtain ⟨⟨out, err⟩, hC⟩ : ∃ C, CompM.composed l0 l1 old mid size = C := ⟨_, rfl⟩
  have HC := Lib.hid hC
  rw [hC] at ox ⊢
  simp only at ox ⊢
  clear hC
  go_wp2_with fail
  refine (composed_any a0 len0 cap0 l0 a1 len1 cap1 l1 old mid size _ w0 w1).mono ?_
  rintro e W2 ⟨aX, nX, cX, rfl, oX, b2⟩
  rw [HC.out] at oX ⊢
  simp only at oX ⊢
  replace ox := ox.later b2
  replace b2 := below_then b1 b2
  clear b1 w0 w1
  go_wp2_with fail
  refine (composedFact_any _).mono ?_
  rintro e W3 ⟨rfl, b3⟩
  replace ox := ox.later b3
  replace oX := oX.later b3
  replace b3 := below_then b2 b3
  clear b2
  have hee : (err == err) = true := by simp
  go_wp2_with fail
  refine (sameOps_any ax aX nx cx nX cX out out _ ox oX).mono ?_
  rintro e W4 ⟨rfl, b4⟩
  rw [decide_eq_true (rfl : out = out)]
  replace b4 := below_then b3 b4
  clear b3
  go_wp2_with fail
  go_ret
  exact ⟨rfl, b4⟩
end Go.Proofs.Ytmpmaljkmfgagaa
