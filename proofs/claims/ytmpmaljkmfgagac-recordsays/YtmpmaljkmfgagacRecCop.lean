/-
  Contract of the program's checkCopy.
-/
import Derived.Test.YtmpmaljkmfgagacRecChk
namespace Go.Proofs.Ytmpmaljkmfgagac
open Go.RowKit

set_option maxRecDepth 100000 in
set_option maxHeartbeats 2000000 in
theorem checkCopy_any (c : CopR) (w : World) :
    Calls Try.prog 25 #[copV c] w fun e w' => e = .returned (.int .i64 (RecM.copErr c)) ∧ Below w.heap.size w w' := by
  have HC := Lib.hid (fun W => checkR_any c.r W)
  have hn := fun W => rec_neq c.r RecM.noRec W
  have HE : Hid (RecM.copErr c = if c.ok = true then RecM.check c.r else if c.r ≠ RecM.noRec then 3 else 0) := rfl
  have HZ : Hid (recV RecM.noRec = .agg #[.int .i64 0, .int .i64 0, .bool false, .int .i64 0, .int .i64 0, .int .i64 0, .int .i64 0, .int .i64 0, .int .i64 0, .int .i64 0, .int .i64 0]) := rfl
  rw [HZ.out] at hn
  obtain ⟨q, hq⟩ : ∃ q, decide (c.r = RecM.noRec) = q := ⟨_, rfl⟩
  rw [hq] at hn
  have HQ := Lib.hid hq
  clear hq
  obtain ⟨ok, g, a, tr, n, f, ⟨v0, s0, u0⟩, ⟨v1, s1, u1⟩⟩ := c
  simp only [recV, copV] at HC hn ⊢
  simp only at HQ HE
  have HB := Lib.hid ((Below.refl w.heap.size w).alloc (Nat.le_refl _) (.cells #[.bool ok, .int .i64 g, .int .i64 a, .bool tr, .int .i64 n, .int .i64 f, .int .i64 v0, .int .i64 s0, .int .i64 u0, .int .i64 v1, .int .i64 s1, .int .i64 u1] 28))
  cases ok
  · cases q
    · clear HC
      go_enter Try.func25, Try.ntmps25
      go_wp2_with fail
      go_ret
      exact ⟨ret_i (by rw [HE.out, if_neg (by simp), if_pos (of_decide_eq_false HQ.out)]), HB.out⟩
    · clear HC
      go_enter Try.func25, Try.ntmps25
      go_wp2_with fail
      go_ret
      exact ⟨ret_i (by rw [HE.out, if_neg (by simp), if_neg (not_not_intro (of_decide_eq_true HQ.out))]), HB.out⟩
  · clear hn
    go_enter Try.func25, Try.ntmps25
    go_wp2_with fail
    refine (HC.out _).mono ?_
    rintro e W2 ⟨rfl, hb2⟩
    have HB3 := Lib.hid (bel_then HB.out hb2)
    clear hb2
    go_wp2_with fail
    go_ret
    exact ⟨ret_i (by rw [HE.out, if_pos trivial]), HB3.out⟩
end Go.Proofs.Ytmpmaljkmfgagac
