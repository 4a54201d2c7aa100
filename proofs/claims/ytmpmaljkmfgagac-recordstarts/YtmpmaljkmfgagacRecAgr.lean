/-
  Contract of the program's agrees.
-/
import Derived.Test.YtmpmaljkmfgagacRecIs
namespace Go.Proofs.Ytmpmaljkmfgagac
open Go.RowKit
theorem quiet_eqq {P : Program} {f : FuncId} {args : Array Value} {w : World} {q n : Nat} {v : Value} (h : Calls P f args (w.drewN (q + n)) fun e w' => e = .returned v ∧ w.drewN (q + n) = w') :
    Calls P f args (w.drewN (q + n)) fun e w'' => e = .returned v ∧ ∃ m, w'' = w.drewN (q + m) := h.mono fun _ _ ⟨he, hm⟩ => ⟨he, n, hm.symm⟩
theorem ret_b {a b : Bool} (h : a = b) : Ending.returned (.bool a) = .returned (.bool b) := by rw [h]

set_option maxRecDepth 100000 in
set_option maxHeartbeats 1000000 in
theorem agrees_0 (g : Int) (tr : Bool) (n f v0 s0 u0 v1 s1 u1 : Int) (w : World) :
    Calls Try.prog 24 #[.agg #[.int .i64 g, .int .i64 0, .bool tr, .int .i64 n, .int .i64 f, .int .i64 v0, .int .i64 s0, .int .i64 u0, .int .i64 v1, .int .i64 s1, .int .i64 u1]] w
      fun e w' => e = .returned (.bool (!decide (v0 < f ∨ (tr = true ∧ v1 < f) ∨ (tr = false ∧ n ≠ 0)))) ∧ Below w.heap.size w w' := by
  have HB := Lib.hid ((Below.refl w.heap.size w).alloc (Nat.le_refl _) (.cells #[.int .i64 g, .int .i64 0, .bool tr, .int .i64 n, .int .i64 f, .int .i64 v0, .int .i64 s0, .int .i64 u0, .int .i64 v1, .int .i64 s1, .int .i64 u1] 26))
  have HQ := Lib.hid (fun W => other_any 0 W (by decide))
  by_cases c1 : v0 < f
  · go_enter Try.func24, Try.ntmps24
    go_wp2_with fail
    go_quiet (fail)
    have HB1 := Lib.hid (below_drewN HB.out nq)
    go_wp2_with fail
    go_ret
    exact ⟨ret_b (by simp [c1]), HB1.out⟩
  · have t1 : decide (v0 < f) = false := by simp; omega
    cases tr
    · by_cases c2 : n = 0
      · subst c2
        go_enter Try.func24, Try.ntmps24
        go_wp2_with fail
        go_quiet (fail)
        have HB1 := Lib.hid (below_drewN HB.out nq)
        go_wp2_with fail
        go_ret
        exact ⟨ret_b (by simp; omega), HB1.out⟩
      · go_enter Try.func24, Try.ntmps24
        go_wp2_with fail
        go_quiet (fail)
        have HB1 := Lib.hid (below_drewN HB.out nq)
        go_wp2_with fail
        go_ret
        exact ⟨ret_b (by simp [c2]), HB1.out⟩
    · go_enter Try.func24, Try.ntmps24
      go_wp2_with fail
      go_quiet (fail)
      have HB1 := Lib.hid (below_drewN HB.out nq)
      go_wp2_with fail
      go_quiet (exact quiet_eqq (HQ.out _))
      have HB2 := Lib.hid (below_drewN HB1.out nq)
      go_wp2_with fail
      go_ret
      exact ⟨ret_b (by rw [Bool.eq_iff_iff]; simp; omega), HB2.out⟩

set_option maxRecDepth 100000 in
set_option maxHeartbeats 1000000 in
theorem agrees_1 (g : Int) (tr : Bool) (n f v0 s0 u0 v1 s1 u1 : Int) (w : World) :
    Calls Try.prog 24 #[.agg #[.int .i64 g, .int .i64 1, .bool tr, .int .i64 n, .int .i64 f, .int .i64 v0, .int .i64 s0, .int .i64 u0, .int .i64 v1, .int .i64 s1, .int .i64 u1]] w
      fun e w' => e = .returned (.bool (!decide (v1 < f ∨ (tr = true ∧ v0 < f) ∨ (tr = false ∧ n ≠ 0)))) ∧ Below w.heap.size w w' := by
  have HB := Lib.hid ((Below.refl w.heap.size w).alloc (Nat.le_refl _) (.cells #[.int .i64 g, .int .i64 1, .bool tr, .int .i64 n, .int .i64 f, .int .i64 v0, .int .i64 s0, .int .i64 u0, .int .i64 v1, .int .i64 s1, .int .i64 u1] 26))
  have HQ := Lib.hid (fun W => other_any 1 W (by decide))
  by_cases c1 : v1 < f
  · go_enter Try.func24, Try.ntmps24
    go_wp2_with fail
    go_quiet (fail)
    have HB1 := Lib.hid (below_drewN HB.out nq)
    go_wp2_with fail
    go_ret
    exact ⟨ret_b (by simp [c1]), HB1.out⟩
  · have t1 : decide (v1 < f) = false := by simp; omega
    cases tr
    · by_cases c2 : n = 0
      · subst c2
        go_enter Try.func24, Try.ntmps24
        go_wp2_with fail
        go_quiet (fail)
        have HB1 := Lib.hid (below_drewN HB.out nq)
        go_wp2_with fail
        go_ret
        exact ⟨ret_b (by simp; omega), HB1.out⟩
      · go_enter Try.func24, Try.ntmps24
        go_wp2_with fail
        go_quiet (fail)
        have HB1 := Lib.hid (below_drewN HB.out nq)
        go_wp2_with fail
        go_ret
        exact ⟨ret_b (by simp [c2]), HB1.out⟩
    · go_enter Try.func24, Try.ntmps24
      go_wp2_with fail
      go_quiet (fail)
      have HB1 := Lib.hid (below_drewN HB.out nq)
      go_wp2_with fail
      go_quiet (exact quiet_eqq (HQ.out _))
      have HB2 := Lib.hid (below_drewN HB1.out nq)
      go_wp2_with fail
      go_ret
      exact ⟨ret_b (by rw [Bool.eq_iff_iff]; simp; omega), HB2.out⟩

theorem agrees_any (r : RecR) (h : r.act = 0 ∨ r.act = 1) (w : World) :
    Calls Try.prog 24 #[recV r] w fun e w' => e = .returned (.bool (!decide (RecM.badRec r))) ∧ Below w.heap.size w w' := by
  obtain ⟨g, a, tr, n, f, ⟨v0, s0, u0⟩, ⟨v1, s1, u1⟩⟩ := r
  simp only at h
  rcases h with rfl | rfl
  · exact agrees_0 g tr n f v0 s0 u0 v1 s1 u1 w
  · exact agrees_1 g tr n f v0 s0 u0 v1 s1 u1 w
end Go.Proofs.Ytmpmaljkmfgagac
