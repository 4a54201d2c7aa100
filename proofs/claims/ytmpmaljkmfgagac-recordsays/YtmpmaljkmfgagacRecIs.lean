/-
  Contracts of the program's isFrom, other, checkInfo.
-/
import Derived.Test.YtmpmaljkmfgagacEqRec
namespace Go.Proofs.Ytmpmaljkmfgagac
open Go.RowKit

theorem isFrom_any (lo hi x : Int) (w : World) :
    Calls Try.prog 22 #[.int .i64 lo, .int .i64 hi, .int .i64 x] w fun e w' => e = .returned (.bool (decide (lo ≤ x ∧ x ≤ hi))) ∧ w = w' := by
  by_cases h : lo ≤ x
  · go_enter Try.func22, Try.ntmps22
    go_wp2
    go_ret
    exact ⟨by simp [h], rfl⟩
  · go_enter Try.func22, Try.ntmps22
    go_wp2
    go_ret
    exact ⟨by simp; omega, rfl⟩
theorem other_any (x : Int) (w : World) (h : x = 0 ∨ x = 1) :
    Calls Try.prog 19 #[.int .i64 x] w fun e w' => e = .returned (.int .i64 (1 - x)) ∧ w = w' := by
  rcases h with rfl | rfl
  · go_enter Try.func19, Try.ntmps19
    go_wp2
    go_ret
    exact ⟨rfl, rfl⟩
  · go_enter Try.func19, Try.ntmps19
    go_wp2
    go_ret
    exact ⟨rfl, rfl⟩
theorem ret_i {a b : Int} (h : a = b) : Ending.returned (.int .i64 a) = .returned (.int .i64 b) := by rw [h]

set_option maxRecDepth 100000 in
set_option maxHeartbeats 1000000 in
theorem checkInfo_any (i : InfR) (w : World) :
    Calls Try.prog 23 #[infV i] w fun e w' => e = .returned (.int .i64 (RecM.infErr i)) ∧ Below w.heap.size w w' := by
  obtain ⟨v, s, u⟩ := i
  unfold infV
  simp only
  have HB := Lib.hid ((Below.refl w.heap.size w).alloc (Nat.le_refl _) (.cells #[.int .i64 v, .int .i64 s, .int .i64 u] 23))
  have HBad : Hid (RecM.badInf ⟨v, s, u⟩ → RecM.infErr ⟨v, s, u⟩ = 2) := by
    show _ → _
    intro h
    unfold RecM.infErr
    rw [if_pos h]
  go_enter Try.func23, Try.ntmps23
  go_wp2_with fail
  refine (isFrom_any 0 30 v _).mono ?_
  rintro e w' ⟨rfl, rfl⟩
  by_cases c1 : 0 ≤ v ∧ v ≤ 30
  · rw [decide_eq_true c1]
    go_wp2_with fail
    refine (isFrom_any 0 64 s _).mono ?_
    rintro e w' ⟨rfl, rfl⟩
    by_cases c2 : 0 ≤ s ∧ s ≤ 64
    · rw [decide_eq_true c2]
      go_wp2_with fail
      refine (isFrom_any 0 65535 u _).mono ?_
      rintro e w' ⟨rfl, rfl⟩
      by_cases c3 : 0 ≤ u ∧ u ≤ 65535
      · rw [decide_eq_true c3]
        have HG : Hid (RecM.infErr ⟨v, s, u⟩ = if v = 0 ∧ (s ≠ 0 ∨ u ≠ 0) then 3 else 0) := by
          show _ = _
          unfold RecM.infErr
          rw [if_neg]
          unfold RecM.badInf
          simp only
          omega
        by_cases c4 : v = 0
        · subst c4
          by_cases c5 : s = 0
          · subst c5
            by_cases c6 : u = 0
            · subst c6
              go_wp2_with fail
              go_ret
              exact ⟨ret_i (by rw [HG.out]; simp), HB.out⟩
            · go_wp2_with fail
              go_ret
              exact ⟨ret_i (by rw [HG.out]; simp [c6]), HB.out⟩
          · go_wp2_with fail
            go_ret
            exact ⟨ret_i (by rw [HG.out]; simp [c5]), HB.out⟩
        · have t4 : (v == 0) = false := by simp [c4]
          go_wp2_with fail
          go_ret
          exact ⟨ret_i (by rw [HG.out]; simp [c4]), HB.out⟩
      · rw [decide_eq_false c3]
        have HE := Lib.hid (HBad.out (.inr (.inr c3)))
        go_wp2_with fail
        go_ret
        exact ⟨ret_i HE.out.symm, HB.out⟩
    · rw [decide_eq_false c2]
      have HE := Lib.hid (HBad.out (.inr (.inl c2)))
      go_wp2_with fail
      go_ret
      exact ⟨ret_i HE.out.symm, HB.out⟩
  · rw [decide_eq_false c1]
    have HE := Lib.hid (HBad.out (.inl c1))
    go_wp2_with fail
    go_ret
    exact ⟨ret_i HE.out.symm, HB.out⟩
end Go.Proofs.Ytmpmaljkmfgagac
