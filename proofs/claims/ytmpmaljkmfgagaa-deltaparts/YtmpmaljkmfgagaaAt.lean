/-
  The statements' at: a number brought within bounds.
-/
import Derived.Test.YtmpmaljkmfgagaaRow
namespace Go.Proofs.Ytmpmaljkmfgagaa
open Go.RowKit

theorem tmod_pos (k n : Int) (hn : 0 < n) (h : 0 ≤ k.tmod n) : k.tmod n = k % n := by
  have e := Int.tmod_add_mul_tdiv k n
  have h2 := Int.tmod_lt_of_pos k hn
  conv => rhs; rw [← e, Int.add_mul_emod_self_left, Int.emod_eq_of_lt h h2]
theorem tmod_neg (k n : Int) (hn : 0 < n) (hn2 : n ≤ 9223372036854775807) (h : k.tmod n < 0) : wrap64 (k.tmod n + n) = k % n := by
  have e := Int.tmod_add_mul_tdiv k n
  have h2 := Int.lt_tmod_of_pos k hn
  have e2 : k % n = k.tmod n + n := by
    conv => lhs; rw [← e, Int.add_mul_emod_self_left, ← Int.add_emod_right, Int.emod_eq_of_lt (by omega) (by omega)]
  rw [e2]
  unfold wrap64
  omega
theorem ret_at {a b : Int} (h : a = b) : Ending.returned (.int .i64 a) = .returned (.int .i64 b) := by rw [h]

theorem at_any (k n : Int) (w : World) (hn : 0 < n) (hn2 : n ≤ 9223372036854775807) :
    Calls Try.prog 23 #[.int .i64 k, .int .i64 n] w fun e w' => e = .returned (.int .i64 (k % n)) ∧ w = w' := by
  have hz : (n == 0) = false := by simp; omega
  by_cases h0 : 0 ≤ k
  · have hm : k.tmod n = k % n := Int.tmod_eq_emod_of_nonneg h0
    have hm1 : 0 ≤ k % n := Int.emod_nonneg _ (by omega)
    have hm2 : k % n < n := Int.emod_lt_of_pos _ hn
    go_enter Try.func23, Try.ntmps23
    go_wp2
    go_ret
    exact ⟨rfl, rfl⟩
  · go_enter Try.func23, Try.ntmps23
    go_wp2
    · go_ret
      exact ⟨ret_at (tmod_neg k n hn hn2 ‹_›), rfl⟩
    · go_ret
      exact ⟨ret_at (tmod_pos k n hn ‹_›), rfl⟩

/-- what 'at' gives, as a natural number -/
theorem mod_nat (k : Int) (n : Nat) (N : Int) (hN : N = (n : Int) + 1) : ∃ J : Nat, k % N = J ∧ J ≤ n := by
  subst hN
  have h1 := Int.emod_nonneg k (show (n : Int) + 1 ≠ 0 by omega)
  have h2 := Int.emod_lt_of_pos k (show 0 < (n : Int) + 1 by omega)
  exact ⟨(k % ((n : Int) + 1)).toNat, by omega, by omega⟩
end Go.Proofs.Ytmpmaljkmfgagaa
