/-
  slices.Equal of two like slices of ints returns true and only reads.
-/
import Derived.Test.YtmpmaljkmfgagaaRow
import Derived.Deep.QuietTactic
import Derived.BigQuiet
namespace Go.Proofs.Ytmpmaljkmfgagaa
open Go.RowKit

set_option maxHeartbeats 400000 in
theorem eqInts_same (a a' : Option Addr) (n cap cap' : Nat) (zs zs' : List Int) (w : World) (h1 : IsRow .i64 w a n cap zs) (h2 : IsRow .i64 w a' n cap' zs') (he : zs.take n = zs'.take n) :
    Calls Try.prog 15 #[.slice a n cap, .slice a' n cap'] w fun e w' => e = .returned (.bool true) ∧ DrewN w w' := by
  have l1 := h1.len_le
  have l2 := h2.len_le
  have c1 := h1.cells
  have c2 := h2.cells
  have HE := Lib.hid he
  have hne : ((n : Int) != (n : Int)) = false := by simp
  clear h1 h2 he
  go_enter Try.func15, Try.ntmps15
  go_wp2
  go_loopw [13] (fun i wr => ∃ k : Nat, k ≤ n ∧ i = .int .i64 k ∧ DrewN w wr) (fun i _ => n - (intOf i).toNat)
  case atStart => exact ⟨0, Nat.zero_le _, rfl, 0, rfl⟩
  case round =>
    obtain ⟨k, hk, rfl, nq, rfl⟩ := hrel
    by_cases hlt : k < n
    · obtain ⟨b, off, rfl, hc⟩ := c1 (by omega)
      obtain ⟨b', off', rfl, hc'⟩ := c2 (by omega)
      have hck := hc k (by omega)
      have hck' := hc' k (by omega)
      have hee : zs'[k]?.getD 0 = zs[k]?.getD 0 := by
        rw [← List.getElem?_take_of_lt (l := zs) hlt, ← List.getElem?_take_of_lt (l := zs') hlt, HE.out]
      rw [hee] at hck'
      clear hc hc' c1 c2 hee
      go_wp2
      go_quiet (fail)
      go_wp2
      go_roundw
      case rel => exact ⟨k + 1, by omega, by go_num, _, rfl⟩
      case measure => simp [intOf]; omega
    · clear c1 c2
      go_wp2
      go_ret
      exact ⟨rfl, _, rfl⟩
end Go.Proofs.Ytmpmaljkmfgagaa
