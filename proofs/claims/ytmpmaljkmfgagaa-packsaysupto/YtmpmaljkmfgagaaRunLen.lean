/-
  Contracts of pack.runLength and of the reference's alike: the length of the run in front.
-/
import Derived.Test.YtmpmaljkmfgagaaPackRes
namespace Go.Proofs.Ytmpmaljkmfgagaa
open Go.RowKit

set_option maxRecDepth 100000 in
set_option maxHeartbeats 400000 in
theorem runLength_any (a : Option Addr) (n c : Nat) (l : List Int) (w : World) (hr : BS w a n c l) :
    Calls Try.prog 52 #[.slice a n c] w fun e w' => e = .returned (.int .i64 (PackM.run l)) ∧ DrewN w w' := by
  have hlen : n ≤ 9223372036854775807 := by have := hr.le; have := hr.max; omega
  have hl := Lib.hid hr.len
  have hcells := hr.cells
  clear hr
  go_enter Try.func52, Try.ntmps52
  go_wp2
  go_loopw [3] (fun i wr => ∃ k : Nat, k ≤ n ∧ k ≤ 127 ∧ i = .int .i64 k ∧ Hid (∀ j, j < k → l[j]?.getD 0 = l[0]?.getD 0) ∧ DrewN w wr) (fun i _ => 127 - (intOf i).toNat)
  case atStart => exact ⟨0, Nat.zero_le _, Nat.zero_le _, rfl, Lib.hid (fun j hj => absurd hj (by omega)), 0, rfl⟩
  case round =>
    obtain ⟨k, hk, hk2, rfl, HE, nq, rfl⟩ := hrel
    by_cases hlt : k < n
    · by_cases h127 : k < 127
      · obtain ⟨b, off, rfl, hc⟩ := hcells (by omega)
        have hck := hc k (by omega)
        have hc0 := hc 0 (by omega)
        have hpos : (0 : Int) < n := by omega
        have hpos2 : 0 < n := by omega
        rw [Nat.add_zero] at hc0
        have hd1 : decide ((k : Int) < 127) = true := by simp; omega
        have hd2 : decide (k < n) = true := by simp; omega
        by_cases heq : l[k]?.getD 0 = l[0]?.getD 0
        · have HQ := Lib.hid heq
          rw [heq] at hck
          clear hc hcells heq
          go_wp2
          go_quiet (fail)
          go_wp2
          go_roundw
          case rel => exact ⟨k + 1, by omega, by omega, by go_num, Lib.hid (fun j hj => by
            rcases Nat.lt_or_ge j k with h | h
            · exact HE.out j h
            · obtain rfl : j = k := by omega
              exact HQ.out), _, rfl⟩
          case measure => simp [intOf]; omega
        · have hb : (l[k]?.getD 0 == l[0]?.getD 0) = false := by simpa using heq
          have HQ := Lib.hid heq
          clear hc hcells heq
          go_wp2
          go_quiet (fail)
          go_wp2
          go_ret
          exact ⟨ret_run (by rw [PackM.run_eq l k (by rw [hl.out]; omega) hk2 HE.out (.inr (.inr HQ.out))]), DrewN.more _ _ _⟩
      · have hd : decide ((k : Int) < 127) = false := by simp; omega
        clear hcells
        go_wp2
        go_quiet (fail)
        go_wp2
        go_ret
        exact ⟨ret_run (by rw [PackM.run_eq l k (by rw [hl.out]; omega) hk2 HE.out (.inr (.inl (by omega)))]), DrewN.more _ _ _⟩
    · have hd : decide (k < n) = false := by simp; omega
      clear hcells
      go_wp2
      go_quiet (fail)
      go_wp2
      go_ret
      exact ⟨ret_run (by rw [PackM.run_eq l k (by rw [hl.out]; omega) hk2 HE.out (.inl (by rw [hl.out]; omega))]), DrewN.more _ _ _⟩
end Go.Proofs.Ytmpmaljkmfgagaa
