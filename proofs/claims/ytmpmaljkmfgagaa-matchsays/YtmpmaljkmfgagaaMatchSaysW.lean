/-
  The walk of the law MatchSays.
-/
import Derived.Test.YtmpmaljkmfgagaaMatched
import Derived.Test.YtmpmaljkmfgagaaLongestOf
namespace Go.Proofs.Ytmpmaljkmfgagaa
open Go.RowKit

set_option maxRecDepth 100000 in
set_option maxHeartbeats 1000000 in
theorem matchSays_walk (a0 : Option Addr) (len0 cap0 : Nat) (l0 : List Int) (a1 : Option Addr) (len1 cap1 : Nat) (l1 : List Int) (k : Int) (w : World) (w0 : BS w a0 len0 cap0 l0) (w1 : BS w a1 len1 cap1 l1) (hM : MaxCell w) :
    Calls Try.prog 8 #[.slice a0 len0 cap0, .slice a1 len1 cap1, .int .i64 k] w fun e w' => e = .returned (.bool true) ∧ Below w.heap.size w w' := by
  by_cases hmany : 64 < len0 ∨ 64 < len1
  · have hor : (decide (64 < (len0 : Int)) || decide (64 < (len1 : Int))) = true := by
      simp only [Bool.or_eq_true, decide_eq_true_eq]
      omega
    clear w0 w1 hM
    have HOR := Lib.hid hmany
    by_cases h0 : 64 < len0
    · clear hmany
      go_enter Try.func8, Try.ntmps8
      go_wp2_with fail
      refine (longest_many a0 a1 len0 cap0 len1 cap1 k _ HOR.out).mono ?_
      rintro e w' ⟨rfl, rfl⟩
      go_wp2_with fail
      refine (matched_any _).mono ?_
      rintro e W1 ⟨rfl, b1⟩
      go_wp2_with fail
      refine (matched_any _).mono ?_
      rintro e W2 ⟨rfl, b2⟩
      replace b2 := below_then b1 b2
      go_wp2_with fail
      go_ret
      exact ⟨rfl, b2⟩
    · have h1 : 64 < len1 := by omega
      clear hmany
      go_enter Try.func8, Try.ntmps8
      go_wp2_with fail
      refine (longest_many a0 a1 len0 cap0 len1 cap1 k _ HOR.out).mono ?_
      rintro e w' ⟨rfl, rfl⟩
      go_wp2_with fail
      refine (matched_any _).mono ?_
      rintro e W1 ⟨rfl, b1⟩
      go_wp2_with fail
      refine (matched_any _).mono ?_
      rintro e W2 ⟨rfl, b2⟩
      replace b2 := below_then b1 b2
      go_wp2_with fail
      go_ret
      exact ⟨rfl, b2⟩
  · have h0 : len0 ≤ 64 := by omega
    have h1 : len1 ≤ 64 := by omega
    clear hmany
    by_cases hwho : k < 0 ∨ (len1 : Int) < k
    · have HW := Lib.hid hwho
      clear w0 w1 hM
      by_cases hk : k < 0
      · clear hwho
        go_enter Try.func8, Try.ntmps8
        go_wp2_with fail
        refine (longest_who a0 a1 len0 cap0 len1 cap1 k _ h0 h1 HW.out).mono ?_
        rintro e w' ⟨rfl, rfl⟩
        go_wp2_with fail
        refine (matched_any _).mono ?_
        rintro e W1 ⟨rfl, b1⟩
        go_wp2_with fail
        refine (matched_any _).mono ?_
        rintro e W2 ⟨rfl, b2⟩
        replace b2 := below_then b1 b2
        go_wp2_with fail
        go_ret
        exact ⟨rfl, b2⟩
      · have hk2 : (len1 : Int) < k := by omega
        clear hwho
        go_enter Try.func8, Try.ntmps8
        go_wp2_with fail
        refine (longest_who a0 a1 len0 cap0 len1 cap1 k _ h0 h1 HW.out).mono ?_
        rintro e w' ⟨rfl, rfl⟩
        go_wp2_with fail
        refine (matched_any _).mono ?_
        rintro e W1 ⟨rfl, b1⟩
        go_wp2_with fail
        refine (matched_any _).mono ?_
        rintro e W2 ⟨rfl, b2⟩
        replace b2 := below_then b1 b2
        go_wp2_with fail
        go_ret
        exact ⟨rfl, b2⟩
    · obtain ⟨J, rfl⟩ : ∃ J : Nat, k = J := ⟨k.toNat, by omega⟩
      have hJ : J ≤ len1 := by omega
      clear hwho
      go_enter Try.func8, Try.ntmps8
      go_wp2_with fail
      refine (longest_any a0 a1 len0 cap0 len1 cap1 l0 l1 J _ w0 w1 h0 h1 hJ).mono ?_
      rintro e W1 ⟨i, n, hb, rfl, hd⟩
      have HB := Lib.hid hb
      have b1 := hd.below
      clear hd hb
      replace w0 := w0.later b1
      replace w1 := w1.later b1
      replace hM := hM.later b1
      go_wp2_with fail
      refine (matched_any _).mono ?_
      rintro e W2 ⟨rfl, b2⟩
      replace w0 := w0.later b2
      replace w1 := w1.later b2
      replace hM := hM.later b2
      replace b2 := below_then b1 b2
      clear b1
      go_wp2_with fail
      refine (longestOf_any a0 a1 len0 cap0 len1 cap1 l0 l1 J _ w0 w1 h0 h1 hJ hM).mono ?_
      rintro e W3 ⟨i', n', hb', rfl, hd⟩
      obtain ⟨rfl, rfl⟩ := HB.out.det hb'
      have b3 := below_then b2 hd.below
      clear hd hb' w0 w1 hM b2 HB
      go_wp2_with fail
      go_ret
      refine ⟨?_, b3⟩
      simp
end Go.Proofs.Ytmpmaljkmfgagaa
