/-
  The walk of the law MatchWhole.
-/
import Derived.Test.YtmpmaljkmfgagaaMatched
import Derived.Test.YtmpmaljkmfgagaaImage
import Derived.Test.YtmpmaljkmfgagaaAt
namespace Go.Proofs.Ytmpmaljkmfgagaa
open Go.RowKit

set_option maxRecDepth 100000 in
set_option maxHeartbeats 1000000 in
theorem matchWhole_walk (a0 : Option Addr) (len0 cap0 : Nat) (l0 : List Int) (a1 : Option Addr) (len1 cap1 : Nat) (l1 : List Int) (k n : Int) (w : World) (w0 : BS w a0 len0 cap0 l0) (w1 : BS w a1 len1 cap1 l1) :
    Calls Try.prog 10 #[.slice a0 len0 cap0, .slice a1 len1 cap1, .int .i64 k, .int .i64 n] w fun e w' => e = .returned (.bool true) ∧ Below w.heap.size w w' := by
  have i0 := w0.head (min len0 64) (by omega)
  have i1 := w1.head (min len1 64) (by omega)
  have m0 : min len0 64 ≤ 64 := by omega
  have m1 : min len1 64 ≤ 64 := by omega
  have c0 := image_any a0 len0 cap0 l0
  have c1 := image_any a1 len1 cap1 l1
  have HC0 := Lib.hid c0
  have HC1 := Lib.hid c1
  clear c0 c1
  generalize min len0 64 = N0 at i0 m0 HC0
  generalize min len1 64 = N1 at i1 m1 HC1
  generalize l0.take N0 = L0 at i0
  generalize l1.take N1 = L1 at i1
  go_enter Try.func10, Try.ntmps10
  go_wp2_with fail
  refine (HC0.out _ w0).mono ?_
  rintro e w' ⟨rfl, rfl⟩
  go_wp2_with fail
  refine (HC1.out _ w1).mono ?_
  rintro e w' ⟨rfl, rfl⟩
  clear HC0 HC1 w0 w1
  obtain ⟨T1, hT1⟩ : ∃ T : Int, (N1 : Int) + 1 = T := ⟨_, rfl⟩
  obtain ⟨J, hJ, hJ2⟩ := mod_nat k N1 T1 hT1.symm
  go_wp2_with fail
  refine (at_any k T1 _ (by omega) (by omega)).mono ?_
  rintro e w' ⟨rfl, rfl⟩
  rw [hJ]
  clear hJ
  go_wp2_with fail
  refine (longest_any a1 a1 N1 cap1 N1 cap1 L1 L1 J _ i1 i1 m1 m1 hJ2).mono ?_
  rintro e W1 ⟨x, m, hb, rfl, hd⟩
  obtain ⟨D, hD⟩ : ∃ D : Nat, (N1 : Int) - J = D := ⟨N1 - J, by omega⟩
  obtain rfl : m = D := by
    have h1 := hb.whole (by rw [i1.len]; exact hJ2)
    rw [i1.len] at h1
    omega
  replace i0 := i0.later hd.below
  replace i1 := i1.later hd.below
  have b1 := hd.below
  clear hb hd
  go_wp2_with fail
  refine (matched_any _).mono ?_
  rintro e W2 ⟨rfl, hb2⟩
  replace i0 := i0.later hb2
  replace i1 := i1.later hb2
  have b2 := below_then b1 hb2
  clear b1 hb2
  have hDD : ((m : Int) != m) = false := by simp
  go_wp2_with fail
  refine (longest_any a0 a1 N0 cap0 N1 cap1 L0 L1 J _ i0 i1 m0 m1 hJ2).mono ?_
  rintro e W3 ⟨x3, m3, hb3, rfl, hd3⟩
  have HB3 := Lib.hid hb3
  replace i0 := i0.later hd3.below
  replace i1 := i1.later hd3.below
  have b3 := below_then b2 hd3.below
  clear b2 hd3 hb3
  obtain ⟨T0, hT0⟩ : ∃ T : Int, (N0 : Int) + 1 = T := ⟨_, rfl⟩
  obtain ⟨M, hM, hM2⟩ := mod_nat n N0 T0 hT0.symm
  go_wp2_with fail
  refine (at_any n T0 _ (by omega) (by omega)).mono ?_
  rintro e w' ⟨rfl, rfl⟩
  rw [hM]
  clear hM
  have hcut : ∀ W, (Instr.slice 27 (.slice a0 N0 cap0) none (some (.int .i64 (M : Int))) none).run Try.prog W = .ok (.slice a0 M cap0) W := fun W => run_cut_h a0 N0 cap0 W M (by have := i0.le; omega)
  go_wp2_with fail
  refine (longest_any a0 a1 M cap0 N1 cap1 (L0.take M) L1 J _ (i0.head M hM2) i1 (by omega) m1 hJ2).mono ?_
  rintro e W4 ⟨x4, m4, hb4, rfl, hd4⟩
  have b4 := below_then b3 hd4.below
  have hle : (m4 : Int) ≤ m3 := by have := hb4.fewer HB3.out; omega
  clear b3 hd4 hb4 i0 i1
  go_wp2_with fail
  go_ret
  exact ⟨rfl, b4⟩
end Go.Proofs.Ytmpmaljkmfgagaa
