/-
  The walk of the law ComposeDiffs.
-/
import Derived.Test.YtmpmaljkmfgagabCompFact
import Derived.Test.YtmpmaljkmfgagabCompMath3
import Derived.Test.YtmpmaljkmfgagabDifMath
import Derived.Test.YtmpmaljkmfgagabDeltaApply
import Derived.Test.YtmpmaljkmfgagabDeltaDiff
import Derived.Test.YtmpmaljkmfgagabImage
namespace Go.Proofs.Ytmpmaljkmfgagab
open Go.RowKit

theorem ite_many {n : Nat} {E : Int} (h : (if 40 < n then (1 : Int) else 0) = E) (h0 : E ≠ 0) : E = 1 := by
  split at h
  · exact h.symm
  · exact absurd h.symm h0

set_option maxRecDepth 100000 in
set_option maxHeartbeats 1000000 in
theorem composeDiffs_walk (a0 : Option Addr) (len0 cap0 : Nat) (l0 : List Int) (a1 : Option Addr) (len1 cap1 : Nat) (l1 : List Int) (a2 : Option Addr) (len2 cap2 : Nat) (l2 : List Int) (w : World)
    (w0 : BS w a0 len0 cap0 l0) (w1 : BS w a1 len1 cap1 l1) (w2 : BS w a2 len2 cap2 l2) :
    Calls Try.prog 4 #[.slice a0 len0 cap0, .slice a1 len1 cap1, .slice a2 len2 cap2] w fun e w' => e = .returned (.bool true) ∧ Below w.heap.size w w' := by
  have i0 := w0.head (min len0 64) (by omega)
  have i1 := w1.head (min len1 64) (by omega)
  have i2 := w2.head (min len2 64) (by omega)
  have m0 : min len0 64 ≤ 64 := by omega
  have m1 : min len1 64 ≤ 64 := by omega
  have m2 : min len2 64 ≤ 64 := by omega
  have HC0 := Lib.hid (image_any a0 len0 cap0 l0)
  have HC1 := Lib.hid (image_any a1 len1 cap1 l1)
  have HC2 := Lib.hid (image_any a2 len2 cap2 l2)
  generalize min len0 64 = N0 at i0 m0 HC0
  generalize min len1 64 = N1 at i1 m1 HC1
  generalize min len2 64 = N2 at i2 m2 HC2
  generalize l0.take N0 = L0 at i0
  generalize l1.take N1 = L1 at i1
  generalize l2.take N2 = L2 at i2
  have HL0 := Lib.hid i0.len
  have HL1 := Lib.hid i1.len
  have HL2 := Lib.hid i2.len
  go_enter Try.func4, Try.ntmps4
  go_wp2_with fail
  refine (HC0.out _ w0).mono ?_
  rintro e w' ⟨rfl, rfl⟩
  go_wp2_with fail
  refine (HC1.out _ w1).mono ?_
  rintro e w' ⟨rfl, rfl⟩
  go_wp2_with fail
  refine (HC2.out _ w2).mono ?_
  rintro e w' ⟨rfl, rfl⟩
  clear HC0 HC1 HC2 w0 w1 w2
  go_wp2_with fail
  refine (diff_any a0 a1 N0 cap0 N1 cap1 L0 L1 _ i0 i1 m0 m1).mono ?_
  rintro e W1 ⟨dl, al, nl, cl, hd1, rfl, ol, -, b1⟩
  have HD1 := Lib.hid hd1
  replace i0 := i0.later b1
  replace i1 := i1.later b1
  replace i2 := i2.later b1
  clear hd1
  go_wp2_with fail
  refine (diff_any a1 a2 N1 cap1 N2 cap2 L1 L2 _ i1 i2 m1 m2).mono ?_
  rintro e W2 ⟨dm, am, nm, cm, hd2, rfl, om, -, b2⟩
  have HD2 := Lib.hid hd2
  replace i0 := i0.later b2
  replace i2 := i2.later b2
  replace ol := ol.later b2
  replace b2 := below_then b1 b2
  clear hd2 i1 b1
  go_wp2_with fail
  refine (composedFact_any _).mono ?_
  rintro e W3 ⟨rfl, b3⟩
  replace i0 := i0.later b3
  replace i2 := i2.later b3
  replace ol := ol.later b3
  replace om := om.later b3
  replace b3 := below_then b2 b3
  clear b2
  have hk1 : DeltaM.check dl N0 N1 = 0 := by
    have := HD1.out.check (by rw [HL0.out]; exact m0) (by rw [HL1.out]; exact m1)
    rwa [HL0.out, HL1.out] at this
  have hk2 : DeltaM.check dm N1 N2 = 0 := by
    have := HD2.out.check (by rw [HL1.out]; exact m1) (by rw [HL2.out]; exact m2)
    rwa [HL1.out, HL2.out] at this
  have hjc := CompM.joined_check hk1 hk2 ⟨L0, by rw [HL0.out]⟩ ol.bytes om.bytes
  have HBL := Lib.hid ol.bytes
  have HBM := Lib.hid om.bytes
  have HK1 := Lib.hid hk1
  have HK2 := Lib.hid hk2
  have HJC := Lib.hid hjc
  clear hk1 hk2 hjc
  go_wp2_with fail
  refine (compose_any al nl cl dl am nm cm dm N0 N1 N2 _ ol om).mono ?_
  rintro e W4 ⟨ax, nx, cx, rfl, ox, b4⟩
  replace i0 := i0.later b4
  replace i2 := i2.later b4
  replace b4 := below_then b3 b4
  clear b3 ol om
  obtain ⟨E, hE⟩ : ∃ E, DeltaM.check (CompM.joined dl dm) N0 N2 = E := ⟨_, rfl⟩
  by_cases h0 : E = 0
  · subst h0
    have hcomp := CompM.composed_0 HK1.out HK2.out hE
    rw [hcomp] at ox ⊢
    simp only at ox ⊢
    have hE' : DeltaM.check (CompM.joined dl dm) L0.length N2 = 0 := by rw [HL0.out]; exact hE
    have ea : DeltaM.applied L0 (CompM.joined dl dm) N2 = L2 := by
      unfold DeltaM.applied
      rw [if_pos hE', (CompM.joined_makes (old := L0) (by rw [HL0.out]; exact HK1.out) HK2.out HBL.out HBM.out).1, HD1.out.makes, List.nil_append, HD2.out.makes]
      rfl
    have HE' := Lib.hid hE'
    have HA := Lib.hid ea
    clear hE hcomp hE' ea
    go_wp2_with fail
    refine (apply_any a0 N0 cap0 L0 ax nx cx _ N2 _ i0 ox).mono ?_
    rintro e W5 ⟨ad, nd, cd, rfl, sd, b5⟩
    rw [HE'.out]
    rw [HA.out] at sd
    replace i2 := i2.later b5
    replace b5 := below_then b4 b5
    clear b4 i0 ox
    go_wp2_with fail
    refine (eqBytes_same ad a2 nd cd N2 cap2 L2 _ sd i2).mono ?_
    rintro e w' ⟨rfl, rfl⟩
    go_wp2_with fail
    go_ret
    exact ⟨rfl, b5⟩
  · have h1 : E = 1 := by
      have := HJC.out
      rw [hE] at this
      exact ite_many this.symm h0
    subst h1
    have hcomp := CompM.composed_3 HK1.out HK2.out hE h0
    rw [hcomp]
    simp only
    clear hE hcomp h0
    go_wp2_with fail
    go_ret
    exact ⟨rfl, b4⟩
end Go.Proofs.Ytmpmaljkmfgagab
