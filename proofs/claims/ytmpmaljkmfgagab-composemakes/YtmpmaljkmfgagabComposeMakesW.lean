/-
  The walk of the law ComposeMakes.
-/
import Derived.Test.YtmpmaljkmfgagabCompFact
import Derived.Test.YtmpmaljkmfgagabCompMath3
import Derived.Test.YtmpmaljkmfgagabDeltaApply
import Derived.Test.YtmpmaljkmfgagabImage
namespace Go.Proofs.Ytmpmaljkmfgagab
open Go.RowKit

set_option maxRecDepth 100000 in
set_option maxHeartbeats 1000000 in
theorem composeMakes_walk (a0 : Option Addr) (len0 cap0 : Nat) (l0 : List Int) (a1 : Option Addr) (len1 cap1 : Nat) (l1 : List OpR) (a2 : Option Addr) (len2 cap2 : Nat) (l2 : List OpR) (mid size : Int) (w : World)
    (w0 : BS w a0 len0 cap0 l0) (w1 : OS w a1 len1 cap1 l1) (w2 : OS w a2 len2 cap2 l2) :
    Calls Try.prog 3 #[.slice a0 len0 cap0, .slice a1 len1 cap1, .slice a2 len2 cap2, .int .i64 mid, .int .i64 size] w fun e w' => e = .returned (.bool true) ∧ Below w.heap.size w w' := by
  have i0 := w0.head (min len0 64) (by omega)
  have m0 : min len0 64 ≤ 64 := by omega
  have HC0 := Lib.hid (image_any a0 len0 cap0 l0)
  generalize min len0 64 = N0 at i0 m0 HC0
  generalize l0.take N0 = L0 at i0
  have HL0 := Lib.hid i0.len
  have HB1 := Lib.hid w1.bytes
  have HB2 := Lib.hid w2.bytes
  go_enter Try.func3, Try.ntmps3
  go_wp2_with fail
  refine (HC0.out _ w0).mono ?_
  rintro e w' ⟨rfl, rfl⟩
  clear HC0 w0
  go_wp2_with fail
  refine (compose_any a1 len1 cap1 l1 a2 len2 cap2 l2 N0 mid size _ w1 w2).mono ?_
  rintro e W1 ⟨ax, nx, cx, rfl, ox, b1⟩
  replace i0 := i0.later b1
  replace w1 := w1.later b1
  replace w2 := w2.later b1
  obtain ⟨E, hE⟩ : ∃ E, (CompM.composed l1 l2 N0 mid size).2 = E := ⟨_, rfl⟩
  rw [hE]
  go_wp2_with fail
  refine (composedFact_any _).mono ?_
  rintro e W2 ⟨rfl, b2⟩
  replace i0 := i0.later b2
  replace w1 := w1.later b2
  replace w2 := w2.later b2
  replace ox := ox.later b2
  replace b2 := below_then b1 b2
  clear b1
  by_cases h0 : E = 0
  · subst h0
    obtain ⟨h1, h2, h3, h4⟩ := CompM.composed_ok hE
    rw [h4] at ox
    rw [← HL0.out] at h1 h3
    obtain ⟨-, -, -, -, -, g1, t1⟩ := DeltaM.check_zero h1
    have hml := DeltaM.makes_length (old := L0) g1
    rw [t1] at hml
    have HJ := Lib.hid (CompM.joined_makes h1 h2 HB1.out HB2.out).1
    have ea1 : DeltaM.applied L0 l1 mid = DeltaM.makes L0 l1 := by unfold DeltaM.applied; rw [if_pos h1]
    have h2' : DeltaM.check l2 (DeltaM.makes L0 l1).length size = 0 := by rw [hml]; exact h2
    have ea2 : DeltaM.applied (DeltaM.makes L0 l1) l2 size = DeltaM.makes (DeltaM.makes L0 l1) l2 := by unfold DeltaM.applied; rw [if_pos h2']
    have ea3 : DeltaM.applied L0 (CompM.joined l1 l2) size = DeltaM.makes L0 (CompM.joined l1 l2) := by unfold DeltaM.applied; rw [if_pos h3]
    have H1 := Lib.hid h1
    have H2 := Lib.hid h2'
    have H3 := Lib.hid h3
    have A1 := Lib.hid ea1
    have A2 := Lib.hid ea2
    have A3 := Lib.hid ea3
    clear hE h1 h2 h3 h4 g1 t1 hml h2' ea1 ea2 ea3
    go_wp2_with fail
    refine (apply_any a0 N0 cap0 L0 a1 len1 cap1 l1 mid _ i0 w1).mono ?_
    rintro e W3 ⟨ab, nb, cb, rfl, sb, b3⟩
    rw [H1.out]
    rw [A1.out] at sb
    replace i0 := i0.later b3
    replace w2 := w2.later b3
    replace ox := ox.later b3
    replace b3 := below_then b2 b3
    clear b2 w1
    go_wp2_with fail
    refine (apply_any ab nb cb _ a2 len2 cap2 l2 size _ sb w2).mono ?_
    rintro e W4 ⟨ac, nc, cc, rfl, sc, b4⟩
    rw [H2.out]
    rw [A2.out] at sc
    replace i0 := i0.later b4
    replace ox := ox.later b4
    replace b4 := below_then b3 b4
    clear b3 w2 sb
    go_wp2_with fail
    refine (apply_any a0 N0 cap0 L0 ax nx cx _ size _ i0 ox).mono ?_
    rintro e W5 ⟨ad, nd, cd, rfl, sd, b5⟩
    rw [H3.out]
    rw [A3.out, HJ.out] at sd
    replace sc := sc.later b5
    replace b5 := below_then b4 b5
    clear b4 i0 ox
    go_wp2_with fail
    refine (eqBytes_same ac ad nc cc nd cd _ _ sc sd).mono ?_
    rintro e w' ⟨rfl, rfl⟩
    go_wp2_with fail
    go_ret
    exact ⟨rfl, b5⟩
  · have hne : (E != 0) = true := by simp [h0]
    clear hE
    go_wp2_with fail
    refine (composedFact_any _).mono ?_
    rintro e W3 ⟨rfl, b3⟩
    replace b3 := below_then b2 b3
    go_wp2_with fail
    go_ret
    exact ⟨rfl, b3⟩
end Go.Proofs.Ytmpmaljkmfgagab
