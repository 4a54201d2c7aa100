/-
  The walk of the law ComposeAlone.
-/
import Derived.Test.YtmpmaljkmfgagabCompFact
import Derived.Test.YtmpmaljkmfgagabCompMath3
import Derived.Test.YtmpmaljkmfgagabDeltaApply
import Derived.Test.YtmpmaljkmfgagabImage
namespace Go.Proofs.Ytmpmaljkmfgagab
open Go.RowKit

theorem whole_any (n : Nat) (hn : n ≤ 64) (w : World) :
    Calls Try.prog 21 #[.int .i64 n] w fun e w' => ∃ a m c, e = .returned (.slice a m c) ∧ OS w' a m c (CompM.whole n) ∧ Below w.heap.size w w' := by
  by_cases h0 : n = 0
  · subst h0
    have HW : Hid (CompM.whole 0 = []) := rfl
    go_enter Try.func21, Try.ntmps21
    go_wp2
    go_ret
    exact ⟨none, 0, 0, rfl, by rw [HW.out]; exact OS.nil_ _, Below.refl _ _⟩
  · have HW : Hid (CompM.whole n = [⟨0, n, []⟩]) := by show _ = _; unfold CompM.whole; rw [if_neg h0]
    have hnb : ((n : Int) == 0) = false := by simp; omega
    have hl := lit_os w [⟨0, n, .slice none 0 0⟩] [⟨0, n, []⟩] 1 rfl rfl (by omega) (by
      intro i hi
      obtain rfl : i = 0 := by omega
      exact ⟨_, _, _, rfl, BS.nil_ _, by unfold I64; simp, by unfold I64; simp; omega⟩)
    have hb : Below w.heap.size w (w.alloc (.cells (cellsV [⟨0, n, .slice none 0 0⟩]).toArray 36)) := (Below.refl _ _).alloc (Nat.le_refl _) _
    have HL := Lib.hid hl
    have HB := Lib.hid hb
    clear hl hb
    go_enter Try.func21, Try.ntmps21
    go_wp2
    go_ret
    exact ⟨_, 1, 1, rfl, by rw [HW.out]; exact HL.out, HB.out⟩

set_option maxRecDepth 100000 in
set_option maxHeartbeats 1000000 in
theorem composeAlone_walk (a0 : Option Addr) (len0 cap0 : Nat) (l0 : List Int) (a1 : Option Addr) (len1 cap1 : Nat) (l1 : List OpR) (size : Int) (w : World) (w0 : BS w a0 len0 cap0 l0) (w1 : OS w a1 len1 cap1 l1) :
    Calls Try.prog 5 #[.slice a0 len0 cap0, .slice a1 len1 cap1, .int .i64 size] w fun e w' => e = .returned (.bool true) ∧ Below w.heap.size w w' := by
  have i0 := w0.head (min len0 64) (by omega)
  have m0 : min len0 64 ≤ 64 := by omega
  have HC0 := Lib.hid (image_any a0 len0 cap0 l0)
  generalize min len0 64 = N0 at i0 m0 HC0
  generalize l0.take N0 = L0 at i0
  have HL0 := Lib.hid i0.len
  have HL1 := Lib.hid w1.len
  have HBy := Lib.hid w1.bytes
  go_enter Try.func5, Try.ntmps5
  go_wp2_with fail
  refine (HC0.out _ w0).mono ?_
  rintro e w' ⟨rfl, rfl⟩
  clear HC0 w0
  go_wp2_with fail
  refine (apply_any a0 N0 cap0 L0 a1 len1 cap1 l1 size _ i0 w1).mono ?_
  rintro e W1 ⟨ab, nb, cb, rfl, sb, b1⟩
  replace i0 := i0.later b1
  replace w1 := w1.later b1
  obtain ⟨E, hE⟩ : ∃ E, DeltaM.check l1 L0.length size = E := ⟨_, rfl⟩
  rw [hE]
  go_wp2_with fail
  refine (composedFact_any _).mono ?_
  rintro e W2 ⟨rfl, b2⟩
  replace i0 := i0.later b2
  replace w1 := w1.later b2
  replace sb := sb.later b2
  replace b2 := below_then b1 b2
  clear b1
  by_cases h0 : E = 0
  · subst h0
    obtain ⟨-, -, -, s1, s2, -, -⟩ := DeltaM.check_zero hE
    obtain ⟨S, rfl⟩ : ∃ S : Nat, size = S := ⟨size.toNat, by omega⟩
    have hS : S ≤ 64 := by omega
    obtain ⟨J, c1, c2, hJl, hJc, hJm⟩ := CompM.alone hE HBy.out
    have eap : DeltaM.applied L0 l1 S = DeltaM.makes L0 l1 := by unfold DeltaM.applied; rw [if_pos hE]
    have eaJ : DeltaM.applied L0 J S = DeltaM.makes L0 l1 := by unfold DeltaM.applied; rw [if_pos hJc, hJm]
    rw [eap] at sb
    rw [HL0.out] at c1 c2
    rw [HL1.out] at hJl
    have C1 := Lib.hid c1
    have C2 := Lib.hid c2
    have HJC := Lib.hid hJc
    have HAJ := Lib.hid eaJ
    clear hE c1 c2 hJc hJm eap eaJ s1 s2
    go_wp2_with fail
    refine (whole_any N0 m0 _).mono ?_
    rintro e W3 ⟨aw, nw, cw, rfl, ow, b3⟩
    replace i0 := i0.later b3
    replace w1 := w1.later b3
    replace sb := sb.later b3
    replace b3 := below_then b2 b3
    clear b2
    go_wp2_with fail
    refine (compose_any aw nw cw _ a1 len1 cap1 l1 N0 N0 S _ ow w1).mono ?_
    rintro e W4 ⟨ax, nx, cx, rfl, ox, b4⟩
    rw [C1.out] at ox ⊢
    simp only at ox ⊢
    replace i0 := i0.later b4
    replace w1 := w1.later b4
    replace sb := sb.later b4
    replace b4 := below_then b3 b4
    clear b3 ow
    go_wp2_with fail
    refine (whole_any S hS _).mono ?_
    rintro e W5 ⟨av, nv, cv, rfl, ov, b5⟩
    replace i0 := i0.later b5
    replace w1 := w1.later b5
    replace sb := sb.later b5
    replace ox := ox.later b5
    replace b5 := below_then b4 b5
    clear b4
    go_wp2_with fail
    refine (compose_any a1 len1 cap1 l1 av nv cv _ N0 S S _ w1 ov).mono ?_
    rintro e W6 ⟨ay, ny, cy, rfl, oy, b6⟩
    rw [C2.out] at oy ⊢
    simp only at oy ⊢
    replace i0 := i0.later b6
    replace sb := sb.later b6
    replace ox := ox.later b6
    replace b6 := below_then b5 b6
    clear b5 ov w1
    go_wp2_with fail
    refine (same_any ax ay nx cx ny cy J J _ ox oy).mono ?_
    rintro e W7 ⟨rfl, b7⟩
    rw [decide_eq_true (rfl : J = J)]
    replace i0 := i0.later b7
    replace sb := sb.later b7
    replace ox := ox.later b7
    replace b7 := below_then b6 b7
    have hnx : ¬ (len1 : Int) < nx := by have := ox.len; omega
    clear b6 oy
    go_wp2_with fail
    refine (apply_any a0 N0 cap0 L0 ax nx cx J S _ i0 ox).mono ?_
    rintro e W8 ⟨ac, nc, cc, rfl, sc, b8⟩
    rw [HJC.out]
    rw [HAJ.out] at sc
    replace sb := sb.later b8
    replace b8 := below_then b7 b8
    clear b7 i0 ox
    go_wp2_with fail
    refine (eqBytes_same ac ab nc cc nb cb _ _ sc sb).mono ?_
    rintro e w' ⟨rfl, rfl⟩
    go_wp2_with fail
    go_ret
    exact ⟨rfl, b8⟩
  · have hne : (E != 0) = true := by simp [h0]
    clear hE
    go_wp2_with fail
    refine (composedFact_any _).mono ?_
    rintro e W3 ⟨rfl, b3⟩
    replace b3 := below_then b2 b3
    go_wp2_with fail
    go_ret
    exact ⟨rfl, b3⟩
end Go.Proofs.Ytmpmaljkmfgagab
