/-
  The walk of the law DeltaParts.
-/
import Derived.Test.YtmpmaljkmfgagaaPartsMath
import Derived.Test.YtmpmaljkmfgagaaParted
import Derived.Test.YtmpmaljkmfgagaaImage
import Derived.Test.YtmpmaljkmfgagaaAt
import Derived.Test.YtmpmaljkmfgagaaOpsCut
import Derived.Test.YtmpmaljkmfgagaaCat2
namespace Go.Proofs.Ytmpmaljkmfgagaa
open Go.RowKit

set_option maxRecDepth 100000 in
set_option maxHeartbeats 1000000 in
theorem deltaParts_walk (a0 : Option Addr) (len0 cap0 : Nat) (l0 : List Int) (a1 : Option Addr) (len1 cap1 : Nat) (l1 : List OpR) (size k : Int) (w : World) (w0 : BS w a0 len0 cap0 l0) (w1 : OS w a1 len1 cap1 l1) :
    Calls Try.prog 13 #[.slice a0 len0 cap0, .slice a1 len1 cap1, .int .i64 size, .int .i64 k] w fun e w' => e = .returned (.bool true) ∧ Below w.heap.size w w' := by
  have i0 := w0.head (min len0 64) (by omega)
  have m0 : min len0 64 ≤ 64 := by omega
  have HC0 := Lib.hid (image_any a0 len0 cap0 l0)
  generalize min len0 64 = N0 at i0 m0 HC0
  generalize l0.take N0 = L0 at i0
  have HL0 := Lib.hid i0.len
  have HL1 := Lib.hid w1.len
  have hle1 := w1.le
  have hmx1 := w1.max
  go_enter Try.func13, Try.ntmps13
  go_wp2_with fail
  refine (HC0.out _ w0).mono ?_
  rintro e w' ⟨rfl, rfl⟩
  clear HC0 w0
  go_wp2_with fail
  refine (apply_any a0 N0 cap0 L0 a1 len1 cap1 l1 size _ i0 w1).mono ?_
  rintro e W1 ⟨ab, nb, cb, rfl, sb, b1⟩
  replace i0 := i0.later b1
  replace w1 := w1.later b1
  obtain ⟨E, hE⟩ : ∃ E, DeltaM.check l1 L0.length size = E := ⟨_, rfl⟩
  rw [hE]
  go_wp2_with fail
  refine (parted_any _).mono ?_
  rintro e W2 ⟨rfl, b2⟩
  replace i0 := i0.later b2
  replace w1 := w1.later b2
  replace sb := sb.later b2
  replace b2 := below_then b1 b2
  clear b1
  by_cases h0 : E = 0
  · subst h0
    have HCk := Lib.hid hE
    obtain ⟨h40, -, -, hs0, hs64, hgood, htot⟩ := DeltaM.check_zero hE
    rw [HL1.out] at h40
    have eap : DeltaM.applied L0 l1 size = DeltaM.makes L0 l1 := by unfold DeltaM.applied; rw [if_pos hE]
    rw [eap] at sb
    have HG := Lib.hid hgood
    have HTot := Lib.hid htot
    clear eap hgood htot hE
    obtain ⟨T1, hT1⟩ : ∃ T : Int, (len1 : Int) + 1 = T := ⟨_, rfl⟩
    obtain ⟨J, hJ, hJ2⟩ := mod_nat k len1 T1 hT1.symm
    go_wp2_with fail
    refine (at_any k T1 _ (by omega) (by omega)).mono ?_
    rintro e w' ⟨rfl, rfl⟩
    rw [hJ]
    clear hJ
    have hcut1 : ∀ W, (Instr.slice 48 (.slice a1 len1 cap1) none (some (.int .i64 (J : Int))) none).run Try.prog W = .ok (.slice a1 J cap1) W := fun W => run_cutO_h a1 len1 cap1 W J (by omega)
    have hcut2 : ∀ W, (Instr.slice 48 (.slice a1 len1 cap1) (some (.int .i64 (J : Int))) none none).run Try.prog W = .ok (.slice (cutO a1 cap1 J) (len1 - J) (cap1 - J)) W := fun W => run_cutO_l a1 len1 cap1 W J (by omega)
    have HH := Lib.hid (w1.head J hJ2)
    have HT := Lib.hid (w1.cut J hJ2)
    have HI0 := Lib.hid i0
    have HSB := Lib.hid sb
    have HB2 := Lib.hid b2
    clear w1 i0 sb b2
    generalize cutO a1 cap1 J = A2 at hcut2 HT
    have HTN := Lib.hid (DeltaM.total_nonneg (DeltaM.good_drop HG.out J))
    have HTP := Lib.hid (DeltaM.total_parts l1 J)
    have HBd : Hid (∀ i, i ≤ J → 0 ≤ DeltaM.total (l1.take i) ∧ DeltaM.total (l1.take i) ≤ 64) := by
      show ∀ i, _
      intro i _
      have q1 := DeltaM.total_nonneg (DeltaM.good_take HG.out i)
      have q2 := DeltaM.total_nonneg (DeltaM.good_drop HG.out i)
      have q3 := DeltaM.total_parts l1 i
      have q4 := HTot.out
      omega
    go_wp2_with fail
    go_loopw [11, 42] (fun n i wr => ∃ m j : Nat, n = .int .i64 m ∧ i = .int .i64 j ∧ j ≤ J ∧ (m : Int) = DeltaM.total (l1.take j) ∧ Below W2.heap.size W2 wr) (fun _ i _ => J - (intOf i).toNat)
    case atStart => exact ⟨0, 0, rfl, rfl, Nat.zero_le _, rfl, Below.refl _ _⟩
    case round =>
      obtain ⟨m, j, rfl, rfl, hj, hm, hB⟩ := hrel
      have Hm := Lib.hid hm
      have hm64 : m ≤ 64 := by have := (HBd.out j hj).2; omega
      clear hm
      by_cases hlt : j < J
      · obtain ⟨b, off, rfl, hcs⟩ := (HH.out.later hB).cells (by omega)
        obtain ⟨va, vn, vc, q0, q1, q2, q3, -, -⟩ := hcs j hlt
        have hget : (l1.take J).getD j default = l1.getD j default := by simp [List.getD_eq_getElem?_getD, List.getElem?_take_of_lt hlt]
        rw [hget] at q0 q1 q3
        have hsn := DeltaM.total_snoc l1 j (by rw [HL1.out]; omega)
        have hb1 := (HBd.out (j + 1) (by omega))
        rw [hsn] at hb1
        have hgo := (HG.out (l1.getD j default) (by rw [List.getD_eq_getElem?_getD, List.getElem?_eq_getElem (by rw [HL1.out]; omega)]; exact List.getElem_mem _)).2
        have HSN := Lib.hid hsn
        have hB1 := hB.alloc hB.size (.cells #[.int .i64 (l1.getD j default).at_, .int .i64 (l1.getD j default).len, .slice va vn vc] 56)
        clear hcs hget hsn
        generalize l1.getD j default = o at q0 q1 q2 q3 hb1 hgo HSN hB1
        obtain ⟨A, L, D⟩ := o
        have hlen := DeltaM.good_len hgo
        have hDl := q3.len
        simp only [DeltaM.size] at hb1
        simp only at q0 q1 q2 q3 hlen hDl hB1
        have hmm := Hm.out
        obtain ⟨S, hS⟩ : ∃ S : Nat, L + (vn : Int) = S := ⟨(L + vn).toNat, by omega⟩
        obtain ⟨M, hM⟩ : ∃ M : Nat, (m : Int) + S = M := ⟨m + S, by omega⟩
        have HMt : Hid ((M : Int) = DeltaM.total (l1.take (j + 1))) := by
          show (M : Int) = _
          rw [HSN.out, ← Hm.out]
          simp only [DeltaM.size]
          omega
        have hS64 : S ≤ 64 := by omega
        clear hb1 hgo hmm hDl q3
        go_wp2_with fail
        go_roundw
        case rel => exact ⟨M, j + 1, by go_num, by go_num, by omega, HMt.out, hB1⟩
        case measure => simp [intOf]; omega
      · obtain rfl : j = J := by omega
        have s0 := HI0.out.later hB
        have hh := HH.out.later hB
        have ht := HT.out.later hB
        have sb := HSB.out.later hB
        have b3 := below_then HB2.out hB
        have hck1 : DeltaM.check (l1.take j) L0.length m = 0 := by rw [Hm.out]; exact DeltaM.check_take HCk.out j
        obtain ⟨D, hD⟩ : ∃ D : Int, size - (m : Int) = D := ⟨_, rfl⟩
        have hck2 : DeltaM.check (l1.drop j) L0.length D = 0 := by rw [← hD, Hm.out]; exact DeltaM.check_drop HCk.out j
        have ea1 : DeltaM.applied L0 (l1.take j) m = DeltaM.makes L0 (l1.take j) := by unfold DeltaM.applied; rw [if_pos hck1]
        have ea2 : DeltaM.applied L0 (l1.drop j) D = DeltaM.makes L0 (l1.drop j) := by unfold DeltaM.applied; rw [if_pos hck2]
        have HK1 := Lib.hid hck1
        have HK2 := Lib.hid hck2
        have HA1 := Lib.hid ea1
        have HA2 := Lib.hid ea2
        clear hB hck1 hck2 ea1 ea2
        go_wp2_with fail
        refine (apply_any a0 N0 cap0 L0 a1 j cap1 (l1.take j) m _ s0 hh).mono ?_
        rintro e W3 ⟨ax, nx, cx, rfl, sx, b4⟩
        rw [HK1.out]
        rw [HA1.out] at sx
        replace s0 := s0.later b4
        replace ht := ht.later b4
        replace sb := sb.later b4
        replace b4 := below_then b3 b4
        clear b3 hh
        go_wp2_with fail
        refine (apply_any a0 N0 cap0 L0 A2 (len1 - j) (cap1 - j) (l1.drop j) D _ s0 ht).mono ?_
        rintro e W4 ⟨ay, ny, cy, rfl, sy, b5⟩
        rw [HK2.out]
        rw [HA2.out] at sy
        replace sx := sx.later b5
        replace sb := sb.later b5
        replace b5 := below_then b4 b5
        clear b4 s0 ht
        have hxy : nx + ny ≤ 64 := by
          have q1 := sx.len
          have q2 := sy.len
          have q3 := DeltaM.makes_length (old := L0) HG.out
          rw [← DeltaM.makes_parts L0 l1 j, HTot.out] at q3
          simp only [List.length_append] at q3
          omega
        go_wp2_with fail
        refine (concat_two ax ay nx cx ny cy _ _ _ sx sy (by omega)).mono ?_
        rintro e W5 ⟨ac, nc, cc, rfl, sc, b6⟩
        rw [DeltaM.makes_parts] at sc
        replace sb := sb.later b6
        replace b6 := below_then b5 b6
        clear b5 sx sy
        go_wp2_with fail
        refine (eqBytes_same ac ab nc cc nb cb _ _ sc sb).mono ?_
        rintro e w' ⟨rfl, rfl⟩
        go_wp2_with fail
        go_ret
        exact ⟨rfl, b6⟩
  · have hne : (E != 0) = true := by simp [h0]
    clear hE
    go_wp2_with fail
    refine (parted_any _).mono ?_
    rintro e W3 ⟨rfl, b3⟩
    replace b3 := below_then b2 b3
    go_wp2_with fail
    go_ret
    exact ⟨rfl, b3⟩
end Go.Proofs.Ytmpmaljkmfgagaa
