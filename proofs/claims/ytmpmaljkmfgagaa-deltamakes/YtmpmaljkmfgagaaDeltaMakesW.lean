/-
  The walk of the law DeltaMakes.
-/
import Derived.Test.YtmpmaljkmfgagaaDifMath
import Derived.Test.YtmpmaljkmfgagaaParted
import Derived.Test.YtmpmaljkmfgagaaImage
namespace Go.Proofs.Ytmpmaljkmfgagaa
open Go.RowKit

set_option maxRecDepth 100000 in
set_option maxHeartbeats 1000000 in
theorem deltaMakes_walk (a0 : Option Addr) (len0 cap0 : Nat) (l0 : List Int) (a1 : Option Addr) (len1 cap1 : Nat) (l1 : List Int) (w : World) (w0 : BS w a0 len0 cap0 l0) (w1 : BS w a1 len1 cap1 l1) :
    Calls Try.prog 12 #[.slice a0 len0 cap0, .slice a1 len1 cap1] w fun e w' => e = .returned (.bool true) ∧ Below w.heap.size w w' := by
  have i0 := w0.head (min len0 64) (by omega)
  have i1 := w1.head (min len1 64) (by omega)
  have m0 : min len0 64 ≤ 64 := by omega
  have m1 : min len1 64 ≤ 64 := by omega
  have HC0 := Lib.hid (image_any a0 len0 cap0 l0)
  have HC1 := Lib.hid (image_any a1 len1 cap1 l1)
  generalize min len0 64 = N0 at i0 m0 HC0
  generalize min len1 64 = N1 at i1 m1 HC1
  generalize l0.take N0 = L0 at i0
  generalize l1.take N1 = L1 at i1
  have HL0 := Lib.hid i0.len
  have HL1 := Lib.hid i1.len
  go_enter Try.func12, Try.ntmps12
  go_wp2_with fail
  refine (HC0.out _ w0).mono ?_
  rintro e w' ⟨rfl, rfl⟩
  go_wp2_with fail
  refine (HC1.out _ w1).mono ?_
  rintro e w' ⟨rfl, rfl⟩
  clear HC0 HC1 w0 w1
  go_wp2_with fail
  refine (diff_any a0 a1 N0 cap0 N1 cap1 L0 L1 _ i0 i1 m0 m1).mono ?_
  rintro e W1 ⟨out, ax, nx, cx, hdif, rfl, ox, ⟨hox, -⟩, b1⟩
  have HDif := Lib.hid hdif
  have hck : DeltaM.check out N0 N1 = 0 := by
    have := hdif.check (by rw [HL0.out]; exact m0) (by rw [HL1.out]; exact m1)
    rwa [HL0.out, HL1.out] at this
  have HCk := Lib.hid hck
  have hnx := ox.len
  replace i0 := i0.later b1
  replace i1 := i1.later b1
  clear hdif hck
  go_wp2_with fail
  refine (parted_any _).mono ?_
  rintro e W2 ⟨rfl, b2⟩
  replace i0 := i0.later b2
  replace i1 := i1.later b2
  replace ox := ox.later b2
  replace b2 := below_then b1 b2
  clear b1
  go_wp2_with fail
  refine (check_any ax nx cx out N0 N1 _ ox).mono ?_
  rintro e W3 ⟨rfl, b3⟩
  rw [HCk.out]
  replace i0 := i0.later b3
  replace i1 := i1.later b3
  replace ox := ox.later b3
  replace b3 := below_then b2 b3
  clear b2
  go_wp2_with fail
  refine (apply_any a0 N0 cap0 L0 ax nx cx out N1 _ i0 ox).mono ?_
  rintro e W4 ⟨ay, ny, cy, rfl, by_, b4⟩
  have eck : DeltaM.check out L0.length N1 = 0 := by rw [HL0.out]; exact HCk.out
  have eap : DeltaM.applied L0 out N1 = L1 := by
    unfold DeltaM.applied
    rw [if_pos eck, HDif.out.makes]
    rfl
  rw [eap] at by_
  rw [eck]
  replace i1 := i1.later b4
  replace ox := ox.later b4
  replace b4 := below_then b3 b4
  clear b3 i0 eck eap
  go_wp2_with fail
  refine (eqBytes_same ay a1 ny cy N1 cap1 L1 _ by_ i1).mono ?_
  rintro e w' ⟨rfl, rfl⟩
  clear by_
  have HX := Lib.hid ox
  have HI1 := Lib.hid i1
  have HB := Lib.hid b4
  clear ox i1 b4 HCk
  have hxn : nx ≤ 200 := by omega
  go_wp2_with fail
  go_loopw [54] (fun i wr => ∃ k : Nat, i = .int .i64 k ∧ k ≤ nx ∧ Below W4.heap.size W4 wr) (fun i _ => nx - (intOf i).toNat)
  case atStart => exact ⟨0, rfl, Nat.zero_le _, Below.refl _ _⟩
  case round =>
    obtain ⟨k, rfl, hk, hB⟩ := hrel
    by_cases hlt : k < nx
    · obtain ⟨b, off, rfl, hcs⟩ := (HX.out.later hB).cells (by omega)
      obtain ⟨va, vn, vc, q0, q1, q2, -, -, -⟩ := hcs k hlt
      have h4 := HDif.out.four (out.getD k default) (by rw [List.getD_eq_getElem?_getD, List.getElem?_eq_getElem (by omega)]; exact List.getElem_mem _)
      have hno := fun (j : Nat) (hj : j + 1 = k) => DeltaM.noTwo_at (l := out) j HDif.out.noTwo (by omega)
      have HNO := Lib.hid hno
      have HCS := Lib.hid hcs
      clear hcs hno
      have hB1 := hB.alloc hB.size (.cells #[.int .i64 (out.getD k default).at_, .int .i64 (out.getD k default).len, .slice va vn vc] 56)
      have hbx : Below wr.heap.size wr (wr.alloc (.cells #[.int .i64 (out.getD k default).at_, .int .i64 (out.getD k default).len, .slice va vn vc] 56)) := (Below.refl _ _).alloc (Nat.le_refl _) _
      have HBX := Lib.hid hbx
      clear hbx
      have HLEN : Hid (∀ j, j + 1 = k → (out.getD k default).len = 0 → (out.getD j default).len ≠ 0) := by
        show ∀ j, _
        intro j hj h0
        exact HNO.out j hj (by rw [hj]; exact h0)
      generalize out.getD k default = o at q0 q1 q2 h4 hB1 HLEN HBX
      obtain ⟨A, L, D⟩ := o
      simp only at q0 q1 q2 h4 hB1
      rcases h4 with h4 | h4
      · subst h4
        rcases Nat.eq_zero_or_pos k with hk0 | hk0
        · subst hk0
          rw [Nat.zero_mul, Nat.add_zero] at q0 q1 q2
          go_wp2_with fail
          go_roundw
          case rel => exact ⟨1, by go_num, by omega, hB1⟩
          case measure => simp [intOf]; omega
        · obtain ⟨j, rfl⟩ : ∃ j, k = j + 1 := ⟨k - 1, by omega⟩
          obtain ⟨ua, un, uc, p0, p1, p2, -, -, -⟩ := (HCS.out j (by omega)).keep (fun _ _ hc => cell_later HBX.out hc)
          have hne := HLEN.out j rfl rfl
          generalize out.getD j default = o' at p0 p1 p2 hne
          obtain ⟨A', L', D'⟩ := o'
          simp only at p0 p1 p2 hne
          have hnb : (L' == 0) = false := by simp [hne]
          have hj1 : ((j : Nat) : Int) + 1 - 1 = j := by omega
          go_wp2_with fail
          go_roundw
          case rel => exact ⟨j + 1 + 1, by go_num, by omega, hB1⟩
          case measure => simp [intOf]; omega
      · have hL1 : 0 < L := by omega
        have hL2 : ¬ L < 4 := by omega
        have hL3 : (L == 0) = false := by simp; omega
        rcases Nat.eq_zero_or_pos k with hk0 | hk0
        · subst hk0
          rw [Nat.zero_mul, Nat.add_zero] at q0 q1 q2
          go_wp2_with fail
          go_roundw
          case rel => exact ⟨1, by go_num, by omega, hB1⟩
          case measure => simp [intOf]; omega
        · go_wp2_with fail
          go_roundw
          case rel => exact ⟨k + 1, by go_num, by omega, hB1⟩
          case measure => simp [intOf]; omega
    · have i1 := HI1.out.later hB
      have b5 := below_then HB.out hB
      clear hB
      go_wp2_with fail
      refine (diff_any a1 a1 N1 cap1 N1 cap1 L1 L1 _ i1 i1 m1 m1).mono ?_
      rintro e W5 ⟨out2, az, nz, cz, hdif2, rfl, oz, -, b6⟩
      replace b6 := below_then b5 b6
      clear b5 i1
      by_cases hs : N1 < 4
      · go_wp2_with fail
        go_ret
        exact ⟨rfl, b6⟩
      · obtain rfl := hdif2.self (by rw [HL1.out]; omega)
        have hnz := oz.len
        simp only [List.length_cons, List.length_nil] at hnz
        subst hnz
        obtain ⟨b, off, rfl, hcs⟩ := oz.cells (by omega)
        obtain ⟨va, vn, vc, q0, q1, q2, -, -, -⟩ := hcs 0 (by omega)
        simp only [List.getD_cons_zero, HL1.out, Nat.zero_mul, Nat.add_zero] at q0 q1 q2
        have hnn : ((N1 : Int) == N1) = true := by simp
        clear hcs oz hdif2
        go_wp2_with fail
        go_ret
        exact ⟨rfl, b6⟩
end Go.Proofs.Ytmpmaljkmfgagaa
