/-
  The walk of the law MatchMost.
-/
import Derived.Test.YtmpmaljkmfgagaaMatched
import Derived.Test.YtmpmaljkmfgagaaImage
import Derived.Test.YtmpmaljkmfgagaaAt
import Derived.Test.YtmpmaljkmfgagaaEqBytes
import Derived.Test.YtmpmaljkmfgagaaContains
import Derived.Deep.RegionHeld3
namespace Go.Proofs.Ytmpmaljkmfgagaa
open Go.RowKit

theorem below_undrew {w W : World} (h : Below w.drew.heap.size w.drew W) : Below w.heap.size w W := ⟨h.os, h.tape, h.output, h.size, h.block⟩

set_option maxRecDepth 100000 in
set_option maxHeartbeats 4000000 in
theorem matchMost_walk (a0 : Option Addr) (len0 cap0 : Nat) (l0 : List Int) (a1 : Option Addr) (len1 cap1 : Nat) (l1 : List Int) (k : Int) (w : World) (w0 : BS w a0 len0 cap0 l0) (w1 : BS w a1 len1 cap1 l1) (hM : MaxCell w) :
    Calls Try.prog 9 #[.slice a0 len0 cap0, .slice a1 len1 cap1, .int .i64 k] w fun e w' => e = .returned (.bool true) ∧ Below w.heap.size w w' := by
  have i0 := w0.head (min len0 64) (by omega)
  have i1 := w1.head (min len1 64) (by omega)
  have m0 : min len0 64 ≤ 64 := by omega
  have m1 : min len1 64 ≤ 64 := by omega
  have c0 := image_any a0 len0 cap0 l0
  have c1 := image_any a1 len1 cap1 l1
  have HC0 := Lib.hid c0
  have HC1 := Lib.hid c1
  clear c0 c1
  generalize min len0 64 = N0 at i0 m0 HC0
  generalize min len1 64 = N1 at i1 m1 HC1
  generalize l0.take N0 = L0 at i0
  generalize l1.take N1 = L1 at i1
  go_enter Try.func9, Try.ntmps9
  go_wp2_with fail
  refine (HC0.out _ w0).mono ?_
  rintro e w' ⟨rfl, rfl⟩
  go_wp2_with fail
  refine (HC1.out _ w1).mono ?_
  rintro e w' ⟨rfl, rfl⟩
  clear HC0 HC1 w0 w1
  obtain ⟨T1, hT1⟩ : ∃ T : Int, (N1 : Int) + 1 = T := ⟨_, rfl⟩
  obtain ⟨J, hJ, hJ2⟩ := mod_nat k N1 T1 hT1.symm
  go_wp2_with fail
  refine (at_any k T1 _ (by omega) (by omega)).mono ?_
  rintro e w' ⟨rfl, rfl⟩
  rw [hJ]
  clear hJ
  go_wp2_with fail
  refine (longest_any a0 a1 N0 cap0 N1 cap1 L0 L1 J _ i0 i1 m0 m1 hJ2).mono ?_
  rintro e W1 ⟨i, m, hb, rfl, hd⟩
  have hro := hb.room
  rw [i0.len, List.length_drop, i1.len] at hro
  have HB := Lib.hid hb
  have HI0 := Lib.hid (i0.later hd.below)
  have HI1 := Lib.hid (i1.later hd.below)
  have HM := Lib.hid (hM.later hd.below)
  have HB1 := Lib.hid hd.below
  have hl0 := i0.le
  have hl1 := i1.le
  clear hb hd i0 i1 hM
  obtain ⟨E, hE⟩ : ∃ E : Nat, (i : Int) + m = E := ⟨i + m, by omega⟩
  obtain ⟨F, hF⟩ : ∃ F : Nat, (J : Int) + m = F := ⟨J + m, by omega⟩
  have hEm : E - i = m := by omega
  have hFm : F - J = m := by omega
  have hE0 : E ≤ N0 := by omega
  have hF1 : F ≤ N1 := by omega
  have HE : Hid (i ≤ E) := by show i ≤ E; omega
  have HFJ : Hid (J ≤ F) := by show J ≤ F; omega
  have hcut0 : ∀ W, (Instr.slice 27 (.slice a0 N0 cap0) (some (.int .i64 i)) (some (.int .i64 E)) none).run Try.prog W = .ok (.slice (cutA a0 cap0 i) m (cap0 - i)) W := fun W => by
    have := run_cut_lh a0 N0 cap0 W i E HE.out (by omega)
    rwa [hEm] at this
  have hcut1 : ∀ W, (Instr.slice 27 (.slice a1 N1 cap1) (some (.int .i64 J)) (some (.int .i64 F)) none).run Try.prog W = .ok (.slice (cutA a1 cap1 J) m (cap1 - J)) W := fun W => by
    have := run_cut_lh a1 N1 cap1 W J F HFJ.out (by omega)
    rwa [hFm] at this
  have HS0 := Lib.hid (HI0.out.mid i E HE.out hE0)
  have HS1 := Lib.hid (HI1.out.mid J F HFJ.out hF1)
  rw [hEm, HB.out.alike] at HS0
  rw [hFm] at HS1
  generalize cutA a0 cap0 i = A0 at hcut0 HS0
  generalize cutA a1 cap1 J = A1 at hcut1 HS1
  have hd1 : decide (N0 < E) = false := by simp; omega
  have hd2 : decide (N1 < F) = false := by simp; omega
  have hw1 : IntKind.i64.wrap (E : Int) = E := IntWalk.i64_in _ (by omega)
  have hw2 : IntKind.i64.wrap (F : Int) = F := IntWalk.i64_in _ (by omega)
  clear hEm hFm hro hJ2 hl0 hl1
  go_wp2_with fail
  go_region_held3 (fun _ => True) (trivial) (first
    | (go_at_call 31; refine (matched_any _).mono ?_; rintro e W2 ⟨rfl, b2d⟩; have b2 := below_undrew b2d; clear b2d)
    | (go_at_call 27; refine (eqBytes_same A0 A1 m (cap0 - i) m (cap1 - J) _ _ (HS0.out.later b2) (HS1.out.later b2)).mono ?_; rintro e W3 ⟨rfl, rfl⟩))
  have HB2 := Lib.hid (below_then HB1.out b2)
  replace HI0 := Lib.hid (HI0.out.later b2)
  replace HI1 := Lib.hid (HI1.out.later b2)
  replace HM := Lib.hid (HM.out.later b2)
  replace HS1 := Lib.hid (HS1.out.later b2)
  have HL1 := Lib.hid HI1.out.le
  have HF1 := Lib.hid hF1
  have HFE := Lib.hid hF
  have HN0 := Lib.hid m0
  have HR1 := Lib.hid HI1.out.len
  have HO := Lib.hid HI0.out.bytes
  have HY : Hid (∀ v ∈ L1.drop J, 0 ≤ v ∧ v ≤ 255) := by
    show ∀ v ∈ L1.drop J, _
    exact fun v hv => HI1.out.bytes v (List.mem_of_mem_drop hv)
  clear b2 hd1 hd2 hcut0 HS0 HB1 hw1 hw2 hE hE0
  -- behind the tests: what the last sentence says
  have tail : ∀ W3 : World, Hid (DrewN W2 W3) → Hid (BS W3 a0 N0 cap0 L0) ∧ Hid (BS W3 A1 m (cap1 - J) ((L1.drop J).take m)) ∧ Hid (MaxCell W3) ∧ Hid (Below w.heap.size w W3) := by
    intro W3 h
    exact ⟨HI0.out.later h.out.below, HS1.out.later h.out.below, HM.out.later h.out.below, below_then HB2.out h.out.below⟩
  have HT := Lib.hid tail
  clear tail
  have HIX := Lib.hid (HB.out.index HO.out HY.out)
  have HZ : Hid (m = 0 → i = 0) := by
    show m = 0 → i = 0
    intro h
    subst h
    exact HB.out.zero
  by_cases hlt : F < N1
  · obtain ⟨G, hG⟩ : ∃ G : Nat, (F : Int) + 1 = G := ⟨F + 1, by omega⟩
    have hGJ : G - J = m + 1 := by omega
    have hcut2 : ∀ W, (Instr.slice 27 (.slice a1 N1 cap1) (some (.int .i64 J)) (some (.int .i64 G)) none).run Try.prog W = .ok (.slice (cutA a1 cap1 J) (m + 1) (cap1 - J)) W := fun W => by
      have := run_cut_lh a1 N1 cap1 W J G (by omega) (by have := HL1.out; omega)
      rwa [hGJ] at this
    have hs2 := HI1.out.mid J G (by omega) (by omega)
    rw [hGJ] at hs2
    have hcon := contains_any a0 (cutA a1 cap1 J) N0 cap0 (m + 1) (cap1 - J) L0 ((L1.drop J).take (m + 1)) W2 HI0.out hs2 HN0.out (by omega) HM.out
    rw [HB.out.beyond HO.out HY.out (by rw [List.length_drop, HR1.out]; omega)] at hcon
    have HCON := Lib.hid hcon
    generalize cutA a1 cap1 J = A2 at hcut2 HCON
    generalize m + 1 = m' at hcut2 HCON
    clear hs2 hcon hGJ HB
    go_wp2_with fail
    refine HCON.out.mono ?_
    rintro e W3 ⟨rfl, hd⟩
    obtain ⟨S0, S1, HM3, B3⟩ := HT.out W3 (Lib.hid hd)
    clear hd HCON
    by_cases hm0 : m = 0
    · have hi0 : i = 0 := HZ.out hm0
      subst hm0 hi0
      go_wp2_with fail
      go_ret
      exact ⟨rfl, B3.out⟩
    · have hmb : ((m : Int) == 0) = false := by simp; omega
      go_wp2_with fail
      refine (index_any a0 A1 N0 cap0 m (cap1 - J) L0 ((L1.drop J).take m) _ S0.out S1.out HN0.out HM3.out).mono ?_
      rintro e W4 ⟨rfl, hd⟩
      have B4 := below_then B3.out hd.below
      rw [HIX.out]
      clear hd
      go_wp2_with fail
      go_ret
      refine ⟨?_, B4⟩
      simp
  · obtain ⟨S0, S1, HM3, B3⟩ := HT.out W2 (Lib.hid ⟨0, rfl⟩)
    have hlt2 : decide (F < N1) = false := by simp; omega
    by_cases hm0 : m = 0
    · have hi0 : i = 0 := HZ.out hm0
      subst hm0 hi0
      go_wp2_with fail
      go_ret
      exact ⟨rfl, B3.out⟩
    · have hmb : ((m : Int) == 0) = false := by simp; omega
      go_wp2_with fail
      refine (index_any a0 A1 N0 cap0 m (cap1 - J) L0 ((L1.drop J).take m) _ S0.out S1.out HN0.out HM3.out).mono ?_
      rintro e W4 ⟨rfl, hd⟩
      have B4 := below_then B3.out hd.below
      rw [HIX.out]
      clear hd
      go_wp2_with fail
      go_ret
      refine ⟨?_, B4⟩
      simp
end Go.Proofs.Ytmpmaljkmfgagaa
