/-
  The walk of the law SumOne.
-/
import Derived.Test.YtmpmaljkmfgagaaAdded
import Derived.Test.YtmpmaljkmfgagaaClone
import Derived.Test.YtmpmaljkmfgagaaAt
import Derived.Deep.QuietTactic
import Derived.BigQuiet
namespace Go.Proofs.Ytmpmaljkmfgagaa
open Go.RowKit
open SumM

set_option maxHeartbeats 1000000 in
theorem sumOne_walk (a0 : Option Addr) (len0 cap0 : Nat) (l0 : List Int) (k x : Int) (a3 : Option Addr) (len3 cap3 : Nat) (l3 : List Int) (w : World) (w0 : BS w a0 len0 cap0 l0) (w3 : BS w a3 len3 cap3 l3)
    (s0 : cap0 ≤ 140737488351232) (s3 : cap3 ≤ 140737488351232) :
    Calls Try.prog 5 #[.slice a0 len0 cap0, .int .i64 k, .int .i64 x, .slice a3 len3 cap3] w fun e w' => e = .returned (.bool true) ∧ Below w.heap.size w w' := by
  have e0 := w0.le
  have e3 := w3.le
  have hl0 := w0.len
  have hl3 := w3.len
  have hb0 := addL_bd l0 1 (by omega) (by omega)
  have HL0 := Lib.hid hl0
  have HL3 := Lib.hid hl3
  clear hl0 hl3
  go_enter Try.func5, Try.ntmps5
  go_wp2_with fail
  refine (of_any a0 len0 cap0 l0 _ w0).mono ?_
  rintro e w' ⟨rfl, rfl⟩
  go_wp2_with fail
  refine (on_in (addL 1 l0) a3 len3 cap3 l3 _ hb0.1 hb0.2 w3).mono ?_
  rintro e w' ⟨rfl, rfl⟩
  go_wp2_with fail
  refine (added_any _).mono ?_
  rintro e w1 ⟨rfl, hb1⟩
  have r0 := w0.later hb1
  have r3 := w3.later hb1
  go_wp2_with fail
  have hb2 := hb1.alloc hb1.size (.cells #[.slice a0 len0 cap0, .slice a3 len3 cap3] 27)
  refine (concat_any w1.heap.size 2 [l0, l3] _ (two_parts _ _ a0 a3 len0 cap0 len3 cap3 l0 l3 (by simp) (by simp) (w0.later hb2) (w3.later hb2)) rfl (by omega) (by simp; rw [HL0.out, HL3.out]; omega)).mono ?_
  rintro e w2 ⟨ac, nc, cc, rfl, hownc, hbc⟩
  have hby : ∀ x ∈ [l0, l3].flatten, 0 ≤ x ∧ x ≤ 255 := by
    intro x hx
    simp at hx
    exact hx.elim (w0.bytes x) (w3.bytes x)
  have rc := BS.of_own hownc hby
  have hb3 := hb2.trans (hbc.mono (by simp; have := hb1.size; omega))
  clear hownc hbc hby
  go_wp2_with fail
  refine (of_any ac nc cc _ _ rc).mono ?_
  rintro e w' ⟨rfl, rfl⟩
  rw [show addL 1 [l0, l3].flatten = addL (addL 1 l0) l3 by simp [addL_append]]
  have hne : (addL (addL 1 l0) l3 != addL (addL 1 l0) l3) = false := by simp
  clear hb0 rc r0 r3 hb1 hb2
  by_cases hz : len0 = 0
  · subst hz
    go_wp2_with fail
    go_ret
    exact ⟨rfl, hb3⟩
  · have hz2 : ((len0 : Int) == 0) = false := by simp; omega
    have r0 := w0.later hb3
    have hpos : (0 : Int) < (len0 : Int) := by omega
    go_wp2_with fail
    refine (clone_any a0 len0 cap0 l0 _ r0 (by omega)).mono ?_
    rintro e w4 ⟨a4, n4, c4, rfl, hown4, hb4⟩
    go_wp2_with fail
    refine (at_any k len0 _ hpos (by omega)).mono ?_
    rintro e w' ⟨rfl, rfl⟩
    have hJ1 := Int.emod_nonneg k (show (len0 : Int) ≠ 0 by omega)
    have hJ2 := Int.emod_lt_of_pos k hpos
    obtain ⟨J, hJ⟩ := Int.eq_ofNat_of_zero_le hJ1
    rw [hJ] at hJ1 hJ2 ⊢
    have hJ3 : J < len0 := by omega
    obtain ⟨rfl, g, rfl, hg⟩ : len0 = n4 ∧ ∃ g, a4 = some ⟨g, 0, none⟩ ∧ w2.heap.size ≤ g := by
      have h1 := hown4.1
      simp at h1
      have h2 : len0 = n4 := by rw [← h1, HL0.out]
      refine ⟨h2, ?_⟩
      rcases hown4.2 with ⟨_, hn⟩ | ⟨g, cap, cur, hv, hbg, _⟩
      · omega
      · simp at hv
        exact ⟨g, hv.1, hbg⟩
    have hcell := hown4.cellAt J (by omega)
    rw [List.getElem?_map, List.getElem?_eq_getElem (by rw [HL0.out]; exact hJ3), Option.map_some] at hcell
    have hfz := hown4.frozenAt J
    clear hJ
    go_wp2_with fail
    obtain ⟨b0, o0, rfl, hc0⟩ := w0.cells (by omega)
    have hx1 := Int.emod_nonneg x (show (256 : Int) ≠ 0 by omega)
    have hx2 := Int.emod_lt_of_pos x (show (0 : Int) < 256 by omega)
    have hst := (hown4.stored J (.int .u8 (x % 256))).1
    have hb5 : Below w2.heap.size w2 (w4.setCell ⟨g, J, none⟩ (.int .u8 (x % 256))) := hb4.setCell hg _
    have hbw : Below w.heap.size w (w4.setCell ⟨g, J, none⟩ (.int .u8 (x % 256))) := hb3.trans (hb5.mono hb3.size)
    generalize w4.setCell ⟨g, J, none⟩ (.int .u8 (x % 256)) = W5 at hst hb5 hbw ⊢
    have r4 : BS W5 (some ⟨g, 0, none⟩) len0 c4 (l0.set J (x % 256)) := by
      refine BS.of_own (by rw [List.map_set]; exact hst) ?_
      intro y hy
      rcases List.mem_or_eq_of_mem_set hy with h | h
      · exact w0.bytes y h
      · omega
    have r5 := r0.later hb5
    have hq1 : W5.cell? ⟨g, J, none⟩ = some (.int .u8 (x % 256)) := by
      obtain ⟨b, o, e, hc⟩ := r4.cells (by omega)
      simp at e
      obtain ⟨rfl, rfl⟩ := e
      have := hc J hJ3
      simpa [List.getElem?_set_self (show J < l0.length by rw [HL0.out]; exact hJ3)] using this
    have hq2 : W5.cell? ⟨b0, o0 + J, none⟩ = some (.int .u8 (l0[J]?.getD 0)) := cell_later hbw (hc0 J hJ3)
    have hset := Lib.hid (addL_set l0 J 1 (x % 256) (by omega) (by omega) hx1 (by omega) w0.bytes (by rw [HL0.out]; exact hJ3))
    clear hcell hfz hst hown4 hc0 hb5 hb4 hb3 r0 w0 w3
    go_quiet (first | (go_at_call_of 18 (Value.slice (some ⟨g, 0, none⟩) len0 c4); exact quiet_eq (of_any _ _ _ _ _ (r4.drewN _))) | exact quiet_eq (of_any _ _ _ _ _ (r5.drewN _)))
    go_wp2
    go_ret
    refine ⟨?_, below_drewN hbw _⟩
    have hfin : ((x % 256 == l0[J]?.getD 0) == (addL 1 (l0.set J (x % 256)) == addL 1 l0)) = true := by
      rw [beq_iff_eq, Bool.eq_iff_iff, beq_iff_eq, beq_iff_eq, hset.out, List.getD_eq_getElem?_getD]
    exact congrArg (fun b => Ending.returned (Value.bool b)) hfin
end Go.Proofs.Ytmpmaljkmfgagaa
