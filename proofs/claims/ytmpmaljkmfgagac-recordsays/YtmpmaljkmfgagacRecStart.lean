/-
  Contract of the program's Start.
-/
import Derived.Test.YtmpmaljkmfgagacRecSt
namespace Go.Proofs.Ytmpmaljkmfgagac
open Go.RowKit

set_option maxRecDepth 100000 in
set_option maxHeartbeats 4000000 in
theorem startR_any (r : RecR) (w : World) :
    Calls Try.prog 8 #[recV r] w fun e w' => e = .returned (.tuple #[.int .i64 (RecM.startOf r).1, recV (RecM.startOf r).2.1, .int .i64 (RecM.startOf r).2.2]) ∧ Below w.heap.size w w' := by
  have HC := Lib.hid (fun W => checkR_any r W)
  have HST := Lib.hid (RSt1.start w r)
  have hi := size_rec r
  have HS : Hid (RecM.startOf r = if RecM.check r ≠ 0 then (0, RecM.noRec, RecM.check r) else (RecM.slot r, RecM.after r, 0)) := rfl
  have HV : Hid (∀ x, recV x = .agg (recCells x)) := fun _ => rfl
  rw [HV.out] at HC
  rw [HV.out]
  have hc0 := HST.out.c0
  go_enter Try.func8, Try.ntmps8
  go_wp2_with (refine wpList_load_row rfl 26 (.tmp 1) rfl w.heap.size rfl 26 (recCells r) (0, 0) _ hc0 Try.underlying26 rfl hi ?_)
  refine (HC.out _).mono ?_
  rintro e W2 ⟨rfl, hb2⟩
  have HST2 := Lib.hid (HST.out.later hb2)
  clear hb2 HST hc0 HC hi
  by_cases e0 : RecM.check r = 0
  · replace HS := Lib.hid (HS.out.trans (if_neg (fun q => q e0)))
    have hn := RecM.check_nums e0
    rw [e0]
    clear e0
    obtain ⟨q0, q1, q2, q3, q4, q5, q8, qf⟩ := HST2.out.cells
    by_cases ht : r.trying = true ∧ r.tries ≠ 0
    · obtain ⟨ht1, ht2⟩ := ht
      rw [ht1] at q2
      have hgt : (0 : Int) < r.tries := by omega
      obtain ⟨T, hT⟩ : ∃ T, r.tries - 1 = T := ⟨_, rfl⟩
      have hw : IntKind.i64.wrap T = T := IntWalk.i64_in _ (by omega)
      have HAf : Hid (RecM.after r = { r with tries := T }) := by
        show _ = _
        unfold RecM.after
        rw [if_pos ⟨ht1, ht2⟩, hT]
      have HSl : Hid (RecM.slot r = 1 - r.act) := by
        show _ = _
        unfold RecM.slot
        rw [if_pos ⟨ht1, ht2⟩]
      have HST3 : Hid (RSt1 w { r with tries := T } (W2.setCell ⟨w.heap.size, 3, none⟩ (.int .i64 T))) := HST2.out.set rfl
      have HO := Lib.hid (fun W => other_any r.act W hn.2.1)
      have qf3 := qf 3
      clear qf q0 q4 q5 q8 q1
      go_wp2_with fail
      generalize W2.setCell ⟨w.heap.size, 3, none⟩ (.int .i64 T) = W3 at HST3 ⊢
      clear ht1 ht2 hgt q2 q3
      have HST4 := Lib.hid HST3.out.drew
      have q1 := HST4.out.cells.2.1
      have hc0 := HST4.out.c0
      have hc1 := HST4.out.c1
      have HG := Lib.hid HST4.out.give
      have hi := size_rec { r with tries := T }
      have ha := one_rec { r with tries := T }
      refine wp_region_still_tail 5 (by kernel_rfl) (by kernel_rfl) ?_
      simp only [List.take_succ_cons, List.take_zero, List.drop_succ_cons, List.drop_zero]
      change wpStill _ _ W3.drew _ _ _
      still_step
      still_step
      still_call ((HO.out _).mono fun _ _ ⟨h, e⟩ => ⟨h, e.symm⟩)
      refine wpStill_load_row rfl 26 (.tmp 1) rfl w.heap.size rfl 26 (recCells { r with tries := T }) (0, 0) _ hc0 Try.underlying26 rfl hi ?_
      still_step
      refine wpStill_nil ?_
      go_wp2_with (refine wpList_store_row rfl 26 (.tmp 3) (.tmp 26) rfl (w.heap.size + 1) (recCells { r with tries := T }) rfl rfl 26 _ hc1 hi rfl ha ?_)
      refine bodyPost_ret (v := .tuple #[.int .i64 (1 - r.act), .agg (recCells { r with tries := T }), .int .i64 0]) ?_ rfl ?_
      · exact res_tct (fn := Try.f8) (p := 3) (a := 2) (b := 4) rfl rfl rfl rfl HG.out.1 Try.underlying26 rfl hi
      · exact ⟨by rw [HS.out, HSl.out, HAf.out]; rfl, HG.out.2⟩
    · cases hb : r.trying
      · rw [hb] at q2
        have HST3 : Hid (RSt1 w { r with trying := false } (W2.setCell ⟨w.heap.size, 2, none⟩ (.bool false))) := HST2.out.set rfl
        have qf2 := qf 2
        have HAf : Hid (RecM.after r = { r with trying := false }) := by
          show _ = _
          unfold RecM.after
          rw [if_neg ht]
        have HSl : Hid (RecM.slot r = r.act) := by
          show _ = _
          unfold RecM.slot
          rw [if_neg ht]
        clear qf q0 q4 q5 q8 q1
        go_wp2_with fail
        generalize W2.setCell ⟨w.heap.size, 2, none⟩ (.bool false) = W3 at HST3 ⊢
        clear hb
        try clear hz
        have HST4 := Lib.hid HST3.out.drew
        have q1 := HST4.out.cells.2.1
        have hc0 := HST4.out.c0
        have hc1 := HST4.out.c1
        have HG := Lib.hid HST4.out.give
        have hi := size_rec { r with trying := false }
        have ha := one_rec { r with trying := false }
        refine wp_region_still_tail 4 (by kernel_rfl) (by kernel_rfl) ?_
        simp only [List.take_succ_cons, List.take_zero, List.drop_succ_cons, List.drop_zero]
        change wpStill _ _ W3.drew _ _ _
        still_step
        still_step
        refine wpStill_load_row rfl 26 (.tmp 1) rfl w.heap.size rfl 26 (recCells { r with trying := false }) (0, 0) _ hc0 Try.underlying26 rfl hi ?_
        still_step
        refine wpStill_nil ?_
        go_wp2_with (refine wpList_store_row rfl 26 (.tmp 3) (.tmp 30) rfl (w.heap.size + 1) (recCells { r with trying := false }) rfl rfl 26 _ hc1 hi rfl ha ?_)
        refine bodyPost_ret (v := .tuple #[.int .i64 (r.act), .agg (recCells { r with trying := false }), .int .i64 0]) ?_ rfl ?_
        · exact res_tct (fn := Try.f8) (p := 3) (a := 2) (b := 4) rfl rfl rfl rfl HG.out.1 Try.underlying26 rfl hi
        · exact ⟨by rw [HS.out, HSl.out, HAf.out]; rfl, HG.out.2⟩
      · have hz : r.tries = 0 := by
          rcases Classical.em (r.tries = 0) with q | q
          · exact q
          · exact absurd ⟨hb, q⟩ ht
        rw [hb] at q2
        rw [hz] at q3
        have HST3 : Hid (RSt1 w { r with trying := false } (W2.setCell ⟨w.heap.size, 2, none⟩ (.bool false))) := HST2.out.set rfl
        have qf2 := qf 2
        have HAf : Hid (RecM.after r = { r with trying := false }) := by
          show _ = _
          unfold RecM.after
          rw [if_neg ht]
        have HSl : Hid (RecM.slot r = r.act) := by
          show _ = _
          unfold RecM.slot
          rw [if_neg ht]
        clear qf q0 q4 q5 q8 q1
        go_wp2_with fail
        generalize W2.setCell ⟨w.heap.size, 2, none⟩ (.bool false) = W3 at HST3 ⊢
        clear hb
        try clear hz
        have HST4 := Lib.hid HST3.out.drew
        have q1 := HST4.out.cells.2.1
        have hc0 := HST4.out.c0
        have hc1 := HST4.out.c1
        have HG := Lib.hid HST4.out.give
        have hi := size_rec { r with trying := false }
        have ha := one_rec { r with trying := false }
        refine wp_region_still_tail 4 (by kernel_rfl) (by kernel_rfl) ?_
        simp only [List.take_succ_cons, List.take_zero, List.drop_succ_cons, List.drop_zero]
        change wpStill _ _ W3.drew _ _ _
        still_step
        still_step
        refine wpStill_load_row rfl 26 (.tmp 1) rfl w.heap.size rfl 26 (recCells { r with trying := false }) (0, 0) _ hc0 Try.underlying26 rfl hi ?_
        still_step
        refine wpStill_nil ?_
        go_wp2_with (refine wpList_store_row rfl 26 (.tmp 3) (.tmp 30) rfl (w.heap.size + 1) (recCells { r with trying := false }) rfl rfl 26 _ hc1 hi rfl ha ?_)
        refine bodyPost_ret (v := .tuple #[.int .i64 (r.act), .agg (recCells { r with trying := false }), .int .i64 0]) ?_ rfl ?_
        · exact res_tct (fn := Try.f8) (p := 3) (a := 2) (b := 4) rfl rfl rfl rfl HG.out.1 Try.underlying26 rfl hi
        · exact ⟨by rw [HS.out, HSl.out, HAf.out]; rfl, HG.out.2⟩
  · obtain ⟨E, hE⟩ : ∃ E, RecM.check r = E := ⟨_, rfl⟩
    replace HS := Lib.hid (HS.out.trans (if_pos e0))
    rw [hE] at e0 HS ⊢
    have t0 : (E != 0) = true := by simp [e0]
    clear hE
    have hc1 := HST2.out.c1
    have HG := Lib.hid HST2.out.nil_
    have hi2 := size_zero
    have ha := one_zero
    unfold zeroRec at hi2 ha hc1
    go_wp2_with (refine wpList_store_row rfl 26 (.tmp 3) (.tmp 10) rfl (w.heap.size + 1) #[.int .i64 0, .int .i64 0, .bool false, .int .i64 0, .int .i64 0, .int .i64 0, .int .i64 0, .int .i64 0, .int .i64 0, .int .i64 0, .int .i64 0] rfl rfl 26 _ hc1 hi2 rfl ha ?_)
    refine bodyPost_ret (v := .tuple #[.int .i64 0, .agg zeroRec, .int .i64 E]) ?_ rfl ?_
    · exact res_tct (fn := Try.f8) (p := 3) (a := 2) (b := 4) rfl rfl rfl rfl HG.out.1 Try.underlying26 rfl size_zero
    · exact ⟨by rw [HS.out]; rfl, HG.out.2⟩
end Go.Proofs.Ytmpmaljkmfgagac
