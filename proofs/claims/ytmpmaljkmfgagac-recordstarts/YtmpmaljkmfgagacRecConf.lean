/-
  Contract of the program's Confirm.
-/
import Derived.Test.YtmpmaljkmfgagacRecSt
namespace Go.Proofs.Ytmpmaljkmfgagac
open Go.RowKit

set_option maxRecDepth 100000 in
set_option maxHeartbeats 4000000 in
theorem confR_any (r : RecR) (w : World) :
    Calls Try.prog 9 #[recV r] w fun e w' => e = .returned (.tuple #[recV (RecM.confOf r).1, .int .i64 (RecM.confOf r).2]) ∧ Below w.heap.size w w' := by
  have HC := Lib.hid (fun W => checkR_any r W)
  have HST := Lib.hid (RSt1.start w r)
  have hi := size_rec r
  have HS : Hid (RecM.confOf r = if RecM.check r ≠ 0 then (RecM.noRec, RecM.check r) else if r.trying = false then (RecM.noRec, 5) else (RecM.conf r, 0)) := rfl
  have HV : Hid (∀ x, recV x = .agg (recCells x)) := fun _ => rfl
  rw [HV.out] at HC
  rw [HV.out]
  have hc0 := HST.out.c0
  go_enter Try.func9, Try.ntmps9
  go_wp2_with (refine wpList_load_row rfl 26 (.tmp 1) rfl w.heap.size rfl 26 (recCells r) (0, 0) _ hc0 Try.underlying26 rfl hi ?_)
  refine (HC.out _).mono ?_
  rintro e W2 ⟨rfl, hb2⟩
  have HST2 := Lib.hid (HST.out.later hb2)
  clear hb2 HST hc0 HC hi
  have HG := Lib.hid HST2.out.nil_
  by_cases e0 : RecM.check r = 0
  · replace HS := Lib.hid (HS.out.trans (if_neg (fun q => q e0)))
    have hn := RecM.check_nums e0
    have hr := RecM.check_rec e0
    rw [e0]
    clear e0
    obtain ⟨q0, q1, q2, q3, q4, q5, q8, qf⟩ := HST2.out.cells
    cases ht : r.trying
    · rw [ht] at q2
      replace HS := Lib.hid (HS.out.trans (if_pos ht))
      have hc1 := HST2.out.c1
      have hi2 := size_zero
      have ha := one_zero
      unfold zeroRec at hi2 ha hc1
      clear hn hr qf ht
      go_wp2_with (refine wpList_store_row rfl 26 (.tmp 2) (.tmp 14) rfl (w.heap.size + 1) #[.int .i64 0, .int .i64 0, .bool false, .int .i64 0, .int .i64 0, .int .i64 0, .int .i64 0, .int .i64 0, .int .i64 0, .int .i64 0, .int .i64 0] rfl rfl 26 _ hc1 hi2 rfl ha ?_)
      refine bodyPost_ret (v := .tuple #[.agg zeroRec, .int .i64 5]) ?_ rfl ?_
      · exact res_ct (fn := Try.f9) (p := 2) (a := 3) rfl rfl rfl HG.out.1 Try.underlying26 rfl size_zero
      · exact ⟨by rw [HS.out]; rfl, HG.out.2⟩
    rw [ht] at q2
    replace HS := Lib.hid (HS.out.trans (if_neg (by rw [ht]; simp)))
    rcases hn.2.1 with ha | ha
    · rw [ha] at q1
      have HO : Hid (∀ W, Calls Try.prog 19 #[.int .i64 0] W fun e w' => e = .returned (.int .i64 1) ∧ W = w') := fun W => by simpa using other_any 0 W (by decide)
      have HST3 : Hid (RSt1 w { r with act := 1, trying := false, tries := 0 } (((W2.setCell ⟨w.heap.size, 1, none⟩ (.int .i64 1)).setCell ⟨w.heap.size, 2, none⟩ (.bool false)).setCell ⟨w.heap.size, 3, none⟩ (.int .i64 0))) := ((HST2.out.set (r' := { r with act := 1 }) rfl).set (r' := { r with act := 1, trying := false }) rfl).set rfl
      have hfl : r.floor ≤ r.i1.ver := by
        have := hr.2.1 ht
        rw [ha] at this
        exact this
      have HCf : Hid (RecM.conf r = ⟨r.gen, 1, false, 0, r.i1.ver, r.i0, r.i1⟩) := by
        show _ = _
        unfold RecM.conf
        have e : (RecM.inf r (1 - r.act)).ver = r.i1.ver := by rw [ha]; rfl
        rw [e, ha, Int.max_eq_right hfl]
        rfl
      have m1 : (if r.floor < r.i1.ver then r.i1.ver else r.floor) = r.i1.ver := by split <;> omega
      have m2 : (if r.i1.ver < r.floor then r.floor else r.i1.ver) = r.i1.ver := by split <;> omega
      have qf1 := qf 1
      have qf2 := qf 2
      have qf3 := qf 3
      clear qf hr hn ha
      go_wp2_with fail
      refine (HO.out _).mono ?_
      rintro e w' ⟨rfl, rfl⟩
      go_wp2_with fail
      generalize ((W2.setCell ⟨w.heap.size, 1, none⟩ (.int .i64 1)).setCell ⟨w.heap.size, 2, none⟩ (.bool false)).setCell ⟨w.heap.size, 3, none⟩ (.int .i64 0) = W3 at HST3 ⊢
      clear ht q0 q1 q2 q3 q4 q5 q8 qf1 qf2 qf3 hfl HST2
      have HST4 := Lib.hid HST3.out.drew
      obtain ⟨p0, p1, p2, p3, p4, p5, p8, pf⟩ := HST4.out.cells
      have pf4 := pf 4
      clear pf p0 p2 p3
      have HST5 : Hid (RSt1 w ⟨r.gen, 1, false, 0, r.i1.ver, r.i0, r.i1⟩ (W3.drew.setCell ⟨w.heap.size, 4, none⟩ (.int .i64 r.i1.ver))) := HST4.out.set rfl
      go_still_tail 10, (by kernel_rfl)
      change wpList _ _ _ _ _ W3.drew
      have hc0 := HST5.out.c0
      have hc1 := HST5.out.c1
      replace HG := Lib.hid HST5.out.give
      have hi := size_rec ⟨r.gen, 1, false, 0, r.i1.ver, r.i0, r.i1⟩
      have ha := one_rec ⟨r.gen, 1, false, 0, r.i1.ver, r.i0, r.i1⟩
      go_wp2_with (first
        | (refine wpList_load_row rfl 26 (.tmp 1) rfl w.heap.size rfl 26 (recCells ⟨r.gen, 1, false, 0, r.i1.ver, r.i0, r.i1⟩) (0, 0) _ hc0 Try.underlying26 rfl hi ?_)
        | (refine wpList_store_row rfl 26 (.tmp 2) (.tmp 31) rfl (w.heap.size + 1) (recCells ⟨r.gen, 1, false, 0, r.i1.ver, r.i0, r.i1⟩) rfl rfl 26 _ hc1 hi rfl ha ?_))
      refine bodyPost_ret (v := .tuple #[.agg (recCells ⟨r.gen, 1, false, 0, r.i1.ver, r.i0, r.i1⟩), .int .i64 0]) ?_ rfl ?_
      · exact res_ct (fn := Try.f9) (p := 2) (a := 3) rfl rfl rfl HG.out.1 Try.underlying26 rfl hi
      · exact ⟨by rw [HS.out, HCf.out]; rfl, HG.out.2⟩
    · rw [ha] at q1
      have HO : Hid (∀ W, Calls Try.prog 19 #[.int .i64 1] W fun e w' => e = .returned (.int .i64 0) ∧ W = w') := fun W => by simpa using other_any 1 W (by decide)
      have HST3 : Hid (RSt1 w { r with act := 0, trying := false, tries := 0 } (((W2.setCell ⟨w.heap.size, 1, none⟩ (.int .i64 0)).setCell ⟨w.heap.size, 2, none⟩ (.bool false)).setCell ⟨w.heap.size, 3, none⟩ (.int .i64 0))) := ((HST2.out.set (r' := { r with act := 0 }) rfl).set (r' := { r with act := 0, trying := false }) rfl).set rfl
      have hfl : r.floor ≤ r.i0.ver := by
        have := hr.2.1 ht
        rw [ha] at this
        exact this
      have HCf : Hid (RecM.conf r = ⟨r.gen, 0, false, 0, r.i0.ver, r.i0, r.i1⟩) := by
        show _ = _
        unfold RecM.conf
        have e : (RecM.inf r (1 - r.act)).ver = r.i0.ver := by rw [ha]; rfl
        rw [e, ha, Int.max_eq_right hfl]
        rfl
      have m1 : (if r.floor < r.i0.ver then r.i0.ver else r.floor) = r.i0.ver := by split <;> omega
      have m2 : (if r.i0.ver < r.floor then r.floor else r.i0.ver) = r.i0.ver := by split <;> omega
      have qf1 := qf 1
      have qf2 := qf 2
      have qf3 := qf 3
      clear qf hr hn ha
      go_wp2_with fail
      refine (HO.out _).mono ?_
      rintro e w' ⟨rfl, rfl⟩
      go_wp2_with fail
      generalize ((W2.setCell ⟨w.heap.size, 1, none⟩ (.int .i64 0)).setCell ⟨w.heap.size, 2, none⟩ (.bool false)).setCell ⟨w.heap.size, 3, none⟩ (.int .i64 0) = W3 at HST3 ⊢
      clear ht q0 q1 q2 q3 q4 q5 q8 qf1 qf2 qf3 hfl HST2
      have HST4 := Lib.hid HST3.out.drew
      obtain ⟨p0, p1, p2, p3, p4, p5, p8, pf⟩ := HST4.out.cells
      have pf4 := pf 4
      clear pf p0 p2 p3
      have HST5 : Hid (RSt1 w ⟨r.gen, 0, false, 0, r.i0.ver, r.i0, r.i1⟩ (W3.drew.setCell ⟨w.heap.size, 4, none⟩ (.int .i64 r.i0.ver))) := HST4.out.set rfl
      go_still_tail 10, (by kernel_rfl)
      change wpList _ _ _ _ _ W3.drew
      have hc0 := HST5.out.c0
      have hc1 := HST5.out.c1
      replace HG := Lib.hid HST5.out.give
      have hi := size_rec ⟨r.gen, 0, false, 0, r.i0.ver, r.i0, r.i1⟩
      have ha := one_rec ⟨r.gen, 0, false, 0, r.i0.ver, r.i0, r.i1⟩
      go_wp2_with (first
        | (refine wpList_load_row rfl 26 (.tmp 1) rfl w.heap.size rfl 26 (recCells ⟨r.gen, 0, false, 0, r.i0.ver, r.i0, r.i1⟩) (0, 0) _ hc0 Try.underlying26 rfl hi ?_)
        | (refine wpList_store_row rfl 26 (.tmp 2) (.tmp 31) rfl (w.heap.size + 1) (recCells ⟨r.gen, 0, false, 0, r.i0.ver, r.i0, r.i1⟩) rfl rfl 26 _ hc1 hi rfl ha ?_))
      refine bodyPost_ret (v := .tuple #[.agg (recCells ⟨r.gen, 0, false, 0, r.i0.ver, r.i0, r.i1⟩), .int .i64 0]) ?_ rfl ?_
      · exact res_ct (fn := Try.f9) (p := 2) (a := 3) rfl rfl rfl HG.out.1 Try.underlying26 rfl hi
      · exact ⟨by rw [HS.out, HCf.out]; rfl, HG.out.2⟩
  · obtain ⟨E, hE⟩ : ∃ E, RecM.check r = E := ⟨_, rfl⟩
    replace HS := Lib.hid (HS.out.trans (if_pos e0))
    rw [hE] at e0 HS ⊢
    have t0 : (E != 0) = true := by simp [e0]
    clear hE
    have hc1 := HST2.out.c1
    have hi2 := size_zero
    have ha := one_zero
    unfold zeroRec at hi2 ha hc1
    go_wp2_with (refine wpList_store_row rfl 26 (.tmp 2) (.tmp 9) rfl (w.heap.size + 1) #[.int .i64 0, .int .i64 0, .bool false, .int .i64 0, .int .i64 0, .int .i64 0, .int .i64 0, .int .i64 0, .int .i64 0, .int .i64 0, .int .i64 0] rfl rfl 26 _ hc1 hi2 rfl ha ?_)
    refine bodyPost_ret (v := .tuple #[.agg zeroRec, .int .i64 E]) ?_ rfl ?_
    · exact res_ct (fn := Try.f9) (p := 2) (a := 3) rfl rfl rfl HG.out.1 Try.underlying26 rfl size_zero
    · exact ⟨by rw [HS.out]; rfl, HG.out.2⟩
end Go.Proofs.Ytmpmaljkmfgagac
