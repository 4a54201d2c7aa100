/-
  Texts put into one: RecStart, DvBoot, RecConf, DvConf, SeqCh, Collect, PatPut, ChunksR, DvInsW, Image.
-/
import Derived.Test.YtmpmaljkmfgagacGreatRowToLawSt
import Derived.Test.YtmpmaljkmfgagacGreatNewRToStep
import Derived.Test.YtmpmaljkmfgagacGreatDvSame1ToDvHear
import Derived.Test.YtmpmaljkmfgagacGreatDiffedToLawG
import Derived.RangeFuncBox
import Derived.RangeFuncLeaves
import Derived.Shelf.Abstract
import Derived.WalkKit
import Derived.OwnWalkIn
import Derived.TacticsInMore
import Derived.LoopNIn
import Derived.LoopIn
import Derived.Maps.AppendAt
import Derived.Test.YtmpmaljkmfgagacGreatDvOpenToDvCrash
import Derived.Test.YtmpmaljkmfgagacGreatDvFinToJoinL
import Derived.Deep.DeepCutAuto
set_option maxRecDepth 100000
set_option maxHeartbeats 4000000
namespace Go.Proofs.YtmpmaljkmfgagacGreat
open Go.RowKit
theorem startR_any (r : RecR) (w : World) :
   Calls Tryz.prog 65 #[recV r] w fun e w' => e = .returned (.tuple #[.int .i64 (RecM.startOf r).1, recV (RecM.startOf r).2.1, .int .i64 (RecM.startOf r).2.2]) ∧ Below w.heap.size w w' := by
 have HC := LH (fun W => checkR_any r W)
 have HST := LH (RSt1.start w r)
 have hi := sRc r
 have HS : Hid (RecM.startOf r = if RecM.check r ≠ 0 then (0, RecM.noRec, RecM.check r) else (RecM.slot r, RecM.after r, 0)) := rfl
 have HV : Hid (∀ x, recV x = .agg (rcC x)) := fun _ => rfl
 rw [HV.out] at HC
 rw [HV.out]
 have hc0 := HST.out.c0
 go_enter Tryz.func65, Tryz.ntmps65
 go_wp2_with (refine wpList_load_row rfl 28 (.tmp 1) rfl w.heap.size rfl 28 (rcC r) (0, 0) _ hc0 Tryz.underlying28 rfl hi ?_)
 refine (HC.out _).mono ?_
 rintro e W2 ⟨rfl, hb2⟩
 have HST2 := LH (HST.out.later hb2)
 clear hb2 HST hc0 HC hi
 by_cases e0 : RecM.check r = 0
 · replace HS := LH (HS.out.trans (if_neg (fun q => q e0)))
   have hn := RecM.check_nums e0
   rw [e0]
   clear e0
   obtain ⟨q0, q1, q2, q3, q4, q5, q8, qf⟩ := HST2.out.cells
   by_cases ht : r.trying = true ∧ r.tries ≠ 0
   · obtain ⟨ht1, ht2⟩ := ht
     rw [ht1] at q2
     have hgt : (0 : Int) < r.tries := by omega
     obtain ⟨T, hT⟩ : ∃ T, r.tries - 1 = T := ⟨_, rfl⟩
     have hw : IntKind.i64.wrap T = T := IntWalk.i64_in _ (by omega)
     have HAf : Hid (RecM.after r = { r with tries := T }) := by
       show _ = _
       unfold RecM.after
       rw [if_pos ⟨ht1, ht2⟩, hT]
     have HSl : Hid (RecM.slot r = 1 - r.act) := by
       show _ = _
       unfold RecM.slot
       rw [if_pos ⟨ht1, ht2⟩]
     have HST3 : Hid (RSt1 w { r with tries := T } (W2.setCell ⟨w.heap.size, 3, none⟩ (.int .i64 T))) := HST2.out.set rfl
     have HO := LH (fun W => other_any r.act W hn.2.1)
     have qf3 := qf 3
     clear qf q0 q4 q5 q8 q1
     go_wp2_with fail
     generalize W2.setCell ⟨w.heap.size, 3, none⟩ (.int .i64 T) = W3 at HST3 ⊢
     clear ht1 ht2 hgt q2 q3
     have HST4 := LH HST3.out.drew
     have q1 := HST4.out.cells.2.1
     have hc0 := HST4.out.c0
     have hc1 := HST4.out.c1
     have HG := LH HST4.out.give
     have hi := sRc { r with tries := T }
     have ha := oRc { r with tries := T }
     refine wp_region_still_tail 5 (by kernel_rfl) (by kernel_rfl) ?_
     simp only [List.take_succ_cons, List.take_zero, List.drop_succ_cons, List.drop_zero]
     change wpStill _ _ W3.drew _ _ _
     still_step
     still_step
     still_call ((HO.out _).mono fun _ _ ⟨h, e⟩ => ⟨h, e.symm⟩)
     refine wpStill_load_row rfl 28 (.tmp 1) rfl w.heap.size rfl 28 (rcC { r with tries := T }) (0, 0) _ hc0 Tryz.underlying28 rfl hi ?_
     still_step
     refine wpStill_nil ?_
     go_wp2_with (refine wpList_store_row rfl 28 (.tmp 3) (.tmp 26) rfl (w.heap.size + 1) (rcC { r with tries := T }) rfl rfl 28 _ hc1 hi rfl ha ?_)
     refine bodyPost_ret (v := .tuple #[.int .i64 (1 - r.act), .agg (rcC { r with tries := T }), .int .i64 0]) ?_ rfl ?_
     · exact res_tct (fn := Tryz.f65) (p := 3) (a := 2) (b := 4) rfl rfl rfl rfl HG.out.1 Tryz.underlying28 rfl hi
     · exact ⟨by rw [HS.out, HSl.out, HAf.out]; rfl, HG.out.2⟩
   · cases hb : r.trying
     · rw [hb] at q2
       have HST3 : Hid (RSt1 w { r with trying := false } (W2.setCell ⟨w.heap.size, 2, none⟩ (.bool false))) := HST2.out.set rfl
       have qf2 := qf 2
       have HAf : Hid (RecM.after r = { r with trying := false }) := by
         show _ = _
         unfold RecM.after
         rw [if_neg ht]
       have HSl : Hid (RecM.slot r = r.act) := by
         show _ = _
         unfold RecM.slot
         rw [if_neg ht]
       clear qf q0 q4 q5 q8 q1
       go_wp2_with fail
       generalize W2.setCell ⟨w.heap.size, 2, none⟩ (.bool false) = W3 at HST3 ⊢
       clear hb
       try clear hz
       have HST4 := LH HST3.out.drew
       have q1 := HST4.out.cells.2.1
       have hc0 := HST4.out.c0
       have hc1 := HST4.out.c1
       have HG := LH HST4.out.give
       have hi := sRc { r with trying := false }
       have ha := oRc { r with trying := false }
       refine wp_region_still_tail 4 (by kernel_rfl) (by kernel_rfl) ?_
       simp only [List.take_succ_cons, List.take_zero, List.drop_succ_cons, List.drop_zero]
       change wpStill _ _ W3.drew _ _ _
       still_step
       still_step
       refine wpStill_load_row rfl 28 (.tmp 1) rfl w.heap.size rfl 28 (rcC { r with trying := false }) (0, 0) _ hc0 Tryz.underlying28 rfl hi ?_
       still_step
       refine wpStill_nil ?_
       go_wp2_with (refine wpList_store_row rfl 28 (.tmp 3) (.tmp 30) rfl (w.heap.size + 1) (rcC { r with trying := false }) rfl rfl 28 _ hc1 hi rfl ha ?_)
       refine bodyPost_ret (v := .tuple #[.int .i64 (r.act), .agg (rcC { r with trying := false }), .int .i64 0]) ?_ rfl ?_
       · exact res_tct (fn := Tryz.f65) (p := 3) (a := 2) (b := 4) rfl rfl rfl rfl HG.out.1 Tryz.underlying28 rfl hi
       · exact ⟨by rw [HS.out, HSl.out, HAf.out]; rfl, HG.out.2⟩
     · have hz : r.tries = 0 := by
         rcases Classical.em (r.tries = 0) with q | q
         · exact q
         · exact absurd ⟨hb, q⟩ ht
       rw [hb] at q2
       rw [hz] at q3
       have HST3 : Hid (RSt1 w { r with trying := false } (W2.setCell ⟨w.heap.size, 2, none⟩ (.bool false))) := HST2.out.set rfl
       have qf2 := qf 2
       have HAf : Hid (RecM.after r = { r with trying := false }) := by
         show _ = _
         unfold RecM.after
         rw [if_neg ht]
       have HSl : Hid (RecM.slot r = r.act) := by
         show _ = _
         unfold RecM.slot
         rw [if_neg ht]
       clear qf q0 q4 q5 q8 q1
       go_wp2_with fail
       generalize W2.setCell ⟨w.heap.size, 2, none⟩ (.bool false) = W3 at HST3 ⊢
       clear hb
       try clear hz
       have HST4 := LH HST3.out.drew
       have q1 := HST4.out.cells.2.1
       have hc0 := HST4.out.c0
       have hc1 := HST4.out.c1
       have HG := LH HST4.out.give
       have hi := sRc { r with trying := false }
       have ha := oRc { r with trying := false }
       refine wp_region_still_tail 4 (by kernel_rfl) (by kernel_rfl) ?_
       simp only [List.take_succ_cons, List.take_zero, List.drop_succ_cons, List.drop_zero]
       change wpStill _ _ W3.drew _ _ _
       still_step
       still_step
       refine wpStill_load_row rfl 28 (.tmp 1) rfl w.heap.size rfl 28 (rcC { r with trying := false }) (0, 0) _ hc0 Tryz.underlying28 rfl hi ?_
       still_step
       refine wpStill_nil ?_
       go_wp2_with (refine wpList_store_row rfl 28 (.tmp 3) (.tmp 30) rfl (w.heap.size + 1) (rcC { r with trying := false }) rfl rfl 28 _ hc1 hi rfl ha ?_)
       refine bodyPost_ret (v := .tuple #[.int .i64 (r.act), .agg (rcC { r with trying := false }), .int .i64 0]) ?_ rfl ?_
       · exact res_tct (fn := Tryz.f65) (p := 3) (a := 2) (b := 4) rfl rfl rfl rfl HG.out.1 Tryz.underlying28 rfl hi
       · exact ⟨by rw [HS.out, HSl.out, HAf.out]; rfl, HG.out.2⟩
 · obtain ⟨E, hE⟩ : ∃ E, RecM.check r = E := ⟨_, rfl⟩
   replace HS := LH (HS.out.trans (if_pos e0))
   rw [hE] at e0 HS ⊢
   have t0 : (E != 0) = true := by simp [e0]
   clear hE
   have hc1 := HST2.out.c1
   have HG := LH HST2.out.nil_
   have hi2 := size_zero
   have ha := one_zero
   unfold zeroRec at hi2 ha hc1
   go_wp2_with (refine wpList_store_row rfl 28 (.tmp 3) (.tmp 10) rfl (w.heap.size + 1) #[.int .i64 0, .int .i64 0, .bool false, .int .i64 0, .int .i64 0, .int .i64 0, .int .i64 0, .int .i64 0, .int .i64 0, .int .i64 0, .int .i64 0] rfl rfl 28 _ hc1 hi2 rfl ha ?_)
   refine bodyPost_ret (v := .tuple #[.int .i64 0, .agg zeroRec, .int .i64 E]) ?_ rfl ?_
   · exact res_tct (fn := Tryz.f65) (p := 3) (a := 2) (b := 4) rfl rfl rfl rfl HG.out.1 Tryz.underlying28 rfl size_zero
   · exact ⟨by rw [HS.out]; rfl, HG.out.2⟩
theorem bootD_bad (h : DevH) (d : DevR) (w : World) (HD : DH w h d) (E : Int) (h0 : E ≠ 0) (HBg : Hid (∀ W, DH W h d → Calls Tryz.prog 55 #[.agg (dvC h d), .bool false] W fun e w' => e = .returned (.tuple #[.agg (rcC RecM.noRec), .int .i64 E]) ∧ Below W.heap.size W w')) : Calls Tryz.prog 21 #[devV h d] w (GDv (DevM.noDev, E) w) := by
 have t0 : (E != 0) = true := by simp [h0]
 have HDh := LH HD
 clear HD
 unfold devV
 obtain ⟨P1, hP1⟩ : ∃ P, w.heap.size = P := ⟨_, rfl⟩
 have HS := LH (((((MS.start w).alloc (p := P1) (by simp [hP1]) (dvC h d) 37)).alloc (p := (P1 + 1)) (by simp [hP1]) zDev 37))
 go_enter Tryz.func21, Tryz.ntmps21
 go_upto_region 1 with fail
 refine wp_gen HS.out (fun V0 HS1 => ?_)
 replace HS := LH HS1
 clear HS1 hP1
 replace HS := LH (MH.of HS.out)
 have bP1 := HS.out.get 1 rfl
 simp only at bP1
 go_wp2_with (first
   | (refine wpList_load_row rfl 37 (.tmp 1) rfl P1 rfl 37 (dvC h d) (0, 0) _ bP1 Tryz.underlying37 rfl (sDv h d) ?_))
 clear bP1
 refine (HBg.out _ (HDh.out.later HS.out.below)).mono ?_
 rintro e W1 ⟨rfl, hb⟩
 replace HS := LH (HS.out.later hb)
 clear hb
 obtain ⟨P3, hP3⟩ : ∃ P, W1.heap.size = P := ⟨_, rfl⟩
 replace HS := LH (HS.out.alloc hP3 (rcC RecM.noRec) 28)
 go_upto_region 2 with (refine wSN rfl 28 (.tmp 4) (.tmp 11) rfl P3 (rcC RecM.noRec) rfl rfl 28 _ hP3.symm (sRc RecM.noRec) (lRc RecM.noRec) (oRc RecM.noRec) ?_)
 refine gnH HS.out (fun V1 HS1 => ?_)
 replace HS := LH HS1
 clear HS1 hP3
 have bP1p1 := HS.out.get 1 rfl
 simp only at bP1p1
 have HG := LH (HS.out.set 1 rfl zDev)
 go_wp2_with (first
   | (refine wpList_store_row rfl 37 (.tmp 2) (.tmp 15) rfl (P1 + 1) zDev rfl rfl 37 _ bP1p1 size_zdev like_zz one_zdev ?_))
 clear bP1p1
 refine bodyPost_ret (v := .tuple #[.agg zDev, .int .i64 E]) ?_ rfl ?_
 · exact res_ct (fn := Tryz.f21) (p := 2) (a := 3) rfl rfl rfl (HG.out.get 1 rfl) Tryz.underlying37 rfl size_zdev
 · exact GDv.bad HG.out.below
theorem bootD_same (h : DevH) (d : DevR) (w : World) (HD : DH w h d) (HBg : Hid (∀ W, DH W h d → Calls Tryz.prog 55 #[.agg (dvC h d), .bool false] W fun e w' => e = .returned (.tuple #[.agg (rcC (DevM.rc d)), .int .i64 0]) ∧ Below W.heap.size W w')) (hok : DevM.Ok d) (hu : d.up = false) (hs : (RecM.after (DevM.rc d)) = DevM.rc d) : Calls Tryz.prog 21 #[devV h d] w (GDv ({ d with up := true, run := (RecM.slot (DevM.rc d)) }, 0) w) := by
 have _hk := hok
 have _hv := hu
 clear _hk _hv
 have HSt : Hid (∀ W, Calls Tryz.prog 65 #[.agg (rcC (DevM.rc d))] W fun e w' => e = .returned (.tuple #[.int .i64 (RecM.slot (DevM.rc d)), .agg (rcC (RecM.after (DevM.rc d))), .int .i64 0]) ∧ Below W.heap.size W w') := fun W => by
   have := startR_any (DevM.rc d) W
   rw [RecM.startOf_ok hok.rec_] at this
   exact this
 have hq : ∀ W, (binOp .neq 28 (.agg (rcC (RecM.after (DevM.rc d)))) (.agg (rcC (DevM.rc d)))).run Tryz.prog W = .ok (.bool false) W := fun W => by
   have := rec_neq (RecM.after (DevM.rc d)) (DevM.rc d) W
   rw [decide_eq_true hs] at this
   exact this
 have HSlW : Hid (I64 (RecM.slot (DevM.rc d))) := by
   show I64 _
   have h1 := (RecM.check_nums hok.rec_).2.1
   unfold RecM.slot I64
   split <;> omega
 have HCy := LH (fun W (x : DH W h d) => copiedD_new h d W x (DevM.few_of hok))
 unfold devV at HCy
 clear hok hu hs
 have HDh := LH HD
 clear HD
 unfold devV
 obtain ⟨P1, hP1⟩ : ∃ P, w.heap.size = P := ⟨_, rfl⟩
 have HS := LH (((((MS.start w).alloc (p := P1) (by simp [hP1]) (dvC h d) 37)).alloc (p := (P1 + 1)) (by simp [hP1]) zDev 37))
 go_enter Tryz.func21, Tryz.ntmps21
 go_upto_region 1 with fail
 refine wp_gen HS.out (fun V0 HS1 => ?_)
 replace HS := LH HS1
 clear HS1 hP1
 replace HS := LH (MH.of HS.out)
 have bP1 := HS.out.get 1 rfl
 simp only at bP1
 go_wp2_with (first
   | (refine wpList_load_row rfl 37 (.tmp 1) rfl P1 rfl 37 (dvC h d) (0, 0) _ bP1 Tryz.underlying37 rfl (sDv h d) ?_))
 clear bP1
 refine (HBg.out _ (HDh.out.later HS.out.below)).mono ?_
 rintro e W1 ⟨rfl, hb⟩
 replace HS := LH (HS.out.later hb)
 clear hb
 obtain ⟨P3, hP3⟩ : ∃ P, W1.heap.size = P := ⟨_, rfl⟩
 replace HS := LH (HS.out.alloc hP3 (rcC (DevM.rc d)) 28)
 go_upto_region 2 with (refine wSN rfl 28 (.tmp 4) (.tmp 11) rfl P3 (rcC (DevM.rc d)) rfl rfl 28 _ hP3.symm (sRc (DevM.rc d)) (lRc (DevM.rc d)) (oRc (DevM.rc d)) ?_)
 refine gnH HS.out (fun V1 HS1 => ?_)
 replace HS := LH HS1
 clear HS1 hP3
 have bP3 := HS.out.get 0 rfl
 simp only at bP3
 go_wp2_with (first
   | (refine wpList_load_row rfl 28 (.tmp 4) rfl P3 rfl 28 (rcC (DevM.rc d)) (0, 0) _ bP3 Tryz.underlying28 rfl (sRc (DevM.rc d)) ?_))
 clear bP3
 refine (HSt.out _).mono ?_
 rintro e W2 ⟨rfl, hb⟩
 replace HS := LH (HS.out.later hb)
 clear hb
 obtain ⟨P7, hP7⟩ : ∃ P, W2.heap.size = P := ⟨_, rfl⟩
 replace HS := LH (HS.out.alloc hP7 (rcC (RecM.after (DevM.rc d))) 28)
 go_upto_region 5 with (refine wSN rfl 28 (.tmp 7) (.tmp 21) rfl P7 (rcC (RecM.after (DevM.rc d))) rfl rfl 28 _ hP7.symm (sRc (RecM.after (DevM.rc d))) (lRc (RecM.after (DevM.rc d))) (oRc (RecM.after (DevM.rc d))) ?_)
 refine gnH HS.out (fun V2 HS1 => ?_)
 replace HS := LH HS1
 clear HS1 hP7
 have bP1 := HS.out.get 3 rfl
 simp only at bP1
 go_wp2_with (first
   | (refine wpList_load_row rfl 37 (.tmp 1) rfl P1 rfl 37 (dvC h d) (0, 0) _ bP1 Tryz.underlying37 rfl (sDv h d) ?_))
 clear bP1
 refine (HCy.out _ (HDh.out.later HS.out.below)).mono ?_
 rintro e W3 ⟨h', rfl, hb, hn, -, -⟩
 replace HS := LH (HS.out.gain hb hn)
 clear hb hn
 unfold devV
 have HS2 := LH (HS.out.set 3 rfl (dvC h' d))
 have bP1 := HS.out.get 3 rfl
 simp only at bP1
 go_upto_region 8 with (first
   | (refine wpList_store_row rfl 37 (.tmp 1) (.tmp 28) rfl P1 (dvC h' d) rfl rfl 37 _ bP1 (sDv h' d) (lDv h h' d d) (oDv h' d) ?_))
 clear bP1
 refine gnH HS2.out (fun V3 HS1 => ?_)
 replace HS := LH HS1
 clear HS1 HS2
 have bP7 := HS.out.get 0 rfl
 simp only at bP7
 have bP3 := HS.out.get 1 rfl
 simp only at bP3
 go_upto_region 12 with (first
   | (refine wpList_load_row rfl 28 (.tmp 7) rfl P7 rfl 28 (rcC (RecM.after (DevM.rc d))) (0, 0) _ bP7 Tryz.underlying28 rfl (sRc (RecM.after (DevM.rc d))) ?_)
   | (refine wpList_load_row rfl 28 (.tmp 4) rfl P3 rfl 28 (rcC (DevM.rc d)) (0, 0) _ bP3 Tryz.underlying28 rfl (sRc (DevM.rc d)) ?_))
 clear bP7 bP3
 have cP1_26 := cAt (k := 26) (v := .bool d.up) (HS.out.get 3 rfl) rfl
 simp only at cP1_26
 have fP1_26 := tAt (k := 26) (HS.out.get 3 rfl)
 simp only at fP1_26
 have cP1_27 := cAt (k := 27) (v := .int .i64 d.run) (HS.out.get 3 rfl) rfl
 simp only at cP1_27
 have fP1_27 := tAt (k := 27) (HS.out.get 3 rfl)
 simp only at fP1_27
 have HS2 := LH ((HS.out.cell 3 rfl (put_up h' d true)).cell 3 rfl (put_run h' ({ d with up := true } : DevR) (RecM.slot (DevM.rc d))))
 go_upto_region 13 with fail
 clear cP1_26 fP1_26 cP1_27 fP1_27
 refine gnH HS2.out (fun V6 HS1 => ?_)
 replace HS := LH HS1
 clear HS1 HS2
 have bP1 := HS.out.get 3 rfl
 simp only at bP1
 have bP1p1 := HS.out.get 2 rfl
 simp only at bP1p1
 have HG := LH (HS.out.set 2 rfl (dvC h' ({ d with up := true, run := (RecM.slot (DevM.rc d)) } : DevR)))
 go_wp2_with (first
   | (refine wpList_load_row rfl 37 (.tmp 1) rfl P1 rfl 37 (dvC h' ({ d with up := true, run := (RecM.slot (DevM.rc d)) } : DevR)) (0, 0) _ bP1 Tryz.underlying37 rfl (sDv h' ({ d with up := true, run := (RecM.slot (DevM.rc d)) } : DevR)) ?_)
   | (refine wpList_store_row rfl 37 (.tmp 2) (.tmp 47) rfl (P1 + 1) (dvC h' ({ d with up := true, run := (RecM.slot (DevM.rc d)) } : DevR)) rfl rfl 37 _ bP1p1 (sDv h' ({ d with up := true, run := (RecM.slot (DevM.rc d)) } : DevR)) (like_zdev h' ({ d with up := true, run := (RecM.slot (DevM.rc d)) } : DevR)) (oDv h' ({ d with up := true, run := (RecM.slot (DevM.rc d)) } : DevR)) ?_))
 clear bP1 bP1p1
 refine bodyPost_ret (v := .tuple #[.agg (dvC h' ({ d with up := true, run := (RecM.slot (DevM.rc d)) } : DevR)), .int .i64 0]) ?_ rfl ?_
 · exact res_ct (fn := Tryz.f21) (p := 2) (a := 3) rfl rfl rfl (HG.out.get 2 rfl) Tryz.underlying37 rfl (sDv _ _)
 · refine ⟨h', rfl, HG.out.below, fun V v1 v2 => ?_⟩
   have k1 := HG.out.newR 0 rfl V v1 v2
   simp only at k1
   exact ⟨k1.b0, k1.b1, k1.got, k1.ops, k1.copsW, HSlW.out, k1.jobI, k1.doneI⟩
theorem bootD_err (h : DevH) (d : DevR) (w : World) (HD : DH w h d) (HBg : Hid (∀ W, DH W h d → Calls Tryz.prog 55 #[.agg (dvC h d), .bool false] W fun e w' => e = .returned (.tuple #[.agg (rcC (DevM.rc d)), .int .i64 0]) ∧ Below W.heap.size W w')) (hok : DevM.Ok d) (hu : d.up = false) (hs : (RecM.after (DevM.rc d)) ≠ DevM.rc d) (L : CopsR) (E : Int) (hW : RecM.writeOf d.c (RecM.after (DevM.rc d)) false = (L, E)) (hE : E ≠ 0) : Calls Tryz.prog 21 #[devV h d] w (GDv (DevM.noDev, E) w) := by
 have _hk := hok
 have _hv := hu
 clear _hk _hv
 have HSt : Hid (∀ W, Calls Tryz.prog 65 #[.agg (rcC (DevM.rc d))] W fun e w' => e = .returned (.tuple #[.int .i64 (RecM.slot (DevM.rc d)), .agg (rcC (RecM.after (DevM.rc d))), .int .i64 0]) ∧ Below W.heap.size W w') := fun W => by
   have := startR_any (DevM.rc d) W
   rw [RecM.startOf_ok hok.rec_] at this
   exact this
 have hq : ∀ W, (binOp .neq 28 (.agg (rcC (RecM.after (DevM.rc d)))) (.agg (rcC (DevM.rc d)))).run Tryz.prog W = .ok (.bool true) W := fun W => by
   have := rec_neq (RecM.after (DevM.rc d)) (DevM.rc d) W
   rw [decide_eq_false hs] at this
   exact this
 have HWr : Hid (∀ W, Calls Tryz.prog 63 #[.agg (cpC d.c), .agg (rcC (RecM.after (DevM.rc d))), .bool false] W fun e w' => e = .returned (.tuple #[.agg (cpC L), .int .i64 E]) ∧ Below W.heap.size W w') := fun W => by
   have := writeR_any d.c (RecM.after (DevM.rc d)) false W
   rw [hW] at this
   exact this
 have t2 : (E != 0) = true := by simp [hE]
 have HSlW : Hid (I64 (RecM.slot (DevM.rc d))) := by
   show I64 _
   have h1 := (RecM.check_nums hok.rec_).2.1
   unfold RecM.slot I64
   split <;> omega
 have HCy := LH (fun W (x : DH W h d) => copiedD_new h d W x (DevM.few_of hok))
 unfold devV at HCy
 clear hok hu hs hW hE
 have HDh := LH HD
 clear HD
 unfold devV
 obtain ⟨P1, hP1⟩ : ∃ P, w.heap.size = P := ⟨_, rfl⟩
 have HS := LH (((((MS.start w).alloc (p := P1) (by simp [hP1]) (dvC h d) 37)).alloc (p := (P1 + 1)) (by simp [hP1]) zDev 37))
 go_enter Tryz.func21, Tryz.ntmps21
 go_upto_region 1 with fail
 refine wp_gen HS.out (fun V0 HS1 => ?_)
 replace HS := LH HS1
 clear HS1 hP1
 replace HS := LH (MH.of HS.out)
 have bP1 := HS.out.get 1 rfl
 simp only at bP1
 go_wp2_with (first
   | (refine wpList_load_row rfl 37 (.tmp 1) rfl P1 rfl 37 (dvC h d) (0, 0) _ bP1 Tryz.underlying37 rfl (sDv h d) ?_))
 clear bP1
 refine (HBg.out _ (HDh.out.later HS.out.below)).mono ?_
 rintro e W1 ⟨rfl, hb⟩
 replace HS := LH (HS.out.later hb)
 clear hb
 obtain ⟨P3, hP3⟩ : ∃ P, W1.heap.size = P := ⟨_, rfl⟩
 replace HS := LH (HS.out.alloc hP3 (rcC (DevM.rc d)) 28)
 go_upto_region 2 with (refine wSN rfl 28 (.tmp 4) (.tmp 11) rfl P3 (rcC (DevM.rc d)) rfl rfl 28 _ hP3.symm (sRc (DevM.rc d)) (lRc (DevM.rc d)) (oRc (DevM.rc d)) ?_)
 refine gnH HS.out (fun V1 HS1 => ?_)
 replace HS := LH HS1
 clear HS1 hP3
 have bP3 := HS.out.get 0 rfl
 simp only at bP3
 go_wp2_with (first
   | (refine wpList_load_row rfl 28 (.tmp 4) rfl P3 rfl 28 (rcC (DevM.rc d)) (0, 0) _ bP3 Tryz.underlying28 rfl (sRc (DevM.rc d)) ?_))
 clear bP3
 refine (HSt.out _).mono ?_
 rintro e W2 ⟨rfl, hb⟩
 replace HS := LH (HS.out.later hb)
 clear hb
 obtain ⟨P7, hP7⟩ : ∃ P, W2.heap.size = P := ⟨_, rfl⟩
 replace HS := LH (HS.out.alloc hP7 (rcC (RecM.after (DevM.rc d))) 28)
 go_upto_region 5 with (refine wSN rfl 28 (.tmp 7) (.tmp 21) rfl P7 (rcC (RecM.after (DevM.rc d))) rfl rfl 28 _ hP7.symm (sRc (RecM.after (DevM.rc d))) (lRc (RecM.after (DevM.rc d))) (oRc (RecM.after (DevM.rc d))) ?_)
 refine gnH HS.out (fun V2 HS1 => ?_)
 replace HS := LH HS1
 clear HS1 hP7
 have bP1 := HS.out.get 3 rfl
 simp only at bP1
 go_wp2_with (first
   | (refine wpList_load_row rfl 37 (.tmp 1) rfl P1 rfl 37 (dvC h d) (0, 0) _ bP1 Tryz.underlying37 rfl (sDv h d) ?_))
 clear bP1
 refine (HCy.out _ (HDh.out.later HS.out.below)).mono ?_
 rintro e W3 ⟨h', rfl, hb, hn, -, -⟩
 replace HS := LH (HS.out.gain hb hn)
 clear hb hn
 unfold devV
 have HS2 := LH (HS.out.set 3 rfl (dvC h' d))
 have bP1 := HS.out.get 3 rfl
 simp only at bP1
 go_upto_region 8 with (first
   | (refine wpList_store_row rfl 37 (.tmp 1) (.tmp 28) rfl P1 (dvC h' d) rfl rfl 37 _ bP1 (sDv h' d) (lDv h h' d d) (oDv h' d) ?_))
 clear bP1
 refine gnH HS2.out (fun V3 HS1 => ?_)
 replace HS := LH HS1
 clear HS1 HS2
 have bP7 := HS.out.get 0 rfl
 simp only at bP7
 have bP3 := HS.out.get 1 rfl
 simp only at bP3
 have bP1 := HS.out.get 3 rfl
 simp only at bP1
 go_wp2_with (first
   | (refine wpList_load_row rfl 28 (.tmp 7) rfl P7 rfl 28 (rcC (RecM.after (DevM.rc d))) (0, 0) _ bP7 Tryz.underlying28 rfl (sRc (RecM.after (DevM.rc d))) ?_)
   | (refine wpList_load_row rfl 28 (.tmp 4) rfl P3 rfl 28 (rcC (DevM.rc d)) (0, 0) _ bP3 Tryz.underlying28 rfl (sRc (DevM.rc d)) ?_)
   | (refine wLP rfl 31 (.tmp 33) rfl P1 2 rfl (dvC h' d) 37 (0, 0) bP1 (cpC d.c) (part_cops h' d) _ Tryz.underlying31 rfl (sCp d.c) ?_))
 clear bP7 bP3 bP1
 refine (HWr.out _).mono ?_
 rintro e W4 ⟨rfl, hb⟩
 replace HS := LH (HS.out.later hb)
 clear hb
 have HS2 := LH (HS.out.cells 3 rfl (put_cops h' d L))
 go_upto_region 10 with (first
   | (refine wpList_store_mid rfl 31 (.tmp 39) (.tmp 37) rfl P1 2 (cpC L) rfl rfl (HS.out.ms.there 3 rfl (by show 26 ≤ 37; decide)) (sCp L) (one_copsA L) ?_; refine glH HS2.out (fun V4 HS1 => ?_)))
 replace HS := LH HS1
 clear HS1 HS2
 have bP1p1 := HS.out.get 2 rfl
 simp only at bP1p1
 have HG := LH (HS.out.set 2 rfl zDev)
 go_wp2_with (first
   | (refine wpList_store_row rfl 37 (.tmp 2) (.tmp 42) rfl (P1 + 1) zDev rfl rfl 37 _ bP1p1 size_zdev like_zz one_zdev ?_))
 clear bP1p1
 refine bodyPost_ret (v := .tuple #[.agg zDev, .int .i64 E]) ?_ rfl ?_
 · exact res_ct (fn := Tryz.f21) (p := 2) (a := 3) rfl rfl rfl (HG.out.get 2 rfl) Tryz.underlying37 rfl size_zdev
 · exact GDv.bad HG.out.below
theorem bootD_fine (h : DevH) (d : DevR) (w : World) (HD : DH w h d) (HBg : Hid (∀ W, DH W h d → Calls Tryz.prog 55 #[.agg (dvC h d), .bool false] W fun e w' => e = .returned (.tuple #[.agg (rcC (DevM.rc d)), .int .i64 0]) ∧ Below W.heap.size W w')) (hok : DevM.Ok d) (hu : d.up = false) (hs : (RecM.after (DevM.rc d)) ≠ DevM.rc d) (L : CopsR) (E : Int) (hW : RecM.writeOf d.c (RecM.after (DevM.rc d)) false = (L, E)) (hE : E = 0) (hL : RecM.copies L = 0) : Calls Tryz.prog 21 #[devV h d] w (GDv ({ d with c := L, up := true, run := (RecM.slot (DevM.rc d)) }, 0) w) := by
 have _hk := hok
 have _hv := hu
 clear _hk _hv
 have HSt : Hid (∀ W, Calls Tryz.prog 65 #[.agg (rcC (DevM.rc d))] W fun e w' => e = .returned (.tuple #[.int .i64 (RecM.slot (DevM.rc d)), .agg (rcC (RecM.after (DevM.rc d))), .int .i64 0]) ∧ Below W.heap.size W w') := fun W => by
   have := startR_any (DevM.rc d) W
   rw [RecM.startOf_ok hok.rec_] at this
   exact this
 have hq : ∀ W, (binOp .neq 28 (.agg (rcC (RecM.after (DevM.rc d)))) (.agg (rcC (DevM.rc d)))).run Tryz.prog W = .ok (.bool true) W := fun W => by
   have := rec_neq (RecM.after (DevM.rc d)) (DevM.rc d) W
   rw [decide_eq_false hs] at this
   exact this
 have HWr : Hid (∀ W, Calls Tryz.prog 63 #[.agg (cpC d.c), .agg (rcC (RecM.after (DevM.rc d))), .bool false] W fun e w' => e = .returned (.tuple #[.agg (cpC L), .int .i64 E]) ∧ Below W.heap.size W w') := fun W => by
   have := writeR_any d.c (RecM.after (DevM.rc d)) false W
   rw [hW] at this
   exact this
 have HLW := LH (cops_w hL)
 subst hE
 have HSlW : Hid (I64 (RecM.slot (DevM.rc d))) := by
   show I64 _
   have h1 := (RecM.check_nums hok.rec_).2.1
   unfold RecM.slot I64
   split <;> omega
 have HCy := LH (fun W (x : DH W h d) => copiedD_new h d W x (DevM.few_of hok))
 unfold devV at HCy
 clear hok hu hs hW hL
 have HDh := LH HD
 clear HD
 unfold devV
 obtain ⟨P1, hP1⟩ : ∃ P, w.heap.size = P := ⟨_, rfl⟩
 have HS := LH (((((MS.start w).alloc (p := P1) (by simp [hP1]) (dvC h d) 37)).alloc (p := (P1 + 1)) (by simp [hP1]) zDev 37))
 go_enter Tryz.func21, Tryz.ntmps21
 go_upto_region 1 with fail
 refine wp_gen HS.out (fun V0 HS1 => ?_)
 replace HS := LH HS1
 clear HS1 hP1
 replace HS := LH (MH.of HS.out)
 have bP1 := HS.out.get 1 rfl
 simp only at bP1
 go_wp2_with (first
   | (refine wpList_load_row rfl 37 (.tmp 1) rfl P1 rfl 37 (dvC h d) (0, 0) _ bP1 Tryz.underlying37 rfl (sDv h d) ?_))
 clear bP1
 refine (HBg.out _ (HDh.out.later HS.out.below)).mono ?_
 rintro e W1 ⟨rfl, hb⟩
 replace HS := LH (HS.out.later hb)
 clear hb
 obtain ⟨P3, hP3⟩ : ∃ P, W1.heap.size = P := ⟨_, rfl⟩
 replace HS := LH (HS.out.alloc hP3 (rcC (DevM.rc d)) 28)
 go_upto_region 2 with (refine wSN rfl 28 (.tmp 4) (.tmp 11) rfl P3 (rcC (DevM.rc d)) rfl rfl 28 _ hP3.symm (sRc (DevM.rc d)) (lRc (DevM.rc d)) (oRc (DevM.rc d)) ?_)
 refine gnH HS.out (fun V1 HS1 => ?_)
 replace HS := LH HS1
 clear HS1 hP3
 have bP3 := HS.out.get 0 rfl
 simp only at bP3
 go_wp2_with (first
   | (refine wpList_load_row rfl 28 (.tmp 4) rfl P3 rfl 28 (rcC (DevM.rc d)) (0, 0) _ bP3 Tryz.underlying28 rfl (sRc (DevM.rc d)) ?_))
 clear bP3
 refine (HSt.out _).mono ?_
 rintro e W2 ⟨rfl, hb⟩
 replace HS := LH (HS.out.later hb)
 clear hb
 obtain ⟨P7, hP7⟩ : ∃ P, W2.heap.size = P := ⟨_, rfl⟩
 replace HS := LH (HS.out.alloc hP7 (rcC (RecM.after (DevM.rc d))) 28)
 go_upto_region 5 with (refine wSN rfl 28 (.tmp 7) (.tmp 21) rfl P7 (rcC (RecM.after (DevM.rc d))) rfl rfl 28 _ hP7.symm (sRc (RecM.after (DevM.rc d))) (lRc (RecM.after (DevM.rc d))) (oRc (RecM.after (DevM.rc d))) ?_)
 refine gnH HS.out (fun V2 HS1 => ?_)
 replace HS := LH HS1
 clear HS1 hP7
 have bP1 := HS.out.get 3 rfl
 simp only at bP1
 go_wp2_with (first
   | (refine wpList_load_row rfl 37 (.tmp 1) rfl P1 rfl 37 (dvC h d) (0, 0) _ bP1 Tryz.underlying37 rfl (sDv h d) ?_))
 clear bP1
 refine (HCy.out _ (HDh.out.later HS.out.below)).mono ?_
 rintro e W3 ⟨h', rfl, hb, hn, -, -⟩
 replace HS := LH (HS.out.gain hb hn)
 clear hb hn
 unfold devV
 have HS2 := LH (HS.out.set 3 rfl (dvC h' d))
 have bP1 := HS.out.get 3 rfl
 simp only at bP1
 go_upto_region 8 with (first
   | (refine wpList_store_row rfl 37 (.tmp 1) (.tmp 28) rfl P1 (dvC h' d) rfl rfl 37 _ bP1 (sDv h' d) (lDv h h' d d) (oDv h' d) ?_))
 clear bP1
 refine gnH HS2.out (fun V3 HS1 => ?_)
 replace HS := LH HS1
 clear HS1 HS2
 have bP7 := HS.out.get 0 rfl
 simp only at bP7
 have bP3 := HS.out.get 1 rfl
 simp only at bP3
 have bP1 := HS.out.get 3 rfl
 simp only at bP1
 go_wp2_with (first
   | (refine wpList_load_row rfl 28 (.tmp 7) rfl P7 rfl 28 (rcC (RecM.after (DevM.rc d))) (0, 0) _ bP7 Tryz.underlying28 rfl (sRc (RecM.after (DevM.rc d))) ?_)
   | (refine wpList_load_row rfl 28 (.tmp 4) rfl P3 rfl 28 (rcC (DevM.rc d)) (0, 0) _ bP3 Tryz.underlying28 rfl (sRc (DevM.rc d)) ?_)
   | (refine wLP rfl 31 (.tmp 33) rfl P1 2 rfl (dvC h' d) 37 (0, 0) bP1 (cpC d.c) (part_cops h' d) _ Tryz.underlying31 rfl (sCp d.c) ?_))
 clear bP7 bP3 bP1
 refine (HWr.out _).mono ?_
 rintro e W4 ⟨rfl, hb⟩
 replace HS := LH (HS.out.later hb)
 clear hb
 have HS2 := LH (HS.out.cells 3 rfl (put_cops h' d L))
 go_upto_region 10 with (first
   | (refine wpList_store_mid rfl 31 (.tmp 39) (.tmp 37) rfl P1 2 (cpC L) rfl rfl (HS.out.ms.there 3 rfl (by show 26 ≤ 37; decide)) (sCp L) (one_copsA L) ?_; refine glH HS2.out (fun V4 HS1 => ?_)))
 replace HS := LH HS1
 clear HS1 HS2
 go_upto_region 12 with fail
 have cP1_26 := cAt (k := 26) (v := .bool d.up) (HS.out.get 3 rfl) rfl
 simp only at cP1_26
 have fP1_26 := tAt (k := 26) (HS.out.get 3 rfl)
 simp only at fP1_26
 have cP1_27 := cAt (k := 27) (v := .int .i64 d.run) (HS.out.get 3 rfl) rfl
 simp only at cP1_27
 have fP1_27 := tAt (k := 27) (HS.out.get 3 rfl)
 simp only at fP1_27
 have HS2 := LH ((HS.out.cell 3 rfl (put_up h' ({ d with c := L } : DevR) true)).cell 3 rfl (put_run h' ({ d with c := L, up := true } : DevR) (RecM.slot (DevM.rc d))))
 go_upto_region 13 with fail
 clear cP1_26 fP1_26 cP1_27 fP1_27
 refine gnH HS2.out (fun V6 HS1 => ?_)
 replace HS := LH HS1
 clear HS1 HS2
 have bP1 := HS.out.get 3 rfl
 simp only at bP1
 have bP1p1 := HS.out.get 2 rfl
 simp only at bP1p1
 have HG := LH (HS.out.set 2 rfl (dvC h' ({ d with c := L, up := true, run := (RecM.slot (DevM.rc d)) } : DevR)))
 go_wp2_with (first
   | (refine wpList_load_row rfl 37 (.tmp 1) rfl P1 rfl 37 (dvC h' ({ d with c := L, up := true, run := (RecM.slot (DevM.rc d)) } : DevR)) (0, 0) _ bP1 Tryz.underlying37 rfl (sDv h' ({ d with c := L, up := true, run := (RecM.slot (DevM.rc d)) } : DevR)) ?_)
   | (refine wpList_store_row rfl 37 (.tmp 2) (.tmp 47) rfl (P1 + 1) (dvC h' ({ d with c := L, up := true, run := (RecM.slot (DevM.rc d)) } : DevR)) rfl rfl 37 _ bP1p1 (sDv h' ({ d with c := L, up := true, run := (RecM.slot (DevM.rc d)) } : DevR)) (like_zdev h' ({ d with c := L, up := true, run := (RecM.slot (DevM.rc d)) } : DevR)) (oDv h' ({ d with c := L, up := true, run := (RecM.slot (DevM.rc d)) } : DevR)) ?_))
 clear bP1 bP1p1
 refine bodyPost_ret (v := .tuple #[.agg (dvC h' ({ d with c := L, up := true, run := (RecM.slot (DevM.rc d)) } : DevR)), .int .i64 0]) ?_ rfl ?_
 · exact res_ct (fn := Tryz.f21) (p := 2) (a := 3) rfl rfl rfl (HG.out.get 2 rfl) Tryz.underlying37 rfl (sDv _ _)
 · refine ⟨h', rfl, HG.out.below, fun V v1 v2 => ?_⟩
   have k1 := HG.out.newR 0 rfl V v1 v2
   simp only at k1
   exact ⟨k1.b0, k1.b1, k1.got, k1.ops, HLW.out, HSlW.out, k1.jobI, k1.doneI⟩
theorem bootD_ok (h : DevH) (d : DevR) (w : World) (HD : DH w h d) (HBg : Hid (∀ W, DH W h d → Calls Tryz.prog 55 #[.agg (dvC h d), .bool false] W fun e w' => e = .returned (.tuple #[.agg (rcC (DevM.rc d)), .int .i64 0]) ∧ Below W.heap.size W w')) (hok : DevM.Ok d) (hu : d.up = false) : Calls Tryz.prog 21 #[devV h d] w (GDv (DevM.boot d) w) := by
 unfold DevM.boot
 by_cases hs : RecM.after (DevM.rc d) = DevM.rc d
 · rw [if_pos hs]
   exact bootD_same h d w HD HBg hok hu hs
 · rw [if_neg hs]
   obtain ⟨⟨L, E⟩, hW⟩ : ∃ x, RecM.writeOf d.c (RecM.after (DevM.rc d)) false = x := ⟨_, rfl⟩
   rw [hW]
   unfold DevM.wrong
   by_cases hE : E = 0
   · rw [if_neg (fun q => q hE)]
     exact bootD_fine h d w HD HBg hok hu hs L E hW hE (by
       have := (RecM.writeOf_zero hok.cops (r := RecM.after (DevM.rc d)) (torn := false) (by rw [hW]; exact hE)).2.1
       rwa [hW] at this)
   · rw [if_pos hE]
     exact bootD_err h d w HD HBg hok hu hs L E hW hE
theorem bootD_any (h : DevH) (d : DevR) (w : World) (HD : DH w h d) : Calls Tryz.prog 21 #[devV h d] w (GDv (DevM.told d false (DevM.boot d)) w) := by
 have HBg := fun W (x : DH W h d) => beginD_any checkD_ok h d false W x
 unfold devV at HBg
 rcases DevM.beg_cases d false with ⟨E, h0, hb, ht⟩ | ⟨hok, hu, hb, ht⟩
 · rw [ht]
   rw [hb] at HBg
   exact bootD_bad h d  w HD E h0 (LH HBg)
 · rw [ht]
   rw [hb] at HBg
   exact bootD_ok h d  w HD (LH HBg) hok hu
theorem confR_any (r : RecR) (w : World) :
   Calls Tryz.prog 64 #[recV r] w fun e w' => e = .returned (.tuple #[recV (RecM.confOf r).1, .int .i64 (RecM.confOf r).2]) ∧ Below w.heap.size w w' := by
 have HC := LH (fun W => checkR_any r W)
 have HST := LH (RSt1.start w r)
 have hi := sRc r
 have HS : Hid (RecM.confOf r = if RecM.check r ≠ 0 then (RecM.noRec, RecM.check r) else if r.trying = false then (RecM.noRec, 5) else (RecM.conf r, 0)) := rfl
 have HV : Hid (∀ x, recV x = .agg (rcC x)) := fun _ => rfl
 rw [HV.out] at HC
 rw [HV.out]
 have hc0 := HST.out.c0
 go_enter Tryz.func64, Tryz.ntmps64
 go_wp2_with (refine wpList_load_row rfl 28 (.tmp 1) rfl w.heap.size rfl 28 (rcC r) (0, 0) _ hc0 Tryz.underlying28 rfl hi ?_)
 refine (HC.out _).mono ?_
 rintro e W2 ⟨rfl, hb2⟩
 have HST2 := LH (HST.out.later hb2)
 clear hb2 HST hc0 HC hi
 have HG := LH HST2.out.nil_
 by_cases e0 : RecM.check r = 0
 · replace HS := LH (HS.out.trans (if_neg (fun q => q e0)))
   have hn := RecM.check_nums e0
   have hr := RecM.check_rec e0
   rw [e0]
   clear e0
   obtain ⟨q0, q1, q2, q3, q4, q5, q8, qf⟩ := HST2.out.cells
   cases ht : r.trying
   · rw [ht] at q2
     replace HS := LH (HS.out.trans (if_pos ht))
     have hc1 := HST2.out.c1
     have hi2 := size_zero
     have ha := one_zero
     unfold zeroRec at hi2 ha hc1
     clear hn hr qf ht
     go_wp2_with (refine wpList_store_row rfl 28 (.tmp 2) (.tmp 14) rfl (w.heap.size + 1) #[.int .i64 0, .int .i64 0, .bool false, .int .i64 0, .int .i64 0, .int .i64 0, .int .i64 0, .int .i64 0, .int .i64 0, .int .i64 0, .int .i64 0] rfl rfl 28 _ hc1 hi2 rfl ha ?_)
     refine bodyPost_ret (v := .tuple #[.agg zeroRec, .int .i64 5]) ?_ rfl ?_
     · exact res_ct (fn := Tryz.f64) (p := 2) (a := 3) rfl rfl rfl HG.out.1 Tryz.underlying28 rfl size_zero
     · exact ⟨by rw [HS.out]; rfl, HG.out.2⟩
   rw [ht] at q2
   replace HS := LH (HS.out.trans (if_neg (by rw [ht]; simp)))
   rcases hn.2.1 with ha | ha
   · rw [ha] at q1
     have HO : Hid (∀ W, Calls Tryz.prog 112 #[.int .i64 0] W fun e w' => e = .returned (.int .i64 1) ∧ W = w') := fun W => by simpa using other_any 0 W (by decide)
     have HST3 : Hid (RSt1 w { r with act := 1, trying := false, tries := 0 } (((W2.setCell ⟨w.heap.size, 1, none⟩ (.int .i64 1)).setCell ⟨w.heap.size, 2, none⟩ (.bool false)).setCell ⟨w.heap.size, 3, none⟩ (.int .i64 0))) := ((HST2.out.set (r' := { r with act := 1 }) rfl).set (r' := { r with act := 1, trying := false }) rfl).set rfl
     have hfl : r.floor ≤ r.i1.ver := by
       have := hr.2.1 ht
       rw [ha] at this
       exact this
     have HCf : Hid (RecM.conf r = ⟨r.gen, 1, false, 0, r.i1.ver, r.i0, r.i1⟩) := by
       show _ = _
       unfold RecM.conf
       have e : (RecM.inf r (1 - r.act)).ver = r.i1.ver := by rw [ha]; rfl
       rw [e, ha, Int.max_eq_right hfl]
       rfl
     have m1 : (if r.floor < r.i1.ver then r.i1.ver else r.floor) = r.i1.ver := by split <;> omega
     have m2 : (if r.i1.ver < r.floor then r.floor else r.i1.ver) = r.i1.ver := by split <;> omega
     have m3 : max r.floor r.i1.ver = r.i1.ver := by omega
     have m4 : max r.i1.ver r.floor = r.i1.ver := by omega
     have qf1 := qf 1
     have qf2 := qf 2
     have qf3 := qf 3
     clear qf hr hn ha
     go_wp2_with fail
     refine (HO.out _).mono ?_
     rintro e w' ⟨rfl, rfl⟩
     go_wp2_with fail
     generalize ((W2.setCell ⟨w.heap.size, 1, none⟩ (.int .i64 1)).setCell ⟨w.heap.size, 2, none⟩ (.bool false)).setCell ⟨w.heap.size, 3, none⟩ (.int .i64 0) = W3 at HST3 ⊢
     clear ht q0 q1 q2 q3 q4 q5 q8 qf1 qf2 qf3 hfl HST2
     have HST4 := LH HST3.out.drew
     obtain ⟨p0, p1, p2, p3, p4, p5, p8, pf⟩ := HST4.out.cells
     have pf4 := pf 4
     clear pf p0 p2 p3
     have HST5 : Hid (RSt1 w ⟨r.gen, 1, false, 0, r.i1.ver, r.i0, r.i1⟩ (W3.drew.setCell ⟨w.heap.size, 4, none⟩ (.int .i64 r.i1.ver))) := HST4.out.set rfl
     go_still_tail 10, (by kernel_rfl)
     change wpList _ _ _ _ _ W3.drew
     have hc0 := HST5.out.c0
     have hc1 := HST5.out.c1
     replace HG := LH HST5.out.give
     have hi := sRc ⟨r.gen, 1, false, 0, r.i1.ver, r.i0, r.i1⟩
     have ha := oRc ⟨r.gen, 1, false, 0, r.i1.ver, r.i0, r.i1⟩
     go_wp2_with (first
       | (refine wpList_load_row rfl 28 (.tmp 1) rfl w.heap.size rfl 28 (rcC ⟨r.gen, 1, false, 0, r.i1.ver, r.i0, r.i1⟩) (0, 0) _ hc0 Tryz.underlying28 rfl hi ?_)
       | (refine wpList_store_row rfl 28 (.tmp 2) (.tmp 31) rfl (w.heap.size + 1) (rcC ⟨r.gen, 1, false, 0, r.i1.ver, r.i0, r.i1⟩) rfl rfl 28 _ hc1 hi rfl ha ?_))
     refine bodyPost_ret (v := .tuple #[.agg (rcC ⟨r.gen, 1, false, 0, r.i1.ver, r.i0, r.i1⟩), .int .i64 0]) ?_ rfl ?_
     · exact res_ct (fn := Tryz.f64) (p := 2) (a := 3) rfl rfl rfl HG.out.1 Tryz.underlying28 rfl hi
     · exact ⟨by rw [HS.out, HCf.out]; rfl, HG.out.2⟩
   · rw [ha] at q1
     have HO : Hid (∀ W, Calls Tryz.prog 112 #[.int .i64 1] W fun e w' => e = .returned (.int .i64 0) ∧ W = w') := fun W => by simpa using other_any 1 W (by decide)
     have HST3 : Hid (RSt1 w { r with act := 0, trying := false, tries := 0 } (((W2.setCell ⟨w.heap.size, 1, none⟩ (.int .i64 0)).setCell ⟨w.heap.size, 2, none⟩ (.bool false)).setCell ⟨w.heap.size, 3, none⟩ (.int .i64 0))) := ((HST2.out.set (r' := { r with act := 0 }) rfl).set (r' := { r with act := 0, trying := false }) rfl).set rfl
     have hfl : r.floor ≤ r.i0.ver := by
       have := hr.2.1 ht
       rw [ha] at this
       exact this
     have HCf : Hid (RecM.conf r = ⟨r.gen, 0, false, 0, r.i0.ver, r.i0, r.i1⟩) := by
       show _ = _
       unfold RecM.conf
       have e : (RecM.inf r (1 - r.act)).ver = r.i0.ver := by rw [ha]; rfl
       rw [e, ha, Int.max_eq_right hfl]
       rfl
     have m1 : (if r.floor < r.i0.ver then r.i0.ver else r.floor) = r.i0.ver := by split <;> omega
     have m2 : (if r.i0.ver < r.floor then r.floor else r.i0.ver) = r.i0.ver := by split <;> omega
     have m3 : max r.floor r.i0.ver = r.i0.ver := by omega
     have m4 : max r.i0.ver r.floor = r.i0.ver := by omega
     have qf1 := qf 1
     have qf2 := qf 2
     have qf3 := qf 3
     clear qf hr hn ha
     go_wp2_with fail
     refine (HO.out _).mono ?_
     rintro e w' ⟨rfl, rfl⟩
     go_wp2_with fail
     generalize ((W2.setCell ⟨w.heap.size, 1, none⟩ (.int .i64 0)).setCell ⟨w.heap.size, 2, none⟩ (.bool false)).setCell ⟨w.heap.size, 3, none⟩ (.int .i64 0) = W3 at HST3 ⊢
     clear ht q0 q1 q2 q3 q4 q5 q8 qf1 qf2 qf3 hfl HST2
     have HST4 := LH HST3.out.drew
     obtain ⟨p0, p1, p2, p3, p4, p5, p8, pf⟩ := HST4.out.cells
     have pf4 := pf 4
     clear pf p0 p2 p3
     have HST5 : Hid (RSt1 w ⟨r.gen, 0, false, 0, r.i0.ver, r.i0, r.i1⟩ (W3.drew.setCell ⟨w.heap.size, 4, none⟩ (.int .i64 r.i0.ver))) := HST4.out.set rfl
     go_still_tail 10, (by kernel_rfl)
     change wpList _ _ _ _ _ W3.drew
     have hc0 := HST5.out.c0
     have hc1 := HST5.out.c1
     replace HG := LH HST5.out.give
     have hi := sRc ⟨r.gen, 0, false, 0, r.i0.ver, r.i0, r.i1⟩
     have ha := oRc ⟨r.gen, 0, false, 0, r.i0.ver, r.i0, r.i1⟩
     go_wp2_with (first
       | (refine wpList_load_row rfl 28 (.tmp 1) rfl w.heap.size rfl 28 (rcC ⟨r.gen, 0, false, 0, r.i0.ver, r.i0, r.i1⟩) (0, 0) _ hc0 Tryz.underlying28 rfl hi ?_)
       | (refine wpList_store_row rfl 28 (.tmp 2) (.tmp 31) rfl (w.heap.size + 1) (rcC ⟨r.gen, 0, false, 0, r.i0.ver, r.i0, r.i1⟩) rfl rfl 28 _ hc1 hi rfl ha ?_))
     refine bodyPost_ret (v := .tuple #[.agg (rcC ⟨r.gen, 0, false, 0, r.i0.ver, r.i0, r.i1⟩), .int .i64 0]) ?_ rfl ?_
     · exact res_ct (fn := Tryz.f64) (p := 2) (a := 3) rfl rfl rfl HG.out.1 Tryz.underlying28 rfl hi
     · exact ⟨by rw [HS.out, HCf.out]; rfl, HG.out.2⟩
 · obtain ⟨E, hE⟩ : ∃ E, RecM.check r = E := ⟨_, rfl⟩
   replace HS := LH (HS.out.trans (if_pos e0))
   rw [hE] at e0 HS ⊢
   have t0 : (E != 0) = true := by simp [e0]
   clear hE
   have hc1 := HST2.out.c1
   have hi2 := size_zero
   have ha := one_zero
   unfold zeroRec at hi2 ha hc1
   go_wp2_with (refine wpList_store_row rfl 28 (.tmp 2) (.tmp 9) rfl (w.heap.size + 1) #[.int .i64 0, .int .i64 0, .bool false, .int .i64 0, .int .i64 0, .int .i64 0, .int .i64 0, .int .i64 0, .int .i64 0, .int .i64 0, .int .i64 0] rfl rfl 28 _ hc1 hi2 rfl ha ?_)
   refine bodyPost_ret (v := .tuple #[.agg zeroRec, .int .i64 E]) ?_ rfl ?_
   · exact res_ct (fn := Tryz.f64) (p := 2) (a := 3) rfl rfl rfl HG.out.1 Tryz.underlying28 rfl size_zero
   · exact ⟨by rw [HS.out]; rfl, HG.out.2⟩
theorem confirmD_bad (h : DevH) (d : DevR) (w : World) (HD : DH w h d) (E : Int) (h0 : E ≠ 0) (HBg : Hid (∀ W, DH W h d → Calls Tryz.prog 55 #[.agg (dvC h d), .bool true] W fun e w' => e = .returned (.tuple #[.agg (rcC RecM.noRec), .int .i64 E]) ∧ Below W.heap.size W w')) : Calls Tryz.prog 19 #[devV h d] w (GDv (DevM.noDev, E) w) := by
 have t0 : (E != 0) = true := by simp [h0]
 have HDh := LH HD
 clear HD
 unfold devV
 obtain ⟨P1, hP1⟩ : ∃ P, w.heap.size = P := ⟨_, rfl⟩
 have HS := LH (((((MS.start w).alloc (p := P1) (by simp [hP1]) (dvC h d) 37)).alloc (p := (P1 + 1)) (by simp [hP1]) zDev 37))
 go_enter Tryz.func19, Tryz.ntmps19
 go_upto_region 1 with fail
 refine wp_gen HS.out (fun V0 HS1 => ?_)
 replace HS := LH HS1
 clear HS1 hP1
 replace HS := LH (MH.of HS.out)
 have bP1 := HS.out.get 1 rfl
 simp only at bP1
 go_wp2_with (first
   | (refine wpList_load_row rfl 37 (.tmp 1) rfl P1 rfl 37 (dvC h d) (0, 0) _ bP1 Tryz.underlying37 rfl (sDv h d) ?_))
 clear bP1
 refine (HBg.out _ (HDh.out.later HS.out.below)).mono ?_
 rintro e W1 ⟨rfl, hb⟩
 replace HS := LH (HS.out.later hb)
 clear hb
 obtain ⟨P3, hP3⟩ : ∃ P, W1.heap.size = P := ⟨_, rfl⟩
 replace HS := LH (HS.out.alloc hP3 (rcC RecM.noRec) 28)
 go_upto_region 2 with (refine wSN rfl 28 (.tmp 4) (.tmp 10) rfl P3 (rcC RecM.noRec) rfl rfl 28 _ hP3.symm (sRc RecM.noRec) (lRc RecM.noRec) (oRc RecM.noRec) ?_)
 refine gnH HS.out (fun V1 HS1 => ?_)
 replace HS := LH HS1
 clear HS1 hP3
 have bP1p1 := HS.out.get 1 rfl
 simp only at bP1p1
 have HG := LH (HS.out.set 1 rfl zDev)
 go_wp2_with (first
   | (refine wpList_store_row rfl 37 (.tmp 2) (.tmp 14) rfl (P1 + 1) zDev rfl rfl 37 _ bP1p1 size_zdev like_zz one_zdev ?_))
 clear bP1p1
 refine bodyPost_ret (v := .tuple #[.agg zDev, .int .i64 E]) ?_ rfl ?_
 · exact res_ct (fn := Tryz.f19) (p := 2) (a := 3) rfl rfl rfl (HG.out.get 1 rfl) Tryz.underlying37 rfl size_zdev
 · exact GDv.bad HG.out.below
theorem confirmD_same (h : DevH) (d : DevR) (w : World) (HD : DH w h d) (HBg : Hid (∀ W, DH W h d → Calls Tryz.prog 55 #[.agg (dvC h d), .bool true] W fun e w' => e = .returned (.tuple #[.agg (rcC (DevM.rc d)), .int .i64 0]) ∧ Below W.heap.size W w')) (hok : DevM.Ok d) (hu : d.up = true) (hrn : d.run = (DevM.rc d).act) : Calls Tryz.prog 19 #[devV h d] w (GDv (DevM.noDev, 5) w) := by
 have _hk := hok
 have _hv := hu
 clear _hk _hv
 have t1 : (d.run == (DevM.rc d).act) = true := by simpa using hrn
 clear hok hu hrn
 have HDh := LH HD
 clear HD
 unfold devV
 obtain ⟨P1, hP1⟩ : ∃ P, w.heap.size = P := ⟨_, rfl⟩
 have HS := LH (((((MS.start w).alloc (p := P1) (by simp [hP1]) (dvC h d) 37)).alloc (p := (P1 + 1)) (by simp [hP1]) zDev 37))
 go_enter Tryz.func19, Tryz.ntmps19
 go_upto_region 1 with fail
 refine wp_gen HS.out (fun V0 HS1 => ?_)
 replace HS := LH HS1
 clear HS1 hP1
 replace HS := LH (MH.of HS.out)
 have bP1 := HS.out.get 1 rfl
 simp only at bP1
 go_wp2_with (first
   | (refine wpList_load_row rfl 37 (.tmp 1) rfl P1 rfl 37 (dvC h d) (0, 0) _ bP1 Tryz.underlying37 rfl (sDv h d) ?_))
 clear bP1
 refine (HBg.out _ (HDh.out.later HS.out.below)).mono ?_
 rintro e W1 ⟨rfl, hb⟩
 replace HS := LH (HS.out.later hb)
 clear hb
 obtain ⟨P3, hP3⟩ : ∃ P, W1.heap.size = P := ⟨_, rfl⟩
 replace HS := LH (HS.out.alloc hP3 (rcC (DevM.rc d)) 28)
 go_upto_region 2 with (refine wSN rfl 28 (.tmp 4) (.tmp 10) rfl P3 (rcC (DevM.rc d)) rfl rfl 28 _ hP3.symm (sRc (DevM.rc d)) (lRc (DevM.rc d)) (oRc (DevM.rc d)) ?_)
 refine gnH HS.out (fun V1 HS1 => ?_)
 replace HS := LH HS1
 clear HS1 hP3
 have cP1_27 := cAt (k := 27) (v := .int .i64 d.run) (HS.out.get 2 rfl) rfl
 simp only at cP1_27
 have cP3_1 := cAt (k := 1) (v := .int .i64 (DevM.rc d).act) (HS.out.get 0 rfl) rfl
 simp only at cP3_1
 have bP1p1 := HS.out.get 1 rfl
 simp only at bP1p1
 have HG := LH (HS.out.set 1 rfl zDev)
 go_wp2_with (first
   | (refine wpList_store_row rfl 37 (.tmp 2) (.tmp 21) rfl (P1 + 1) zDev rfl rfl 37 _ bP1p1 size_zdev like_zz one_zdev ?_))
 clear cP1_27 cP3_1 bP1p1
 refine bodyPost_ret (v := .tuple #[.agg zDev, .int .i64 5]) ?_ rfl ?_
 · exact res_ct (fn := Tryz.f19) (p := 2) (a := 3) rfl rfl rfl (HG.out.get 1 rfl) Tryz.underlying37 rfl size_zdev
 · exact GDv.bad HG.out.below
theorem confirmD_err (h : DevH) (d : DevR) (w : World) (HD : DH w h d) (HBg : Hid (∀ W, DH W h d → Calls Tryz.prog 55 #[.agg (dvC h d), .bool true] W fun e w' => e = .returned (.tuple #[.agg (rcC (DevM.rc d)), .int .i64 0]) ∧ Below W.heap.size W w')) (hok : DevM.Ok d) (hu : d.up = true) (hrn : d.run ≠ (DevM.rc d).act) (ht : (DevM.rc d).trying = true) (L : CopsR) (E : Int) (hW : RecM.writeOf d.c (RecM.conf (DevM.rc d)) false = (L, E)) (hE : E ≠ 0) : Calls Tryz.prog 19 #[devV h d] w (GDv (DevM.noDev, E) w) := by
 have _hk := hok
 have _hv := hu
 clear _hk _hv
 have t1 : (d.run == (DevM.rc d).act) = false := by simpa using hrn
 have HCf : Hid (∀ W, Calls Tryz.prog 64 #[.agg (rcC (DevM.rc d))] W fun e w' => e = .returned (.tuple #[.agg (rcC (RecM.conf (DevM.rc d))), .int .i64 0]) ∧ Below W.heap.size W w') := fun W => by
   have := confR_any (DevM.rc d) W
   rw [RecM.confOf_ok hok.rec_ ht] at this
   exact this
 have HWr : Hid (∀ W, Calls Tryz.prog 63 #[.agg (cpC d.c), .agg (rcC (RecM.conf (DevM.rc d))), .bool false] W fun e w' => e = .returned (.tuple #[.agg (cpC L), .int .i64 E]) ∧ Below W.heap.size W w') := fun W => by
   have := writeR_any d.c (RecM.conf (DevM.rc d)) false W
   rw [hW] at this
   exact this
 have t2 : (E != 0) = true := by simp [hE]
 clear hok hu hrn ht hW hE
 have HDh := LH HD
 clear HD
 unfold devV
 obtain ⟨P1, hP1⟩ : ∃ P, w.heap.size = P := ⟨_, rfl⟩
 have HS := LH (((((MS.start w).alloc (p := P1) (by simp [hP1]) (dvC h d) 37)).alloc (p := (P1 + 1)) (by simp [hP1]) zDev 37))
 go_enter Tryz.func19, Tryz.ntmps19
 go_upto_region 1 with fail
 refine wp_gen HS.out (fun V0 HS1 => ?_)
 replace HS := LH HS1
 clear HS1 hP1
 replace HS := LH (MH.of HS.out)
 have bP1 := HS.out.get 1 rfl
 simp only at bP1
 go_wp2_with (first
   | (refine wpList_load_row rfl 37 (.tmp 1) rfl P1 rfl 37 (dvC h d) (0, 0) _ bP1 Tryz.underlying37 rfl (sDv h d) ?_))
 clear bP1
 refine (HBg.out _ (HDh.out.later HS.out.below)).mono ?_
 rintro e W1 ⟨rfl, hb⟩
 replace HS := LH (HS.out.later hb)
 clear hb
 obtain ⟨P3, hP3⟩ : ∃ P, W1.heap.size = P := ⟨_, rfl⟩
 replace HS := LH (HS.out.alloc hP3 (rcC (DevM.rc d)) 28)
 go_upto_region 2 with (refine wSN rfl 28 (.tmp 4) (.tmp 10) rfl P3 (rcC (DevM.rc d)) rfl rfl 28 _ hP3.symm (sRc (DevM.rc d)) (lRc (DevM.rc d)) (oRc (DevM.rc d)) ?_)
 refine gnH HS.out (fun V1 HS1 => ?_)
 replace HS := LH HS1
 clear HS1 hP3
 have cP1_27 := cAt (k := 27) (v := .int .i64 d.run) (HS.out.get 2 rfl) rfl
 simp only at cP1_27
 have cP3_1 := cAt (k := 1) (v := .int .i64 (DevM.rc d).act) (HS.out.get 0 rfl) rfl
 simp only at cP3_1
 have bP3 := HS.out.get 0 rfl
 simp only at bP3
 go_wp2_with (first
   | (refine wpList_load_row rfl 28 (.tmp 4) rfl P3 rfl 28 (rcC (DevM.rc d)) (0, 0) _ bP3 Tryz.underlying28 rfl (sRc (DevM.rc d)) ?_))
 clear cP1_27 cP3_1 bP3
 refine (HCf.out _).mono ?_
 rintro e W2 ⟨rfl, hb⟩
 replace HS := LH (HS.out.later hb)
 clear hb
 have HS2 := LH (HS.out.set 0 rfl (rcC (RecM.conf (DevM.rc d))))
 have bP3 := HS.out.get 0 rfl
 simp only at bP3
 go_upto_region 7 with (first
   | (refine wpList_store_row rfl 28 (.tmp 4) (.tmp 25) rfl P3 (rcC (RecM.conf (DevM.rc d))) rfl rfl 28 _ bP3 (sRc (RecM.conf (DevM.rc d))) (like_rr (DevM.rc d) (RecM.conf (DevM.rc d))) (oRc (RecM.conf (DevM.rc d))) ?_))
 clear bP3
 refine gnH HS2.out (fun V2 HS1 => ?_)
 replace HS := LH HS1
 clear HS1 HS2
 have bP1 := HS.out.get 2 rfl
 simp only at bP1
 have bP3 := HS.out.get 0 rfl
 simp only at bP3
 go_wp2_with (first
   | (refine wLP rfl 31 (.tmp 32) rfl P1 2 rfl (dvC h d) 37 (0, 0) bP1 (cpC d.c) (part_cops h d) _ Tryz.underlying31 rfl (sCp d.c) ?_)
   | (refine wpList_load_row rfl 28 (.tmp 4) rfl P3 rfl 28 (rcC (RecM.conf (DevM.rc d))) (0, 0) _ bP3 Tryz.underlying28 rfl (sRc (RecM.conf (DevM.rc d))) ?_))
 clear bP1 bP3
 refine (HWr.out _).mono ?_
 rintro e W3 ⟨rfl, hb⟩
 replace HS := LH (HS.out.later hb)
 clear hb
 obtain ⟨P6, hP6⟩ : ∃ P, W3.heap.size = P := ⟨_, rfl⟩
 replace HS := LH (HS.out.alloc hP6 (cpC L) 31)
 go_upto_region 10 with (refine wSN rfl 31 (.tmp 6) (.tmp 36) rfl P6 (cpC L) rfl rfl 31 _ hP6.symm (sCp L) (like_copsL L) (one_cops L) ?_)
 refine gnH HS.out (fun V3 HS1 => ?_)
 replace HS := LH HS1
 clear HS1 hP6
 have bP1p1 := HS.out.get 2 rfl
 simp only at bP1p1
 have HG := LH (HS.out.set 2 rfl zDev)
 go_wp2_with (first
   | (refine wpList_store_row rfl 37 (.tmp 2) (.tmp 40) rfl (P1 + 1) zDev rfl rfl 37 _ bP1p1 size_zdev like_zz one_zdev ?_))
 clear bP1p1
 refine bodyPost_ret (v := .tuple #[.agg zDev, .int .i64 E]) ?_ rfl ?_
 · exact res_ct (fn := Tryz.f19) (p := 2) (a := 3) rfl rfl rfl (HG.out.get 2 rfl) Tryz.underlying37 rfl size_zdev
 · exact GDv.bad HG.out.below
theorem confirmD_fine (h : DevH) (d : DevR) (w : World) (HD : DH w h d) (HBg : Hid (∀ W, DH W h d → Calls Tryz.prog 55 #[.agg (dvC h d), .bool true] W fun e w' => e = .returned (.tuple #[.agg (rcC (DevM.rc d)), .int .i64 0]) ∧ Below W.heap.size W w')) (hok : DevM.Ok d) (hu : d.up = true) (hrn : d.run ≠ (DevM.rc d).act) (ht : (DevM.rc d).trying = true) (L : CopsR) (E : Int) (hW : RecM.writeOf d.c (RecM.conf (DevM.rc d)) false = (L, E)) (hE : E = 0) (hL : RecM.copies L = 0) : Calls Tryz.prog 19 #[devV h d] w (GDv ({ d with c := L }, 0) w) := by
 have _hk := hok
 have _hv := hu
 clear _hk _hv
 have t1 : (d.run == (DevM.rc d).act) = false := by simpa using hrn
 have HCf : Hid (∀ W, Calls Tryz.prog 64 #[.agg (rcC (DevM.rc d))] W fun e w' => e = .returned (.tuple #[.agg (rcC (RecM.conf (DevM.rc d))), .int .i64 0]) ∧ Below W.heap.size W w') := fun W => by
   have := confR_any (DevM.rc d) W
   rw [RecM.confOf_ok hok.rec_ ht] at this
   exact this
 have HWr : Hid (∀ W, Calls Tryz.prog 63 #[.agg (cpC d.c), .agg (rcC (RecM.conf (DevM.rc d))), .bool false] W fun e w' => e = .returned (.tuple #[.agg (cpC L), .int .i64 E]) ∧ Below W.heap.size W w') := fun W => by
   have := writeR_any d.c (RecM.conf (DevM.rc d)) false W
   rw [hW] at this
   exact this
 have HLW := LH (cops_w hL)
 have HCy := LH (fun W (x : DH W h d) => copiedD_new h d W x (DevM.few_of hok))
 unfold devV at HCy
 subst hE
 clear hok hu hrn ht hW hL
 have HDh := LH HD
 clear HD
 unfold devV
 obtain ⟨P1, hP1⟩ : ∃ P, w.heap.size = P := ⟨_, rfl⟩
 have HS := LH (((((MS.start w).alloc (p := P1) (by simp [hP1]) (dvC h d) 37)).alloc (p := (P1 + 1)) (by simp [hP1]) zDev 37))
 go_enter Tryz.func19, Tryz.ntmps19
 go_upto_region 1 with fail
 refine wp_gen HS.out (fun V0 HS1 => ?_)
 replace HS := LH HS1
 clear HS1 hP1
 replace HS := LH (MH.of HS.out)
 have bP1 := HS.out.get 1 rfl
 simp only at bP1
 go_wp2_with (first
   | (refine wpList_load_row rfl 37 (.tmp 1) rfl P1 rfl 37 (dvC h d) (0, 0) _ bP1 Tryz.underlying37 rfl (sDv h d) ?_))
 clear bP1
 refine (HBg.out _ (HDh.out.later HS.out.below)).mono ?_
 rintro e W1 ⟨rfl, hb⟩
 replace HS := LH (HS.out.later hb)
 clear hb
 obtain ⟨P3, hP3⟩ : ∃ P, W1.heap.size = P := ⟨_, rfl⟩
 replace HS := LH (HS.out.alloc hP3 (rcC (DevM.rc d)) 28)
 go_upto_region 2 with (refine wSN rfl 28 (.tmp 4) (.tmp 10) rfl P3 (rcC (DevM.rc d)) rfl rfl 28 _ hP3.symm (sRc (DevM.rc d)) (lRc (DevM.rc d)) (oRc (DevM.rc d)) ?_)
 refine gnH HS.out (fun V1 HS1 => ?_)
 replace HS := LH HS1
 clear HS1 hP3
 have cP1_27 := cAt (k := 27) (v := .int .i64 d.run) (HS.out.get 2 rfl) rfl
 simp only at cP1_27
 have cP3_1 := cAt (k := 1) (v := .int .i64 (DevM.rc d).act) (HS.out.get 0 rfl) rfl
 simp only at cP3_1
 have bP3 := HS.out.get 0 rfl
 simp only at bP3
 go_wp2_with (first
   | (refine wpList_load_row rfl 28 (.tmp 4) rfl P3 rfl 28 (rcC (DevM.rc d)) (0, 0) _ bP3 Tryz.underlying28 rfl (sRc (DevM.rc d)) ?_))
 clear cP1_27 cP3_1 bP3
 refine (HCf.out _).mono ?_
 rintro e W2 ⟨rfl, hb⟩
 replace HS := LH (HS.out.later hb)
 clear hb
 have HS2 := LH (HS.out.set 0 rfl (rcC (RecM.conf (DevM.rc d))))
 have bP3 := HS.out.get 0 rfl
 simp only at bP3
 go_upto_region 7 with (first
   | (refine wpList_store_row rfl 28 (.tmp 4) (.tmp 25) rfl P3 (rcC (RecM.conf (DevM.rc d))) rfl rfl 28 _ bP3 (sRc (RecM.conf (DevM.rc d))) (like_rr (DevM.rc d) (RecM.conf (DevM.rc d))) (oRc (RecM.conf (DevM.rc d))) ?_))
 clear bP3
 refine gnH HS2.out (fun V2 HS1 => ?_)
 replace HS := LH HS1
 clear HS1 HS2
 have bP1 := HS.out.get 2 rfl
 simp only at bP1
 have bP3 := HS.out.get 0 rfl
 simp only at bP3
 go_wp2_with (first
   | (refine wLP rfl 31 (.tmp 32) rfl P1 2 rfl (dvC h d) 37 (0, 0) bP1 (cpC d.c) (part_cops h d) _ Tryz.underlying31 rfl (sCp d.c) ?_)
   | (refine wpList_load_row rfl 28 (.tmp 4) rfl P3 rfl 28 (rcC (RecM.conf (DevM.rc d))) (0, 0) _ bP3 Tryz.underlying28 rfl (sRc (RecM.conf (DevM.rc d))) ?_))
 clear bP1 bP3
 refine (HWr.out _).mono ?_
 rintro e W3 ⟨rfl, hb⟩
 replace HS := LH (HS.out.later hb)
 clear hb
 obtain ⟨P6, hP6⟩ : ∃ P, W3.heap.size = P := ⟨_, rfl⟩
 replace HS := LH (HS.out.alloc hP6 (cpC L) 31)
 go_upto_region 10 with (refine wSN rfl 31 (.tmp 6) (.tmp 36) rfl P6 (cpC L) rfl rfl 31 _ hP6.symm (sCp L) (like_copsL L) (one_cops L) ?_)
 refine gnH HS.out (fun V3 HS1 => ?_)
 replace HS := LH HS1
 clear HS1 hP6
 have bP1 := HS.out.get 3 rfl
 simp only at bP1
 go_wp2_with (first
   | (refine wpList_load_row rfl 37 (.tmp 1) rfl P1 rfl 37 (dvC h d) (0, 0) _ bP1 Tryz.underlying37 rfl (sDv h d) ?_))
 clear bP1
 refine (HCy.out _ (HDh.out.later HS.out.below)).mono ?_
 rintro e W4 ⟨h', rfl, hb, hn, -, -⟩
 replace HS := LH (HS.out.gain hb hn)
 clear hb hn
 unfold devV
 have HS2 := LH (HS.out.set 3 rfl (dvC h' d))
 have bP1 := HS.out.get 3 rfl
 simp only at bP1
 go_upto_region 13 with (first
   | (refine wpList_store_row rfl 37 (.tmp 1) (.tmp 43) rfl P1 (dvC h' d) rfl rfl 37 _ bP1 (sDv h' d) (lDv h h' d d) (oDv h' d) ?_))
 clear bP1
 refine gnH HS2.out (fun V4 HS1 => ?_)
 replace HS := LH HS1
 clear HS1 HS2
 have HS2 := LH (HS.out.cells 3 rfl (put_cops h' d L))
 have bP6 := HS.out.get 0 rfl
 simp only at bP6
 go_upto_region 14 with (first
   | (refine wpList_load_row rfl 31 (.tmp 6) rfl P6 rfl 31 (cpC L) (0, 0) _ bP6 Tryz.underlying31 rfl (sCp L) ?_)
   | (refine wpList_store_mid rfl 31 (.tmp 45) (.tmp 44) rfl P1 2 (cpC L) rfl rfl (HS.out.ms.there 3 rfl (by show 26 ≤ 37; decide)) (sCp L) (one_copsA L) ?_; refine glH HS2.out (fun V5 HS1 => ?_)))
 clear bP6
 replace HS := LH HS1
 clear HS1 HS2
 have bP1 := HS.out.get 3 rfl
 simp only at bP1
 have bP1p1 := HS.out.get 2 rfl
 simp only at bP1p1
 have HG := LH (HS.out.set 2 rfl (dvC h' ({ d with c := L } : DevR)))
 go_wp2_with (first
   | (refine wpList_load_row rfl 37 (.tmp 1) rfl P1 rfl 37 (dvC h' ({ d with c := L } : DevR)) (0, 0) _ bP1 Tryz.underlying37 rfl (sDv h' ({ d with c := L } : DevR)) ?_)
   | (refine wpList_store_row rfl 37 (.tmp 2) (.tmp 46) rfl (P1 + 1) (dvC h' ({ d with c := L } : DevR)) rfl rfl 37 _ bP1p1 (sDv h' ({ d with c := L } : DevR)) (like_zdev h' ({ d with c := L } : DevR)) (oDv h' ({ d with c := L } : DevR)) ?_))
 clear bP1 bP1p1
 refine bodyPost_ret (v := .tuple #[.agg (dvC h' ({ d with c := L } : DevR)), .int .i64 0]) ?_ rfl ?_
 · exact res_ct (fn := Tryz.f19) (p := 2) (a := 3) rfl rfl rfl (HG.out.get 2 rfl) Tryz.underlying37 rfl (sDv _ _)
 · refine ⟨h', rfl, HG.out.below, fun V v1 v2 => ?_⟩
   have k1 := HG.out.newR 0 rfl V v1 v2
   simp only at k1
   exact ⟨k1.b0, k1.b1, k1.got, k1.ops, HLW.out, k1.runI, k1.jobI, k1.doneI⟩
theorem confirmD_ok (h : DevH) (d : DevR) (w : World) (HD : DH w h d) (HBg : Hid (∀ W, DH W h d → Calls Tryz.prog 55 #[.agg (dvC h d), .bool true] W fun e w' => e = .returned (.tuple #[.agg (rcC (DevM.rc d)), .int .i64 0]) ∧ Below W.heap.size W w')) (hok : DevM.Ok d) (hu : d.up = true) : Calls Tryz.prog 19 #[devV h d] w (GDv (DevM.confirm d) w) := by
 unfold DevM.confirm
 by_cases hrn : d.run = DevM.act d
 · rw [if_pos (.inl hrn)]
   exact confirmD_same h d w HD HBg hok hu hrn
 · have ht : (DevM.rc d).trying = true := by
     cases e : (DevM.rc d).trying with
     | true => rfl
     | false => exact absurd ((hok.up hu).still e) hrn
   rw [if_neg (by rintro (q | q); exact hrn q; rw [ht] at q; cases q)]
   obtain ⟨⟨L, E⟩, hW⟩ : ∃ x, RecM.writeOf d.c (RecM.conf (DevM.rc d)) false = x := ⟨_, rfl⟩
   rw [hW]
   unfold DevM.wrong
   by_cases hE : E = 0
   · rw [if_neg (fun q => q hE)]
     exact confirmD_fine h d w HD HBg hok hu hrn ht L E hW hE (by
       have := (RecM.writeOf_zero hok.cops (r := RecM.conf (DevM.rc d)) (torn := false) (by rw [hW]; exact hE)).2.1
       rwa [hW] at this)
   · rw [if_pos hE]
     exact confirmD_err h d w HD HBg hok hu hrn ht L E hW hE
theorem confirmD_any (h : DevH) (d : DevR) (w : World) (HD : DH w h d) : Calls Tryz.prog 19 #[devV h d] w (GDv (DevM.told d true (DevM.confirm d)) w) := by
 have HBg := fun W (x : DH W h d) => beginD_any checkD_ok h d true W x
 unfold devV at HBg
 rcases DevM.beg_cases d true with ⟨E, h0, hb, ht⟩ | ⟨hok, hu, hb, ht⟩
 · rw [ht]
   rw [hb] at HBg
   exact confirmD_bad h d  w HD E h0 (LH HBg)
 · rw [ht]
   rw [hb] at HBg
   exact confirmD_ok h d  w HD (LH HBg) hok hu
end Go.Proofs.YtmpmaljkmfgagacGreat
namespace Go.Proofs.YtmpmaljkmfgagacGreat
open Go.RowKit Go.Shelf
attribute [local go_sem] Oper.semAt_some
abbrev HeadV : Type := Option Addr × Nat × Nat
def HeadV.v (x : HeadV) : Value := .slice x.1 x.2.1 x.2.2
def partK (a : Option Addr) (n k : Nat) : HeadV := (a.map (·.add (k * 16)), min 16 (n - k * 16), min 16 (n - k * 16))
def partsTo (a : Option Addr) (n k : Nat) : List HeadV := (List.range k).map (partK a n)
theorem partsTo_succ (a : Option Addr) (n k : Nat) : partsTo a n (k + 1) = partsTo a n k ++ [partK a n k] := by simp [partsTo, List.range_succ]
theorem partsTo_length (a : Option Addr) (n k : Nat) : (partsTo a n k).length = k := by simp [partsTo]
theorem run_cut_lhm (a : Option Addr) (n c : Nat) (W : World) (k h : Nat) (hk : k < h) (hh : h ≤ c) : (Instr.slice 22 (.slice a n c) (some (.int .i64 (k : Int))) (some (.int .i64 (h : Int))) (some (.int .i64 (h : Int)))).run Tryz.prog W = .ok (.slice (a.map (·.add k)) (h - k) (h - k)) W := by
 have ht : Tryz.prog.underlying 22 = some (.slice (Tryz.prog.elem 22)) := by simp [Program.elem, Tryz.underlying22]
 have he : Tryz.prog.elem 22 = 5 := by simp [Program.elem, Tryz.underlying22]
 have hne : h ≠ k := by omega
 rw [run_slice_lhm W 22 _ _ _ ht .i64 .i64 .i64 _ _ _ (by omega) (by omega) (by omega) (by omega), he, size_run_u8]
 simp [Result.andThen, sliced, hne]
theorem chunk1_in (F : Fence) (n : Nat) (h7 : F.fn 129) (hro : F.round = none) (hn : 1 ≤ n) (l Bs Bn n₀ : Nat) (a : Option Addr) (len cap : Nat) (hlen : len ≤ cap) (hcap : len ≤ 1000000) (hBs : Bs < n₀) (hBn : Bn < n₀) (J Jx : List HeadV → World → Prop) (B : Nat) (hJ : AbidesFrom B J)
   (hY : ∀ pre x W, J pre W → pre.length < (len + 15) / 16 → YieldAt F (n - 1) Tryz.prog l #[HeadV.v x] W fun e W' =>
     (e = .returned (.bool true) ∧ J (pre ++ [x]) W' ∧ Below n₀ W W') ∨ (e = .returned (.bool false) ∧ Jx (pre ++ [x]) W'))
   (W : World) (hcs : W.cell? ⟨Bs, 0, none⟩ = some (.slice a len cap)) (hcn : W.cell? ⟨Bn, 0, none⟩ = some (.int .i64 16)) (h0 : J [] W) :
   CallsIn F n Tryz.prog 129 #[.func (.yield l) #[] #[], .pointer (some ⟨Bs, 0, none⟩), .pointer (some ⟨Bn, 0, none⟩)] W fun e W' => (∃ v, e = .returned v) ∧
     ((∃ ys, ys = partsTo a len ((len + 15) / 16) ∧ J ys W') ∨ (∃ pre, (∃ k, k ≤ (len + 15) / 16 ∧ pre = partsTo a len k) ∧ Jx pre W')) := by
 refine callsIn_of_wp Tryz.func129 rfl h7 ?_ hro
 simp only [Tryz.ntmps129, List.size_toArray, List.length_cons, List.length_nil, Nat.reduceAdd, Nat.reduceSub, Array.replicate_succ, Array.replicate_zero, List.push_toArray, List.append_toArray, List.nil_append, List.cons_append]
 gi_wp2
 gi_loopw [4] (fun i wr => ∃ k : Nat, k ≤ (len + 15) / 16 ∧ i = .int .i64 ((k * 16 : Nat) : Int) ∧ J (partsTo a len k) wr ∧ Below n₀ W wr)
   (fun i _ => len + 16 - (intOf i).toNat)
 case atStart => exact ⟨0, Nat.zero_le _, rfl, h0, Below.refl _ _⟩
 case round =>
   obtain ⟨k, hk, rfl, hJs, hnx⟩ := hrel
   have qs := (hnx.cell (p := ⟨Bs, 0, none⟩) hBs).trans hcs
   have qn := (hnx.cell (p := ⟨Bn, 0, none⟩) hBn).trans hcn
   obtain ⟨I, hI⟩ : ∃ I : Nat, k * 16 = I := ⟨_, rfl⟩
   rw [hI]
   by_cases hlt : I < len
   · have hJd := hJ _ wr wr.drew none hJs ⟨rfl, rfl, rfl, Nat.le_refl _, fun _ _ _ => rfl⟩ (fun r e => by cases e)
     have hnd : Below n₀ W wr.drew := hnx.drew
     obtain ⟨fn, tmps, assign, body, hy, hR⟩ := hY _ (partK a len k) wr.drew hJd (by rw [partsTo_length]; omega)
     obtain ⟨M, hM⟩ : ∃ M : Nat, len - I = M := ⟨_, rfl⟩
     obtain ⟨E, hE⟩ : ∃ E : Nat, (if (M : Int) < 16 then (M : Int) else 16) = E := ⟨min 16 M, by split <;> omega⟩
     have hE2 : min 16 (len - I) = E := by rw [hM]; split at hE <;> omega
     have hE6 : min (16 : Int) (M : Int) = E := by split at hE <;> omega
     obtain ⟨H, hH⟩ : ∃ H : Nat, (I : Int) + (E : Int) = H := ⟨I + E, by omega⟩
     have hE3 : 0 < E := by omega
     have hHc : H ≤ cap := by omega
     have hHI : H - I = E := by omega
     have hcut1 : ∀ W, (Instr.slice 22 (.slice a len cap) (some (.int .i64 (I : Int))) none none).run Tryz.prog W = .ok (.slice (cutA a cap I) M (cap - I)) W := fun W => by rw [run_cut_l a len cap W I (by omega), hM]
     have hcut2 : ∀ W, (Instr.slice 22 (.slice a len cap) (some (.int .i64 (I : Int))) (some (.int .i64 (H : Int))) (some (.int .i64 (H : Int)))).run Tryz.prog W = .ok (.slice (a.map (·.add I)) E E) W := fun W => by rw [run_cut_lhm a len cap W I H (by omega) hHc, hHI]
     have hpk : (partK a len k).v = .slice (a.map (·.add I)) E E := by unfold partK HeadV.v; simp only; rw [hI, hE2]
     rw [hpk] at hy
     generalize cutA a cap I = A1 at hcut1
     generalize a.map (·.add I) = A2 at hcut2 hpk hy
     gi_wp2
     gi_region
     all_goals
       clear hJs hnx
       gi_wp2
       refine hR.mono ?_
       rintro e W3 (⟨rfl, hJ3, hk3⟩ | ⟨rfl, hJx3⟩)
       · have qn3 := (hk3.cell (p := ⟨Bn, 0, none⟩) hBn).trans ((hnd.cell (p := ⟨Bn, 0, none⟩) hBn).trans hcn)
         gi_wp2
         go_roundw
         case rel => exact ⟨k + 1, by omega, by rw [← hI]; congr 1; omega, by rw [partsTo_succ]; exact hJ3, hnd.trans hk3⟩
         case measure => simp [intOf]; omega
       · gi_wp2
         refine bodyPost_ret (results_none rfl _ _ _) rfl ?_
         exact ⟨⟨_, rfl⟩, .inr ⟨_, ⟨k + 1, by omega, (partsTo_succ _ _ _).symm⟩, hJx3⟩⟩
   · obtain rfl : k = (len + 15) / 16 := by omega
     gi_wp2
     go_end0
     exact ⟨⟨_, rfl⟩, .inl ⟨_, rfl, hJs⟩⟩
end Go.Proofs.YtmpmaljkmfgagacGreat
namespace Go.Proofs.YtmpmaljkmfgagacGreat
open Go.RowKit Go.Shelf
attribute [local go_sem] Oper.semAt_some
theorem partsTo_prefix (a : Option Addr) (n : Nat) {k m : Nat} (h : k ≤ m) : partsTo a n k <+: partsTo a n m := by
 refine ⟨((List.range m).drop k).map (partK a n), ?_⟩
 unfold partsTo
 rw [← List.map_append]
 congr 1
 have := List.take_append_drop k (List.range m)
 rwa [List.take_range, show min k m = k by omega] at this
theorem chunk_stops (F : Fence) (n : Nat) (h7 : F.fn 129) (hro : F.round = none) (hn : 1 ≤ n) (Bs Bn n₀ : Nat) (a : Option Addr) (len cap : Nat) (hlen : len ≤ cap) (hcap : len ≤ 1000000) (w : World) (hBs : Bs < n₀) (hBn : Bn < n₀) (hn₀ : n₀ ≤ w.heap.size)
   (hcs : w.cell? ⟨Bs, 0, none⟩ = some (.slice a len cap)) (hcn : w.cell? ⟨Bn, 0, none⟩ = some (.int .i64 16)) :
   SeqStopsK F n Tryz.prog 129 #[.pointer (some ⟨Bs, 0, none⟩), .pointer (some ⟨Bn, 0, none⟩)] (fun x : HeadV => #[HeadV.v x]) (Below n₀) (fun ys => ys = partsTo a len ((len + 15) / 16)) (fun pre => pre <+: partsTo a len ((len + 15) / 16)) ((len + 15) / 16) w := fun l J Jx W hW hJ _ hY h0 => by
 refine (chunk1_in F n h7 hro hn l Bs Bn n₀ a len cap hlen hcap hBs hBn J Jx _ hJ hY W ((hW.cell (p := ⟨Bs, 0, none⟩) (by show Bs < _; omega)).trans hcs) ((hW.cell (p := ⟨Bn, 0, none⟩) (by show Bn < _; omega)).trans hcn) h0).mono ?_
 rintro e W' ⟨he, ⟨ys, rfl, hj⟩ | ⟨pre, ⟨k, hk, rfl⟩, hj⟩⟩
 · exact ⟨he, .inl ⟨_, rfl, hj⟩⟩
 · exact ⟨he, .inr ⟨_, partsTo_prefix a len hk, hj⟩⟩
theorem Tryz.info_bs : (Tryz.prog.info? 22).map (fun i => (i.zero, i.size, i.bytes)) = some (some (.slice none 0 0), 1, 24) := by kernel_rfl
theorem appendSeq_in (F : Fence) (n : Nat) (h3 : F.fn 128) (h5 : F.fn 129) (hro : F.round = none) (hn : 3 ≤ n) (Bs Bn : Nat) (a : Option Addr) (len cap : Nat) (hlen : len ≤ cap) (hcap : len ≤ 1000000) (w : World) (hBs : Bs < w.heap.size) (hBn : Bn < w.heap.size)
   (hcs : w.cell? ⟨Bs, 0, none⟩ = some (.slice a len cap)) (hcn : w.cell? ⟨Bn, 0, none⟩ = some (.int .i64 16)) :
   CallsIn F n Tryz.prog 128 #[.slice none 0 0, .func (.func 129) #[] #[.pointer (some ⟨Bs, 0, none⟩), .pointer (some ⟨Bn, 0, none⟩)]] w fun e W' => ∃ v, e = .returned v ∧ W'.ownsRow w.heap.size 22 1 v ((len + 15) / 16) ((partsTo a len ((len + 15) / 16)).map HeadV.v) ∧ Below w.heap.size w W' := by
 have h1 : 1 ≤ n := by omega
 obtain ⟨i0, hi, hz0, hz1, hz2⟩ := info_parts Tryz.info_bs
 refine callsIn_of_wp_marks Tryz.func128 rfl h3 ?_ hro
 simp only [Tryz.ntmps128, List.size_toArray, List.length_cons, List.length_nil, Nat.reduceAdd, Nat.reduceSub, Array.replicate_succ, Array.replicate_zero, List.push_toArray, List.append_toArray, List.nil_append, List.cons_append]
 gi_wp2
 have bO := Boxed.new w 80 (.slice none 0 0)
 have hB0 : Below w.heap.size w (w.alloc (.cells #[.slice none 0 0] 80)) := (Below.refl _ w).alloc (Nat.le_refl _) _
 refine wpIn_rangeFunc_ownG hro h1 (gf := 129) (lb := #[.pointer (some ⟨Bs, 0, none⟩), .pointer (some ⟨Bn, 0, none⟩)]) rfl h5 (enters_of Tryz.func129 (by kernel_rfl) rfl)
   (chunk_stops F (n - 1) h5 hro (by omega) Bs Bn w.heap.size a len cap hlen hcap _ hBs hBn hB0.size ((hB0.cell (p := ⟨Bs, 0, none⟩) hBs).trans hcs) ((hB0.cell (p := ⟨Bn, 0, none⟩) hBn).trans hcn)) belowK_t (belowK_b (by simp)) (Below.refl _ _) (fun _ => rfl)
   (fun pre W => (∃ v, Boxed W w.heap.size 80 v ∧ W.ownsRow w.heap.size 22 1 v pre.length (pre.map HeadV.v) ∧ True) ∧ Below w.heap.size w W)
   (fun _ _ _ => False)
   (OwnFrom.and (Own.from (holdsRow_own w.heap.size w.heap.size 80 22 1 (fun pre : List HeadV => pre.length) (fun pre => pre.map HeadV.v) (fun _ _ => True)) _) (ownFrom_below (Nat.le_refl _) (by simp)))
   (fun _ _ _ _ _ hs _ _ => hs)
   ⟨⟨_, bO, World.ownsRow_nil _ _ _ _, trivial⟩, hB0⟩
   (fun x => { tmps := #[.slice none 0 0, .func (.func 129) #[] #[.pointer (some ⟨Bs, 0, none⟩), .pointer (some ⟨Bn, 0, none⟩)], .pointer (some ⟨w.heap.size, 0, none⟩), undef, .slice none 0 0, .slice x.1 x.2.1 x.2.2, .func (.func 129) #[] #[.pointer (some ⟨Bs, 0, none⟩), .pointer (some ⟨Bn, 0, none⟩)], .slice x.1 x.2.1 x.2.2, undef, undef, undef, undef, undef], defers := [] }) ?assign ?body ?done ?stop
 case assign =>
   intro l x W K hK
   gi_wp2
   exact hK
 case body =>
   rintro l pre ⟨xa, xn, xc⟩ W ⟨⟨v, hv, hrow, -⟩, hB⟩ hlt
   simp only
   have hc := hv.cell
   gi_wp2_with (gi_at_builtin; refine wpListIn_append_own _ rfl _ _ 80 rfl w.heap.size 22 i0 (.slice none 0 0) 1 24 Tryz.underlying80 hi hz0 hz1 hz2 rfl (by decide) _ _ _ rfl (hrow.alloc _) ⟨W.heap.size, 0, none⟩ 1 1 [.slice xa xn xc] rfl rfl (cell_one_new _ _ _) (by simp [Value.oneCell']) (by unfold maxLen; omega) (by omega) (by have := hB.size; simp; omega) ?_; intro v' w1 hown' hgrow _; obtain ⟨g', cap', rfl⟩ := ownsRow_succ hown'; obtain ⟨hv1, hv2, hr2, hk2, hb2⟩ := hv.appended (by decide) hrow hB.size (Nat.le_refl _) hown' hgrow; have hc1 := hv1.cell; have hf1 := hv1.frozen)
   exact ⟨hk2.from _, hb2, ⟨_, hv2, by simpa [HeadV.v] using hr2, trivial⟩, hB.trans hb2⟩
 case done =>
   rintro D ys W hD rfl ⟨⟨v, hv, hrow, -⟩, hB⟩ hK
   have hc := hv.cell
   gi_wp2
   refine ⟨by simp, .inl ⟨_, _, rfl, run_takeDeferred hK, ?_⟩⟩
   rw [partsTo_length] at hrow
   exact ⟨_, results_tmp rfl _ _ _, v, rfl, ownsRow_putObj hrow _ hK rfl, hB.trans (belowK_b (w := w) (Nat.le_refl _) W D _ _ (by simp at hD; omega) hK rfl rfl)⟩
 case stop =>
   rintro D c pre W _ _ h _
   exact h.elim
theorem appendSeq_any (Bs Bn : Nat) (a : Option Addr) (len cap : Nat) (hlen : len ≤ cap) (hcap : len ≤ 1000000) (w : World) (hBs : Bs < w.heap.size) (hBn : Bn < w.heap.size)
   (hcs : w.cell? ⟨Bs, 0, none⟩ = some (.slice a len cap)) (hcn : w.cell? ⟨Bn, 0, none⟩ = some (.int .i64 16)) :
   Calls Tryz.prog 128 #[.slice none 0 0, .func (.func 129) #[] #[.pointer (some ⟨Bs, 0, none⟩), .pointer (some ⟨Bn, 0, none⟩)]] w fun e W' => ∃ v, e = .returned v ∧ W'.ownsRow w.heap.size 22 1 v ((len + 15) / 16) ((partsTo a len ((len + 15) / 16)).map HeadV.v) ∧ Below w.heap.size w W' :=
 (callsIn_wide (n := 3)).1 (appendSeq_in Fence.wide 3 trivial trivial rfl (by omega) Bs Bn a len cap hlen hcap w hBs hBn hcs hcn)
end Go.Proofs.YtmpmaljkmfgagacGreat
namespace Go.Proofs.YtmpmaljkmfgagacGreat
open Go.RowKit
def PutRel (l : List Int) (w : World) (out i : Value) (wr : World) : Prop :=
 ∃ (k : Nat) (a : Option Addr) (c : Nat), i = .int .i64 k ∧ k ≤ 8 ∧ out = .slice a k c ∧ wr.ownsRow w.heap.size 5 1 (.slice a k c) k ((l.take k).map (Value.int .u8)) ∧ Below w.heap.size w wr
def EncRel (hd : List Int) (ops : List OpR) (w : World) (out i : Value) (wr : World) : Prop :=
 ∃ (k : Nat) (a : Option Addr) (n c : Nat) (outl : List Int), i = .int .i64 k ∧ k ≤ ops.length ∧ out = .slice a n c ∧ outl.length = n ∧ outl = hd ++ PatM.encs (ops.take k) ∧ wr.ownsRow w.heap.size 5 1 (.slice a n c) outl.length (outl.map (Value.int .u8)) ∧ Below w.heap.size w wr
theorem two_lit (W : World) (x y : Int) (hx : 0 ≤ x ∧ x ≤ 255) (hy : 0 ≤ y ∧ y ≤ 255) : BS (W.alloc (.cells #[.int .u8 x, .int .u8 y] 5)) (some ⟨W.heap.size, 0, none⟩) 2 2 [x, y] := by
 refine ⟨rfl, Nat.le_refl _, by omega, by intro v hv; simp at hv; rcases hv with rfl | rfl <;> assumption, fun _ => ⟨W.heap.size, 0, rfl, fun i hi => ?_⟩, fun h => by cases h⟩
 simp only [World.cell?, hpA, if_pos]
 match i, hi with
 | 0, _ | 1, _ => rfl
theorem patPut_any (v : Value) (p : PatR) (w : World) (hp : PV w v p) :
   Calls Tryz.prog 89 #[v] w (GivesBE (PatM.putOf p) w) := by
 have hp' := hp
 obtain ⟨ao, no, co, rfl, ho, -⟩ := hp
 obtain ⟨f, t, o, nw, s, ops⟩ := p
 simp only at ho
 have hb : Below w.heap.size w (w.alloc (.cells #[.int .i64 f, .int .i64 t, .int .i64 o, .int .i64 nw, .int .i64 s, .slice ao no co] 35)) := (Below.refl _ _).alloc (Nat.le_refl _) _
 obtain ⟨B, hBw⟩ : ∃ B, w.heap.size = B := ⟨_, rfl⟩
 have hB0 : (w.alloc (.cells #[.int .i64 f, .int .i64 t, .int .i64 o, .int .i64 nw, .int .i64 s, .slice ao no co] 35)).heap[B]? = some (.cells #[.int .i64 f, .int .i64 t, .int .i64 o, .int .i64 nw, .int .i64 s, .slice ao no co] 35 (0, 0)) := by rw [hpA, if_pos hBw.symm]
 replace hp' := hp'.later hb
 replace ho := ho.later hb
 obtain ⟨E, hE⟩ : ∃ E, PatM.check ⟨f, t, o, nw, s, ops⟩ = E := ⟨_, rfl⟩
 have HE := LH hE
 clear hE
 go_enter Tryz.func89, Tryz.ntmps89
 go_wp2_with fail
 generalize w.alloc (.cells #[.int .i64 f, .int .i64 t, .int .i64 o, .int .i64 nw, .int .i64 s, .slice ao no co] 35) = W0 at hb hB0 hp' ho ⊢
 refine (checkPat_any _ _ _ hp').mono ?_
 rintro e W1 ⟨rfl, b1⟩
 rw [HE.out]
 replace hB0 := (b1.block B (lt_blk hB0)).trans hB0
 replace ho := ho.later b1
 replace b1 := bTh hb b1
 clear hb hp' hBw W0
 by_cases h0 : E = 0
 · subst h0
   have HK : Hid (PatM.putOf ⟨f, t, o, nw, s, ops⟩ = (PatM.putL ⟨f, t, o, nw, s, ops⟩, 0)) := PatM.putOf_ok HE.out
   obtain ⟨hh, h2⟩ := PatM.check_parts HE.out
   obtain ⟨h40, -, -, s1, s2, hg, ht⟩ := DeltaM.check_zero h2
   unfold PatM.badHead at hh
   simp only at hh h40 s1 s2 hg ht
   have v1 : 1 ≤ f ∧ f ≤ 30 := by omega
   have v2 : 1 ≤ t ∧ t ≤ 30 := by omega
   have v3 : 0 ≤ o ∧ o ≤ 65535 := by omega
   have v4 : 0 ≤ nw ∧ nw ≤ 65535 := by omega
   obtain ⟨r0, r1, r2, r3, r4, r5, -⟩ := pat_cells hB0
   have hno := ho.len
   obtain ⟨hd, hhd⟩ : ∃ hd, hd = PatM.head ⟨f, t, o, nw, s, ops⟩ := ⟨_, rfl⟩
   have hb2 : Below W1.heap.size W1 (W1.alloc (.cells #[.int .i64 f, .int .i64 t, .int .i64 (o / 256), .int .i64 (o % 256), .int .i64 (nw / 256), .int .i64 (nw % 256), .int .i64 s, .int .i64 (no : Int)] 3)) := (Below.refl _ _).alloc (Nat.le_refl _) _
   obtain ⟨Br, hBr⟩ : ∃ Br, W1.heap.size = Br := ⟨_, rfl⟩
   have HI : Hid (∀ k, k < 8 → (W1.alloc (.cells #[.int .i64 f, .int .i64 t, .int .i64 (o / 256), .int .i64 (o % 256), .int .i64 (nw / 256), .int .i64 (nw % 256), .int .i64 s, .int .i64 (no : Int)] 3)).cell? ⟨Br, k, none⟩ = some (.int .i64 (hd.getD k 0))) := by
     show ∀ k, _
     have hblk : (W1.alloc (.cells #[.int .i64 f, .int .i64 t, .int .i64 (o / 256), .int .i64 (o % 256), .int .i64 (nw / 256), .int .i64 (nw % 256), .int .i64 s, .int .i64 (no : Int)] 3)).heap[Br]? = some (.cells #[.int .i64 f, .int .i64 t, .int .i64 (o / 256), .int .i64 (o % 256), .int .i64 (nw / 256), .int .i64 (nw % 256), .int .i64 s, .int .i64 (no : Int)] 3 (0, 0)) := by rw [hpA, if_pos hBr.symm]
     intro k hk
     rw [hhd]
     simp only [World.cell?, hblk, PatM.head, hno]
     match k, hk with
     | 0, _ | 1, _ | 2, _ | 3, _ | 4, _ | 5, _ | 6, _ | 7, _ => rfl
   have HBy : Hid (∀ k, k < 8 → 0 ≤ hd.getD k 0 ∧ hd.getD k 0 ≤ 255) := by
     show ∀ k, _
     intro k hk
     rw [hhd]
     simp only [PatM.head]
     match k, hk with
     | 0, _ | 1, _ | 2, _ | 3, _ | 4, _ | 5, _ | 6, _ | 7, _ => simp; omega
   have HHd : Hid (hd.length = 8) := by show hd.length = 8; rw [hhd]; rfl
   have HPL : Hid (PatM.putL ⟨f, t, o, nw, s, ops⟩ = hd ++ PatM.encs ops) := by show _ = _; rw [hhd]; rfl
   have HO2 := LH (ho.later hb2)
   have HB2 := LH (bTh b1 hb2)
   have r5' := cell_later hb2 r5
   have HG := LH hg
   have HLn := LH hno
   have hno40 : no ≤ 40 := by rw [← hno]; exact h40
   have HLE := LH (PatM.putL_len HE.out)
   have HBD : Hid (∀ k, (hd ++ PatM.encs (ops.take k)).length ≤ 152) := by
     show ∀ k, _
     intro k
     have h1 := HLE.out
     have h2 : PatM.encs ops = PatM.encs (ops.take k) ++ PatM.encs (ops.drop k) := by rw [← PatM.encs_append, List.take_append_drop]
     rw [HPL.out, h2] at h1
     simp only [List.length_append] at h1 ⊢
     omega
   go_wp2_with fail
   generalize W1.alloc (.cells #[.int .i64 f, .int .i64 t, .int .i64 (o / 256), .int .i64 (o % 256), .int .i64 (nw / 256), .int .i64 (nw % 256), .int .i64 s, .int .i64 (no : Int)] 3) = W2 at hb2 HI HO2 HB2 r5' ⊢
   clear r0 r1 r2 r3 r4 r5 hh h2 hg ht h40 hhd ho b1 hno hB0
   clear hBr hb2
   go_loopw [5, 38] (fun out i wr => PutRel hd W2 out i wr) (fun _ i _ => 8 - (intOf i).toNat)
   case atStart => exact ⟨0, none, 0, rfl, by omega, rfl, World.ownsRow_nil _ _ _ _, Below.refl _ _⟩
   case round =>
     obtain ⟨k, a, c, rfl, hk, rfl, hown, hbw⟩ := hrel
     by_cases hlt : k < 8
     · have hcell := cell_later hbw (HI.out k hlt)
       have hv := HBy.out k hlt
       have HT : Hid ((hd.take (k + 1)).map (Value.int .u8) = (hd.take k ++ [hd.getD k 0]).map (Value.int .u8)) := by
         show _ = _
         rw [List.take_add_one, List.getD_eq_getElem?_getD, List.getElem?_eq_getElem (by rw [HHd.out]; exact hlt)]
         simp
       generalize hd.getD k 0 = x at hcell hv HT
       have hw : IntKind.u8.wrap x = x := by rw [IntKind.wrap_u8]; omega
       have hbl : Below wr.heap.size wr (wr.alloc (.cells #[.int .u8 x] 5)) := (Below.refl _ _).alloc (Nat.le_refl _) _
       obtain ⟨a5, c5, W5, hrun, hown5, hg5⟩ := app_run (own_later hown hbl) (one_lit wr x hv) (by omega) (by have := hbl.size; have := hbw.size; omega)
       have hb5 := (bTh hbw hbl).grown hg5 (bTh hbw hbl).size (fun g hg => (oL3 hown hg).1)
       have HOw := LH hown5
       have HB5 := LH hb5
       clear hown5 hg5 hbl hb5 hown
       go_wp2_with (at_builtin; refine Lib.wpList_append_run _ rfl _ _ _ _ rfl _ _ rfl rfl _ _ hrun ?_)
       go_roundw
       case rel => exact ⟨k + 1, a5, c5, by go_num, by omega, rfl, by rw [HT.out]; exact HOw.out, HB5.out⟩
       case measure => simp [intOf]; omega
     · obtain rfl : k = 8 := by omega
       have r5w := cell_later hbw r5'
       rw [List.take_of_length_le (by rw [HHd.out]; omega)] at hown
       have HOw := LH hown
       have HBw := LH hbw
       clear hown hbw
       go_wp2_with fail
       clear r5w
       go_loopw [5, 51] (fun out i wr => EncRel hd ops W2 out i wr) (fun _ i _ => no - (intOf i).toNat)
       case atStart => exact ⟨0, a, 8, c, hd, rfl, Nat.zero_le _, rfl, HHd.out, by simp [PatM.encs], by rw [HHd.out]; exact HOw.out, HBw.out⟩
       case round =>
         clear HOw HBw
         obtain ⟨k, a2, n2, c2, outl, rfl, hk, rfl, hol, hou, ho2, hbw⟩ := hrel
         rw [HLn.out] at hk
         have HOL := LH hol
         have HOU := LH hou
         have hbd := HBD.out k
         rw [← hou, hol] at hbd
         clear hol hou
         by_cases hlt : k < no
         · obtain ⟨b, off, rfl, hcs⟩ := HO2.out.cells (by omega)
           obtain ⟨va, vn, vc, q0, q1, q2, q3, -, -⟩ := hcs k hlt
           replace q0 := cell_later hbw q0
           replace q1 := cell_later hbw q1
           replace q2 := cell_later hbw q2
           have hkl : k < ops.length := by rw [HLn.out]; exact hlt
           have HT : Hid (PatM.encs (ops.take (k + 1)) = PatM.encs (ops.take k) ++ PatM.enc (ops.getD k default)) := by
             show _ = _
             rw [List.take_add_one, List.getElem?_eq_getElem hkl, PatM.encs_append]
             simp [PatM.encs, List.getD_eq_getElem?_getD, List.getElem?_eq_getElem hkl]
           have hg := HG.out (ops.getD k default) (by rw [List.getD_eq_getElem?_getD, List.getElem?_eq_getElem hkl]; exact List.getElem_mem hkl)
           generalize ops.getD k default = oo at q0 q1 q2 q3 HT hg
           obtain ⟨A, L, D⟩ := oo
           simp only at q0 q1 q2 q3
           obtain ⟨g1, g2, g3⟩ := DeltaM.good_len hg.2
           simp only at g1 g2 g3
           have hDn := q3.len
           obtain ⟨Bo, hBo⟩ : ∃ Bo, wr.heap.size = Bo := ⟨_, rfl⟩
           have hbl : Below wr.heap.size wr (wr.alloc (.cells #[.int .i64 A, .int .i64 L, .slice va vn vc] 123)) := (Below.refl _ _).alloc (Nat.le_refl _) _
           have hst : ASt W2 Bo #[.int .i64 A, .int .i64 L, .slice va vn vc] (.slice a2 n2 c2) outl (wr.alloc (.cells #[.int .i64 A, .int .i64 L, .slice va vn vc] 123)) := by
             refine ⟨by rw [hpA, if_pos hBo.symm], own_later ho2 hbl, fun e => ?_, bTh hbw hbl, by rw [← hBo]; exact hbw.size⟩
             have := (oL3 ho2 e).2
             omega
           have e1 : (wr.alloc (.cells #[.int .i64 A, .int .i64 L, .slice va vn vc] 123)).heap.size = Bo + 1 := by simp [hBo]
           by_cases hL : L = 0
           · subst hL
             obtain ⟨hform, d1, d2⟩ := PatM.form_data hg.1 rfl
             simp only at d1 d2
             rw [hDn] at d1 d2
             have HEn : Hid (PatM.enc ⟨A, 0, D⟩ = [255, (vn : Int)] ++ D) := by show _ = _; simp [PatM.enc, hDn]
             have hw : IntKind.u8.wrap (vn : Int) = vn := by rw [IntKind.wrap_u8]; omega
             have hba : Below (wr.alloc (.cells #[.int .i64 A, .int .i64 0, .slice va vn vc] 123)).heap.size (wr.alloc (.cells #[.int .i64 A, .int .i64 0, .slice va vn vc] 123)) ((wr.alloc (.cells #[.int .i64 A, .int .i64 0, .slice va vn vc] 123)).alloc (.cells #[.int .u8 255, .int .u8 (vn : Int)] 5)) := (Below.refl _ _).alloc (Nat.le_refl _) _
             have htl := two_lit (wr.alloc (.cells #[.int .i64 A, .int .i64 0, .slice va vn vc] 123)) 255 vn (by omega) (by omega)
             rw [e1] at htl
             obtain ⟨a5, c5, W5, hrun, HS5⟩ := (hst.later hba).app htl (by omega) (by rw [HOL.out]; omega)
             rw [HOL.out] at hrun HS5
             have q5 := q3.later HS5.out.below
             obtain ⟨a7, c7, W7, hrun2, HS7⟩ := HS5.out.app q5 (by omega) (by rw [List.length_append, HOL.out]; simp only [List.length_cons, List.length_nil]; omega)
             have hl5 : (outl ++ [255, (vn : Int)]).length = n2 + 2 := by rw [List.length_append, HOL.out]; rfl
             rw [hl5] at hrun2 HS7
             obtain ⟨d0, d1', d2'⟩ := cells_blk HS5.out.cb
             clear hst hba htl HS5 q5 hbl hform hg
             go_wp2_with (first | (at_builtin; refine Lib.wpList_append_run _ rfl (.tmp 58) (.tmp 63) _ _ rfl _ _ rfl rfl _ _ hrun ?_) | (at_builtin; refine Lib.wpList_append_run _ rfl (.tmp 65) (.tmp 67) _ _ rfl _ _ rfl rfl _ _ hrun2 ?_))
             go_roundw
             case rel =>
               (repeat apply Exists.intro)
               refine ⟨?_, rfl⟩
               refine ⟨k + 1, a7, n2 + 2 + vn, c7, outl ++ [255, (vn : Int)] ++ D, by go_num, by rw [HLn.out]; omega, rfl, ?_, ?_, HS7.out.own, HS7.out.below⟩
               · rw [List.length_append, hl5, hDn]
               · rw [HT.out, HEn.out, HOU.out]
                 simp
             case measure => simp [intOf]; omega
           · have hLb : (L == 0) = false := by simp [hL]
             have hw1 : IntKind.u8.wrap A = A := by rw [IntKind.wrap_u8]; omega
             have hw2 : IntKind.u8.wrap L = L := by rw [IntKind.wrap_u8]; omega
             have HEn : Hid (PatM.enc ⟨A, L, D⟩ = [A, L]) := by show _ = _; simp [PatM.enc, hL]
             have hba : Below (wr.alloc (.cells #[.int .i64 A, .int .i64 L, .slice va vn vc] 123)).heap.size (wr.alloc (.cells #[.int .i64 A, .int .i64 L, .slice va vn vc] 123)) ((wr.alloc (.cells #[.int .i64 A, .int .i64 L, .slice va vn vc] 123)).alloc (.cells #[.int .u8 A, .int .u8 L] 5)) := (Below.refl _ _).alloc (Nat.le_refl _) _
             have htl := two_lit (wr.alloc (.cells #[.int .i64 A, .int .i64 L, .slice va vn vc] 123)) A L (by omega) (by omega)
             rw [e1] at htl
             obtain ⟨a5, c5, W5, hrun, HS5⟩ := (hst.later hba).app htl (by omega) (by rw [HOL.out]; omega)
             rw [HOL.out] at hrun HS5
             clear hst hba htl hbl hg
             go_wp2_with (at_builtin; refine Lib.wpList_append_run _ rfl (.tmp 69) (.tmp 76) _ _ rfl _ _ rfl rfl _ _ hrun ?_)
             go_roundw
             case rel =>
               (repeat apply Exists.intro)
               refine ⟨?_, rfl⟩
               refine ⟨k + 1, a5, n2 + 2, c5, outl ++ [A, L], by go_num, by rw [HLn.out]; omega, rfl, ?_, ?_, HS5.out.own, HS5.out.below⟩
               · rw [List.length_append, HOL.out]; rfl
               · rw [HT.out, HEn.out, HOU.out]
                 simp
             case measure => simp [intOf]; omega
         · obtain rfl : k = no := by omega
           have HEq : Hid (outl = PatM.putL ⟨f, t, o, nw, s, ops⟩) := by
             show outl = _
             rw [HPL.out, HOU.out, List.take_of_length_le (by rw [HLn.out]; omega)]
           have HBt : Hid (∀ v ∈ outl, 0 ≤ v ∧ v ≤ 255) := by
             show ∀ v ∈ outl, _
             rw [HEq.out]
             exact PatM.putL_bytes HE.out (OS.bytes HO2.out)
           have HOw2 := LH ho2
           have HBw2 := LH (bTh HB2.out hbw)
           clear ho2 hbw
           go_wp2_with fail
           go_ret2
           refine ⟨a2, n2, c2, tup_a (by rw [HK.out]), ?_, HBw2.out⟩
           rw [HK.out]
           simp only
           rw [← HEq.out]
           have := HOw2.out
           rw [HOL.out] at this
           exact BS.of_own this HBt.out
 · have hnb : (E != 0) = true := by simp [h0]
   have HK : Hid (PatM.putOf ⟨f, t, o, nw, s, ops⟩ = ([], E)) := by
     show _ = _
     rw [PatM.putOf_bad (by rw [HE.out]; exact h0), HE.out]
   go_wp2_with fail
   go_ret2
   exact ⟨none, 0, 0, tup_a (by rw [HK.out]), by rw [HK.out]; exact BS.nil_ _, b1⟩
theorem seqChunk_any (a : Option Addr) (n c : Nat) (w : World) :
   Calls Tryz.prog 91 #[.slice a n c, .int .i64 16] w fun e w' => e = .returned (.func (.func 129) #[] #[.pointer (some ⟨w.heap.size, 0, none⟩), .pointer (some ⟨w.heap.size + 1, 0, none⟩)]) ∧ w' = (w.alloc (.cells #[.slice a n c] 22)).alloc (.cells #[.int .i64 16] 3) := by
 have hmf : ∀ (fn : Fn) (first cap : Array Value) (w : World), (Instr.makeFunc fn first cap).run Tryz.prog w = .ok (.func fn first cap) w := fun _ _ _ _ => rfl
 go_enter Tryz.func91, Tryz.ntmps91
 go_wp2_with fail
 go_ret
 exact ⟨rfl, rfl⟩
theorem collect_any (Bs Bn : Nat) (a : Option Addr) (len cap : Nat) (hlen : len ≤ cap) (hcap : len ≤ 1000000) (w : World) (hBs : Bs < w.heap.size) (hBn : Bn < w.heap.size)
   (hcs : w.cell? ⟨Bs, 0, none⟩ = some (.slice a len cap)) (hcn : w.cell? ⟨Bn, 0, none⟩ = some (.int .i64 16)) :
   Calls Tryz.prog 90 #[.func (.func 129) #[] #[.pointer (some ⟨Bs, 0, none⟩), .pointer (some ⟨Bn, 0, none⟩)]] w fun e W' => ∃ v, e = .returned v ∧ W'.ownsRow w.heap.size 22 1 v ((len + 15) / 16) ((partsTo a len ((len + 15) / 16)).map HeadV.v) ∧ Below w.heap.size w W' := by
 go_enter Tryz.func90, Tryz.ntmps90
 go_wp2_with fail
 refine (appendSeq_any Bs Bn a len cap hlen hcap _ hBs hBn hcs hcn).mono ?_
 rintro e W' ⟨v, rfl, ho, hb⟩
 have HO := LH ho
 clear ho
 go_wp2_with fail
 go_ret
 exact ⟨v, rfl, HO.out, hb⟩
theorem lt_blkO {W : World} {g : Nat} {o : Obj} (h : W.heap[g]? = some o) : g < W.heap.size := by
 rcases Nat.lt_or_ge g W.heap.size with hlt | hge
 · exact hlt
 · rw [Array.getElem?_eq_none hge] at h; cases h
theorem BS.part {w : World} {a : Option Addr} {n c : Nat} {l : List Int} (h : BS w a n c l) {k : Nat} (hk : k * 16 < n) : BS w (a.map (·.add (k * 16))) (min 16 (n - k * 16)) (min 16 (n - k * 16)) ((l.drop (k * 16)).take 16) := by
 have h1 := h.len
 have h2 := h.le
 have h3 := h.max
 obtain ⟨b, off, rfl, hc⟩ := h.cells (by omega)
 refine ⟨by simp; omega, Nat.le_refl _, by omega, fun x hx => h.bytes x (List.mem_of_mem_drop (List.mem_of_mem_take hx)), fun hp => ?_, fun he => by cases he⟩
 refine ⟨b, off + k * 16, by rw [Option.map_some, addr_add], fun i hi => ?_⟩
 rw [Nat.add_assoc, hc (k * 16 + i) (by omega), List.getElem?_take_of_lt (by omega), List.getElem?_drop]
def ChunksRel (w1 : World) (fr tv : Int) (o : List Int) (out i : Value) (wr : World) : Prop :=
 ∃ k : Nat, i = .int .i64 k ∧ k ≤ ChunkM.parts o ∧ ChSt w1 w1.heap.size out ((ChunkM.cutL fr tv o).take k) wr ∧ Below w1.heap.size w1 wr
theorem two_new (w : World) (v1 v2 : Value) (t1 t2 : Nat) : ((w.alloc (.cells #[v1] t1)).alloc (.cells #[v2] t2)).cell? ⟨w.heap.size, 0, none⟩ = some v1 ∧ ((w.alloc (.cells #[v1] t1)).alloc (.cells #[v2] t2)).cell? ⟨w.heap.size + 1, 0, none⟩ = some v2 := by
 have e1 : (w.alloc (.cells #[v1] t1)).heap.size = w.heap.size + 1 := by simp
 refine ⟨?_, ?_⟩
 · simp only [World.cell?, hpA]
   rw [if_neg (by rw [e1]; omega), if_pos trivial]
   rfl
 · simp only [World.cell?, hpA]
   rw [if_pos e1.symm]
   rfl
theorem chunksR_any (v : Value) (p : PatR) (w : World) (hv : PV w v p) :
   Calls Tryz.prog 48 #[v] w (GivesCs p w) := by
 obtain ⟨ap, np, cp, rfl, hop, i1, i2, i3, i4, i5⟩ := hv
 obtain ⟨f, t, od, nw, sz, ops⟩ := p
 simp only at hop i1 i2 i3 i4 i5 ⊢
 have hb0 : Below w.heap.size w (w.alloc (.cells #[.int .i64 f, .int .i64 t, .int .i64 od, .int .i64 nw, .int .i64 sz, .slice ap np cp] 35)) := (Below.refl _ _).alloc (Nat.le_refl _) _
 obtain ⟨B, hBB⟩ : ∃ B, w.heap.size = B := ⟨_, rfl⟩
 have hblk : (w.alloc (.cells #[.int .i64 f, .int .i64 t, .int .i64 od, .int .i64 nw, .int .i64 sz, .slice ap np cp] 35)).heap[B]? = some (.cells #[.int .i64 f, .int .i64 t, .int .i64 od, .int .i64 nw, .int .i64 sz, .slice ap np cp] 35 (0, 0)) := by rw [hpA, if_pos hBB.symm]
 have HPV : Hid (PV (w.alloc (.cells #[.int .i64 f, .int .i64 t, .int .i64 od, .int .i64 nw, .int .i64 sz, .slice ap np cp] 35)) (.agg #[.int .i64 f, .int .i64 t, .int .i64 od, .int .i64 nw, .int .i64 sz, .slice ap np cp]) ⟨f, t, od, nw, sz, ops⟩) := ⟨ap, np, cp, rfl, hop.later hb0, i1, i2, i3, i4, i5⟩
 have HB0 := LH hb0
 have HBLK := LH hblk
 have HI : Hid (I64 f ∧ I64 t) := ⟨i1, i2⟩
 clear hop i1 i2 i3 i4 i5 hb0 hblk
 go_enter Tryz.func48, Tryz.ntmps48
 go_wp2_with fail
 refine (patPut_any _ _ _ HPV.out).mono ?_
 rintro e W1 ⟨a1, n1, c1, rfl, s1, b1⟩
 by_cases hc : PatM.check ⟨f, t, od, nw, sz, ops⟩ = 0
 · rw [PatM.putOf_ok hc] at s1 ⊢
   simp only at s1 ⊢
   have hpl := PatM.putL_len hc
   have hs1l := s1.len
   have HB1 := LH (bTh HB0.out b1)
   have HBLK1 := LH ((b1.block B (lt_blkO HBLK.out)).trans HBLK.out)
   have HC := LH hc
   clear b1 HB0 HBLK HPV hc
   go_wp2_with fail
   refine (packed_any a1 n1 c1 _ _ s1 (by omega)).mono ?_
   rintro e W2 ⟨o, a2, n2, c2, hpk, rfl, s2, b2⟩
   have hol := ChunkM.packed_len HC.out hpk
   have hop := ChunkM.packed_parts HC.out hpk
   have hs2l := s2.len
   have HB2 := LH (bTh HB1.out b2)
   have HBLK2 := LH ((b2.block B (lt_blkO HBLK1.out)).trans HBLK1.out)
   have HPK := LH hpk
   have HS2 := LH s2
   have hle2 := s2.le
   clear s1 b2 HB1 HBLK1 hpk s2 hpl hs1l
   go_wp2_with fail
   refine (seqChunk_any a2 n2 c2 _).mono ?_
   rintro e W3 ⟨rfl, hW3⟩
   have hb3 : Below W2.heap.size W2 W3 := by rw [hW3]; exact ((Below.refl _ _).alloc (Nat.le_refl _) _).alloc (by simp) _
   have hk1 : W3.cell? ⟨W2.heap.size, 0, none⟩ = some (.slice a2 n2 c2) := by rw [hW3]; exact (two_new W2 _ _ _ _).1
   have hk2 : W3.cell? ⟨W2.heap.size + 1, 0, none⟩ = some (.int .i64 16) := by rw [hW3]; exact (two_new W2 _ _ _ _).2
   have hsz : W3.heap.size = W2.heap.size + 2 := by rw [hW3]; simp
   have HCol := LH (collect_any W2.heap.size (W2.heap.size + 1) a2 n2 c2 hle2 (by omega) W3 (by omega) (by omega) hk1 hk2)
   have HB3 := LH (bTh HB2.out hb3)
   have HBLK3 := LH ((hb3.block B (lt_blkO HBLK2.out)).trans HBLK2.out)
   have HS3 := LH hb3
   clear hk1 hk2 hsz hW3 hb3 HB2 HBLK2
   go_wp2_with fail
   refine HCol.out.mono ?_
   rintro e W4 ⟨vr, rfl, ho4, b4⟩
   have hK : (n2 + 15) / 16 = ChunkM.parts o := by unfold ChunkM.parts; rw [hs2l]
   rw [hK] at ho4
   obtain ⟨K, hKK⟩ : ∃ K, ChunkM.parts o = K := ⟨_, rfl⟩
   have HKK := LH hKK
   rw [hKK] at ho4 hop
   obtain ⟨ar, cr, hvr⟩ : ∃ ar cr, vr = .slice ar K cr := by
     rcases ho4.2 with ⟨q1, q2⟩ | ⟨g, cap, cur, q1, _⟩
     · exact ⟨none, 0, by rw [q1, q2]⟩
     · exact ⟨_, _, q1⟩
   subst hvr
   have HB4 := LH (bTh HB3.out b4)
   have HO4 := LH ho4
   obtain ⟨k0, k1, -⟩ := pat_cells ((b4.block B (lt_blkO HBLK3.out)).trans HBLK3.out)
   have HPC : Hid (∀ W, Below W4.heap.size W4 W → W.cell? ⟨B, 0, none⟩ = some (.int .i64 f) ∧ W.cell? ⟨B, 1, none⟩ = some (.int .i64 t)) := fun W h => ⟨cell_later h k0, cell_later h k1⟩
   have HS4 := LH ((HS2.out.later HS3.out).later b4)
   clear ho4 b4 HB3 HBLK3 HCol HS2 HS3 k0 k1
   go_wp2_with fail
   go_loopw [7, 27] (fun out i wr => ChunksRel W4 f t o out i wr) (fun _ i _ => K - (intOf i).toNat)
   case atStart => exact ⟨0, rfl, Nat.zero_le _, by rw [List.take_zero]; exact ChSt.start _ _ _, Below.refl _ _⟩
   case round =>
     obtain ⟨k, rfl, hk, hch, hB⟩ := hrel
     rw [HKK.out] at hk
     have HCH := LH hch
     have HB := LH hB
     clear hch hB
     by_cases hlt : k < K
     · obtain ⟨g, cap, hv, -, hgl⟩ := HO4.out.form (by omega)
       simp only [Value.slice.injEq, true_and] at hv
       obtain ⟨rfl, rfl⟩ := hv
       have e0 := HO4.out.cellAt k (by omega)
       have hpk : ((partsTo a2 n2 K).map HeadV.v)[k]? = some (.slice (a2.map (·.add (k * 16))) (min 16 (n2 - k * 16)) (min 16 (n2 - k * 16))) := by
         unfold partsTo
         rw [List.map_map, List.getElem?_map, List.getElem?_range hlt]
         rfl
       rw [hpk] at e0
       have e1 := cell_later HB.out e0
       have hk16 : k * 16 < n2 := by have := HKK.out; unfold ChunkM.parts at this; omega
       have hbs := HS4.out.part hk16
       obtain ⟨E, hE⟩ : ∃ E, min 16 (n2 - k * 16) = E := ⟨_, rfl⟩
       rw [hE] at e1 hbs
       generalize a2.map (·.add (k * 16)) = A2 at e1 hbs
       obtain ⟨k0, k1⟩ := HPC.out _ HB.out
       have hln : ((ChunkM.cutL f t o).take k).length = k := by rw [List.length_take, ChunkM.cutL_length, HKK.out]; omega
       have hnth : ChunkM.nth f t o k = ⟨f, t, k, K, (o.drop (k * 16)).take 16⟩ := by unfold ChunkM.nth; rw [HKK.out]
       obtain ⟨g5, cap5, W5, hrun, HS5, -⟩ := HCH.out.app (ChunkM.nth f t o k) (a := A2) (n := E) (c := E) (by rw [hnth]; exact hbs) (by rw [hnth]; exact ⟨HI.out.1, HI.out.2, by unfold I64; simp only; omega, by unfold I64; simp only; omega⟩) (by omega) HB.out.size HB.out rfl
       rw [hnth] at hrun
       simp only at hrun
       rw [hln] at hrun HS5
       have HT : Hid ((ChunkM.cutL f t o).take (k + 1) = (ChunkM.cutL f t o).take k ++ [ChunkM.nth f t o k]) := by
         show _ = _
         rw [List.take_add_one]
         congr 1
         have hkl : k < (ChunkM.cutL f t o).length := by rw [ChunkM.cutL_length, HKK.out]; exact hlt
         have := ChunkM.cutL_get f t o (k := k) (by rw [HKK.out]; exact hlt)
         rw [List.getD_eq_getElem?_getD, List.getElem?_eq_getElem hkl, Option.getD_some] at this
         rw [List.getElem?_eq_getElem hkl, this]
         rfl
       clear e0 hpk hbs hnth hln
       go_wp2_with (at_builtin; refine Lib.wpList_append_run _ rfl _ _ _ _ rfl _ _ rfl rfl _ _ hrun ?_)
       go_roundw
       case rel => exact ⟨k + 1, by go_num, by rw [HKK.out]; omega, by rw [HT.out]; exact HS5.out.1, HS5.out.2⟩
       case measure => simp [intOf]; omega
     · have hkK : k = K := by omega
       subst hkK
       have hch := HCH.out
       rw [List.take_of_length_le (by rw [ChunkM.cutL_length, HKK.out]; exact Nat.le_refl _)] at hch
       obtain ⟨a9, c9, h9⟩ := hch.form
       subst h9
       have HCS := LH (hch.cs rfl HB.out)
       have HR : Hid (ChunkM.CutIs ⟨f, t, od, nw, sz, ops⟩ (ChunkM.cutL f t o) 0) := .inr ⟨HC.out, o, HPK.out, rfl, rfl⟩
       have hb9 := bTh HB4.out HB.out
       clear hch HCH
       go_wp2_with fail
       go_ret2
       exact ⟨_, 0, a9, _, c9, HR.out, rfl, HCS.out, hb9⟩
 · rw [PatM.putOf_bad hc] at s1 ⊢
   obtain ⟨E, hE⟩ : ∃ E, PatM.check ⟨f, t, od, nw, sz, ops⟩ = E := ⟨_, rfl⟩
   simp only [hE] at hc ⊢
   have t0 : (E != 0) = true := by simp [hc]
   have hb2 := bTh HB0.out b1
   have HR : Hid (ChunkM.CutIs ⟨f, t, od, nw, sz, ops⟩ [] E) := .inl ⟨by rw [hE]; exact hc, rfl, hE.symm⟩
   clear s1 hE
   go_wp2_with fail
   go_ret2
   exact ⟨[], E, none, 0, 0, HR.out, rfl, CS.nil_ _, hb2⟩
theorem put_dev (h : DevH) (d : DevR) (h' : DevH) (d' : DevR) : putAt (dvC h d) 0 (dvC h' d').toList = dvC h' d' := by kernel_rfl
def InsCut (w : World) (P1 : Nat) (h0 : DevH) (s3 s4 : Value) (W : World) : Prop :=
 ∃ P3 ap np cp lo hi lo' hi', s3 = .pointer (some ⟨P3, 0, none⟩) ∧ s4 = .int .i64 0 ∧ MH w [(P3, jbC ap np cp patL, 35), (P1, dvC h0 Inst.d0, 37)] [(lo', hi', fun V => OS V ap np cp patL.ops), (lo, hi, fun V => DH V h0 Inst.d0)] W
def InsCut6 (w : World) (P1 P3 : Nat) (C3 : Array Value) (s2 : Value) (W : World) : Prop :=
 ∃ h1 lo hi, s2 = .int .i64 0 ∧ MH w [(P3, C3, 35), (P1, dvC h1 Inst.d1, 37)] [(lo, hi, fun V => DH V h1 Inst.d1)] W
theorem installed_any (w : World) (hM : MaxCell w) : Calls Tryz.prog 9 #[] w fun e w' => e = .returned (.bool true) ∧ Below w.heap.size w w' := by
 have HCs : Hid (∀ ap np cp W, OS W ap np cp patL.ops → Calls Tryz.prog 48 #[.agg (jbC ap np cp patL)] W fun e W' => ∃ al cl, e = .returned (.tuple #[.slice al 1 cl, .int .i64 0]) ∧ CS W' al 1 cl [Inst.chL] ∧ Below W.heap.size W W') := fun ap np cp W ho => by
   refine (chunksR_any (.agg (jbC ap np cp patL)) patL W ⟨ap, np, cp, rfl, ho, by unfold I64; decide, by unfold I64; decide, by unfold I64; decide, by unfold I64; decide, by unfold I64; decide⟩).mono ?_
   rintro e W' ⟨cs, err, a, n, c, hc, rfl, hs, hb⟩
   obtain ⟨rfl, rfl⟩ := Inst.cut_patL hc
   obtain rfl : n = 1 := hs.len.symm
   exact ⟨a, c, rfl, hs, hb⟩
 have HHe : Hid (∀ h xa xm xc W, DH W h Inst.d0 → BS W xa xm xc Inst.packL → Calls Tryz.prog 15 #[.agg (dvC h Inst.d0), .agg #[.int .i64 1, .int .i64 2, .int .i64 0, .int .i64 1, .slice xa xm xc]] W (GDv (Inst.d1, 0) W)) := fun h xa xm xc W hd hx => by
   have := hearD_any h Inst.d0 Inst.chL xa xm xc W hd ⟨xa, xm, xc, rfl, hx, by unfold I64; decide, by unfold I64; decide, by unfold I64; decide, by unfold I64; decide⟩
   rw [Inst.st1] at this
   exact this
 have HOp : Hid (∀ h W, DH W h Inst.d1 → Calls Tryz.prog 16 #[.agg (dvC h Inst.d1)] W (GDv (Inst.d2, 0) W)) := fun h W hd => by
   have := openD_any h Inst.d1 W hd
   rw [Inst.st2] at this
   exact this
 have HW1 : Hid (∀ h W, DH W h Inst.d2 → Calls Tryz.prog 17 #[.agg (dvC h Inst.d2), .bool false, .int .i64 0] W (GDv (Inst.d3, 0) W)) := fun h W hd => by
   have := writeD_any h Inst.d2 false 0 W hd
   rw [Inst.st3] at this
   exact this
 have HFL : Hid (∀ h W, DH W h Inst.d3 → Calls Tryz.prog 18 #[.agg (dvC h Inst.d3), .bool false] W (GDv (DevM.noDev, 5) W)) := fun h W hd => by
   have := finishD_any h Inst.d3 false W hd
   rw [Inst.stL] at this
   exact this
 have HW2 : Hid (∀ h W, DH W h Inst.d3 → Calls Tryz.prog 17 #[.agg (dvC h Inst.d3), .bool false, .int .i64 0] W (GDv (Inst.d4, 0) W)) := fun h W hd => by
   have := writeD_any h Inst.d3 false 0 W hd
   rw [Inst.st4] at this
   exact this
 have HFi : Hid (∀ h W, DH W h Inst.d4 → Calls Tryz.prog 18 #[.agg (dvC h Inst.d4), .bool false] W (GDv (Inst.d5, 0) W)) := fun h W hd => by
   have := finishD_any h Inst.d4 false W hd
   rw [Inst.st5] at this
   exact this
 have HCr : Hid (∀ h W, DH W h Inst.d5 → Calls Tryz.prog 20 #[.agg (dvC h Inst.d5)] W (GDv (Inst.d6, 0) W)) := fun h W hd => by
   have := crashD_any h Inst.d5 W hd
   rw [Inst.st6] at this
   exact this
 have HBo : Hid (∀ h W, DH W h Inst.d6 → Calls Tryz.prog 21 #[.agg (dvC h Inst.d6)] W (GDv (Inst.d7, 0) W)) := fun h W hd => by
   have := bootD_any h Inst.d6 W hd
   rw [Inst.st7] at this
   exact this
 have HCo : Hid (∀ h W, DH W h Inst.d7 → Calls Tryz.prog 19 #[.agg (dvC h Inst.d7)] W (GDv (Inst.d8, 0) W)) := fun h W hd => by
   have := confirmD_any h Inst.d7 W hd
   rw [Inst.st8] at this
   exact this
 have HIm := LH (fun W => images_any W)
 have HNw : Hid (∀ a c W, BS W a 8 c Inst.im0 → Calls Tryz.prog 7 #[.slice a 8 c] W (GDv (Inst.d0, 0) W)) := fun a c W hb => by
   have := newD_any a 8 c Inst.im0 W hb
   rwa [Inst.st0] at this
 have HMd := LH (fun a0 a1 c0 c1 W => madeL_any a0 a1 c0 c1 W)
 have HMx := LH hM
 clear hM
 have HS := LH (MH.of (MS.start w))
 go_enter Tryz.func9, Tryz.ntmps9
 go_wp2_with fail
 refine (HIm.out _).mono ?_
 rintro e W1 ⟨B, A0, A1, A2, rfl, hB, b0, b1, -, hb⟩
 replace HS := LH (HS.out.later hb)
 clear hb
 have cB := cAt (k := 0) (v := .slice A0 8 8) hB rfl
 go_wp2_with fail
 clear cB
 refine (HNw.out _ _ _ b0).mono ?_
 rintro e W2 ⟨h0, rfl, hb, hn⟩
 replace HS := LH (HS.out.gain hb hn)
 clear hb hn b0 b1 hB
 unfold devV
 try simp only
 obtain ⟨P1, hP1⟩ : ∃ P, W2.heap.size = P := ⟨_, rfl⟩
 replace HS := LH (HS.out.alloc hP1 (dvC h0 Inst.d0) 37)
 go_upto_region 2 with ((with_reducible show wpList _ _ _ _ _ _); refine wSN rfl 37 (.tmp 1) (.tmp 20) rfl P1 (dvC h0 Inst.d0) rfl rfl 37 _ ?_ ?_ ?_ ?_ ?_; exact hP1.symm; exact (sDv _ _); exact (like_zdev _ _); exact (oDv _ _))
 refine gnH HS.out (fun V1 HS1 => ?_)
 replace HS := LH HS1
 clear HS1 hP1
 go_cut [3, 4] (fun s3 s4 wx => InsCut w P1 h0 s3 s4 wx)
 case first =>
   replace HS := LH HS.out.drew
   refine wp_region_way (S := MS w [(P1, dvC h0 Inst.d0, 37)] [] []) (.fork 0 (.one 1 (.one 2 (.fork 3 (.one 4 (.one 5 (.fork 6 (.one 7 (.one 8 (.one 9 (.call 10 (.call 11 (.one 12 .done)))))) 10 (.call 6 (.one 7 (.one 8 (.one 9 (.call 11 (.one 12 .done))))))))) 10 (.call 3 (.one 4 (.one 5 (.call 6 (.one 7 (.one 8 (.one 9 (.call 11 (.one 12 .done)))))))))))) 10 (.call 0 (.one 1 (.one 2 (.call 3 (.one 4 (.one 5 (.call 6 (.one 7 (.one 8 (.one 9 (.call 11 (.one 12 .done))))))))))))) (by kernel_rfl) (by kernel_rfl) HS.out.ms ?_
   simp only [laid, Array.getD_eq_getD_getElem?, List.getElem?_toArray, List.getElem?_cons_zero, List.getElem?_cons_succ, Option.getD_some]
   refine gnY (fun V => MH w [(P1, dvC h0 Inst.d0, 37)] [(W1.heap.size, W2.heap.size, fun V => DH V h0 Inst.d0)] V) HS.out (fun V2 HS1 => ?_)
   replace HS := LH HS1
   clear HS1
   refine way_fork ?_ ?_
   · refine yCa (by rfl) (fun K hK => ?_)
     go_simp
     go_at_call 46
     with_reducible refine (HIm.out _).mono ?_
     rintro e W101 ⟨B0, A00, A10, A20, rfl, hB, b0, b1, hlo, hb⟩
     replace HS := LH (HS.out.block hb hB hlo)
     clear hb hB hlo
     have X0 := LH b0
     clear b0 b1
     try go_wp2_with fail
     refine hK.out _ _ (MS w [(B0, #[.slice A00 8 8, .slice A10 9 9, .slice A20 11 11], 22), (P1, dvC h0 Inst.d0, 37)] [] []) (fun _ h => h.sub (by repeat (first | exact List.Sublist.refl _ | apply List.Sublist.cons_cons | apply List.Sublist.cons))) (HS.out.ms.sub (by repeat (first | exact List.Sublist.refl _ | apply List.Sublist.cons_cons | apply List.Sublist.cons))) ?_
     clear hK K
     try simp only [Act.put, sA, sB, sC]
     refine ySt ?_ (by rfl) (fun W9 hW9 => ?_) ?_
     rotate_left
     · (go_simp <;> with_reducible rfl)
     simp only [Act.put, sA, sB, sC]
     refine ySt ?_ (by rfl) (fun W9 hW9 => ?_) ?_
     rotate_left
     · have cB := cAt (k := 0) (v := .slice A00 8 8) (hW9.get 0 rfl) rfl
       try simp only at cB
       (go_simp <;> with_reducible rfl)
     simp only [Act.put, sA, sB, sC]
     refine way_fork ?_ ?_
     · refine yCa (by rfl) (fun K hK => ?_)
       go_simp
       go_at_call 46
       with_reducible refine (HIm.out _).mono ?_
       rintro e W102 ⟨B1, A01, A11, A21, rfl, hB, b0, b1, hlo, hb⟩
       replace HS := LH (HS.out.block hb hB hlo)
       replace X0 := LH (X0.out.later hb)
       clear hb hB hlo
       have X1 := LH b1
       clear b0 b1
       try go_wp2_with fail
       refine hK.out _ _ (MS w [(B1, #[.slice A01 8 8, .slice A11 9 9, .slice A21 11 11], 22), (B0, #[.slice A00 8 8, .slice A10 9 9, .slice A20 11 11], 22), (P1, dvC h0 Inst.d0, 37)] [] []) (fun _ h => h.sub (by repeat (first | exact List.Sublist.refl _ | apply List.Sublist.cons_cons | apply List.Sublist.cons))) (HS.out.ms.sub (by repeat (first | exact List.Sublist.refl _ | apply List.Sublist.cons_cons | apply List.Sublist.cons))) ?_
       clear hK K
       try simp only [Act.put, sA, sB, sC]
       refine ySt ?_ (by rfl) (fun W9 hW9 => ?_) ?_
       rotate_left
       · (go_simp <;> with_reducible rfl)
       simp only [Act.put, sA, sB, sC]
       refine ySt ?_ (by rfl) (fun W9 hW9 => ?_) ?_
       rotate_left
       · have cB := cAt (k := 1) (v := .slice A11 9 9) (hW9.get 0 rfl) rfl
         try simp only at cB
         (go_simp <;> with_reducible rfl)
       simp only [Act.put, sA, sB, sC]
       refine way_fork ?_ ?_
       · refine yCa (by rfl) (fun K hK => ?_)
         go_simp
         go_at_call 47
         with_reducible refine (HMd.out _ _ _ _ _ X0.out X1.out (HMx.out.later HS.out.below)).mono ?_
         rintro e W103 ⟨ap, np, cp, rfl, hb, hn⟩
         replace HS := LH (HS.out.gain hb hn)
         clear hb hn X0 X1
         try go_wp2_with fail
         refine hK.out _ _ (MS w [(B1, #[.slice A01 8 8, .slice A11 9 9, .slice A21 11 11], 22), (B0, #[.slice A00 8 8, .slice A10 9 9, .slice A20 11 11], 22), (P1, dvC h0 Inst.d0, 37)] [] []) (fun _ h => h) (HS.out.ms.sub (by repeat (first | exact List.Sublist.refl _ | apply List.Sublist.cons_cons | apply List.Sublist.cons))) ?_
         clear hK K
         try simp only [Act.put, sA, sB, sC]
         refine ySt ?_ (by rfl) (fun W9 hW9 => ?_) ?_
         rotate_left
         · (go_simp <;> with_reducible rfl)
         simp only [Act.put, sA, sB, sC]
         refine ySt ?_ (by rfl) (fun W9 hW9 => ?_) ?_
         rotate_left
         · (go_simp <;> with_reducible rfl)
         simp only [Act.put, sA, sB, sC]
         refine ySt ?_ (by rfl) (fun W9 hW9 => ?_) ?_
         rotate_left
         · (go_simp <;> with_reducible rfl)
         simp only [Act.put, sA, sB, sC]
         refine yCa (by rfl) (fun K hK => ?_)
         go_simp
         obtain ⟨P3, hP3⟩ : ∃ P, W103.heap.size = P := ⟨_, rfl⟩
         replace HS := LH (HS.out.alloc hP3 zPat 35)
         have hba : Below W103.heap.size W103 (W103.alloc (.cells zPat 35)) := (Below.refl _ _).alloc (Nat.le_refl _) _
         clear hba
         try rw [hP3]
         refine hK.out _ _ (MS w [(B1, #[.slice A01 8 8, .slice A11 9 9, .slice A21 11 11], 22), (B0, #[.slice A00 8 8, .slice A10 9 9, .slice A20 11 11], 22), (P1, dvC h0 Inst.d0, 37)] [] []) (fun _ h => h) (HS.out.ms.sub (by repeat (first | exact List.Sublist.refl _ | apply List.Sublist.cons_cons | apply List.Sublist.cons))) ?_
         clear hK K
         try simp only [Act.put, sA, sB, sC]
         refine gnY (fun V => MH w [(P3, zPat, 35), (B1, #[.slice A01 8 8, .slice A11 9 9, .slice A21 11 11], 22), (B0, #[.slice A00 8 8, .slice A10 9 9, .slice A20 11 11], 22), (P1, dvC h0 Inst.d0, 37)] [(W102.heap.size, W103.heap.size, fun V => OS V ap np cp patL.ops), (W1.heap.size, W2.heap.size, fun V => DH V h0 Inst.d0)] V) HS.out (fun V104 HS1 => ?_)
         replace HS := LH HS1
         clear HS1 hP3
         have HS2 := LH (HS.out.cells 0 rfl (put_zpat ap np cp patL))
         refine yCa (by rfl) (fun K hK => ?_)
         refine wp_store_mid 35 (.tmp 3) (.tmp 30) rfl P3 0 (jbC ap np cp patL) rfl rfl (HS.out.ms.there 0 rfl (by show 6 ≤ 6; decide)) (sJb _ _ _ _) (one_job _ _ _ _) ?_
         refine hK.out _ _ (MS w [(B1, #[.slice A01 8 8, .slice A11 9 9, .slice A21 11 11], 22), (B0, #[.slice A00 8 8, .slice A10 9 9, .slice A20 11 11], 22), (P1, dvC h0 Inst.d0, 37)] [] []) (fun _ h => h) (HS2.out.ms.sub (by repeat (first | exact List.Sublist.refl _ | apply List.Sublist.cons_cons | apply List.Sublist.cons))) ?_
         clear hK K
         try simp only [Act.put]
         refine ySt ?_ (by rfl) (fun W9 hW9 => ?_) ?_
         rotate_left
         · (go_simp <;> with_reducible rfl)
         simp only [Act.put, sA, sB, sC]
         refine way_end ?_
         go_wp2_with fail
         go_meet
         exact ⟨P3, ap, np, cp, _, _, _, _, rfl, rfl, HS2.out.subL (by repeat (first | exact List.Sublist.refl _ | apply List.Sublist.cons_cons | apply List.Sublist.cons))⟩
       · refine yCa (by rfl) (fun K hK => ?_)
         go_simp
         obtain ⟨P3, hP3⟩ : ∃ P, W102.heap.size = P := ⟨_, rfl⟩
         replace HS := LH (HS.out.alloc hP3 zPat 35)
         have hba : Below W102.heap.size W102 (W102.alloc (.cells zPat 35)) := (Below.refl _ _).alloc (Nat.le_refl _) _
         replace X0 := LH (X0.out.later hba)
         replace X1 := LH (X1.out.later hba)
         clear hba
         try rw [hP3]
         refine hK.out _ _ (MS w [(B1, #[.slice A01 8 8, .slice A11 9 9, .slice A21 11 11], 22), (B0, #[.slice A00 8 8, .slice A10 9 9, .slice A20 11 11], 22), (P1, dvC h0 Inst.d0, 37)] [] []) (fun _ h => h) (HS.out.ms.sub (by repeat (first | exact List.Sublist.refl _ | apply List.Sublist.cons_cons | apply List.Sublist.cons))) ?_
         clear hK K
         try simp only [Act.put, sA, sB, sC]
         refine gnY (fun V => MH w [(P3, zPat, 35), (B1, #[.slice A01 8 8, .slice A11 9 9, .slice A21 11 11], 22), (B0, #[.slice A00 8 8, .slice A10 9 9, .slice A20 11 11], 22), (P1, dvC h0 Inst.d0, 37)] [(W1.heap.size, W2.heap.size, fun V => DH V h0 Inst.d0)] V ∧ BS V A00 8 8 Inst.im0 ∧ BS V A11 9 9 Inst.im1) ⟨HS.out, X0.out, X1.out⟩ (fun V105 HX => ?_)
         obtain ⟨HS1, nX0, nX1⟩ := HX
         replace HS := LH HS1
         clear HS1 hP3
         replace X0 := LH nX0
         clear nX0
         replace X1 := LH nX1
         clear nX1
         refine yCa (by rfl) (fun K hK => ?_)
         go_simp
         go_at_call 47
         with_reducible refine (HMd.out _ _ _ _ _ X0.out X1.out (HMx.out.later HS.out.below)).mono ?_
         rintro e W106 ⟨ap, np, cp, rfl, hb, hn⟩
         replace HS := LH (HS.out.gain hb hn)
         clear hb hn X0 X1
         try go_wp2_with fail
         refine hK.out _ _ (MS w [(B1, #[.slice A01 8 8, .slice A11 9 9, .slice A21 11 11], 22), (B0, #[.slice A00 8 8, .slice A10 9 9, .slice A20 11 11], 22), (P1, dvC h0 Inst.d0, 37)] [] []) (fun _ h => h) (HS.out.ms.sub (by repeat (first | exact List.Sublist.refl _ | apply List.Sublist.cons_cons | apply List.Sublist.cons))) ?_
         clear hK K
         try simp only [Act.put, sA, sB, sC]
         refine ySt ?_ (by rfl) (fun W9 hW9 => ?_) ?_
         rotate_left
         · (go_simp <;> with_reducible rfl)
         simp only [Act.put, sA, sB, sC]
         refine ySt ?_ (by rfl) (fun W9 hW9 => ?_) ?_
         rotate_left
         · (go_simp <;> with_reducible rfl)
         simp only [Act.put, sA, sB, sC]
         refine ySt ?_ (by rfl) (fun W9 hW9 => ?_) ?_
         rotate_left
         · (go_simp <;> with_reducible rfl)
         simp only [Act.put, sA, sB, sC]
         have HS2 := LH (HS.out.cells 0 rfl (put_zpat ap np cp patL))
         refine yCa (by rfl) (fun K hK => ?_)
         refine wp_store_mid 35 (.tmp 3) (.tmp 30) rfl P3 0 (jbC ap np cp patL) rfl rfl (HS.out.ms.there 0 rfl (by show 6 ≤ 6; decide)) (sJb _ _ _ _) (one_job _ _ _ _) ?_
         refine hK.out _ _ (MS w [(B1, #[.slice A01 8 8, .slice A11 9 9, .slice A21 11 11], 22), (B0, #[.slice A00 8 8, .slice A10 9 9, .slice A20 11 11], 22), (P1, dvC h0 Inst.d0, 37)] [] []) (fun _ h => h) (HS2.out.ms.sub (by repeat (first | exact List.Sublist.refl _ | apply List.Sublist.cons_cons | apply List.Sublist.cons))) ?_
         clear hK K
         try simp only [Act.put]
         refine ySt ?_ (by rfl) (fun W9 hW9 => ?_) ?_
         rotate_left
         · (go_simp <;> with_reducible rfl)
         simp only [Act.put, sA, sB, sC]
         refine way_end ?_
         go_wp2_with fail
         go_meet
         exact ⟨P3, ap, np, cp, _, _, _, _, rfl, rfl, HS2.out.subL (by repeat (first | exact List.Sublist.refl _ | apply List.Sublist.cons_cons | apply List.Sublist.cons))⟩
     · refine yCa (by rfl) (fun K hK => ?_)
       go_simp
       obtain ⟨P3, hP3⟩ : ∃ P, W101.heap.size = P := ⟨_, rfl⟩
       replace HS := LH (HS.out.alloc hP3 zPat 35)
       have hba : Below W101.heap.size W101 (W101.alloc (.cells zPat 35)) := (Below.refl _ _).alloc (Nat.le_refl _) _
       replace X0 := LH (X0.out.later hba)
       clear hba
       try rw [hP3]
       refine hK.out _ _ (MS w [(B0, #[.slice A00 8 8, .slice A10 9 9, .slice A20 11 11], 22), (P1, dvC h0 Inst.d0, 37)] [] []) (fun _ h => h) (HS.out.ms.sub (by repeat (first | exact List.Sublist.refl _ | apply List.Sublist.cons_cons | apply List.Sublist.cons))) ?_
       clear hK K
       try simp only [Act.put, sA, sB, sC]
       refine gnY (fun V => MH w [(P3, zPat, 35), (B0, #[.slice A00 8 8, .slice A10 9 9, .slice A20 11 11], 22), (P1, dvC h0 Inst.d0, 37)] [(W1.heap.size, W2.heap.size, fun V => DH V h0 Inst.d0)] V ∧ BS V A00 8 8 Inst.im0) ⟨HS.out, X0.out⟩ (fun V107 HX => ?_)
       obtain ⟨HS1, nX0⟩ := HX
       replace HS := LH HS1
       clear HS1 hP3
       replace X0 := LH nX0
       clear nX0
       refine yCa (by rfl) (fun K hK => ?_)
       go_simp
       go_at_call 46
       with_reducible refine (HIm.out _).mono ?_
       rintro e W108 ⟨B1, A01, A11, A21, rfl, hB, b0, b1, hlo, hb⟩
       replace HS := LH (HS.out.block hb hB hlo)
       replace X0 := LH (X0.out.later hb)
       clear hb hB hlo
       have X1 := LH b1
       clear b0 b1
       try go_wp2_with fail
       refine hK.out _ _ (MS w [(B1, #[.slice A01 8 8, .slice A11 9 9, .slice A21 11 11], 22), (B0, #[.slice A00 8 8, .slice A10 9 9, .slice A20 11 11], 22), (P1, dvC h0 Inst.d0, 37)] [] []) (fun _ h => h.sub (by repeat (first | exact List.Sublist.refl _ | apply List.Sublist.cons_cons | apply List.Sublist.cons))) (HS.out.ms.sub (by repeat (first | exact List.Sublist.refl _ | apply List.Sublist.cons_cons | apply List.Sublist.cons))) ?_
       clear hK K
       try simp only [Act.put, sA, sB, sC]
       refine ySt ?_ (by rfl) (fun W9 hW9 => ?_) ?_
       rotate_left
       · (go_simp <;> with_reducible rfl)
       simp only [Act.put, sA, sB, sC]
       refine ySt ?_ (by rfl) (fun W9 hW9 => ?_) ?_
       rotate_left
       · have cB := cAt (k := 1) (v := .slice A11 9 9) (hW9.get 0 rfl) rfl
         try simp only at cB
         (go_simp <;> with_reducible rfl)
       simp only [Act.put, sA, sB, sC]
       refine yCa (by rfl) (fun K hK => ?_)
       go_simp
       go_at_call 47
       with_reducible refine (HMd.out _ _ _ _ _ X0.out X1.out (HMx.out.later HS.out.below)).mono ?_
       rintro e W109 ⟨ap, np, cp, rfl, hb, hn⟩
       replace HS := LH (HS.out.gain hb hn)
       clear hb hn X0 X1
       try go_wp2_with fail
       refine hK.out _ _ (MS w [(B1, #[.slice A01 8 8, .slice A11 9 9, .slice A21 11 11], 22), (B0, #[.slice A00 8 8, .slice A10 9 9, .slice A20 11 11], 22), (P1, dvC h0 Inst.d0, 37)] [] []) (fun _ h => h) (HS.out.ms.sub (by repeat (first | exact List.Sublist.refl _ | apply List.Sublist.cons_cons | apply List.Sublist.cons))) ?_
       clear hK K
       try simp only [Act.put, sA, sB, sC]
       refine ySt ?_ (by rfl) (fun W9 hW9 => ?_) ?_
       rotate_left
       · (go_simp <;> with_reducible rfl)
       simp only [Act.put, sA, sB, sC]
       refine ySt ?_ (by rfl) (fun W9 hW9 => ?_) ?_
       rotate_left
       · (go_simp <;> with_reducible rfl)
       simp only [Act.put, sA, sB, sC]
       refine ySt ?_ (by rfl) (fun W9 hW9 => ?_) ?_
       rotate_left
       · (go_simp <;> with_reducible rfl)
       simp only [Act.put, sA, sB, sC]
       have HS2 := LH (HS.out.cells 1 rfl (put_zpat ap np cp patL))
       refine yCa (by rfl) (fun K hK => ?_)
       refine wp_store_mid 35 (.tmp 3) (.tmp 30) rfl P3 0 (jbC ap np cp patL) rfl rfl (HS.out.ms.there 1 rfl (by show 6 ≤ 6; decide)) (sJb _ _ _ _) (one_job _ _ _ _) ?_
       refine hK.out _ _ (MS w [(B1, #[.slice A01 8 8, .slice A11 9 9, .slice A21 11 11], 22), (B0, #[.slice A00 8 8, .slice A10 9 9, .slice A20 11 11], 22), (P1, dvC h0 Inst.d0, 37)] [] []) (fun _ h => h) (HS2.out.ms.sub (by repeat (first | exact List.Sublist.refl _ | apply List.Sublist.cons_cons | apply List.Sublist.cons))) ?_
       clear hK K
       try simp only [Act.put]
       refine ySt ?_ (by rfl) (fun W9 hW9 => ?_) ?_
       rotate_left
       · (go_simp <;> with_reducible rfl)
       simp only [Act.put, sA, sB, sC]
       refine way_end ?_
       go_wp2_with fail
       go_meet
       exact ⟨P3, ap, np, cp, _, _, _, _, rfl, rfl, HS2.out.subL (by repeat (first | exact List.Sublist.refl _ | apply List.Sublist.cons_cons | apply List.Sublist.cons))⟩
   · refine yCa (by rfl) (fun K hK => ?_)
     go_simp
     obtain ⟨P3, hP3⟩ : ∃ P, V2.heap.size = P := ⟨_, rfl⟩
     replace HS := LH (HS.out.alloc hP3 zPat 35)
     have hba : Below V2.heap.size V2 (V2.alloc (.cells zPat 35)) := (Below.refl _ _).alloc (Nat.le_refl _) _
     clear hba
     try rw [hP3]
     refine hK.out _ _ (MS w [(P1, dvC h0 Inst.d0, 37)] [] []) (fun _ h => h) (HS.out.ms.sub (by repeat (first | exact List.Sublist.refl _ | apply List.Sublist.cons_cons | apply List.Sublist.cons))) ?_
     clear hK K
     try simp only [Act.put, sA, sB, sC]
     refine gnY (fun V => MH w [(P3, zPat, 35), (P1, dvC h0 Inst.d0, 37)] [(W1.heap.size, W2.heap.size, fun V => DH V h0 Inst.d0)] V) HS.out (fun V110 HS1 => ?_)
     replace HS := LH HS1
     clear HS1 hP3
     refine yCa (by rfl) (fun K hK => ?_)
     go_simp
     go_at_call 46
     with_reducible refine (HIm.out _).mono ?_
     rintro e W111 ⟨B0, A00, A10, A20, rfl, hB, b0, b1, hlo, hb⟩
     replace HS := LH (HS.out.block hb hB hlo)
     clear hb hB hlo
     have X0 := LH b0
     clear b0 b1
     try go_wp2_with fail
     refine hK.out _ _ (MS w [(B0, #[.slice A00 8 8, .slice A10 9 9, .slice A20 11 11], 22), (P1, dvC h0 Inst.d0, 37)] [] []) (fun _ h => h.sub (by repeat (first | exact List.Sublist.refl _ | apply List.Sublist.cons_cons | apply List.Sublist.cons))) (HS.out.ms.sub (by repeat (first | exact List.Sublist.refl _ | apply List.Sublist.cons_cons | apply List.Sublist.cons))) ?_
     clear hK K
     try simp only [Act.put, sA, sB, sC]
     refine ySt ?_ (by rfl) (fun W9 hW9 => ?_) ?_
     rotate_left
     · (go_simp <;> with_reducible rfl)
     simp only [Act.put, sA, sB, sC]
     refine ySt ?_ (by rfl) (fun W9 hW9 => ?_) ?_
     rotate_left
     · have cB := cAt (k := 0) (v := .slice A00 8 8) (hW9.get 0 rfl) rfl
       try simp only at cB
       (go_simp <;> with_reducible rfl)
     simp only [Act.put, sA, sB, sC]
     refine yCa (by rfl) (fun K hK => ?_)
     go_simp
     go_at_call 46
     with_reducible refine (HIm.out _).mono ?_
     rintro e W112 ⟨B1, A01, A11, A21, rfl, hB, b0, b1, hlo, hb⟩
     replace HS := LH (HS.out.block hb hB hlo)
     replace X0 := LH (X0.out.later hb)
     clear hb hB hlo
     have X1 := LH b1
     clear b0 b1
     try go_wp2_with fail
     refine hK.out _ _ (MS w [(B1, #[.slice A01 8 8, .slice A11 9 9, .slice A21 11 11], 22), (B0, #[.slice A00 8 8, .slice A10 9 9, .slice A20 11 11], 22), (P1, dvC h0 Inst.d0, 37)] [] []) (fun _ h => h.sub (by repeat (first | exact List.Sublist.refl _ | apply List.Sublist.cons_cons | apply List.Sublist.cons))) (HS.out.ms.sub (by repeat (first | exact List.Sublist.refl _ | apply List.Sublist.cons_cons | apply List.Sublist.cons))) ?_
     clear hK K
     try simp only [Act.put, sA, sB, sC]
     refine ySt ?_ (by rfl) (fun W9 hW9 => ?_) ?_
     rotate_left
     · (go_simp <;> with_reducible rfl)
     simp only [Act.put, sA, sB, sC]
     refine ySt ?_ (by rfl) (fun W9 hW9 => ?_) ?_
     rotate_left
     · have cB := cAt (k := 1) (v := .slice A11 9 9) (hW9.get 0 rfl) rfl
       try simp only at cB
       (go_simp <;> with_reducible rfl)
     simp only [Act.put, sA, sB, sC]
     refine yCa (by rfl) (fun K hK => ?_)
     go_simp
     go_at_call 47
     with_reducible refine (HMd.out _ _ _ _ _ X0.out X1.out (HMx.out.later HS.out.below)).mono ?_
     rintro e W113 ⟨ap, np, cp, rfl, hb, hn⟩
     replace HS := LH (HS.out.gain hb hn)
     clear hb hn X0 X1
     try go_wp2_with fail
     refine hK.out _ _ (MS w [(B1, #[.slice A01 8 8, .slice A11 9 9, .slice A21 11 11], 22), (B0, #[.slice A00 8 8, .slice A10 9 9, .slice A20 11 11], 22), (P1, dvC h0 Inst.d0, 37)] [] []) (fun _ h => h) (HS.out.ms.sub (by repeat (first | exact List.Sublist.refl _ | apply List.Sublist.cons_cons | apply List.Sublist.cons))) ?_
     clear hK K
     try simp only [Act.put, sA, sB, sC]
     refine ySt ?_ (by rfl) (fun W9 hW9 => ?_) ?_
     rotate_left
     · (go_simp <;> with_reducible rfl)
     simp only [Act.put, sA, sB, sC]
     refine ySt ?_ (by rfl) (fun W9 hW9 => ?_) ?_
     rotate_left
     · (go_simp <;> with_reducible rfl)
     simp only [Act.put, sA, sB, sC]
     refine ySt ?_ (by rfl) (fun W9 hW9 => ?_) ?_
     rotate_left
     · (go_simp <;> with_reducible rfl)
     simp only [Act.put, sA, sB, sC]
     have HS2 := LH (HS.out.cells 2 rfl (put_zpat ap np cp patL))
     refine yCa (by rfl) (fun K hK => ?_)
     refine wp_store_mid 35 (.tmp 3) (.tmp 30) rfl P3 0 (jbC ap np cp patL) rfl rfl (HS.out.ms.there 2 rfl (by show 6 ≤ 6; decide)) (sJb _ _ _ _) (one_job _ _ _ _) ?_
     refine hK.out _ _ (MS w [(B1, #[.slice A01 8 8, .slice A11 9 9, .slice A21 11 11], 22), (B0, #[.slice A00 8 8, .slice A10 9 9, .slice A20 11 11], 22), (P1, dvC h0 Inst.d0, 37)] [] []) (fun _ h => h) (HS2.out.ms.sub (by repeat (first | exact List.Sublist.refl _ | apply List.Sublist.cons_cons | apply List.Sublist.cons))) ?_
     clear hK K
     try simp only [Act.put]
     refine ySt ?_ (by rfl) (fun W9 hW9 => ?_) ?_
     rotate_left
     · (go_simp <;> with_reducible rfl)
     simp only [Act.put, sA, sB, sC]
     refine way_end ?_
     go_wp2_with fail
     go_meet
     exact ⟨P3, ap, np, cp, _, _, _, _, rfl, rfl, HS2.out.subL (by repeat (first | exact List.Sublist.refl _ | apply List.Sublist.cons_cons | apply List.Sublist.cons))⟩
 case rest =>
   obtain ⟨P3, ap, np, cp, lo, hi, lo', hi', rfl, rfl, hms⟩ := hcut
   replace HS := LH hms
   clear hms HIm HNw HMd
   have bP3 := HS.out.get 0 rfl
   simp only at bP3
   go_wp2_with (first
     | ((with_reducible show wpList _ _ _ _ _ _); refine LR rfl (t := 35) Tryz.underlying35 rfl (.tmp 3) rfl P3 rfl bP3 (sJb ap np cp patL) ?_))
   clear bP3
   refine (HCs.out ap np cp _ (HS.out.fact 0 rfl)).mono ?_
   rintro e W4 ⟨al, cl, rfl, sl, hb⟩
   replace HS := LH (HS.out.later hb)
   have HL := LH sl
   clear hb sl HCs
   go_upto_region 6 with fail
   go_cut [2] (fun s2 wx => InsCut6 w P1 P3 (jbC ap np cp patL) s2 wx)
   case first =>
     obtain ⟨b, off, rfl, hcs⟩ := (HL.out.later (Below.refl _ _).drew).cells (by omega)
     obtain ⟨va, vm, vc, q0, q1, q2, q3, q4, q5, -⟩ := hcs 0 (by omega)
     clear hcs
     simp only [Nat.zero_mul, Nat.add_zero] at q0 q1 q2 q3 q4
     replace q0 : W4.drew.cell? ⟨b, off, none⟩ = some (.int .i64 1) := q0
     replace q1 : W4.drew.cell? ⟨b, off + 1, none⟩ = some (.int .i64 2) := q1
     replace q2 : W4.drew.cell? ⟨b, off + 2, none⟩ = some (.int .i64 0) := q2
     replace q3 : W4.drew.cell? ⟨b, off + 3, none⟩ = some (.int .i64 1) := q3
     replace q5 : BS W4.drew va vm vc Inst.packL := q5
     have HD0 := LH q5
     clear q5
     refine wp_region_way (S := (fun _ => True)) (.one 1 (.one 2 (.fork 0 (.call 3 (.call 4 (.one 5 (.one 6 (.one 7 (.call 8 (.one 9 .done))))))) 3 (.call 0 (.call 4 (.one 5 (.one 6 (.one 7 (.call 8 (.one 9 .done)))))))))) (by kernel_rfl) (by kernel_rfl) trivial ?_
     simp only [laid, Array.getD_eq_getD_getElem?, List.getElem?_toArray, List.getElem?_cons_zero, List.getElem?_cons_succ, Option.getD_some]
     replace HS := LH HS.out.drew
     refine ySt ?_ (by rfl) (fun W9 hW9 => ?_) ?_
     rotate_left
     · (go_simp <;> with_reducible rfl)
     simp only [Act.put, sA, sB, sC]
     refine ySt ?_ (by rfl) (fun W9 hW9 => ?_) ?_
     rotate_left
     · (go_simp <;> with_reducible rfl)
     simp only [Act.put, sA, sB, sC]
     refine way_fork ?_ ?_
     · refine yCa (by rfl) (fun K hK => ?_)
       refine wp_load_row 37 (.tmp 1) rfl P1 rfl 37 (dvC h0 Inst.d0) (0, 0) _ (HS.out.get 1 rfl) Tryz.underlying37 rfl (sDv _ _) ?_
       refine hK.out _ _ _ (fun _ h => h) trivial ?_
       clear hK K
       try simp only [Act.put, sA, sB, sC]
       refine yCa (by rfl) (fun K hK => ?_)
       go_simp
       refine hK.out _ _ _ (fun _ h => h) trivial ?_
       clear hK K
       try simp only [Act.put, sA, sB, sC]
       refine yCa (by rfl) (fun K hK => ?_)
       go_simp
       go_at_call 15
       with_reducible refine (HHe.out h0 va vm vc _ (HS.out.fact 1 rfl) HD0.out).mono ?_
       rintro e W5 ⟨h1, rfl, hb, hn⟩
       replace HS := LH (HS.out.gain hb hn)
       clear hb hn
       unfold devV
       try go_wp2_with fail
       refine hK.out _ _ _ (fun _ h => h) trivial ?_
       clear hK K
       try simp only [Act.put, sA, sB, sC]
       refine ySt ?_ (by rfl) (fun W9 hW9 => ?_) ?_
       rotate_left
       · (go_simp <;> with_reducible rfl)
       simp only [Act.put, sA, sB, sC]
       refine ySt ?_ (by rfl) (fun W9 hW9 => ?_) ?_
       rotate_left
       · (go_simp <;> with_reducible rfl)
       simp only [Act.put, sA, sB, sC]
       refine ySt ?_ (by rfl) (fun W9 hW9 => ?_) ?_
       rotate_left
       · (go_simp <;> with_reducible rfl)
       simp only [Act.put, sA, sB, sC]
       have HS2 := LH (HS.out.cells 1 rfl (put_dev h0 Inst.d0 h1 Inst.d1))
       refine yCa (by rfl) (fun K hK => ?_)
       refine wp_store_mid 37 (.tmp 1) (.tmp 58) rfl P1 0 (dvC h1 Inst.d1) rfl rfl (HS.out.ms.there 1 rfl (by show 37 ≤ 37; decide)) (sDv _ _) (oDv _ _) ?_
       refine hK.out _ _ _ (fun _ h => h) trivial ?_
       clear hK K
       try simp only [Act.put]
       refine ySt ?_ (by rfl) (fun W9 hW9 => ?_) ?_
       rotate_left
       · (go_simp <;> with_reducible rfl)
       simp only [Act.put, sA, sB, sC]
       refine way_end ?_
       go_wp2_with fail
       go_meet
       exact ⟨h1, _, _, rfl, HS2.out.sub (fun q hq => by rw [List.mem_singleton] at hq; subst hq; exact List.mem_cons_self)⟩
     · refine yCa (by rfl) (fun K hK => ?_)
       go_simp
       refine hK.out _ _ _ (fun _ h => h) trivial ?_
       clear hK K
       try simp only [Act.put, sA, sB, sC]
       refine yCa (by rfl) (fun K hK => ?_)
       refine wp_load_row 37 (.tmp 1) rfl P1 rfl 37 (dvC h0 Inst.d0) (0, 0) _ (HS.out.get 1 rfl) Tryz.underlying37 rfl (sDv _ _) ?_
       refine hK.out _ _ _ (fun _ h => h) trivial ?_
       clear hK K
       try simp only [Act.put, sA, sB, sC]
       refine yCa (by rfl) (fun K hK => ?_)
       go_simp
       go_at_call 15
       with_reducible refine (HHe.out h0 va vm vc _ (HS.out.fact 1 rfl) HD0.out).mono ?_
       rintro e W5 ⟨h1, rfl, hb, hn⟩
       replace HS := LH (HS.out.gain hb hn)
       clear hb hn
       unfold devV
       try go_wp2_with fail
       refine hK.out _ _ _ (fun _ h => h) trivial ?_
       clear hK K
       try simp only [Act.put, sA, sB, sC]
       refine ySt ?_ (by rfl) (fun W9 hW9 => ?_) ?_
       rotate_left
       · (go_simp <;> with_reducible rfl)
       simp only [Act.put, sA, sB, sC]
       refine ySt ?_ (by rfl) (fun W9 hW9 => ?_) ?_
       rotate_left
       · (go_simp <;> with_reducible rfl)
       simp only [Act.put, sA, sB, sC]
       refine ySt ?_ (by rfl) (fun W9 hW9 => ?_) ?_
       rotate_left
       · (go_simp <;> with_reducible rfl)
       simp only [Act.put, sA, sB, sC]
       have HS2 := LH (HS.out.cells 1 rfl (put_dev h0 Inst.d0 h1 Inst.d1))
       refine yCa (by rfl) (fun K hK => ?_)
       refine wp_store_mid 37 (.tmp 1) (.tmp 58) rfl P1 0 (dvC h1 Inst.d1) rfl rfl (HS.out.ms.there 1 rfl (by show 37 ≤ 37; decide)) (sDv _ _) (oDv _ _) ?_
       refine hK.out _ _ _ (fun _ h => h) trivial ?_
       clear hK K
       try simp only [Act.put]
       refine ySt ?_ (by rfl) (fun W9 hW9 => ?_) ?_
       rotate_left
       · (go_simp <;> with_reducible rfl)
       simp only [Act.put, sA, sB, sC]
       refine way_end ?_
       go_wp2_with fail
       go_meet
       exact ⟨h1, _, _, rfl, HS2.out.sub (fun q hq => by rw [List.mem_singleton] at hq; subst hq; exact List.mem_cons_self)⟩
   case rest =>
     obtain ⟨h1, lo1, hi1, rfl, hms⟩ := hcut
     replace HS := LH hms
     clear hms HHe HL
     have bP1 := HS.out.get 1 rfl
     simp only at bP1
     go_wp2_with (first
       | ((with_reducible show wpList _ _ _ _ _ _); refine LR rfl (t := 37) Tryz.underlying37 rfl (.tmp 1) rfl P1 rfl bP1 (sDv h1 Inst.d1) ?_))
     clear bP1
     refine (HOp.out _ _ (HS.out.fact 0 rfl)).mono ?_
     rintro e X2 ⟨h2, rfl, hb, hn⟩
     unfold devV
     try simp only
     replace HS := LH (HS.out.gain hb hn)
     clear hb hn HOp
     have HS2 := LH ((HS.out.set 1 rfl (dvC h2 Inst.d2)).sub (H' := [(_, _, fun V => DH V h2 Inst.d2)]) (fun q hq => by rw [List.mem_singleton] at hq; subst hq; exact List.mem_cons_self))
     have bP1 := HS.out.get 1 rfl
     simp only at bP1
     go_upto_region 8 with (first
       | ((with_reducible show wpList _ _ _ _ _ _); refine wpList_store_row rfl 37 (.tmp 1) (.tmp 63) rfl P1 (dvC h2 Inst.d2) rfl rfl 37 (dvC h1 Inst.d1) ?_ ?_ ?_ ?_ ?_; exact bP1; exact (sDv h2 Inst.d2); exact (lDv h1 h2 Inst.d1 Inst.d2); exact (oDv h2 Inst.d2)))
     clear bP1
     refine gnH HS2.out (fun V202 HS1 => ?_)
     replace HS := LH HS1
     clear HS1 HS2
     have bP1 := HS.out.get 1 rfl
     simp only at bP1
     go_wp2_with (first
       | ((with_reducible show wpList _ _ _ _ _ _); refine LR rfl (t := 37) Tryz.underlying37 rfl (.tmp 1) rfl P1 rfl bP1 (sDv h2 Inst.d2) ?_))
     clear bP1
     refine (HW1.out _ _ (HS.out.fact 0 rfl)).mono ?_
     rintro e X3 ⟨h3, rfl, hb, hn⟩
     unfold devV
     try simp only
     replace HS := LH (HS.out.gain hb hn)
     clear hb hn HW1
     have HS2 := LH ((HS.out.set 1 rfl (dvC h3 Inst.d3)).sub (H' := [(_, _, fun V => DH V h3 Inst.d3)]) (fun q hq => by rw [List.mem_singleton] at hq; subst hq; exact List.mem_cons_self))
     have bP1 := HS.out.get 1 rfl
     simp only at bP1
     go_upto_region 9 with (first
       | ((with_reducible show wpList _ _ _ _ _ _); refine wpList_store_row rfl 37 (.tmp 1) (.tmp 68) rfl P1 (dvC h3 Inst.d3) rfl rfl 37 (dvC h2 Inst.d2) ?_ ?_ ?_ ?_ ?_; exact bP1; exact (sDv h3 Inst.d3); exact (lDv h2 h3 Inst.d2 Inst.d3); exact (oDv h3 Inst.d3)))
     clear bP1
     refine gnH HS2.out (fun V203 HS1 => ?_)
     replace HS := LH HS1
     clear HS1 HS2
     have bP1 := HS.out.get 1 rfl
     simp only at bP1
     go_wp2_with (first
       | ((with_reducible show wpList _ _ _ _ _ _); refine LR rfl (t := 37) Tryz.underlying37 rfl (.tmp 1) rfl P1 rfl bP1 (sDv h3 Inst.d3) ?_))
     clear bP1
     refine (HFL.out _ _ (HS.out.fact 0 rfl)).mono ?_
     rintro e X31 ⟨h31, rfl, hb, hn⟩
     unfold devV
     try simp only
     replace HS := LH (HS.out.later hb)
     clear hb hn HFL
     obtain ⟨P7, hP7⟩ : ∃ P, X31.heap.size = P := ⟨_, rfl⟩
     replace HS := LH (HS.out.alloc hP7 (dvC h31 DevM.noDev) 37)
     go_upto_region 10 with ((with_reducible show wpList _ _ _ _ _ _); refine wSN rfl 37 (.tmp 7) (.tmp 73) rfl P7 (dvC h31 DevM.noDev) rfl rfl 37 _ ?_ ?_ ?_ ?_ ?_; exact hP7.symm; exact (sDv _ _); exact (like_zdev _ _); exact (oDv _ _))
     refine gnH HS.out (fun V231 HS1 => ?_)
     replace HS := LH HS1
     clear HS1 hP7
     have bP1 := HS.out.get 2 rfl
     simp only at bP1
     go_wp2_with (first
       | ((with_reducible show wpList _ _ _ _ _ _); refine LR rfl (t := 37) Tryz.underlying37 rfl (.tmp 1) rfl P1 rfl bP1 (sDv h3 Inst.d3) ?_))
     clear bP1
     refine (HW2.out _ _ (HS.out.fact 0 rfl)).mono ?_
     rintro e X4 ⟨h4, rfl, hb, hn⟩
     unfold devV
     try simp only
     replace HS := LH (HS.out.gain hb hn)
     clear hb hn HW2
     have HS2 := LH ((HS.out.set 2 rfl (dvC h4 Inst.d4)).sub (H' := [(_, _, fun V => DH V h4 Inst.d4)]) (fun q hq => by rw [List.mem_singleton] at hq; subst hq; exact List.mem_cons_self))
     have bP1 := HS.out.get 2 rfl
     simp only at bP1
     go_upto_region 11 with (first
       | ((with_reducible show wpList _ _ _ _ _ _); refine wpList_store_row rfl 37 (.tmp 1) (.tmp 78) rfl P1 (dvC h4 Inst.d4) rfl rfl 37 (dvC h3 Inst.d3) ?_ ?_ ?_ ?_ ?_; exact bP1; exact (sDv h4 Inst.d4); exact (lDv h3 h4 Inst.d3 Inst.d4); exact (oDv h4 Inst.d4)))
     clear bP1
     refine gnH HS2.out (fun V204 HS1 => ?_)
     replace HS := LH HS1
     clear HS1 HS2
     have bP1 := HS.out.get 2 rfl
     simp only at bP1
     go_wp2_with (first
       | ((with_reducible show wpList _ _ _ _ _ _); refine LR rfl (t := 37) Tryz.underlying37 rfl (.tmp 1) rfl P1 rfl bP1 (sDv h4 Inst.d4) ?_))
     clear bP1
     refine (HFi.out _ _ (HS.out.fact 0 rfl)).mono ?_
     rintro e X5 ⟨h5, rfl, hb, hn⟩
     unfold devV
     try simp only
     replace HS := LH (HS.out.gain hb hn)
     clear hb hn HFi
     have HS2 := LH ((HS.out.set 2 rfl (dvC h5 Inst.d5)).sub (H' := [(_, _, fun V => DH V h5 Inst.d5)]) (fun q hq => by rw [List.mem_singleton] at hq; subst hq; exact List.mem_cons_self))
     have bP1 := HS.out.get 2 rfl
     simp only at bP1
     go_upto_region 12 with (first
       | ((with_reducible show wpList _ _ _ _ _ _); refine wpList_store_row rfl 37 (.tmp 1) (.tmp 83) rfl P1 (dvC h5 Inst.d5) rfl rfl 37 (dvC h4 Inst.d4) ?_ ?_ ?_ ?_ ?_; exact bP1; exact (sDv h5 Inst.d5); exact (lDv h4 h5 Inst.d4 Inst.d5); exact (oDv h5 Inst.d5)))
     clear bP1
     refine gnH HS2.out (fun V205 HS1 => ?_)
     replace HS := LH HS1
     clear HS1 HS2
     have bP1 := HS.out.get 2 rfl
     simp only at bP1
     go_wp2_with (first
       | ((with_reducible show wpList _ _ _ _ _ _); refine LR rfl (t := 37) Tryz.underlying37 rfl (.tmp 1) rfl P1 rfl bP1 (sDv h5 Inst.d5) ?_))
     clear bP1
     refine (HCr.out _ _ (HS.out.fact 0 rfl)).mono ?_
     rintro e X6 ⟨h6, rfl, hb, hn⟩
     unfold devV
     try simp only
     replace HS := LH (HS.out.gain hb hn)
     clear hb hn HCr
     have HS2 := LH ((HS.out.set 2 rfl (dvC h6 Inst.d6)).sub (H' := [(_, _, fun V => DH V h6 Inst.d6)]) (fun q hq => by rw [List.mem_singleton] at hq; subst hq; exact List.mem_cons_self))
     have bP1 := HS.out.get 2 rfl
     simp only at bP1
     go_upto_region 13 with (first
       | ((with_reducible show wpList _ _ _ _ _ _); refine wpList_store_row rfl 37 (.tmp 1) (.tmp 88) rfl P1 (dvC h6 Inst.d6) rfl rfl 37 (dvC h5 Inst.d5) ?_ ?_ ?_ ?_ ?_; exact bP1; exact (sDv h6 Inst.d6); exact (lDv h5 h6 Inst.d5 Inst.d6); exact (oDv h6 Inst.d6)))
     clear bP1
     refine gnH HS2.out (fun V206 HS1 => ?_)
     replace HS := LH HS1
     clear HS1 HS2
     have bP1 := HS.out.get 2 rfl
     simp only at bP1
     go_wp2_with (first
       | ((with_reducible show wpList _ _ _ _ _ _); refine LR rfl (t := 37) Tryz.underlying37 rfl (.tmp 1) rfl P1 rfl bP1 (sDv h6 Inst.d6) ?_))
     clear bP1
     refine (HBo.out _ _ (HS.out.fact 0 rfl)).mono ?_
     rintro e X7 ⟨h7, rfl, hb, hn⟩
     unfold devV
     try simp only
     replace HS := LH (HS.out.gain hb hn)
     clear hb hn HBo
     have HS2 := LH ((HS.out.set 2 rfl (dvC h7 Inst.d7)).sub (H' := [(_, _, fun V => DH V h7 Inst.d7)]) (fun q hq => by rw [List.mem_singleton] at hq; subst hq; exact List.mem_cons_self))
     have bP1 := HS.out.get 2 rfl
     simp only at bP1
     go_upto_region 14 with (first
       | ((with_reducible show wpList _ _ _ _ _ _); refine wpList_store_row rfl 37 (.tmp 1) (.tmp 93) rfl P1 (dvC h7 Inst.d7) rfl rfl 37 (dvC h6 Inst.d6) ?_ ?_ ?_ ?_ ?_; exact bP1; exact (sDv h7 Inst.d7); exact (lDv h6 h7 Inst.d6 Inst.d7); exact (oDv h7 Inst.d7)))
     clear bP1
     refine gnH HS2.out (fun V207 HS1 => ?_)
     replace HS := LH HS1
     clear HS1 HS2
     have bP1 := HS.out.get 2 rfl
     simp only at bP1
     go_wp2_with (first
       | ((with_reducible show wpList _ _ _ _ _ _); refine LR rfl (t := 37) Tryz.underlying37 rfl (.tmp 1) rfl P1 rfl bP1 (sDv h7 Inst.d7) ?_))
     clear bP1
     refine (HCo.out _ _ (HS.out.fact 0 rfl)).mono ?_
     rintro e X8 ⟨h8, rfl, hb, hn⟩
     unfold devV
     try simp only
     replace HS := LH (HS.out.gain hb hn)
     clear hb hn HCo
     obtain ⟨P13, hP13⟩ : ∃ P, X8.heap.size = P := ⟨_, rfl⟩
     replace HS := LH (HS.out.alloc hP13 (dvC h8 Inst.d8) 37)
     go_upto_region 15 with ((with_reducible show wpList _ _ _ _ _ _); refine wSN rfl 37 (.tmp 13) (.tmp 98) rfl P13 (dvC h8 Inst.d8) rfl rfl 37 _ ?_ ?_ ?_ ?_ ?_; exact hP13.symm; exact (sDv _ _); exact (like_zdev _ _); exact (oDv _ _))
     refine gnH HS.out (fun V208 HS1 => ?_)
     replace HS := LH HS1
     clear HS1 hP13
     have c27 := cAt (k := 27) (v := .int .i64 Inst.d7.run) (HS.out.get 3 rfl) rfl
     simp only at c27
     rw [Inst.run7] at c27
     have c1 := cAt (k := 1) (v := .slice h7.a1 h7.n1 h7.c1) (HS.out.get 3 rfl) rfl
     simp only at c1
     have b7 := (HS.out.fact 1 rfl).b1
     have hn7 : h7.n1 = 64 := by rw [← b7.len]; exact Inst.len7
     have hc7 := b7.le
     have hcut : ∀ W, (Instr.slice 22 (.slice h7.a1 h7.n1 h7.c1) none (some (.int .i64 (9 : Int))) none).run Tryz.prog W = .ok (.slice h7.a1 9 h7.c1) W := fun W => rCh h7.a1 h7.n1 h7.c1 W 9 (by omega)
     have hst := (b7.head 9 (by omega)).string
     rw [Inst.slot7, show strOfNums Inst.im1 = { data := #[120, 101, 102, 103, 104, 97, 98, 99, 100] } by kernel_rfl] at hst
     have HCk : Hid (∀ W, DH W h8 Inst.d8 → Calls Tryz.prog 10 #[.agg (dvC h8 Inst.d8)] W fun e w' => e = .returned (.int .i64 0) ∧ Below W.heap.size W w') := fun W hd => by
       have := ckD h8 Inst.d8 W hd
       rw [Inst.ck8] at this
       exact this
     have HSm : Hid (∀ W, DH W h8 Inst.d8 → Calls Tryz.prog 11 #[.agg (dvC h8 Inst.d8), .agg (dvC h8 Inst.d8)] W fun e w' => e = .returned (.bool true) ∧ Below W.heap.size W w') := fun W hd => by
       have := sameD_any h8 h8 Inst.d8 Inst.d8 W hd hd
       rw [decide_eq_true rfl] at this
       exact this
     clear b7 hn7 hc7
     have bP13 := HS.out.get 0 rfl
     simp only at bP13
     go_wp2_with (first
       | ((with_reducible show wpList _ _ _ _ _ _); refine wLW (by rfl) 37 (.tmp 13) rfl P13 rfl 37 (dvC h8 Inst.d8) (0, 0) _ ?_ Tryz.underlying37 rfl ?_ ?_; exact bP13; exact (sDv h8 Inst.d8)))
     clear c27 c1 hcut hst bP13
     refine (HCk.out _ (HS.out.fact 0 rfl)).mono ?_
     rintro e Y1 ⟨rfl, hb⟩
     replace HS := LH (HS.out.later hb)
     clear hb
     have bP13 := HS.out.get 0 rfl
     simp only at bP13
     go_wp2_with (first
       | ((with_reducible show wpList _ _ _ _ _ _); refine wLW (by rfl) 37 (.tmp 13) rfl P13 rfl 37 (dvC h8 Inst.d8) (0, 0) _ ?_ Tryz.underlying37 rfl ?_ ?_; exact bP13; exact (sDv h8 Inst.d8)))
     clear bP13
     refine (HSm.out _ (HS.out.fact 0 rfl)).mono ?_
     rintro e Y2 ⟨rfl, hb⟩
     replace HS := LH (HS.out.later hb)
     clear hb
     go_wp2_with fail
     go_ret
     exact ⟨rfl, HS.out.below⟩
theorem image_any (a : Option Addr) (n c : Nat) (l : List Int) (w : World) (h : BS w a n c l) :
   Calls Tryz.prog 23 #[.slice a n c] w fun e w' => e = .returned (.slice a (min n 64) c) ∧ w = w' := by
 have h1 := h.le
 have h2 := h.max
 clear h
 by_cases hn : n ≤ 64
 · have hcut : ∀ W, (Instr.slice 22 (.slice a n c) none (some (.int .i64 (n : Int))) none).run Tryz.prog W = .ok (.slice a n c) W := fun W => rCh a n c W n h1
   have e1 : min n 64 = n := by omega
   have e2 : min (n : Int) 64 = n := by omega
   rw [e1]
   go_enter Tryz.func23, Tryz.ntmps23
   go_wp2
   go_ret
   exact ⟨rfl, rfl⟩
 · have hcut : ∀ W, (Instr.slice 22 (.slice a n c) none (some (.int .i64 64)) none).run Tryz.prog W = .ok (.slice a 64 c) W := fun W => rCh a n c W 64 (by omega)
   have e1 : min n 64 = 64 := by omega
   have e2 : min (n : Int) 64 = 64 := by omega
   rw [e1]
   go_enter Tryz.func23, Tryz.ntmps23
   go_wp2
   go_ret
   exact ⟨rfl, rfl⟩
end Go.Proofs.YtmpmaljkmfgagacGreat
