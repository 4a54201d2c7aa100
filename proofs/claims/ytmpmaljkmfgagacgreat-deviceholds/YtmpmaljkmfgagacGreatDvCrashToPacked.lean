/-
  Texts put into one: DvCrash, RecStart, DvBoot, RecConf, DvConf, HoldCl, DvImgs, DvNew, SeqCh, Collect, AlikeR, Packed.
-/
import Derived.Test.YtmpmaljkmfgagacGreatHeldToStepsL
import Derived.Test.YtmpmaljkmfgagacGreatDvUpToCAdd
import Derived.Test.YtmpmaljkmfgagacGreatDifThreeToPSame
import Derived.Test.YtmpmaljkmfgagacGreatRowToDevT
import Derived.Test.YtmpmaljkmfgagacGreatDvHearToPackRes
import Derived.Test.YtmpmaljkmfgagacGreatDvOpenToDvWrite
import Derived.RangeFuncBox
import Derived.RangeFuncLeaves
import Derived.Shelf.Abstract
import Derived.WalkKit
import Derived.OwnWalkIn
import Derived.TacticsInMore
import Derived.LoopNIn
import Derived.LoopIn
import Derived.Maps.AppendAt
set_option maxRecDepth 100000
set_option maxHeartbeats 4000000
namespace Go.Proofs.YtmpmaljkmfgagacGreat
open Go.RowKit
theorem crashD_bad (h : DevH) (d : DevR) (w : World) (HD : DH w h d) (E : Int) (h0 : E ≠ 0) (HBg : Hid (∀ W, DH W h d → Calls Tryz.prog 55 #[.agg (dvC h d), .bool true] W fun e w' => e = .returned (.tuple #[.agg (rcC RecM.noRec), .int .i64 E]) ∧ Below W.heap.size W w')) : Calls Tryz.prog 20 #[devV h d] w (GDv (DevM.noDev, E) w) := by
 have t0 : (E != 0) = true := by simp [h0]
 have HDh := LH HD
 clear HD
 unfold devV
 obtain ⟨P1, hP1⟩ : ∃ P, w.heap.size = P := ⟨_, rfl⟩
 have HS := LH (((((MS.start w).alloc (p := P1) (by simp [hP1]) (dvC h d) 37)).alloc (p := (P1 + 1)) (by simp [hP1]) zDev 37))
 go_enter Tryz.func20, Tryz.ntmps20
 go_upto_region 1 with fail
 refine wp_gen HS.out (fun V0 HS1 => ?_)
 replace HS := LH HS1
 clear HS1 hP1
 replace HS := LH (MH.of HS.out)
 have bP1 := HS.out.get 1 rfl
 simp only at bP1
 go_wp2_with (first
   | (refine wpList_load_row rfl 37 (.tmp 1) rfl P1 rfl 37 (dvC h d) (0, 0) _ bP1 Tryz.underlying37 rfl (sDv h d) ?_))
 clear bP1
 refine (HBg.out _ (HDh.out.later HS.out.below)).mono ?_
 rintro e W1 ⟨rfl, hb⟩
 replace HS := LH (HS.out.later hb)
 clear hb
 obtain ⟨P3, hP3⟩ : ∃ P, W1.heap.size = P := ⟨_, rfl⟩
 replace HS := LH (HS.out.alloc hP3 (rcC RecM.noRec) 28)
 go_upto_region 2 with (refine wSN rfl 28 (.tmp 4) (.tmp 9) rfl P3 (rcC RecM.noRec) rfl rfl 28 _ hP3.symm (sRc RecM.noRec) (lRc RecM.noRec) (oRc RecM.noRec) ?_)
 refine gnH HS.out (fun V1 HS1 => ?_)
 replace HS := LH HS1
 clear HS1 hP3
 have bP1p1 := HS.out.get 1 rfl
 simp only at bP1p1
 have HG := LH (HS.out.set 1 rfl zDev)
 go_wp2_with (first
   | (refine wpList_store_row rfl 37 (.tmp 2) (.tmp 13) rfl (P1 + 1) zDev rfl rfl 37 _ bP1p1 size_zdev like_zz one_zdev ?_))
 clear bP1p1
 refine bodyPost_ret (v := .tuple #[.agg zDev, .int .i64 E]) ?_ rfl ?_
 · exact res_ct (fn := Tryz.f20) (p := 2) (a := 3) rfl rfl rfl (HG.out.get 1 rfl) Tryz.underlying37 rfl size_zdev
 · exact GDv.bad HG.out.below
theorem crashD_ok (h : DevH) (d : DevR) (w : World) (HD : DH w h d) (HBg : Hid (∀ W, DH W h d → Calls Tryz.prog 55 #[.agg (dvC h d), .bool true] W fun e w' => e = .returned (.tuple #[.agg (rcC (DevM.rc d)), .int .i64 0]) ∧ Below W.heap.size W w')) (hok : DevM.Ok d) (hu : d.up = true) : Calls Tryz.prog 20 #[devV h d] w (GDv (DevM.crash d) w) := by
 have _hk := hok
 have _hv := hu
 clear _hk _hv
 have HO := LH (fun W => offD_any h d W)
 have HCy := LH (fun W (x : DH W h d) => copiedD_new (offH h) (DevM.off d) W x.off (DevM.few_off (DevM.few_of hok)))
 unfold devV at HO HCy
 clear hok hu
 have HDh := LH HD
 clear HD
 unfold devV
 obtain ⟨P1, hP1⟩ : ∃ P, w.heap.size = P := ⟨_, rfl⟩
 have HS := LH (((((MS.start w).alloc (p := P1) (by simp [hP1]) (dvC h d) 37)).alloc (p := (P1 + 1)) (by simp [hP1]) zDev 37))
 go_enter Tryz.func20, Tryz.ntmps20
 go_upto_region 1 with fail
 refine wp_gen HS.out (fun V0 HS1 => ?_)
 replace HS := LH HS1
 clear HS1 hP1
 replace HS := LH (MH.of HS.out)
 have bP1 := HS.out.get 1 rfl
 simp only at bP1
 go_wp2_with (first
   | (refine wpList_load_row rfl 37 (.tmp 1) rfl P1 rfl 37 (dvC h d) (0, 0) _ bP1 Tryz.underlying37 rfl (sDv h d) ?_))
 clear bP1
 refine (HBg.out _ (HDh.out.later HS.out.below)).mono ?_
 rintro e W1 ⟨rfl, hb⟩
 replace HS := LH (HS.out.later hb)
 clear hb
 obtain ⟨P3, hP3⟩ : ∃ P, W1.heap.size = P := ⟨_, rfl⟩
 replace HS := LH (HS.out.alloc hP3 (rcC (DevM.rc d)) 28)
 go_upto_region 2 with (refine wSN rfl 28 (.tmp 4) (.tmp 9) rfl P3 (rcC (DevM.rc d)) rfl rfl 28 _ hP3.symm (sRc (DevM.rc d)) (lRc (DevM.rc d)) (oRc (DevM.rc d)) ?_)
 refine gnH HS.out (fun V1 HS1 => ?_)
 replace HS := LH HS1
 clear HS1 hP3
 have bP1 := HS.out.get 2 rfl
 simp only at bP1
 go_wp2_with (first
   | (refine wpList_load_row rfl 37 (.tmp 1) rfl P1 rfl 37 (dvC h d) (0, 0) _ bP1 Tryz.underlying37 rfl (sDv h d) ?_))
 clear bP1
 refine (HO.out _).mono ?_
 rintro e W2 ⟨rfl, hb⟩
 replace HS := LH (HS.out.later hb)
 clear hb
 go_wp2_with fail
 refine (HCy.out _ (HDh.out.later HS.out.below)).mono ?_
 rintro e W5 ⟨h', rfl, hb, hn, -, -⟩
 replace HS := LH (HS.out.gain hb hn)
 clear hb hn
 unfold devV
 have bP1p1 := HS.out.get 1 rfl
 simp only at bP1p1
 have HG := LH (HS.out.set 1 rfl (dvC h' (DevM.off d)))
 go_wp2_with (first
   | (refine wpList_store_row rfl 37 (.tmp 2) (.tmp 17) rfl (P1 + 1) (dvC h' (DevM.off d)) rfl rfl 37 _ bP1p1 (sDv h' (DevM.off d)) (like_zdev h' (DevM.off d)) (oDv h' (DevM.off d)) ?_))
 clear bP1p1
 refine bodyPost_ret (v := .tuple #[.agg (dvC h' (DevM.off d)), .int .i64 0]) ?_ rfl ?_
 · exact res_ct (fn := Tryz.f20) (p := 2) (a := 3) rfl rfl rfl (HG.out.get 1 rfl) Tryz.underlying37 rfl (sDv _ _)
 · exact ⟨h', rfl, HG.out.below, HG.out.newR 0 rfl⟩
theorem crashD_any (h : DevH) (d : DevR) (w : World) (HD : DH w h d) : Calls Tryz.prog 20 #[devV h d] w (GDv (DevM.told d true (DevM.crash d)) w) := by
 have HBg := fun W (x : DH W h d) => beginD_any checkD_ok h d true W x
 unfold devV at HBg
 rcases DevM.beg_cases d true with ⟨E, h0, hb, ht⟩ | ⟨hok, hu, hb, ht⟩
 · rw [ht]
   rw [hb] at HBg
   exact crashD_bad h d  w HD E h0 (LH HBg)
 · rw [ht]
   rw [hb] at HBg
   exact crashD_ok h d  w HD (LH HBg) hok hu
theorem startR_any (r : RecR) (w : World) :
   Calls Tryz.prog 65 #[recV r] w fun e w' => e = .returned (.tuple #[.int .i64 (RecM.startOf r).1, recV (RecM.startOf r).2.1, .int .i64 (RecM.startOf r).2.2]) ∧ Below w.heap.size w w' := by
 have HC := LH (fun W => checkR_any r W)
 have HST := LH (RSt1.start w r)
 have hi := sRc r
 have HS : Hid (RecM.startOf r = if RecM.check r ≠ 0 then (0, RecM.noRec, RecM.check r) else (RecM.slot r, RecM.after r, 0)) := rfl
 have HV : Hid (∀ x, recV x = .agg (rcC x)) := fun _ => rfl
 rw [HV.out] at HC
 rw [HV.out]
 have hc0 := HST.out.c0
 go_enter Tryz.func65, Tryz.ntmps65
 go_wp2_with (refine wpList_load_row rfl 28 (.tmp 1) rfl w.heap.size rfl 28 (rcC r) (0, 0) _ hc0 Tryz.underlying28 rfl hi ?_)
 refine (HC.out _).mono ?_
 rintro e W2 ⟨rfl, hb2⟩
 have HST2 := LH (HST.out.later hb2)
 clear hb2 HST hc0 HC hi
 by_cases e0 : RecM.check r = 0
 · replace HS := LH (HS.out.trans (if_neg (fun q => q e0)))
   have hn := RecM.check_nums e0
   rw [e0]
   clear e0
   obtain ⟨q0, q1, q2, q3, q4, q5, q8, qf⟩ := HST2.out.cells
   by_cases ht : r.trying = true ∧ r.tries ≠ 0
   · obtain ⟨ht1, ht2⟩ := ht
     rw [ht1] at q2
     have hgt : (0 : Int) < r.tries := by omega
     obtain ⟨T, hT⟩ : ∃ T, r.tries - 1 = T := ⟨_, rfl⟩
     have hw : IntKind.i64.wrap T = T := IntWalk.i64_in _ (by omega)
     have HAf : Hid (RecM.after r = { r with tries := T }) := by
       show _ = _
       unfold RecM.after
       rw [if_pos ⟨ht1, ht2⟩, hT]
     have HSl : Hid (RecM.slot r = 1 - r.act) := by
       show _ = _
       unfold RecM.slot
       rw [if_pos ⟨ht1, ht2⟩]
     have HST3 : Hid (RSt1 w { r with tries := T } (W2.setCell ⟨w.heap.size, 3, none⟩ (.int .i64 T))) := HST2.out.set rfl
     have HO := LH (fun W => other_any r.act W hn.2.1)
     have qf3 := qf 3
     clear qf q0 q4 q5 q8 q1
     go_wp2_with fail
     generalize W2.setCell ⟨w.heap.size, 3, none⟩ (.int .i64 T) = W3 at HST3 ⊢
     clear ht1 ht2 hgt q2 q3
     have HST4 := LH HST3.out.drew
     have q1 := HST4.out.cells.2.1
     have hc0 := HST4.out.c0
     have hc1 := HST4.out.c1
     have HG := LH HST4.out.give
     have hi := sRc { r with tries := T }
     have ha := oRc { r with tries := T }
     refine wp_region_still_tail 5 (by kernel_rfl) (by kernel_rfl) ?_
     simp only [List.take_succ_cons, List.take_zero, List.drop_succ_cons, List.drop_zero]
     change wpStill _ _ W3.drew _ _ _
     still_step
     still_step
     still_call ((HO.out _).mono fun _ _ ⟨h, e⟩ => ⟨h, e.symm⟩)
     refine wpStill_load_row rfl 28 (.tmp 1) rfl w.heap.size rfl 28 (rcC { r with tries := T }) (0, 0) _ hc0 Tryz.underlying28 rfl hi ?_
     still_step
     refine wpStill_nil ?_
     go_wp2_with (refine wpList_store_row rfl 28 (.tmp 3) (.tmp 26) rfl (w.heap.size + 1) (rcC { r with tries := T }) rfl rfl 28 _ hc1 hi rfl ha ?_)
     refine bodyPost_ret (v := .tuple #[.int .i64 (1 - r.act), .agg (rcC { r with tries := T }), .int .i64 0]) ?_ rfl ?_
     · exact res_tct (fn := Tryz.f65) (p := 3) (a := 2) (b := 4) rfl rfl rfl rfl HG.out.1 Tryz.underlying28 rfl hi
     · exact ⟨by rw [HS.out, HSl.out, HAf.out]; rfl, HG.out.2⟩
   · cases hb : r.trying
     · rw [hb] at q2
       have HST3 : Hid (RSt1 w { r with trying := false } (W2.setCell ⟨w.heap.size, 2, none⟩ (.bool false))) := HST2.out.set rfl
       have qf2 := qf 2
       have HAf : Hid (RecM.after r = { r with trying := false }) := by
         show _ = _
         unfold RecM.after
         rw [if_neg ht]
       have HSl : Hid (RecM.slot r = r.act) := by
         show _ = _
         unfold RecM.slot
         rw [if_neg ht]
       clear qf q0 q4 q5 q8 q1
       go_wp2_with fail
       generalize W2.setCell ⟨w.heap.size, 2, none⟩ (.bool false) = W3 at HST3 ⊢
       clear hb
       try clear hz
       have HST4 := LH HST3.out.drew
       have q1 := HST4.out.cells.2.1
       have hc0 := HST4.out.c0
       have hc1 := HST4.out.c1
       have HG := LH HST4.out.give
       have hi := sRc { r with trying := false }
       have ha := oRc { r with trying := false }
       refine wp_region_still_tail 4 (by kernel_rfl) (by kernel_rfl) ?_
       simp only [List.take_succ_cons, List.take_zero, List.drop_succ_cons, List.drop_zero]
       change wpStill _ _ W3.drew _ _ _
       still_step
       still_step
       refine wpStill_load_row rfl 28 (.tmp 1) rfl w.heap.size rfl 28 (rcC { r with trying := false }) (0, 0) _ hc0 Tryz.underlying28 rfl hi ?_
       still_step
       refine wpStill_nil ?_
       go_wp2_with (refine wpList_store_row rfl 28 (.tmp 3) (.tmp 30) rfl (w.heap.size + 1) (rcC { r with trying := false }) rfl rfl 28 _ hc1 hi rfl ha ?_)
       refine bodyPost_ret (v := .tuple #[.int .i64 (r.act), .agg (rcC { r with trying := false }), .int .i64 0]) ?_ rfl ?_
       · exact res_tct (fn := Tryz.f65) (p := 3) (a := 2) (b := 4) rfl rfl rfl rfl HG.out.1 Tryz.underlying28 rfl hi
       · exact ⟨by rw [HS.out, HSl.out, HAf.out]; rfl, HG.out.2⟩
     · have hz : r.tries = 0 := by
         rcases Classical.em (r.tries = 0) with q | q
         · exact q
         · exact absurd ⟨hb, q⟩ ht
       rw [hb] at q2
       rw [hz] at q3
       have HST3 : Hid (RSt1 w { r with trying := false } (W2.setCell ⟨w.heap.size, 2, none⟩ (.bool false))) := HST2.out.set rfl
       have qf2 := qf 2
       have HAf : Hid (RecM.after r = { r with trying := false }) := by
         show _ = _
         unfold RecM.after
         rw [if_neg ht]
       have HSl : Hid (RecM.slot r = r.act) := by
         show _ = _
         unfold RecM.slot
         rw [if_neg ht]
       clear qf q0 q4 q5 q8 q1
       go_wp2_with fail
       generalize W2.setCell ⟨w.heap.size, 2, none⟩ (.bool false) = W3 at HST3 ⊢
       clear hb
       try clear hz
       have HST4 := LH HST3.out.drew
       have q1 := HST4.out.cells.2.1
       have hc0 := HST4.out.c0
       have hc1 := HST4.out.c1
       have HG := LH HST4.out.give
       have hi := sRc { r with trying := false }
       have ha := oRc { r with trying := false }
       refine wp_region_still_tail 4 (by kernel_rfl) (by kernel_rfl) ?_
       simp only [List.take_succ_cons, List.take_zero, List.drop_succ_cons, List.drop_zero]
       change wpStill _ _ W3.drew _ _ _
       still_step
       still_step
       refine wpStill_load_row rfl 28 (.tmp 1) rfl w.heap.size rfl 28 (rcC { r with trying := false }) (0, 0) _ hc0 Tryz.underlying28 rfl hi ?_
       still_step
       refine wpStill_nil ?_
       go_wp2_with (refine wpList_store_row rfl 28 (.tmp 3) (.tmp 30) rfl (w.heap.size + 1) (rcC { r with trying := false }) rfl rfl 28 _ hc1 hi rfl ha ?_)
       refine bodyPost_ret (v := .tuple #[.int .i64 (r.act), .agg (rcC { r with trying := false }), .int .i64 0]) ?_ rfl ?_
       · exact res_tct (fn := Tryz.f65) (p := 3) (a := 2) (b := 4) rfl rfl rfl rfl HG.out.1 Tryz.underlying28 rfl hi
       · exact ⟨by rw [HS.out, HSl.out, HAf.out]; rfl, HG.out.2⟩
 · obtain ⟨E, hE⟩ : ∃ E, RecM.check r = E := ⟨_, rfl⟩
   replace HS := LH (HS.out.trans (if_pos e0))
   rw [hE] at e0 HS ⊢
   have t0 : (E != 0) = true := by simp [e0]
   clear hE
   have hc1 := HST2.out.c1
   have HG := LH HST2.out.nil_
   have hi2 := size_zero
   have ha := one_zero
   unfold zeroRec at hi2 ha hc1
   go_wp2_with (refine wpList_store_row rfl 28 (.tmp 3) (.tmp 10) rfl (w.heap.size + 1) #[.int .i64 0, .int .i64 0, .bool false, .int .i64 0, .int .i64 0, .int .i64 0, .int .i64 0, .int .i64 0, .int .i64 0, .int .i64 0, .int .i64 0] rfl rfl 28 _ hc1 hi2 rfl ha ?_)
   refine bodyPost_ret (v := .tuple #[.int .i64 0, .agg zeroRec, .int .i64 E]) ?_ rfl ?_
   · exact res_tct (fn := Tryz.f65) (p := 3) (a := 2) (b := 4) rfl rfl rfl rfl HG.out.1 Tryz.underlying28 rfl size_zero
   · exact ⟨by rw [HS.out]; rfl, HG.out.2⟩
theorem bootD_bad (h : DevH) (d : DevR) (w : World) (HD : DH w h d) (E : Int) (h0 : E ≠ 0) (HBg : Hid (∀ W, DH W h d → Calls Tryz.prog 55 #[.agg (dvC h d), .bool false] W fun e w' => e = .returned (.tuple #[.agg (rcC RecM.noRec), .int .i64 E]) ∧ Below W.heap.size W w')) : Calls Tryz.prog 21 #[devV h d] w (GDv (DevM.noDev, E) w) := by
 have t0 : (E != 0) = true := by simp [h0]
 have HDh := LH HD
 clear HD
 unfold devV
 obtain ⟨P1, hP1⟩ : ∃ P, w.heap.size = P := ⟨_, rfl⟩
 have HS := LH (((((MS.start w).alloc (p := P1) (by simp [hP1]) (dvC h d) 37)).alloc (p := (P1 + 1)) (by simp [hP1]) zDev 37))
 go_enter Tryz.func21, Tryz.ntmps21
 go_upto_region 1 with fail
 refine wp_gen HS.out (fun V0 HS1 => ?_)
 replace HS := LH HS1
 clear HS1 hP1
 replace HS := LH (MH.of HS.out)
 have bP1 := HS.out.get 1 rfl
 simp only at bP1
 go_wp2_with (first
   | (refine wpList_load_row rfl 37 (.tmp 1) rfl P1 rfl 37 (dvC h d) (0, 0) _ bP1 Tryz.underlying37 rfl (sDv h d) ?_))
 clear bP1
 refine (HBg.out _ (HDh.out.later HS.out.below)).mono ?_
 rintro e W1 ⟨rfl, hb⟩
 replace HS := LH (HS.out.later hb)
 clear hb
 obtain ⟨P3, hP3⟩ : ∃ P, W1.heap.size = P := ⟨_, rfl⟩
 replace HS := LH (HS.out.alloc hP3 (rcC RecM.noRec) 28)
 go_upto_region 2 with (refine wSN rfl 28 (.tmp 4) (.tmp 11) rfl P3 (rcC RecM.noRec) rfl rfl 28 _ hP3.symm (sRc RecM.noRec) (lRc RecM.noRec) (oRc RecM.noRec) ?_)
 refine gnH HS.out (fun V1 HS1 => ?_)
 replace HS := LH HS1
 clear HS1 hP3
 have bP1p1 := HS.out.get 1 rfl
 simp only at bP1p1
 have HG := LH (HS.out.set 1 rfl zDev)
 go_wp2_with (first
   | (refine wpList_store_row rfl 37 (.tmp 2) (.tmp 15) rfl (P1 + 1) zDev rfl rfl 37 _ bP1p1 size_zdev like_zz one_zdev ?_))
 clear bP1p1
 refine bodyPost_ret (v := .tuple #[.agg zDev, .int .i64 E]) ?_ rfl ?_
 · exact res_ct (fn := Tryz.f21) (p := 2) (a := 3) rfl rfl rfl (HG.out.get 1 rfl) Tryz.underlying37 rfl size_zdev
 · exact GDv.bad HG.out.below
theorem bootD_same (h : DevH) (d : DevR) (w : World) (HD : DH w h d) (HBg : Hid (∀ W, DH W h d → Calls Tryz.prog 55 #[.agg (dvC h d), .bool false] W fun e w' => e = .returned (.tuple #[.agg (rcC (DevM.rc d)), .int .i64 0]) ∧ Below W.heap.size W w')) (hok : DevM.Ok d) (hu : d.up = false) (hs : (RecM.after (DevM.rc d)) = DevM.rc d) : Calls Tryz.prog 21 #[devV h d] w (GDv ({ d with up := true, run := (RecM.slot (DevM.rc d)) }, 0) w) := by
 have _hk := hok
 have _hv := hu
 clear _hk _hv
 have HSt : Hid (∀ W, Calls Tryz.prog 65 #[.agg (rcC (DevM.rc d))] W fun e w' => e = .returned (.tuple #[.int .i64 (RecM.slot (DevM.rc d)), .agg (rcC (RecM.after (DevM.rc d))), .int .i64 0]) ∧ Below W.heap.size W w') := fun W => by
   have := startR_any (DevM.rc d) W
   rw [RecM.startOf_ok hok.rec_] at this
   exact this
 have hq : ∀ W, (binOp .neq 28 (.agg (rcC (RecM.after (DevM.rc d)))) (.agg (rcC (DevM.rc d)))).run Tryz.prog W = .ok (.bool false) W := fun W => by
   have := rec_neq (RecM.after (DevM.rc d)) (DevM.rc d) W
   rw [decide_eq_true hs] at this
   exact this
 have HSlW : Hid (I64 (RecM.slot (DevM.rc d))) := by
   show I64 _
   have h1 := (RecM.check_nums hok.rec_).2.1
   unfold RecM.slot I64
   split <;> omega
 have HCy := LH (fun W (x : DH W h d) => copiedD_new h d W x (DevM.few_of hok))
 unfold devV at HCy
 clear hok hu hs
 have HDh := LH HD
 clear HD
 unfold devV
 obtain ⟨P1, hP1⟩ : ∃ P, w.heap.size = P := ⟨_, rfl⟩
 have HS := LH (((((MS.start w).alloc (p := P1) (by simp [hP1]) (dvC h d) 37)).alloc (p := (P1 + 1)) (by simp [hP1]) zDev 37))
 go_enter Tryz.func21, Tryz.ntmps21
 go_upto_region 1 with fail
 refine wp_gen HS.out (fun V0 HS1 => ?_)
 replace HS := LH HS1
 clear HS1 hP1
 replace HS := LH (MH.of HS.out)
 have bP1 := HS.out.get 1 rfl
 simp only at bP1
 go_wp2_with (first
   | (refine wpList_load_row rfl 37 (.tmp 1) rfl P1 rfl 37 (dvC h d) (0, 0) _ bP1 Tryz.underlying37 rfl (sDv h d) ?_))
 clear bP1
 refine (HBg.out _ (HDh.out.later HS.out.below)).mono ?_
 rintro e W1 ⟨rfl, hb⟩
 replace HS := LH (HS.out.later hb)
 clear hb
 obtain ⟨P3, hP3⟩ : ∃ P, W1.heap.size = P := ⟨_, rfl⟩
 replace HS := LH (HS.out.alloc hP3 (rcC (DevM.rc d)) 28)
 go_upto_region 2 with (refine wSN rfl 28 (.tmp 4) (.tmp 11) rfl P3 (rcC (DevM.rc d)) rfl rfl 28 _ hP3.symm (sRc (DevM.rc d)) (lRc (DevM.rc d)) (oRc (DevM.rc d)) ?_)
 refine gnH HS.out (fun V1 HS1 => ?_)
 replace HS := LH HS1
 clear HS1 hP3
 have bP3 := HS.out.get 0 rfl
 simp only at bP3
 go_wp2_with (first
   | (refine wpList_load_row rfl 28 (.tmp 4) rfl P3 rfl 28 (rcC (DevM.rc d)) (0, 0) _ bP3 Tryz.underlying28 rfl (sRc (DevM.rc d)) ?_))
 clear bP3
 refine (HSt.out _).mono ?_
 rintro e W2 ⟨rfl, hb⟩
 replace HS := LH (HS.out.later hb)
 clear hb
 obtain ⟨P7, hP7⟩ : ∃ P, W2.heap.size = P := ⟨_, rfl⟩
 replace HS := LH (HS.out.alloc hP7 (rcC (RecM.after (DevM.rc d))) 28)
 go_upto_region 5 with (refine wSN rfl 28 (.tmp 7) (.tmp 21) rfl P7 (rcC (RecM.after (DevM.rc d))) rfl rfl 28 _ hP7.symm (sRc (RecM.after (DevM.rc d))) (lRc (RecM.after (DevM.rc d))) (oRc (RecM.after (DevM.rc d))) ?_)
 refine gnH HS.out (fun V2 HS1 => ?_)
 replace HS := LH HS1
 clear HS1 hP7
 have bP1 := HS.out.get 3 rfl
 simp only at bP1
 go_wp2_with (first
   | (refine wpList_load_row rfl 37 (.tmp 1) rfl P1 rfl 37 (dvC h d) (0, 0) _ bP1 Tryz.underlying37 rfl (sDv h d) ?_))
 clear bP1
 refine (HCy.out _ (HDh.out.later HS.out.below)).mono ?_
 rintro e W3 ⟨h', rfl, hb, hn, -, -⟩
 replace HS := LH (HS.out.gain hb hn)
 clear hb hn
 unfold devV
 have HS2 := LH (HS.out.set 3 rfl (dvC h' d))
 have bP1 := HS.out.get 3 rfl
 simp only at bP1
 go_upto_region 8 with (first
   | (refine wpList_store_row rfl 37 (.tmp 1) (.tmp 28) rfl P1 (dvC h' d) rfl rfl 37 _ bP1 (sDv h' d) (lDv h h' d d) (oDv h' d) ?_))
 clear bP1
 refine gnH HS2.out (fun V3 HS1 => ?_)
 replace HS := LH HS1
 clear HS1 HS2
 have bP7 := HS.out.get 0 rfl
 simp only at bP7
 have bP3 := HS.out.get 1 rfl
 simp only at bP3
 go_upto_region 12 with (first
   | (refine wpList_load_row rfl 28 (.tmp 7) rfl P7 rfl 28 (rcC (RecM.after (DevM.rc d))) (0, 0) _ bP7 Tryz.underlying28 rfl (sRc (RecM.after (DevM.rc d))) ?_)
   | (refine wpList_load_row rfl 28 (.tmp 4) rfl P3 rfl 28 (rcC (DevM.rc d)) (0, 0) _ bP3 Tryz.underlying28 rfl (sRc (DevM.rc d)) ?_))
 clear bP7 bP3
 have cP1_26 := cAt (k := 26) (v := .bool d.up) (HS.out.get 3 rfl) rfl
 simp only at cP1_26
 have fP1_26 := tAt (k := 26) (HS.out.get 3 rfl)
 simp only at fP1_26
 have cP1_27 := cAt (k := 27) (v := .int .i64 d.run) (HS.out.get 3 rfl) rfl
 simp only at cP1_27
 have fP1_27 := tAt (k := 27) (HS.out.get 3 rfl)
 simp only at fP1_27
 have HS2 := LH ((HS.out.cell 3 rfl (put_up h' d true)).cell 3 rfl (put_run h' ({ d with up := true } : DevR) (RecM.slot (DevM.rc d))))
 go_upto_region 13 with fail
 clear cP1_26 fP1_26 cP1_27 fP1_27
 refine gnH HS2.out (fun V6 HS1 => ?_)
 replace HS := LH HS1
 clear HS1 HS2
 have bP1 := HS.out.get 3 rfl
 simp only at bP1
 have bP1p1 := HS.out.get 2 rfl
 simp only at bP1p1
 have HG := LH (HS.out.set 2 rfl (dvC h' ({ d with up := true, run := (RecM.slot (DevM.rc d)) } : DevR)))
 go_wp2_with (first
   | (refine wpList_load_row rfl 37 (.tmp 1) rfl P1 rfl 37 (dvC h' ({ d with up := true, run := (RecM.slot (DevM.rc d)) } : DevR)) (0, 0) _ bP1 Tryz.underlying37 rfl (sDv h' ({ d with up := true, run := (RecM.slot (DevM.rc d)) } : DevR)) ?_)
   | (refine wpList_store_row rfl 37 (.tmp 2) (.tmp 47) rfl (P1 + 1) (dvC h' ({ d with up := true, run := (RecM.slot (DevM.rc d)) } : DevR)) rfl rfl 37 _ bP1p1 (sDv h' ({ d with up := true, run := (RecM.slot (DevM.rc d)) } : DevR)) (like_zdev h' ({ d with up := true, run := (RecM.slot (DevM.rc d)) } : DevR)) (oDv h' ({ d with up := true, run := (RecM.slot (DevM.rc d)) } : DevR)) ?_))
 clear bP1 bP1p1
 refine bodyPost_ret (v := .tuple #[.agg (dvC h' ({ d with up := true, run := (RecM.slot (DevM.rc d)) } : DevR)), .int .i64 0]) ?_ rfl ?_
 · exact res_ct (fn := Tryz.f21) (p := 2) (a := 3) rfl rfl rfl (HG.out.get 2 rfl) Tryz.underlying37 rfl (sDv _ _)
 · refine ⟨h', rfl, HG.out.below, fun V v1 v2 => ?_⟩
   have k1 := HG.out.newR 0 rfl V v1 v2
   simp only at k1
   exact ⟨k1.b0, k1.b1, k1.got, k1.ops, k1.copsW, HSlW.out, k1.jobI, k1.doneI⟩
theorem bootD_err (h : DevH) (d : DevR) (w : World) (HD : DH w h d) (HBg : Hid (∀ W, DH W h d → Calls Tryz.prog 55 #[.agg (dvC h d), .bool false] W fun e w' => e = .returned (.tuple #[.agg (rcC (DevM.rc d)), .int .i64 0]) ∧ Below W.heap.size W w')) (hok : DevM.Ok d) (hu : d.up = false) (hs : (RecM.after (DevM.rc d)) ≠ DevM.rc d) (L : CopsR) (E : Int) (hW : RecM.writeOf d.c (RecM.after (DevM.rc d)) false = (L, E)) (hE : E ≠ 0) : Calls Tryz.prog 21 #[devV h d] w (GDv (DevM.noDev, E) w) := by
 have _hk := hok
 have _hv := hu
 clear _hk _hv
 have HSt : Hid (∀ W, Calls Tryz.prog 65 #[.agg (rcC (DevM.rc d))] W fun e w' => e = .returned (.tuple #[.int .i64 (RecM.slot (DevM.rc d)), .agg (rcC (RecM.after (DevM.rc d))), .int .i64 0]) ∧ Below W.heap.size W w') := fun W => by
   have := startR_any (DevM.rc d) W
   rw [RecM.startOf_ok hok.rec_] at this
   exact this
 have hq : ∀ W, (binOp .neq 28 (.agg (rcC (RecM.after (DevM.rc d)))) (.agg (rcC (DevM.rc d)))).run Tryz.prog W = .ok (.bool true) W := fun W => by
   have := rec_neq (RecM.after (DevM.rc d)) (DevM.rc d) W
   rw [decide_eq_false hs] at this
   exact this
 have HWr : Hid (∀ W, Calls Tryz.prog 63 #[.agg (cpC d.c), .agg (rcC (RecM.after (DevM.rc d))), .bool false] W fun e w' => e = .returned (.tuple #[.agg (cpC L), .int .i64 E]) ∧ Below W.heap.size W w') := fun W => by
   have := writeR_any d.c (RecM.after (DevM.rc d)) false W
   rw [hW] at this
   exact this
 have t2 : (E != 0) = true := by simp [hE]
 have HSlW : Hid (I64 (RecM.slot (DevM.rc d))) := by
   show I64 _
   have h1 := (RecM.check_nums hok.rec_).2.1
   unfold RecM.slot I64
   split <;> omega
 have HCy := LH (fun W (x : DH W h d) => copiedD_new h d W x (DevM.few_of hok))
 unfold devV at HCy
 clear hok hu hs hW hE
 have HDh := LH HD
 clear HD
 unfold devV
 obtain ⟨P1, hP1⟩ : ∃ P, w.heap.size = P := ⟨_, rfl⟩
 have HS := LH (((((MS.start w).alloc (p := P1) (by simp [hP1]) (dvC h d) 37)).alloc (p := (P1 + 1)) (by simp [hP1]) zDev 37))
 go_enter Tryz.func21, Tryz.ntmps21
 go_upto_region 1 with fail
 refine wp_gen HS.out (fun V0 HS1 => ?_)
 replace HS := LH HS1
 clear HS1 hP1
 replace HS := LH (MH.of HS.out)
 have bP1 := HS.out.get 1 rfl
 simp only at bP1
 go_wp2_with (first
   | (refine wpList_load_row rfl 37 (.tmp 1) rfl P1 rfl 37 (dvC h d) (0, 0) _ bP1 Tryz.underlying37 rfl (sDv h d) ?_))
 clear bP1
 refine (HBg.out _ (HDh.out.later HS.out.below)).mono ?_
 rintro e W1 ⟨rfl, hb⟩
 replace HS := LH (HS.out.later hb)
 clear hb
 obtain ⟨P3, hP3⟩ : ∃ P, W1.heap.size = P := ⟨_, rfl⟩
 replace HS := LH (HS.out.alloc hP3 (rcC (DevM.rc d)) 28)
 go_upto_region 2 with (refine wSN rfl 28 (.tmp 4) (.tmp 11) rfl P3 (rcC (DevM.rc d)) rfl rfl 28 _ hP3.symm (sRc (DevM.rc d)) (lRc (DevM.rc d)) (oRc (DevM.rc d)) ?_)
 refine gnH HS.out (fun V1 HS1 => ?_)
 replace HS := LH HS1
 clear HS1 hP3
 have bP3 := HS.out.get 0 rfl
 simp only at bP3
 go_wp2_with (first
   | (refine wpList_load_row rfl 28 (.tmp 4) rfl P3 rfl 28 (rcC (DevM.rc d)) (0, 0) _ bP3 Tryz.underlying28 rfl (sRc (DevM.rc d)) ?_))
 clear bP3
 refine (HSt.out _).mono ?_
 rintro e W2 ⟨rfl, hb⟩
 replace HS := LH (HS.out.later hb)
 clear hb
 obtain ⟨P7, hP7⟩ : ∃ P, W2.heap.size = P := ⟨_, rfl⟩
 replace HS := LH (HS.out.alloc hP7 (rcC (RecM.after (DevM.rc d))) 28)
 go_upto_region 5 with (refine wSN rfl 28 (.tmp 7) (.tmp 21) rfl P7 (rcC (RecM.after (DevM.rc d))) rfl rfl 28 _ hP7.symm (sRc (RecM.after (DevM.rc d))) (lRc (RecM.after (DevM.rc d))) (oRc (RecM.after (DevM.rc d))) ?_)
 refine gnH HS.out (fun V2 HS1 => ?_)
 replace HS := LH HS1
 clear HS1 hP7
 have bP1 := HS.out.get 3 rfl
 simp only at bP1
 go_wp2_with (first
   | (refine wpList_load_row rfl 37 (.tmp 1) rfl P1 rfl 37 (dvC h d) (0, 0) _ bP1 Tryz.underlying37 rfl (sDv h d) ?_))
 clear bP1
 refine (HCy.out _ (HDh.out.later HS.out.below)).mono ?_
 rintro e W3 ⟨h', rfl, hb, hn, -, -⟩
 replace HS := LH (HS.out.gain hb hn)
 clear hb hn
 unfold devV
 have HS2 := LH (HS.out.set 3 rfl (dvC h' d))
 have bP1 := HS.out.get 3 rfl
 simp only at bP1
 go_upto_region 8 with (first
   | (refine wpList_store_row rfl 37 (.tmp 1) (.tmp 28) rfl P1 (dvC h' d) rfl rfl 37 _ bP1 (sDv h' d) (lDv h h' d d) (oDv h' d) ?_))
 clear bP1
 refine gnH HS2.out (fun V3 HS1 => ?_)
 replace HS := LH HS1
 clear HS1 HS2
 have bP7 := HS.out.get 0 rfl
 simp only at bP7
 have bP3 := HS.out.get 1 rfl
 simp only at bP3
 have bP1 := HS.out.get 3 rfl
 simp only at bP1
 go_wp2_with (first
   | (refine wpList_load_row rfl 28 (.tmp 7) rfl P7 rfl 28 (rcC (RecM.after (DevM.rc d))) (0, 0) _ bP7 Tryz.underlying28 rfl (sRc (RecM.after (DevM.rc d))) ?_)
   | (refine wpList_load_row rfl 28 (.tmp 4) rfl P3 rfl 28 (rcC (DevM.rc d)) (0, 0) _ bP3 Tryz.underlying28 rfl (sRc (DevM.rc d)) ?_)
   | (refine wLP rfl 31 (.tmp 33) rfl P1 2 rfl (dvC h' d) 37 (0, 0) bP1 (cpC d.c) (part_cops h' d) _ Tryz.underlying31 rfl (sCp d.c) ?_))
 clear bP7 bP3 bP1
 refine (HWr.out _).mono ?_
 rintro e W4 ⟨rfl, hb⟩
 replace HS := LH (HS.out.later hb)
 clear hb
 have HS2 := LH (HS.out.cells 3 rfl (put_cops h' d L))
 go_upto_region 10 with (first
   | (refine wpList_store_mid rfl 31 (.tmp 39) (.tmp 37) rfl P1 2 (cpC L) rfl rfl (HS.out.ms.there 3 rfl (by show 26 ≤ 37; decide)) (sCp L) (one_copsA L) ?_; refine glH HS2.out (fun V4 HS1 => ?_)))
 replace HS := LH HS1
 clear HS1 HS2
 have bP1p1 := HS.out.get 2 rfl
 simp only at bP1p1
 have HG := LH (HS.out.set 2 rfl zDev)
 go_wp2_with (first
   | (refine wpList_store_row rfl 37 (.tmp 2) (.tmp 42) rfl (P1 + 1) zDev rfl rfl 37 _ bP1p1 size_zdev like_zz one_zdev ?_))
 clear bP1p1
 refine bodyPost_ret (v := .tuple #[.agg zDev, .int .i64 E]) ?_ rfl ?_
 · exact res_ct (fn := Tryz.f21) (p := 2) (a := 3) rfl rfl rfl (HG.out.get 2 rfl) Tryz.underlying37 rfl size_zdev
 · exact GDv.bad HG.out.below
theorem bootD_fine (h : DevH) (d : DevR) (w : World) (HD : DH w h d) (HBg : Hid (∀ W, DH W h d → Calls Tryz.prog 55 #[.agg (dvC h d), .bool false] W fun e w' => e = .returned (.tuple #[.agg (rcC (DevM.rc d)), .int .i64 0]) ∧ Below W.heap.size W w')) (hok : DevM.Ok d) (hu : d.up = false) (hs : (RecM.after (DevM.rc d)) ≠ DevM.rc d) (L : CopsR) (E : Int) (hW : RecM.writeOf d.c (RecM.after (DevM.rc d)) false = (L, E)) (hE : E = 0) (hL : RecM.copies L = 0) : Calls Tryz.prog 21 #[devV h d] w (GDv ({ d with c := L, up := true, run := (RecM.slot (DevM.rc d)) }, 0) w) := by
 have _hk := hok
 have _hv := hu
 clear _hk _hv
 have HSt : Hid (∀ W, Calls Tryz.prog 65 #[.agg (rcC (DevM.rc d))] W fun e w' => e = .returned (.tuple #[.int .i64 (RecM.slot (DevM.rc d)), .agg (rcC (RecM.after (DevM.rc d))), .int .i64 0]) ∧ Below W.heap.size W w') := fun W => by
   have := startR_any (DevM.rc d) W
   rw [RecM.startOf_ok hok.rec_] at this
   exact this
 have hq : ∀ W, (binOp .neq 28 (.agg (rcC (RecM.after (DevM.rc d)))) (.agg (rcC (DevM.rc d)))).run Tryz.prog W = .ok (.bool true) W := fun W => by
   have := rec_neq (RecM.after (DevM.rc d)) (DevM.rc d) W
   rw [decide_eq_false hs] at this
   exact this
 have HWr : Hid (∀ W, Calls Tryz.prog 63 #[.agg (cpC d.c), .agg (rcC (RecM.after (DevM.rc d))), .bool false] W fun e w' => e = .returned (.tuple #[.agg (cpC L), .int .i64 E]) ∧ Below W.heap.size W w') := fun W => by
   have := writeR_any d.c (RecM.after (DevM.rc d)) false W
   rw [hW] at this
   exact this
 have HLW := LH (cops_w hL)
 subst hE
 have HSlW : Hid (I64 (RecM.slot (DevM.rc d))) := by
   show I64 _
   have h1 := (RecM.check_nums hok.rec_).2.1
   unfold RecM.slot I64
   split <;> omega
 have HCy := LH (fun W (x : DH W h d) => copiedD_new h d W x (DevM.few_of hok))
 unfold devV at HCy
 clear hok hu hs hW hL
 have HDh := LH HD
 clear HD
 unfold devV
 obtain ⟨P1, hP1⟩ : ∃ P, w.heap.size = P := ⟨_, rfl⟩
 have HS := LH (((((MS.start w).alloc (p := P1) (by simp [hP1]) (dvC h d) 37)).alloc (p := (P1 + 1)) (by simp [hP1]) zDev 37))
 go_enter Tryz.func21, Tryz.ntmps21
 go_upto_region 1 with fail
 refine wp_gen HS.out (fun V0 HS1 => ?_)
 replace HS := LH HS1
 clear HS1 hP1
 replace HS := LH (MH.of HS.out)
 have bP1 := HS.out.get 1 rfl
 simp only at bP1
 go_wp2_with (first
   | (refine wpList_load_row rfl 37 (.tmp 1) rfl P1 rfl 37 (dvC h d) (0, 0) _ bP1 Tryz.underlying37 rfl (sDv h d) ?_))
 clear bP1
 refine (HBg.out _ (HDh.out.later HS.out.below)).mono ?_
 rintro e W1 ⟨rfl, hb⟩
 replace HS := LH (HS.out.later hb)
 clear hb
 obtain ⟨P3, hP3⟩ : ∃ P, W1.heap.size = P := ⟨_, rfl⟩
 replace HS := LH (HS.out.alloc hP3 (rcC (DevM.rc d)) 28)
 go_upto_region 2 with (refine wSN rfl 28 (.tmp 4) (.tmp 11) rfl P3 (rcC (DevM.rc d)) rfl rfl 28 _ hP3.symm (sRc (DevM.rc d)) (lRc (DevM.rc d)) (oRc (DevM.rc d)) ?_)
 refine gnH HS.out (fun V1 HS1 => ?_)
 replace HS := LH HS1
 clear HS1 hP3
 have bP3 := HS.out.get 0 rfl
 simp only at bP3
 go_wp2_with (first
   | (refine wpList_load_row rfl 28 (.tmp 4) rfl P3 rfl 28 (rcC (DevM.rc d)) (0, 0) _ bP3 Tryz.underlying28 rfl (sRc (DevM.rc d)) ?_))
 clear bP3
 refine (HSt.out _).mono ?_
 rintro e W2 ⟨rfl, hb⟩
 replace HS := LH (HS.out.later hb)
 clear hb
 obtain ⟨P7, hP7⟩ : ∃ P, W2.heap.size = P := ⟨_, rfl⟩
 replace HS := LH (HS.out.alloc hP7 (rcC (RecM.after (DevM.rc d))) 28)
 go_upto_region 5 with (refine wSN rfl 28 (.tmp 7) (.tmp 21) rfl P7 (rcC (RecM.after (DevM.rc d))) rfl rfl 28 _ hP7.symm (sRc (RecM.after (DevM.rc d))) (lRc (RecM.after (DevM.rc d))) (oRc (RecM.after (DevM.rc d))) ?_)
 refine gnH HS.out (fun V2 HS1 => ?_)
 replace HS := LH HS1
 clear HS1 hP7
 have bP1 := HS.out.get 3 rfl
 simp only at bP1
 go_wp2_with (first
   | (refine wpList_load_row rfl 37 (.tmp 1) rfl P1 rfl 37 (dvC h d) (0, 0) _ bP1 Tryz.underlying37 rfl (sDv h d) ?_))
 clear bP1
 refine (HCy.out _ (HDh.out.later HS.out.below)).mono ?_
 rintro e W3 ⟨h', rfl, hb, hn, -, -⟩
 replace HS := LH (HS.out.gain hb hn)
 clear hb hn
 unfold devV
 have HS2 := LH (HS.out.set 3 rfl (dvC h' d))
 have bP1 := HS.out.get 3 rfl
 simp only at bP1
 go_upto_region 8 with (first
   | (refine wpList_store_row rfl 37 (.tmp 1) (.tmp 28) rfl P1 (dvC h' d) rfl rfl 37 _ bP1 (sDv h' d) (lDv h h' d d) (oDv h' d) ?_))
 clear bP1
 refine gnH HS2.out (fun V3 HS1 => ?_)
 replace HS := LH HS1
 clear HS1 HS2
 have bP7 := HS.out.get 0 rfl
 simp only at bP7
 have bP3 := HS.out.get 1 rfl
 simp only at bP3
 have bP1 := HS.out.get 3 rfl
 simp only at bP1
 go_wp2_with (first
   | (refine wpList_load_row rfl 28 (.tmp 7) rfl P7 rfl 28 (rcC (RecM.after (DevM.rc d))) (0, 0) _ bP7 Tryz.underlying28 rfl (sRc (RecM.after (DevM.rc d))) ?_)
   | (refine wpList_load_row rfl 28 (.tmp 4) rfl P3 rfl 28 (rcC (DevM.rc d)) (0, 0) _ bP3 Tryz.underlying28 rfl (sRc (DevM.rc d)) ?_)
   | (refine wLP rfl 31 (.tmp 33) rfl P1 2 rfl (dvC h' d) 37 (0, 0) bP1 (cpC d.c) (part_cops h' d) _ Tryz.underlying31 rfl (sCp d.c) ?_))
 clear bP7 bP3 bP1
 refine (HWr.out _).mono ?_
 rintro e W4 ⟨rfl, hb⟩
 replace HS := LH (HS.out.later hb)
 clear hb
 have HS2 := LH (HS.out.cells 3 rfl (put_cops h' d L))
 go_upto_region 10 with (first
   | (refine wpList_store_mid rfl 31 (.tmp 39) (.tmp 37) rfl P1 2 (cpC L) rfl rfl (HS.out.ms.there 3 rfl (by show 26 ≤ 37; decide)) (sCp L) (one_copsA L) ?_; refine glH HS2.out (fun V4 HS1 => ?_)))
 replace HS := LH HS1
 clear HS1 HS2
 go_upto_region 12 with fail
 have cP1_26 := cAt (k := 26) (v := .bool d.up) (HS.out.get 3 rfl) rfl
 simp only at cP1_26
 have fP1_26 := tAt (k := 26) (HS.out.get 3 rfl)
 simp only at fP1_26
 have cP1_27 := cAt (k := 27) (v := .int .i64 d.run) (HS.out.get 3 rfl) rfl
 simp only at cP1_27
 have fP1_27 := tAt (k := 27) (HS.out.get 3 rfl)
 simp only at fP1_27
 have HS2 := LH ((HS.out.cell 3 rfl (put_up h' ({ d with c := L } : DevR) true)).cell 3 rfl (put_run h' ({ d with c := L, up := true } : DevR) (RecM.slot (DevM.rc d))))
 go_upto_region 13 with fail
 clear cP1_26 fP1_26 cP1_27 fP1_27
 refine gnH HS2.out (fun V6 HS1 => ?_)
 replace HS := LH HS1
 clear HS1 HS2
 have bP1 := HS.out.get 3 rfl
 simp only at bP1
 have bP1p1 := HS.out.get 2 rfl
 simp only at bP1p1
 have HG := LH (HS.out.set 2 rfl (dvC h' ({ d with c := L, up := true, run := (RecM.slot (DevM.rc d)) } : DevR)))
 go_wp2_with (first
   | (refine wpList_load_row rfl 37 (.tmp 1) rfl P1 rfl 37 (dvC h' ({ d with c := L, up := true, run := (RecM.slot (DevM.rc d)) } : DevR)) (0, 0) _ bP1 Tryz.underlying37 rfl (sDv h' ({ d with c := L, up := true, run := (RecM.slot (DevM.rc d)) } : DevR)) ?_)
   | (refine wpList_store_row rfl 37 (.tmp 2) (.tmp 47) rfl (P1 + 1) (dvC h' ({ d with c := L, up := true, run := (RecM.slot (DevM.rc d)) } : DevR)) rfl rfl 37 _ bP1p1 (sDv h' ({ d with c := L, up := true, run := (RecM.slot (DevM.rc d)) } : DevR)) (like_zdev h' ({ d with c := L, up := true, run := (RecM.slot (DevM.rc d)) } : DevR)) (oDv h' ({ d with c := L, up := true, run := (RecM.slot (DevM.rc d)) } : DevR)) ?_))
 clear bP1 bP1p1
 refine bodyPost_ret (v := .tuple #[.agg (dvC h' ({ d with c := L, up := true, run := (RecM.slot (DevM.rc d)) } : DevR)), .int .i64 0]) ?_ rfl ?_
 · exact res_ct (fn := Tryz.f21) (p := 2) (a := 3) rfl rfl rfl (HG.out.get 2 rfl) Tryz.underlying37 rfl (sDv _ _)
 · refine ⟨h', rfl, HG.out.below, fun V v1 v2 => ?_⟩
   have k1 := HG.out.newR 0 rfl V v1 v2
   simp only at k1
   exact ⟨k1.b0, k1.b1, k1.got, k1.ops, HLW.out, HSlW.out, k1.jobI, k1.doneI⟩
theorem bootD_ok (h : DevH) (d : DevR) (w : World) (HD : DH w h d) (HBg : Hid (∀ W, DH W h d → Calls Tryz.prog 55 #[.agg (dvC h d), .bool false] W fun e w' => e = .returned (.tuple #[.agg (rcC (DevM.rc d)), .int .i64 0]) ∧ Below W.heap.size W w')) (hok : DevM.Ok d) (hu : d.up = false) : Calls Tryz.prog 21 #[devV h d] w (GDv (DevM.boot d) w) := by
 unfold DevM.boot
 by_cases hs : RecM.after (DevM.rc d) = DevM.rc d
 · rw [if_pos hs]
   exact bootD_same h d w HD HBg hok hu hs
 · rw [if_neg hs]
   obtain ⟨⟨L, E⟩, hW⟩ : ∃ x, RecM.writeOf d.c (RecM.after (DevM.rc d)) false = x := ⟨_, rfl⟩
   rw [hW]
   unfold DevM.wrong
   by_cases hE : E = 0
   · rw [if_neg (fun q => q hE)]
     exact bootD_fine h d w HD HBg hok hu hs L E hW hE (by
       have := (RecM.writeOf_zero hok.cops (r := RecM.after (DevM.rc d)) (torn := false) (by rw [hW]; exact hE)).2.1
       rwa [hW] at this)
   · rw [if_pos hE]
     exact bootD_err h d w HD HBg hok hu hs L E hW hE
theorem bootD_any (h : DevH) (d : DevR) (w : World) (HD : DH w h d) : Calls Tryz.prog 21 #[devV h d] w (GDv (DevM.told d false (DevM.boot d)) w) := by
 have HBg := fun W (x : DH W h d) => beginD_any checkD_ok h d false W x
 unfold devV at HBg
 rcases DevM.beg_cases d false with ⟨E, h0, hb, ht⟩ | ⟨hok, hu, hb, ht⟩
 · rw [ht]
   rw [hb] at HBg
   exact bootD_bad h d  w HD E h0 (LH HBg)
 · rw [ht]
   rw [hb] at HBg
   exact bootD_ok h d  w HD (LH HBg) hok hu
theorem confR_any (r : RecR) (w : World) :
   Calls Tryz.prog 64 #[recV r] w fun e w' => e = .returned (.tuple #[recV (RecM.confOf r).1, .int .i64 (RecM.confOf r).2]) ∧ Below w.heap.size w w' := by
 have HC := LH (fun W => checkR_any r W)
 have HST := LH (RSt1.start w r)
 have hi := sRc r
 have HS : Hid (RecM.confOf r = if RecM.check r ≠ 0 then (RecM.noRec, RecM.check r) else if r.trying = false then (RecM.noRec, 5) else (RecM.conf r, 0)) := rfl
 have HV : Hid (∀ x, recV x = .agg (rcC x)) := fun _ => rfl
 rw [HV.out] at HC
 rw [HV.out]
 have hc0 := HST.out.c0
 go_enter Tryz.func64, Tryz.ntmps64
 go_wp2_with (refine wpList_load_row rfl 28 (.tmp 1) rfl w.heap.size rfl 28 (rcC r) (0, 0) _ hc0 Tryz.underlying28 rfl hi ?_)
 refine (HC.out _).mono ?_
 rintro e W2 ⟨rfl, hb2⟩
 have HST2 := LH (HST.out.later hb2)
 clear hb2 HST hc0 HC hi
 have HG := LH HST2.out.nil_
 by_cases e0 : RecM.check r = 0
 · replace HS := LH (HS.out.trans (if_neg (fun q => q e0)))
   have hn := RecM.check_nums e0
   have hr := RecM.check_rec e0
   rw [e0]
   clear e0
   obtain ⟨q0, q1, q2, q3, q4, q5, q8, qf⟩ := HST2.out.cells
   cases ht : r.trying
   · rw [ht] at q2
     replace HS := LH (HS.out.trans (if_pos ht))
     have hc1 := HST2.out.c1
     have hi2 := size_zero
     have ha := one_zero
     unfold zeroRec at hi2 ha hc1
     clear hn hr qf ht
     go_wp2_with (refine wpList_store_row rfl 28 (.tmp 2) (.tmp 14) rfl (w.heap.size + 1) #[.int .i64 0, .int .i64 0, .bool false, .int .i64 0, .int .i64 0, .int .i64 0, .int .i64 0, .int .i64 0, .int .i64 0, .int .i64 0, .int .i64 0] rfl rfl 28 _ hc1 hi2 rfl ha ?_)
     refine bodyPost_ret (v := .tuple #[.agg zeroRec, .int .i64 5]) ?_ rfl ?_
     · exact res_ct (fn := Tryz.f64) (p := 2) (a := 3) rfl rfl rfl HG.out.1 Tryz.underlying28 rfl size_zero
     · exact ⟨by rw [HS.out]; rfl, HG.out.2⟩
   rw [ht] at q2
   replace HS := LH (HS.out.trans (if_neg (by rw [ht]; simp)))
   rcases hn.2.1 with ha | ha
   · rw [ha] at q1
     have HO : Hid (∀ W, Calls Tryz.prog 112 #[.int .i64 0] W fun e w' => e = .returned (.int .i64 1) ∧ W = w') := fun W => by simpa using other_any 0 W (by decide)
     have HST3 : Hid (RSt1 w { r with act := 1, trying := false, tries := 0 } (((W2.setCell ⟨w.heap.size, 1, none⟩ (.int .i64 1)).setCell ⟨w.heap.size, 2, none⟩ (.bool false)).setCell ⟨w.heap.size, 3, none⟩ (.int .i64 0))) := ((HST2.out.set (r' := { r with act := 1 }) rfl).set (r' := { r with act := 1, trying := false }) rfl).set rfl
     have hfl : r.floor ≤ r.i1.ver := by
       have := hr.2.1 ht
       rw [ha] at this
       exact this
     have HCf : Hid (RecM.conf r = ⟨r.gen, 1, false, 0, r.i1.ver, r.i0, r.i1⟩) := by
       show _ = _
       unfold RecM.conf
       have e : (RecM.inf r (1 - r.act)).ver = r.i1.ver := by rw [ha]; rfl
       rw [e, ha, Int.max_eq_right hfl]
       rfl
     have m1 : (if r.floor < r.i1.ver then r.i1.ver else r.floor) = r.i1.ver := by split <;> omega
     have m2 : (if r.i1.ver < r.floor then r.floor else r.i1.ver) = r.i1.ver := by split <;> omega
     have m3 : max r.floor r.i1.ver = r.i1.ver := by omega
     have m4 : max r.i1.ver r.floor = r.i1.ver := by omega
     have qf1 := qf 1
     have qf2 := qf 2
     have qf3 := qf 3
     clear qf hr hn ha
     go_wp2_with fail
     refine (HO.out _).mono ?_
     rintro e w' ⟨rfl, rfl⟩
     go_wp2_with fail
     generalize ((W2.setCell ⟨w.heap.size, 1, none⟩ (.int .i64 1)).setCell ⟨w.heap.size, 2, none⟩ (.bool false)).setCell ⟨w.heap.size, 3, none⟩ (.int .i64 0) = W3 at HST3 ⊢
     clear ht q0 q1 q2 q3 q4 q5 q8 qf1 qf2 qf3 hfl HST2
     have HST4 := LH HST3.out.drew
     obtain ⟨p0, p1, p2, p3, p4, p5, p8, pf⟩ := HST4.out.cells
     have pf4 := pf 4
     clear pf p0 p2 p3
     have HST5 : Hid (RSt1 w ⟨r.gen, 1, false, 0, r.i1.ver, r.i0, r.i1⟩ (W3.drew.setCell ⟨w.heap.size, 4, none⟩ (.int .i64 r.i1.ver))) := HST4.out.set rfl
     go_still_tail 10, (by kernel_rfl)
     change wpList _ _ _ _ _ W3.drew
     have hc0 := HST5.out.c0
     have hc1 := HST5.out.c1
     replace HG := LH HST5.out.give
     have hi := sRc ⟨r.gen, 1, false, 0, r.i1.ver, r.i0, r.i1⟩
     have ha := oRc ⟨r.gen, 1, false, 0, r.i1.ver, r.i0, r.i1⟩
     go_wp2_with (first
       | (refine wpList_load_row rfl 28 (.tmp 1) rfl w.heap.size rfl 28 (rcC ⟨r.gen, 1, false, 0, r.i1.ver, r.i0, r.i1⟩) (0, 0) _ hc0 Tryz.underlying28 rfl hi ?_)
       | (refine wpList_store_row rfl 28 (.tmp 2) (.tmp 31) rfl (w.heap.size + 1) (rcC ⟨r.gen, 1, false, 0, r.i1.ver, r.i0, r.i1⟩) rfl rfl 28 _ hc1 hi rfl ha ?_))
     refine bodyPost_ret (v := .tuple #[.agg (rcC ⟨r.gen, 1, false, 0, r.i1.ver, r.i0, r.i1⟩), .int .i64 0]) ?_ rfl ?_
     · exact res_ct (fn := Tryz.f64) (p := 2) (a := 3) rfl rfl rfl HG.out.1 Tryz.underlying28 rfl hi
     · exact ⟨by rw [HS.out, HCf.out]; rfl, HG.out.2⟩
   · rw [ha] at q1
     have HO : Hid (∀ W, Calls Tryz.prog 112 #[.int .i64 1] W fun e w' => e = .returned (.int .i64 0) ∧ W = w') := fun W => by simpa using other_any 1 W (by decide)
     have HST3 : Hid (RSt1 w { r with act := 0, trying := false, tries := 0 } (((W2.setCell ⟨w.heap.size, 1, none⟩ (.int .i64 0)).setCell ⟨w.heap.size, 2, none⟩ (.bool false)).setCell ⟨w.heap.size, 3, none⟩ (.int .i64 0))) := ((HST2.out.set (r' := { r with act := 0 }) rfl).set (r' := { r with act := 0, trying := false }) rfl).set rfl
     have hfl : r.floor ≤ r.i0.ver := by
       have := hr.2.1 ht
       rw [ha] at this
       exact this
     have HCf : Hid (RecM.conf r = ⟨r.gen, 0, false, 0, r.i0.ver, r.i0, r.i1⟩) := by
       show _ = _
       unfold RecM.conf
       have e : (RecM.inf r (1 - r.act)).ver = r.i0.ver := by rw [ha]; rfl
       rw [e, ha, Int.max_eq_right hfl]
       rfl
     have m1 : (if r.floor < r.i0.ver then r.i0.ver else r.floor) = r.i0.ver := by split <;> omega
     have m2 : (if r.i0.ver < r.floor then r.floor else r.i0.ver) = r.i0.ver := by split <;> omega
     have m3 : max r.floor r.i0.ver = r.i0.ver := by omega
     have m4 : max r.i0.ver r.floor = r.i0.ver := by omega
     have qf1 := qf 1
     have qf2 := qf 2
     have qf3 := qf 3
     clear qf hr hn ha
     go_wp2_with fail
     refine (HO.out _).mono ?_
     rintro e w' ⟨rfl, rfl⟩
     go_wp2_with fail
     generalize ((W2.setCell ⟨w.heap.size, 1, none⟩ (.int .i64 0)).setCell ⟨w.heap.size, 2, none⟩ (.bool false)).setCell ⟨w.heap.size, 3, none⟩ (.int .i64 0) = W3 at HST3 ⊢
     clear ht q0 q1 q2 q3 q4 q5 q8 qf1 qf2 qf3 hfl HST2
     have HST4 := LH HST3.out.drew
     obtain ⟨p0, p1, p2, p3, p4, p5, p8, pf⟩ := HST4.out.cells
     have pf4 := pf 4
     clear pf p0 p2 p3
     have HST5 : Hid (RSt1 w ⟨r.gen, 0, false, 0, r.i0.ver, r.i0, r.i1⟩ (W3.drew.setCell ⟨w.heap.size, 4, none⟩ (.int .i64 r.i0.ver))) := HST4.out.set rfl
     go_still_tail 10, (by kernel_rfl)
     change wpList _ _ _ _ _ W3.drew
     have hc0 := HST5.out.c0
     have hc1 := HST5.out.c1
     replace HG := LH HST5.out.give
     have hi := sRc ⟨r.gen, 0, false, 0, r.i0.ver, r.i0, r.i1⟩
     have ha := oRc ⟨r.gen, 0, false, 0, r.i0.ver, r.i0, r.i1⟩
     go_wp2_with (first
       | (refine wpList_load_row rfl 28 (.tmp 1) rfl w.heap.size rfl 28 (rcC ⟨r.gen, 0, false, 0, r.i0.ver, r.i0, r.i1⟩) (0, 0) _ hc0 Tryz.underlying28 rfl hi ?_)
       | (refine wpList_store_row rfl 28 (.tmp 2) (.tmp 31) rfl (w.heap.size + 1) (rcC ⟨r.gen, 0, false, 0, r.i0.ver, r.i0, r.i1⟩) rfl rfl 28 _ hc1 hi rfl ha ?_))
     refine bodyPost_ret (v := .tuple #[.agg (rcC ⟨r.gen, 0, false, 0, r.i0.ver, r.i0, r.i1⟩), .int .i64 0]) ?_ rfl ?_
     · exact res_ct (fn := Tryz.f64) (p := 2) (a := 3) rfl rfl rfl HG.out.1 Tryz.underlying28 rfl hi
     · exact ⟨by rw [HS.out, HCf.out]; rfl, HG.out.2⟩
 · obtain ⟨E, hE⟩ : ∃ E, RecM.check r = E := ⟨_, rfl⟩
   replace HS := LH (HS.out.trans (if_pos e0))
   rw [hE] at e0 HS ⊢
   have t0 : (E != 0) = true := by simp [e0]
   clear hE
   have hc1 := HST2.out.c1
   have hi2 := size_zero
   have ha := one_zero
   unfold zeroRec at hi2 ha hc1
   go_wp2_with (refine wpList_store_row rfl 28 (.tmp 2) (.tmp 9) rfl (w.heap.size + 1) #[.int .i64 0, .int .i64 0, .bool false, .int .i64 0, .int .i64 0, .int .i64 0, .int .i64 0, .int .i64 0, .int .i64 0, .int .i64 0, .int .i64 0] rfl rfl 28 _ hc1 hi2 rfl ha ?_)
   refine bodyPost_ret (v := .tuple #[.agg zeroRec, .int .i64 E]) ?_ rfl ?_
   · exact res_ct (fn := Tryz.f64) (p := 2) (a := 3) rfl rfl rfl HG.out.1 Tryz.underlying28 rfl size_zero
   · exact ⟨by rw [HS.out]; rfl, HG.out.2⟩
theorem confirmD_bad (h : DevH) (d : DevR) (w : World) (HD : DH w h d) (E : Int) (h0 : E ≠ 0) (HBg : Hid (∀ W, DH W h d → Calls Tryz.prog 55 #[.agg (dvC h d), .bool true] W fun e w' => e = .returned (.tuple #[.agg (rcC RecM.noRec), .int .i64 E]) ∧ Below W.heap.size W w')) : Calls Tryz.prog 19 #[devV h d] w (GDv (DevM.noDev, E) w) := by
 have t0 : (E != 0) = true := by simp [h0]
 have HDh := LH HD
 clear HD
 unfold devV
 obtain ⟨P1, hP1⟩ : ∃ P, w.heap.size = P := ⟨_, rfl⟩
 have HS := LH (((((MS.start w).alloc (p := P1) (by simp [hP1]) (dvC h d) 37)).alloc (p := (P1 + 1)) (by simp [hP1]) zDev 37))
 go_enter Tryz.func19, Tryz.ntmps19
 go_upto_region 1 with fail
 refine wp_gen HS.out (fun V0 HS1 => ?_)
 replace HS := LH HS1
 clear HS1 hP1
 replace HS := LH (MH.of HS.out)
 have bP1 := HS.out.get 1 rfl
 simp only at bP1
 go_wp2_with (first
   | (refine wpList_load_row rfl 37 (.tmp 1) rfl P1 rfl 37 (dvC h d) (0, 0) _ bP1 Tryz.underlying37 rfl (sDv h d) ?_))
 clear bP1
 refine (HBg.out _ (HDh.out.later HS.out.below)).mono ?_
 rintro e W1 ⟨rfl, hb⟩
 replace HS := LH (HS.out.later hb)
 clear hb
 obtain ⟨P3, hP3⟩ : ∃ P, W1.heap.size = P := ⟨_, rfl⟩
 replace HS := LH (HS.out.alloc hP3 (rcC RecM.noRec) 28)
 go_upto_region 2 with (refine wSN rfl 28 (.tmp 4) (.tmp 10) rfl P3 (rcC RecM.noRec) rfl rfl 28 _ hP3.symm (sRc RecM.noRec) (lRc RecM.noRec) (oRc RecM.noRec) ?_)
 refine gnH HS.out (fun V1 HS1 => ?_)
 replace HS := LH HS1
 clear HS1 hP3
 have bP1p1 := HS.out.get 1 rfl
 simp only at bP1p1
 have HG := LH (HS.out.set 1 rfl zDev)
 go_wp2_with (first
   | (refine wpList_store_row rfl 37 (.tmp 2) (.tmp 14) rfl (P1 + 1) zDev rfl rfl 37 _ bP1p1 size_zdev like_zz one_zdev ?_))
 clear bP1p1
 refine bodyPost_ret (v := .tuple #[.agg zDev, .int .i64 E]) ?_ rfl ?_
 · exact res_ct (fn := Tryz.f19) (p := 2) (a := 3) rfl rfl rfl (HG.out.get 1 rfl) Tryz.underlying37 rfl size_zdev
 · exact GDv.bad HG.out.below
theorem confirmD_same (h : DevH) (d : DevR) (w : World) (HD : DH w h d) (HBg : Hid (∀ W, DH W h d → Calls Tryz.prog 55 #[.agg (dvC h d), .bool true] W fun e w' => e = .returned (.tuple #[.agg (rcC (DevM.rc d)), .int .i64 0]) ∧ Below W.heap.size W w')) (hok : DevM.Ok d) (hu : d.up = true) (hrn : d.run = (DevM.rc d).act) : Calls Tryz.prog 19 #[devV h d] w (GDv (DevM.noDev, 5) w) := by
 have _hk := hok
 have _hv := hu
 clear _hk _hv
 have t1 : (d.run == (DevM.rc d).act) = true := by simpa using hrn
 clear hok hu hrn
 have HDh := LH HD
 clear HD
 unfold devV
 obtain ⟨P1, hP1⟩ : ∃ P, w.heap.size = P := ⟨_, rfl⟩
 have HS := LH (((((MS.start w).alloc (p := P1) (by simp [hP1]) (dvC h d) 37)).alloc (p := (P1 + 1)) (by simp [hP1]) zDev 37))
 go_enter Tryz.func19, Tryz.ntmps19
 go_upto_region 1 with fail
 refine wp_gen HS.out (fun V0 HS1 => ?_)
 replace HS := LH HS1
 clear HS1 hP1
 replace HS := LH (MH.of HS.out)
 have bP1 := HS.out.get 1 rfl
 simp only at bP1
 go_wp2_with (first
   | (refine wpList_load_row rfl 37 (.tmp 1) rfl P1 rfl 37 (dvC h d) (0, 0) _ bP1 Tryz.underlying37 rfl (sDv h d) ?_))
 clear bP1
 refine (HBg.out _ (HDh.out.later HS.out.below)).mono ?_
 rintro e W1 ⟨rfl, hb⟩
 replace HS := LH (HS.out.later hb)
 clear hb
 obtain ⟨P3, hP3⟩ : ∃ P, W1.heap.size = P := ⟨_, rfl⟩
 replace HS := LH (HS.out.alloc hP3 (rcC (DevM.rc d)) 28)
 go_upto_region 2 with (refine wSN rfl 28 (.tmp 4) (.tmp 10) rfl P3 (rcC (DevM.rc d)) rfl rfl 28 _ hP3.symm (sRc (DevM.rc d)) (lRc (DevM.rc d)) (oRc (DevM.rc d)) ?_)
 refine gnH HS.out (fun V1 HS1 => ?_)
 replace HS := LH HS1
 clear HS1 hP3
 have cP1_27 := cAt (k := 27) (v := .int .i64 d.run) (HS.out.get 2 rfl) rfl
 simp only at cP1_27
 have cP3_1 := cAt (k := 1) (v := .int .i64 (DevM.rc d).act) (HS.out.get 0 rfl) rfl
 simp only at cP3_1
 have bP1p1 := HS.out.get 1 rfl
 simp only at bP1p1
 have HG := LH (HS.out.set 1 rfl zDev)
 go_wp2_with (first
   | (refine wpList_store_row rfl 37 (.tmp 2) (.tmp 21) rfl (P1 + 1) zDev rfl rfl 37 _ bP1p1 size_zdev like_zz one_zdev ?_))
 clear cP1_27 cP3_1 bP1p1
 refine bodyPost_ret (v := .tuple #[.agg zDev, .int .i64 5]) ?_ rfl ?_
 · exact res_ct (fn := Tryz.f19) (p := 2) (a := 3) rfl rfl rfl (HG.out.get 1 rfl) Tryz.underlying37 rfl size_zdev
 · exact GDv.bad HG.out.below
theorem confirmD_err (h : DevH) (d : DevR) (w : World) (HD : DH w h d) (HBg : Hid (∀ W, DH W h d → Calls Tryz.prog 55 #[.agg (dvC h d), .bool true] W fun e w' => e = .returned (.tuple #[.agg (rcC (DevM.rc d)), .int .i64 0]) ∧ Below W.heap.size W w')) (hok : DevM.Ok d) (hu : d.up = true) (hrn : d.run ≠ (DevM.rc d).act) (ht : (DevM.rc d).trying = true) (L : CopsR) (E : Int) (hW : RecM.writeOf d.c (RecM.conf (DevM.rc d)) false = (L, E)) (hE : E ≠ 0) : Calls Tryz.prog 19 #[devV h d] w (GDv (DevM.noDev, E) w) := by
 have _hk := hok
 have _hv := hu
 clear _hk _hv
 have t1 : (d.run == (DevM.rc d).act) = false := by simpa using hrn
 have HCf : Hid (∀ W, Calls Tryz.prog 64 #[.agg (rcC (DevM.rc d))] W fun e w' => e = .returned (.tuple #[.agg (rcC (RecM.conf (DevM.rc d))), .int .i64 0]) ∧ Below W.heap.size W w') := fun W => by
   have := confR_any (DevM.rc d) W
   rw [RecM.confOf_ok hok.rec_ ht] at this
   exact this
 have HWr : Hid (∀ W, Calls Tryz.prog 63 #[.agg (cpC d.c), .agg (rcC (RecM.conf (DevM.rc d))), .bool false] W fun e w' => e = .returned (.tuple #[.agg (cpC L), .int .i64 E]) ∧ Below W.heap.size W w') := fun W => by
   have := writeR_any d.c (RecM.conf (DevM.rc d)) false W
   rw [hW] at this
   exact this
 have t2 : (E != 0) = true := by simp [hE]
 clear hok hu hrn ht hW hE
 have HDh := LH HD
 clear HD
 unfold devV
 obtain ⟨P1, hP1⟩ : ∃ P, w.heap.size = P := ⟨_, rfl⟩
 have HS := LH (((((MS.start w).alloc (p := P1) (by simp [hP1]) (dvC h d) 37)).alloc (p := (P1 + 1)) (by simp [hP1]) zDev 37))
 go_enter Tryz.func19, Tryz.ntmps19
 go_upto_region 1 with fail
 refine wp_gen HS.out (fun V0 HS1 => ?_)
 replace HS := LH HS1
 clear HS1 hP1
 replace HS := LH (MH.of HS.out)
 have bP1 := HS.out.get 1 rfl
 simp only at bP1
 go_wp2_with (first
   | (refine wpList_load_row rfl 37 (.tmp 1) rfl P1 rfl 37 (dvC h d) (0, 0) _ bP1 Tryz.underlying37 rfl (sDv h d) ?_))
 clear bP1
 refine (HBg.out _ (HDh.out.later HS.out.below)).mono ?_
 rintro e W1 ⟨rfl, hb⟩
 replace HS := LH (HS.out.later hb)
 clear hb
 obtain ⟨P3, hP3⟩ : ∃ P, W1.heap.size = P := ⟨_, rfl⟩
 replace HS := LH (HS.out.alloc hP3 (rcC (DevM.rc d)) 28)
 go_upto_region 2 with (refine wSN rfl 28 (.tmp 4) (.tmp 10) rfl P3 (rcC (DevM.rc d)) rfl rfl 28 _ hP3.symm (sRc (DevM.rc d)) (lRc (DevM.rc d)) (oRc (DevM.rc d)) ?_)
 refine gnH HS.out (fun V1 HS1 => ?_)
 replace HS := LH HS1
 clear HS1 hP3
 have cP1_27 := cAt (k := 27) (v := .int .i64 d.run) (HS.out.get 2 rfl) rfl
 simp only at cP1_27
 have cP3_1 := cAt (k := 1) (v := .int .i64 (DevM.rc d).act) (HS.out.get 0 rfl) rfl
 simp only at cP3_1
 have bP3 := HS.out.get 0 rfl
 simp only at bP3
 go_wp2_with (first
   | (refine wpList_load_row rfl 28 (.tmp 4) rfl P3 rfl 28 (rcC (DevM.rc d)) (0, 0) _ bP3 Tryz.underlying28 rfl (sRc (DevM.rc d)) ?_))
 clear cP1_27 cP3_1 bP3
 refine (HCf.out _).mono ?_
 rintro e W2 ⟨rfl, hb⟩
 replace HS := LH (HS.out.later hb)
 clear hb
 have HS2 := LH (HS.out.set 0 rfl (rcC (RecM.conf (DevM.rc d))))
 have bP3 := HS.out.get 0 rfl
 simp only at bP3
 go_upto_region 7 with (first
   | (refine wpList_store_row rfl 28 (.tmp 4) (.tmp 25) rfl P3 (rcC (RecM.conf (DevM.rc d))) rfl rfl 28 _ bP3 (sRc (RecM.conf (DevM.rc d))) (like_rr (DevM.rc d) (RecM.conf (DevM.rc d))) (oRc (RecM.conf (DevM.rc d))) ?_))
 clear bP3
 refine gnH HS2.out (fun V2 HS1 => ?_)
 replace HS := LH HS1
 clear HS1 HS2
 have bP1 := HS.out.get 2 rfl
 simp only at bP1
 have bP3 := HS.out.get 0 rfl
 simp only at bP3
 go_wp2_with (first
   | (refine wLP rfl 31 (.tmp 32) rfl P1 2 rfl (dvC h d) 37 (0, 0) bP1 (cpC d.c) (part_cops h d) _ Tryz.underlying31 rfl (sCp d.c) ?_)
   | (refine wpList_load_row rfl 28 (.tmp 4) rfl P3 rfl 28 (rcC (RecM.conf (DevM.rc d))) (0, 0) _ bP3 Tryz.underlying28 rfl (sRc (RecM.conf (DevM.rc d))) ?_))
 clear bP1 bP3
 refine (HWr.out _).mono ?_
 rintro e W3 ⟨rfl, hb⟩
 replace HS := LH (HS.out.later hb)
 clear hb
 obtain ⟨P6, hP6⟩ : ∃ P, W3.heap.size = P := ⟨_, rfl⟩
 replace HS := LH (HS.out.alloc hP6 (cpC L) 31)
 go_upto_region 10 with (refine wSN rfl 31 (.tmp 6) (.tmp 36) rfl P6 (cpC L) rfl rfl 31 _ hP6.symm (sCp L) (like_copsL L) (one_cops L) ?_)
 refine gnH HS.out (fun V3 HS1 => ?_)
 replace HS := LH HS1
 clear HS1 hP6
 have bP1p1 := HS.out.get 2 rfl
 simp only at bP1p1
 have HG := LH (HS.out.set 2 rfl zDev)
 go_wp2_with (first
   | (refine wpList_store_row rfl 37 (.tmp 2) (.tmp 40) rfl (P1 + 1) zDev rfl rfl 37 _ bP1p1 size_zdev like_zz one_zdev ?_))
 clear bP1p1
 refine bodyPost_ret (v := .tuple #[.agg zDev, .int .i64 E]) ?_ rfl ?_
 · exact res_ct (fn := Tryz.f19) (p := 2) (a := 3) rfl rfl rfl (HG.out.get 2 rfl) Tryz.underlying37 rfl size_zdev
 · exact GDv.bad HG.out.below
theorem confirmD_fine (h : DevH) (d : DevR) (w : World) (HD : DH w h d) (HBg : Hid (∀ W, DH W h d → Calls Tryz.prog 55 #[.agg (dvC h d), .bool true] W fun e w' => e = .returned (.tuple #[.agg (rcC (DevM.rc d)), .int .i64 0]) ∧ Below W.heap.size W w')) (hok : DevM.Ok d) (hu : d.up = true) (hrn : d.run ≠ (DevM.rc d).act) (ht : (DevM.rc d).trying = true) (L : CopsR) (E : Int) (hW : RecM.writeOf d.c (RecM.conf (DevM.rc d)) false = (L, E)) (hE : E = 0) (hL : RecM.copies L = 0) : Calls Tryz.prog 19 #[devV h d] w (GDv ({ d with c := L }, 0) w) := by
 have _hk := hok
 have _hv := hu
 clear _hk _hv
 have t1 : (d.run == (DevM.rc d).act) = false := by simpa using hrn
 have HCf : Hid (∀ W, Calls Tryz.prog 64 #[.agg (rcC (DevM.rc d))] W fun e w' => e = .returned (.tuple #[.agg (rcC (RecM.conf (DevM.rc d))), .int .i64 0]) ∧ Below W.heap.size W w') := fun W => by
   have := confR_any (DevM.rc d) W
   rw [RecM.confOf_ok hok.rec_ ht] at this
   exact this
 have HWr : Hid (∀ W, Calls Tryz.prog 63 #[.agg (cpC d.c), .agg (rcC (RecM.conf (DevM.rc d))), .bool false] W fun e w' => e = .returned (.tuple #[.agg (cpC L), .int .i64 E]) ∧ Below W.heap.size W w') := fun W => by
   have := writeR_any d.c (RecM.conf (DevM.rc d)) false W
   rw [hW] at this
   exact this
 have HLW := LH (cops_w hL)
 have HCy := LH (fun W (x : DH W h d) => copiedD_new h d W x (DevM.few_of hok))
 unfold devV at HCy
 subst hE
 clear hok hu hrn ht hW hL
 have HDh := LH HD
 clear HD
 unfold devV
 obtain ⟨P1, hP1⟩ : ∃ P, w.heap.size = P := ⟨_, rfl⟩
 have HS := LH (((((MS.start w).alloc (p := P1) (by simp [hP1]) (dvC h d) 37)).alloc (p := (P1 + 1)) (by simp [hP1]) zDev 37))
 go_enter Tryz.func19, Tryz.ntmps19
 go_upto_region 1 with fail
 refine wp_gen HS.out (fun V0 HS1 => ?_)
 replace HS := LH HS1
 clear HS1 hP1
 replace HS := LH (MH.of HS.out)
 have bP1 := HS.out.get 1 rfl
 simp only at bP1
 go_wp2_with (first
   | (refine wpList_load_row rfl 37 (.tmp 1) rfl P1 rfl 37 (dvC h d) (0, 0) _ bP1 Tryz.underlying37 rfl (sDv h d) ?_))
 clear bP1
 refine (HBg.out _ (HDh.out.later HS.out.below)).mono ?_
 rintro e W1 ⟨rfl, hb⟩
 replace HS := LH (HS.out.later hb)
 clear hb
 obtain ⟨P3, hP3⟩ : ∃ P, W1.heap.size = P := ⟨_, rfl⟩
 replace HS := LH (HS.out.alloc hP3 (rcC (DevM.rc d)) 28)
 go_upto_region 2 with (refine wSN rfl 28 (.tmp 4) (.tmp 10) rfl P3 (rcC (DevM.rc d)) rfl rfl 28 _ hP3.symm (sRc (DevM.rc d)) (lRc (DevM.rc d)) (oRc (DevM.rc d)) ?_)
 refine gnH HS.out (fun V1 HS1 => ?_)
 replace HS := LH HS1
 clear HS1 hP3
 have cP1_27 := cAt (k := 27) (v := .int .i64 d.run) (HS.out.get 2 rfl) rfl
 simp only at cP1_27
 have cP3_1 := cAt (k := 1) (v := .int .i64 (DevM.rc d).act) (HS.out.get 0 rfl) rfl
 simp only at cP3_1
 have bP3 := HS.out.get 0 rfl
 simp only at bP3
 go_wp2_with (first
   | (refine wpList_load_row rfl 28 (.tmp 4) rfl P3 rfl 28 (rcC (DevM.rc d)) (0, 0) _ bP3 Tryz.underlying28 rfl (sRc (DevM.rc d)) ?_))
 clear cP1_27 cP3_1 bP3
 refine (HCf.out _).mono ?_
 rintro e W2 ⟨rfl, hb⟩
 replace HS := LH (HS.out.later hb)
 clear hb
 have HS2 := LH (HS.out.set 0 rfl (rcC (RecM.conf (DevM.rc d))))
 have bP3 := HS.out.get 0 rfl
 simp only at bP3
 go_upto_region 7 with (first
   | (refine wpList_store_row rfl 28 (.tmp 4) (.tmp 25) rfl P3 (rcC (RecM.conf (DevM.rc d))) rfl rfl 28 _ bP3 (sRc (RecM.conf (DevM.rc d))) (like_rr (DevM.rc d) (RecM.conf (DevM.rc d))) (oRc (RecM.conf (DevM.rc d))) ?_))
 clear bP3
 refine gnH HS2.out (fun V2 HS1 => ?_)
 replace HS := LH HS1
 clear HS1 HS2
 have bP1 := HS.out.get 2 rfl
 simp only at bP1
 have bP3 := HS.out.get 0 rfl
 simp only at bP3
 go_wp2_with (first
   | (refine wLP rfl 31 (.tmp 32) rfl P1 2 rfl (dvC h d) 37 (0, 0) bP1 (cpC d.c) (part_cops h d) _ Tryz.underlying31 rfl (sCp d.c) ?_)
   | (refine wpList_load_row rfl 28 (.tmp 4) rfl P3 rfl 28 (rcC (RecM.conf (DevM.rc d))) (0, 0) _ bP3 Tryz.underlying28 rfl (sRc (RecM.conf (DevM.rc d))) ?_))
 clear bP1 bP3
 refine (HWr.out _).mono ?_
 rintro e W3 ⟨rfl, hb⟩
 replace HS := LH (HS.out.later hb)
 clear hb
 obtain ⟨P6, hP6⟩ : ∃ P, W3.heap.size = P := ⟨_, rfl⟩
 replace HS := LH (HS.out.alloc hP6 (cpC L) 31)
 go_upto_region 10 with (refine wSN rfl 31 (.tmp 6) (.tmp 36) rfl P6 (cpC L) rfl rfl 31 _ hP6.symm (sCp L) (like_copsL L) (one_cops L) ?_)
 refine gnH HS.out (fun V3 HS1 => ?_)
 replace HS := LH HS1
 clear HS1 hP6
 have bP1 := HS.out.get 3 rfl
 simp only at bP1
 go_wp2_with (first
   | (refine wpList_load_row rfl 37 (.tmp 1) rfl P1 rfl 37 (dvC h d) (0, 0) _ bP1 Tryz.underlying37 rfl (sDv h d) ?_))
 clear bP1
 refine (HCy.out _ (HDh.out.later HS.out.below)).mono ?_
 rintro e W4 ⟨h', rfl, hb, hn, -, -⟩
 replace HS := LH (HS.out.gain hb hn)
 clear hb hn
 unfold devV
 have HS2 := LH (HS.out.set 3 rfl (dvC h' d))
 have bP1 := HS.out.get 3 rfl
 simp only at bP1
 go_upto_region 13 with (first
   | (refine wpList_store_row rfl 37 (.tmp 1) (.tmp 43) rfl P1 (dvC h' d) rfl rfl 37 _ bP1 (sDv h' d) (lDv h h' d d) (oDv h' d) ?_))
 clear bP1
 refine gnH HS2.out (fun V4 HS1 => ?_)
 replace HS := LH HS1
 clear HS1 HS2
 have HS2 := LH (HS.out.cells 3 rfl (put_cops h' d L))
 have bP6 := HS.out.get 0 rfl
 simp only at bP6
 go_upto_region 14 with (first
   | (refine wpList_load_row rfl 31 (.tmp 6) rfl P6 rfl 31 (cpC L) (0, 0) _ bP6 Tryz.underlying31 rfl (sCp L) ?_)
   | (refine wpList_store_mid rfl 31 (.tmp 45) (.tmp 44) rfl P1 2 (cpC L) rfl rfl (HS.out.ms.there 3 rfl (by show 26 ≤ 37; decide)) (sCp L) (one_copsA L) ?_; refine glH HS2.out (fun V5 HS1 => ?_)))
 clear bP6
 replace HS := LH HS1
 clear HS1 HS2
 have bP1 := HS.out.get 3 rfl
 simp only at bP1
 have bP1p1 := HS.out.get 2 rfl
 simp only at bP1p1
 have HG := LH (HS.out.set 2 rfl (dvC h' ({ d with c := L } : DevR)))
 go_wp2_with (first
   | (refine wpList_load_row rfl 37 (.tmp 1) rfl P1 rfl 37 (dvC h' ({ d with c := L } : DevR)) (0, 0) _ bP1 Tryz.underlying37 rfl (sDv h' ({ d with c := L } : DevR)) ?_)
   | (refine wpList_store_row rfl 37 (.tmp 2) (.tmp 46) rfl (P1 + 1) (dvC h' ({ d with c := L } : DevR)) rfl rfl 37 _ bP1p1 (sDv h' ({ d with c := L } : DevR)) (like_zdev h' ({ d with c := L } : DevR)) (oDv h' ({ d with c := L } : DevR)) ?_))
 clear bP1 bP1p1
 refine bodyPost_ret (v := .tuple #[.agg (dvC h' ({ d with c := L } : DevR)), .int .i64 0]) ?_ rfl ?_
 · exact res_ct (fn := Tryz.f19) (p := 2) (a := 3) rfl rfl rfl (HG.out.get 2 rfl) Tryz.underlying37 rfl (sDv _ _)
 · refine ⟨h', rfl, HG.out.below, fun V v1 v2 => ?_⟩
   have k1 := HG.out.newR 0 rfl V v1 v2
   simp only at k1
   exact ⟨k1.b0, k1.b1, k1.got, k1.ops, HLW.out, k1.runI, k1.jobI, k1.doneI⟩
theorem confirmD_ok (h : DevH) (d : DevR) (w : World) (HD : DH w h d) (HBg : Hid (∀ W, DH W h d → Calls Tryz.prog 55 #[.agg (dvC h d), .bool true] W fun e w' => e = .returned (.tuple #[.agg (rcC (DevM.rc d)), .int .i64 0]) ∧ Below W.heap.size W w')) (hok : DevM.Ok d) (hu : d.up = true) : Calls Tryz.prog 19 #[devV h d] w (GDv (DevM.confirm d) w) := by
 unfold DevM.confirm
 by_cases hrn : d.run = DevM.act d
 · rw [if_pos (.inl hrn)]
   exact confirmD_same h d w HD HBg hok hu hrn
 · have ht : (DevM.rc d).trying = true := by
     cases e : (DevM.rc d).trying with
     | true => rfl
     | false => exact absurd ((hok.up hu).still e) hrn
   rw [if_neg (by rintro (q | q); exact hrn q; rw [ht] at q; cases q)]
   obtain ⟨⟨L, E⟩, hW⟩ : ∃ x, RecM.writeOf d.c (RecM.conf (DevM.rc d)) false = x := ⟨_, rfl⟩
   rw [hW]
   unfold DevM.wrong
   by_cases hE : E = 0
   · rw [if_neg (fun q => q hE)]
     exact confirmD_fine h d w HD HBg hok hu hrn ht L E hW hE (by
       have := (RecM.writeOf_zero hok.cops (r := RecM.conf (DevM.rc d)) (torn := false) (by rw [hW]; exact hE)).2.1
       rwa [hW] at this)
   · rw [if_pos hE]
     exact confirmD_err h d w HD HBg hok hu hrn ht L E hW hE
theorem confirmD_any (h : DevH) (d : DevR) (w : World) (HD : DH w h d) : Calls Tryz.prog 19 #[devV h d] w (GDv (DevM.told d true (DevM.confirm d)) w) := by
 have HBg := fun W (x : DH W h d) => beginD_any checkD_ok h d true W x
 unfold devV at HBg
 rcases DevM.beg_cases d true with ⟨E, h0, hb, ht⟩ | ⟨hok, hu, hb, ht⟩
 · rw [ht]
   rw [hb] at HBg
   exact confirmD_bad h d  w HD E h0 (LH HBg)
 · rw [ht]
   rw [hb] at HBg
   exact confirmD_ok h d  w HD (LH HBg) hok hu
theorem hold1_any (h : DevH) (d : DevR) (x : ChR) (xa : Option Addr) (xm xc : Nat) (P C : Nat) (w : World) (HD : DH w h d) (HX : CV w (.agg #[.int .i64 x.fr, .int .i64 x.to_, .int .i64 x.n, .int .i64 x.of_, .slice xa xm xc]) x) (hC : w.heap[C]? = some (.cells #[.int .i64 x.fr, .int .i64 x.to_, .int .i64 x.n, .int .i64 x.of_, .slice xa xm xc] 39 (0, 0))) (hP : w.heap[P]? = some (.cells (dvC h d) 37 (0, 0))) : Calls Tryz.prog 29 #[.pointer (some ⟨P, 0, none⟩), .pointer (some ⟨C, 0, none⟩)] w (GDv (DevM.told d true (DevM.hear d x)) w) := by
 have HC := LH (fun W (a : DH W h d) (b : CV W (.agg #[.int .i64 x.fr, .int .i64 x.to_, .int .i64 x.n, .int .i64 x.of_, .slice xa xm xc]) x) => hearD_any h d x xa xm xc W a b)
 unfold devV at HC
 have HDh := LH HD
 clear HD
 have HXh := LH HX
 clear HX
 generalize (DevM.told d true (DevM.hear d x)) = r at HC ⊢
 obtain ⟨R, hR⟩ : ∃ R, w.heap.size = R := ⟨_, rfl⟩
 have hba : Below w.heap.size w (w.alloc (.cells zDev 37)) := (Below.refl _ _).alloc (Nat.le_refl _) _
 have HS := LH (MH.of ((MS.start w).alloc (p := R) hR zDev 37))
 replace hP := (hba.block P (bLQ hP)).trans hP
 replace hC := (hba.block C (bLQ hC)).trans hC
 have c0 := cAt (k := 0) (v := .int .i64 x.fr) hC rfl
 have c1 := cAt (k := 1) (v := .int .i64 x.to_) hC rfl
 have c2 := cAt (k := 2) (v := .int .i64 x.n) hC rfl
 have c3 := cAt (k := 3) (v := .int .i64 x.of_) hC rfl
 have c4 := cAt (k := 4) (v := .slice xa xm xc) hC rfl
 clear hba
 go_enter Tryz.func29, Tryz.ntmps29
 go_upto_region 1 with fail
 refine gnX (fun V => MH w [(R, zDev, 37)] [] V ∧ V.heap[P]? = some (.cells (dvC h d) 37 (0, 0)) ∧ (V.cell? ⟨C, 0, none⟩ = some (.int .i64 x.fr) ∧ V.cell? ⟨C, 1, none⟩ = some (.int .i64 x.to_) ∧ V.cell? ⟨C, 2, none⟩ = some (.int .i64 x.n) ∧ V.cell? ⟨C, 3, none⟩ = some (.int .i64 x.of_) ∧ V.cell? ⟨C, 4, none⟩ = some (.slice xa xm xc))) ⟨HS.out, hP, ⟨c0, c1, c2, c3, c4⟩⟩ (fun V HX1 => ?_)
 clear hP HS hC c0 c1 c2 c3 c4
 obtain ⟨HS1, hP, c0, c1, c2, c3, c4⟩ := HX1
 have HS := LH HS1
 clear HS1 hR
 go_wp2_with ((with_reducible show wpList _ _ _ _ _ _); refine LR rfl (t := 37) Tryz.underlying37 rfl (.tmp 0) rfl P rfl hP (sDv _ _) ?_)
 refine (HC.out _ (HDh.out.later HS.out.below) (HXh.out.later HS.out.below)).mono ?_
 rintro e W1 ⟨h', rfl, hb, hn⟩
 replace HS := LH (HS.out.gain hb hn)
 clear hb hn hP c0 c1 c2 c3 c4
 unfold devV
 have bR := HS.out.get 0 rfl
 simp only at bR
 have HG := LH (HS.out.set 0 rfl (dvC h' r.1))
 go_wp2_with ((with_reducible show wpList _ _ _ _ _ _); refine wpList_store_row rfl 37 (.tmp 2) (.tmp 7) rfl R (dvC h' r.1) rfl rfl 37 zDev ?_ ?_ ?_ ?_ ?_; exact bR; exact (sDv _ _); exact (like_zdev _ _); exact (oDv _ _))
 clear bR
 refine bodyPost_ret (v := .tuple #[.agg (dvC h' r.1), .int .i64 r.2]) ?_ rfl ?_
 · exact res_ct (fn := Tryz.f29) (p := 2) (a := 3) rfl rfl rfl (HG.out.get 0 rfl) Tryz.underlying37 rfl (sDv _ _)
 · exact ⟨h', rfl, HG.out.below, HG.out.newR 0 rfl⟩
theorem hold2_any (h : DevH) (d : DevR) (P : Nat) (w : World) (HD : DH w h d) (hP : w.heap[P]? = some (.cells (dvC h d) 37 (0, 0))) : Calls Tryz.prog 30 #[.pointer (some ⟨P, 0, none⟩)] w (GDv (DevM.told d true (DevM.open_ d)) w) := by
 have HC := LH (fun W (a : DH W h d) => openD_any h d W a)
 unfold devV at HC
 have HDh := LH HD
 clear HD
 generalize (DevM.told d true (DevM.open_ d)) = r at HC ⊢
 obtain ⟨R, hR⟩ : ∃ R, w.heap.size = R := ⟨_, rfl⟩
 have hba : Below w.heap.size w (w.alloc (.cells zDev 37)) := (Below.refl _ _).alloc (Nat.le_refl _) _
 have HS := LH (MH.of ((MS.start w).alloc (p := R) hR zDev 37))
 replace hP := (hba.block P (bLQ hP)).trans hP
 clear hba
 go_enter Tryz.func30, Tryz.ntmps30
 go_upto_region 1 with fail
 refine gnX (fun V => MH w [(R, zDev, 37)] [] V ∧ V.heap[P]? = some (.cells (dvC h d) 37 (0, 0))) ⟨HS.out, hP⟩ (fun V HX1 => ?_)
 clear hP HS
 obtain ⟨HS1, hP⟩ := HX1
 have HS := LH HS1
 clear HS1 hR
 go_wp2_with ((with_reducible show wpList _ _ _ _ _ _); refine LR rfl (t := 37) Tryz.underlying37 rfl (.tmp 0) rfl P rfl hP (sDv _ _) ?_)
 refine (HC.out _ (HDh.out.later HS.out.below)).mono ?_
 rintro e W1 ⟨h', rfl, hb, hn⟩
 replace HS := LH (HS.out.gain hb hn)
 clear hb hn hP
 unfold devV
 have bR := HS.out.get 0 rfl
 simp only at bR
 have HG := LH (HS.out.set 0 rfl (dvC h' r.1))
 go_wp2_with ((with_reducible show wpList _ _ _ _ _ _); refine wpList_store_row rfl 37 (.tmp 1) (.tmp 5) rfl R (dvC h' r.1) rfl rfl 37 zDev ?_ ?_ ?_ ?_ ?_; exact bR; exact (sDv _ _); exact (like_zdev _ _); exact (oDv _ _))
 clear bR
 refine bodyPost_ret (v := .tuple #[.agg (dvC h' r.1), .int .i64 r.2]) ?_ rfl ?_
 · exact res_ct (fn := Tryz.f30) (p := 1) (a := 2) rfl rfl rfl (HG.out.get 0 rfl) Tryz.underlying37 rfl (sDv _ _)
 · exact ⟨h', rfl, HG.out.below, HG.out.newR 0 rfl⟩
theorem hold3_any (h : DevH) (d : DevR) (n : Int) (P C : Nat) (w : World) (HD : DH w h d) (hC : w.heap[C]? = some (.cells #[.int .i64 n] 3 (0, 0))) (hP : w.heap[P]? = some (.cells (dvC h d) 37 (0, 0))) : Calls Tryz.prog 31 #[.pointer (some ⟨P, 0, none⟩), .pointer (some ⟨C, 0, none⟩)] w (GDv (DevM.told d true (DevM.write d (decide (n.tmod 2 = 0)) n)) w) := by
 have HC := LH (fun W (a : DH W h d) => writeD_any h d (decide (n.tmod 2 = 0)) n W a)
 unfold devV at HC
 have HDh := LH HD
 clear HD
 generalize (DevM.told d true (DevM.write d (decide (n.tmod 2 = 0)) n)) = r at HC ⊢
 obtain ⟨R, hR⟩ : ∃ R, w.heap.size = R := ⟨_, rfl⟩
 have hba : Below w.heap.size w (w.alloc (.cells zDev 37)) := (Below.refl _ _).alloc (Nat.le_refl _) _
 have HS := LH (MH.of ((MS.start w).alloc (p := R) hR zDev 37))
 replace hP := (hba.block P (bLQ hP)).trans hP
 replace hC := (hba.block C (bLQ hC)).trans hC
 have c0 := cAt (k := 0) (v := .int .i64 n) hC rfl
 clear hba
 go_enter Tryz.func31, Tryz.ntmps31
 go_upto_region 1 with fail
 refine gnX (fun V => MH w [(R, zDev, 37)] [] V ∧ V.heap[P]? = some (.cells (dvC h d) 37 (0, 0)) ∧ V.cell? ⟨C, 0, none⟩ = some (.int .i64 n)) ⟨HS.out, hP, c0⟩ (fun V HX1 => ?_)
 clear hP HS hC c0
 obtain ⟨HS1, hP, c0⟩ := HX1
 have HS := LH HS1
 clear HS1 hR
 go_wp2_with ((with_reducible show wpList _ _ _ _ _ _); refine LR rfl (t := 37) Tryz.underlying37 rfl (.tmp 0) rfl P rfl hP (sDv _ _) ?_)
 refine (HC.out _ (HDh.out.later HS.out.below)).mono ?_
 rintro e W1 ⟨h', rfl, hb, hn⟩
 replace HS := LH (HS.out.gain hb hn)
 clear hb hn hP c0
 unfold devV
 have bR := HS.out.get 0 rfl
 simp only at bR
 have HG := LH (HS.out.set 0 rfl (dvC h' r.1))
 go_wp2_with ((with_reducible show wpList _ _ _ _ _ _); refine wpList_store_row rfl 37 (.tmp 2) (.tmp 10) rfl R (dvC h' r.1) rfl rfl 37 zDev ?_ ?_ ?_ ?_ ?_; exact bR; exact (sDv _ _); exact (like_zdev _ _); exact (oDv _ _))
 clear bR
 refine bodyPost_ret (v := .tuple #[.agg (dvC h' r.1), .int .i64 r.2]) ?_ rfl ?_
 · exact res_ct (fn := Tryz.f31) (p := 2) (a := 3) rfl rfl rfl (HG.out.get 0 rfl) Tryz.underlying37 rfl (sDv _ _)
 · exact ⟨h', rfl, HG.out.below, HG.out.newR 0 rfl⟩
theorem hold4_any (h : DevH) (d : DevR) (n : Int) (P C : Nat) (w : World) (HD : DH w h d) (hC : w.heap[C]? = some (.cells #[.int .i64 n] 3 (0, 0))) (hP : w.heap[P]? = some (.cells (dvC h d) 37 (0, 0))) : Calls Tryz.prog 32 #[.pointer (some ⟨P, 0, none⟩), .pointer (some ⟨C, 0, none⟩)] w (GDv (DevM.told d true (DevM.finish d (decide (n.tmod 2 = 0)))) w) := by
 have HC := LH (fun W (a : DH W h d) => finishD_any h d (decide (n.tmod 2 = 0)) W a)
 unfold devV at HC
 have HDh := LH HD
 clear HD
 generalize (DevM.told d true (DevM.finish d (decide (n.tmod 2 = 0)))) = r at HC ⊢
 obtain ⟨R, hR⟩ : ∃ R, w.heap.size = R := ⟨_, rfl⟩
 have hba : Below w.heap.size w (w.alloc (.cells zDev 37)) := (Below.refl _ _).alloc (Nat.le_refl _) _
 have HS := LH (MH.of ((MS.start w).alloc (p := R) hR zDev 37))
 replace hP := (hba.block P (bLQ hP)).trans hP
 replace hC := (hba.block C (bLQ hC)).trans hC
 have c0 := cAt (k := 0) (v := .int .i64 n) hC rfl
 clear hba
 go_enter Tryz.func32, Tryz.ntmps32
 go_upto_region 1 with fail
 refine gnX (fun V => MH w [(R, zDev, 37)] [] V ∧ V.heap[P]? = some (.cells (dvC h d) 37 (0, 0)) ∧ V.cell? ⟨C, 0, none⟩ = some (.int .i64 n)) ⟨HS.out, hP, c0⟩ (fun V HX1 => ?_)
 clear hP HS hC c0
 obtain ⟨HS1, hP, c0⟩ := HX1
 have HS := LH HS1
 clear HS1 hR
 go_wp2_with ((with_reducible show wpList _ _ _ _ _ _); refine LR rfl (t := 37) Tryz.underlying37 rfl (.tmp 0) rfl P rfl hP (sDv _ _) ?_)
 refine (HC.out _ (HDh.out.later HS.out.below)).mono ?_
 rintro e W1 ⟨h', rfl, hb, hn⟩
 replace HS := LH (HS.out.gain hb hn)
 clear hb hn hP c0
 unfold devV
 have bR := HS.out.get 0 rfl
 simp only at bR
 have HG := LH (HS.out.set 0 rfl (dvC h' r.1))
 go_wp2_with ((with_reducible show wpList _ _ _ _ _ _); refine wpList_store_row rfl 37 (.tmp 2) (.tmp 9) rfl R (dvC h' r.1) rfl rfl 37 zDev ?_ ?_ ?_ ?_ ?_; exact bR; exact (sDv _ _); exact (like_zdev _ _); exact (oDv _ _))
 clear bR
 refine bodyPost_ret (v := .tuple #[.agg (dvC h' r.1), .int .i64 r.2]) ?_ rfl ?_
 · exact res_ct (fn := Tryz.f32) (p := 2) (a := 3) rfl rfl rfl (HG.out.get 0 rfl) Tryz.underlying37 rfl (sDv _ _)
 · exact ⟨h', rfl, HG.out.below, HG.out.newR 0 rfl⟩
theorem hold5_any (h : DevH) (d : DevR) (P : Nat) (w : World) (HD : DH w h d) (hP : w.heap[P]? = some (.cells (dvC h d) 37 (0, 0))) : Calls Tryz.prog 33 #[.pointer (some ⟨P, 0, none⟩)] w (GDv (DevM.told d true (DevM.crash d)) w) := by
 have HC := LH (fun W (a : DH W h d) => crashD_any h d W a)
 unfold devV at HC
 have HDh := LH HD
 clear HD
 generalize (DevM.told d true (DevM.crash d)) = r at HC ⊢
 obtain ⟨R, hR⟩ : ∃ R, w.heap.size = R := ⟨_, rfl⟩
 have hba : Below w.heap.size w (w.alloc (.cells zDev 37)) := (Below.refl _ _).alloc (Nat.le_refl _) _
 have HS := LH (MH.of ((MS.start w).alloc (p := R) hR zDev 37))
 replace hP := (hba.block P (bLQ hP)).trans hP
 clear hba
 go_enter Tryz.func33, Tryz.ntmps33
 go_upto_region 1 with fail
 refine gnX (fun V => MH w [(R, zDev, 37)] [] V ∧ V.heap[P]? = some (.cells (dvC h d) 37 (0, 0))) ⟨HS.out, hP⟩ (fun V HX1 => ?_)
 clear hP HS
 obtain ⟨HS1, hP⟩ := HX1
 have HS := LH HS1
 clear HS1 hR
 go_wp2_with ((with_reducible show wpList _ _ _ _ _ _); refine LR rfl (t := 37) Tryz.underlying37 rfl (.tmp 0) rfl P rfl hP (sDv _ _) ?_)
 refine (HC.out _ (HDh.out.later HS.out.below)).mono ?_
 rintro e W1 ⟨h', rfl, hb, hn⟩
 replace HS := LH (HS.out.gain hb hn)
 clear hb hn hP
 unfold devV
 have bR := HS.out.get 0 rfl
 simp only at bR
 have HG := LH (HS.out.set 0 rfl (dvC h' r.1))
 go_wp2_with ((with_reducible show wpList _ _ _ _ _ _); refine wpList_store_row rfl 37 (.tmp 1) (.tmp 5) rfl R (dvC h' r.1) rfl rfl 37 zDev ?_ ?_ ?_ ?_ ?_; exact bR; exact (sDv _ _); exact (like_zdev _ _); exact (oDv _ _))
 clear bR
 refine bodyPost_ret (v := .tuple #[.agg (dvC h' r.1), .int .i64 r.2]) ?_ rfl ?_
 · exact res_ct (fn := Tryz.f33) (p := 1) (a := 2) rfl rfl rfl (HG.out.get 0 rfl) Tryz.underlying37 rfl (sDv _ _)
 · exact ⟨h', rfl, HG.out.below, HG.out.newR 0 rfl⟩
theorem hold6_any (h : DevH) (d : DevR) (P : Nat) (w : World) (HD : DH w h d) (hP : w.heap[P]? = some (.cells (dvC h d) 37 (0, 0))) : Calls Tryz.prog 34 #[.pointer (some ⟨P, 0, none⟩)] w (GDv (DevM.told d false (DevM.boot d)) w) := by
 have HC := LH (fun W (a : DH W h d) => bootD_any h d W a)
 unfold devV at HC
 have HDh := LH HD
 clear HD
 generalize (DevM.told d false (DevM.boot d)) = r at HC ⊢
 obtain ⟨R, hR⟩ : ∃ R, w.heap.size = R := ⟨_, rfl⟩
 have hba : Below w.heap.size w (w.alloc (.cells zDev 37)) := (Below.refl _ _).alloc (Nat.le_refl _) _
 have HS := LH (MH.of ((MS.start w).alloc (p := R) hR zDev 37))
 replace hP := (hba.block P (bLQ hP)).trans hP
 clear hba
 go_enter Tryz.func34, Tryz.ntmps34
 go_upto_region 1 with fail
 refine gnX (fun V => MH w [(R, zDev, 37)] [] V ∧ V.heap[P]? = some (.cells (dvC h d) 37 (0, 0))) ⟨HS.out, hP⟩ (fun V HX1 => ?_)
 clear hP HS
 obtain ⟨HS1, hP⟩ := HX1
 have HS := LH HS1
 clear HS1 hR
 go_wp2_with ((with_reducible show wpList _ _ _ _ _ _); refine LR rfl (t := 37) Tryz.underlying37 rfl (.tmp 0) rfl P rfl hP (sDv _ _) ?_)
 refine (HC.out _ (HDh.out.later HS.out.below)).mono ?_
 rintro e W1 ⟨h', rfl, hb, hn⟩
 replace HS := LH (HS.out.gain hb hn)
 clear hb hn hP
 unfold devV
 have bR := HS.out.get 0 rfl
 simp only at bR
 have HG := LH (HS.out.set 0 rfl (dvC h' r.1))
 go_wp2_with ((with_reducible show wpList _ _ _ _ _ _); refine wpList_store_row rfl 37 (.tmp 1) (.tmp 5) rfl R (dvC h' r.1) rfl rfl 37 zDev ?_ ?_ ?_ ?_ ?_; exact bR; exact (sDv _ _); exact (like_zdev _ _); exact (oDv _ _))
 clear bR
 refine bodyPost_ret (v := .tuple #[.agg (dvC h' r.1), .int .i64 r.2]) ?_ rfl ?_
 · exact res_ct (fn := Tryz.f34) (p := 1) (a := 2) rfl rfl rfl (HG.out.get 0 rfl) Tryz.underlying37 rfl (sDv _ _)
 · exact ⟨h', rfl, HG.out.below, HG.out.newR 0 rfl⟩
theorem hold7_any (h : DevH) (d : DevR) (P : Nat) (w : World) (HD : DH w h d) (hP : w.heap[P]? = some (.cells (dvC h d) 37 (0, 0))) : Calls Tryz.prog 35 #[.pointer (some ⟨P, 0, none⟩)] w (GDv (DevM.told d true (DevM.confirm d)) w) := by
 have HC := LH (fun W (a : DH W h d) => confirmD_any h d W a)
 unfold devV at HC
 have HDh := LH HD
 clear HD
 generalize (DevM.told d true (DevM.confirm d)) = r at HC ⊢
 obtain ⟨R, hR⟩ : ∃ R, w.heap.size = R := ⟨_, rfl⟩
 have hba : Below w.heap.size w (w.alloc (.cells zDev 37)) := (Below.refl _ _).alloc (Nat.le_refl _) _
 have HS := LH (MH.of ((MS.start w).alloc (p := R) hR zDev 37))
 replace hP := (hba.block P (bLQ hP)).trans hP
 clear hba
 go_enter Tryz.func35, Tryz.ntmps35
 go_upto_region 1 with fail
 refine gnX (fun V => MH w [(R, zDev, 37)] [] V ∧ V.heap[P]? = some (.cells (dvC h d) 37 (0, 0))) ⟨HS.out, hP⟩ (fun V HX1 => ?_)
 clear hP HS
 obtain ⟨HS1, hP⟩ := HX1
 have HS := LH HS1
 clear HS1 hR
 go_wp2_with ((with_reducible show wpList _ _ _ _ _ _); refine LR rfl (t := 37) Tryz.underlying37 rfl (.tmp 0) rfl P rfl hP (sDv _ _) ?_)
 refine (HC.out _ (HDh.out.later HS.out.below)).mono ?_
 rintro e W1 ⟨h', rfl, hb, hn⟩
 replace HS := LH (HS.out.gain hb hn)
 clear hb hn hP
 unfold devV
 have bR := HS.out.get 0 rfl
 simp only at bR
 have HG := LH (HS.out.set 0 rfl (dvC h' r.1))
 go_wp2_with ((with_reducible show wpList _ _ _ _ _ _); refine wpList_store_row rfl 37 (.tmp 1) (.tmp 5) rfl R (dvC h' r.1) rfl rfl 37 zDev ?_ ?_ ?_ ?_ ?_; exact bR; exact (sDv _ _); exact (like_zdev _ _); exact (oDv _ _))
 clear bR
 refine bodyPost_ret (v := .tuple #[.agg (dvC h' r.1), .int .i64 r.2]) ?_ rfl ?_
 · exact res_ct (fn := Tryz.f35) (p := 1) (a := 2) rfl rfl rfl (HG.out.get 0 rfl) Tryz.underlying37 rfl (sDv _ _)
 · exact ⟨h', rfl, HG.out.below, HG.out.newR 0 rfl⟩
def GivesIm (w : World) (e : Ending) (w' : World) : Prop :=
 ∃ B A0 A1 A2, e = .returned (.slice (some ⟨B, 0, none⟩) 3 3) ∧ w'.heap[B]? = some (.cells #[.slice A0 8 8, .slice A1 9 9, .slice A2 11 11] 22 (0, 0)) ∧ BS w' A0 8 8 Inst.im0 ∧ BS w' A1 9 9 Inst.im1 ∧ w.heap.size ≤ B ∧ Below w.heap.size w w'
theorem images_any (w : World) : Calls Tryz.prog 46 #[] w (GivesIm w) := by
 have kc := fun (w : World) (C : Array Value) (n c : Nat) => Lib.run_convert_bytes_const (P := Tryz.prog) w 22 5 C n c Tryz.underlying22 Tryz.underlying5
 have sz : ∀ (w : World) (o : Obj), (w.alloc o).heap.size = w.heap.size + 1 := fun w o => by simp
 have kc2 : ∀ (w : World) (o : Obj) (C : Array Value) (n c : Nat), (convert 22 22 (.slice (some ⟨w.heap.size + 1, 0, none⟩) n c)).run Tryz.prog ((w.alloc o).alloc (.cells C 5)) = .ok (.slice (some ⟨w.heap.size + 1, 0, none⟩) n c) ((w.alloc o).alloc (.cells C 5 (C.size, C.size + 1))) := fun w o C n c => by
   have := kc (w.alloc o) C n c
   rwa [sz] at this
 have kc3 : ∀ (w : World) (o o' : Obj) (C : Array Value) (n c : Nat), (convert 22 22 (.slice (some ⟨w.heap.size + 1 + 1, 0, none⟩) n c)).run Tryz.prog (((w.alloc o).alloc o').alloc (.cells C 5)) = .ok (.slice (some ⟨w.heap.size + 1 + 1, 0, none⟩) n c) (((w.alloc o).alloc o').alloc (.cells C 5 (C.size, C.size + 1))) := fun w o o' C n c => by
   have := kc ((w.alloc o).alloc o') C n c
   rwa [sz, sz] at this
 have l1 := lit_bs_marked w [97, 98, 99, 100, 101, 102, 103, 104] 8 (8, 9) rfl (by omega) (by decide)
 have l2 := lit_bs_marked (w.alloc (.cells (([97, 98, 99, 100, 101, 102, 103, 104] : List Int).map (Value.int .u8)).toArray 5 (8, 9))) [120, 101, 102, 103, 104, 97, 98, 99, 100] 9 (9, 10) rfl (by omega) (by decide)
 have SZ := LH sz
 have HL := LH (And.intro l1 l2)
 clear sz l1 l2 kc
 have kc := fun (w : World) (C : Array Value) (n c : Nat) => Lib.run_convert_bytes_const (P := Tryz.prog) w 22 5 C n c Tryz.underlying22 Tryz.underlying5
 go_enter Tryz.func46, Tryz.ntmps46
 go_wp2_with fail
 go_ret
 have hb : ∀ (v : World) (o1 o2 o3 : Obj), Below v.heap.size v (((v.alloc o1).alloc o2).alloc o3) := fun v o1 o2 o3 => (((Below.refl _ _).alloc (Nat.le_refl _) o1).alloc (by rw [SZ.out]; omega) o2).alloc (by rw [SZ.out, SZ.out]; omega) o3
 have hb2 : ∀ (v : World) (o1 o2 : Obj), Below v.heap.size v ((v.alloc o1).alloc o2) := fun v o1 o2 => ((Below.refl _ _).alloc (Nat.le_refl _) o1).alloc (by rw [SZ.out]; omega) o2
 have h2 := HL.out.2
 rw [SZ.out] at h2
 refine ⟨w.heap.size + 1 + 1 + 1, some ⟨w.heap.size, 0, none⟩, some ⟨w.heap.size + 1, 0, none⟩, some ⟨w.heap.size + 1 + 1, 0, none⟩, rfl, ?_, HL.out.1.later (hb _ _ _ _), h2.later (hb2 _ _ _), by omega, (hb w _ _ _).alloc (by rw [SZ.out, SZ.out, SZ.out]; omega) _⟩
 rw [hpA, if_pos (by rw [SZ.out, SZ.out, SZ.out])]
theorem put_all (h : DevH) (d : DevR) : putAt zDev 0 (dvC h d).toList = dvC h d := by kernel_rfl
theorem newD_many (a : Option Addr) (n c : Nat) (l : List Int) (w : World) (hb : BS w a n c l) (hn : 64 < n) : Calls Tryz.prog 7 #[.slice a n c] w (GDv (DevM.noDev, 1) w) := by
 have _hb := hb
 clear _hb
 have t1 : decide ((n : Int) > 64) = true := by simp; omega
 clear hb hn
 obtain ⟨P1, hP1⟩ : ∃ P, w.heap.size = P := ⟨_, rfl⟩
 have HS := LH ((MS.start w).alloc (p := P1) (by simp [hP1]) zDev 37)
 go_enter Tryz.func7, Tryz.ntmps7
 go_upto_region 1 with fail
 refine wp_gen HS.out (fun V0 HS1 => ?_)
 replace HS := LH HS1
 clear HS1 hP1
 replace HS := LH (MH.of HS.out)
 have bP1 := HS.out.get 0 rfl
 simp only at bP1
 have HG := LH (HS.out.set 0 rfl zDev)
 go_wp2_with (first
   | ((with_reducible show wpList _ _ _ _ _ _); refine wpList_store_row rfl 37 (.tmp 2) (.tmp 8) rfl P1 zDev rfl rfl 37 zDev ?_ ?_ ?_ ?_ ?_; exact bP1; exact size_zdev; exact like_zz; exact one_zdev))
 clear bP1
 refine bodyPost_ret (v := .tuple #[.agg zDev, .int .i64 1]) ?_ rfl ?_
 · exact res_ct (fn := Tryz.f7) (p := 2) (a := 3) rfl rfl rfl (HG.out.get 0 rfl) Tryz.underlying37 rfl size_zdev
 · exact GDv.bad HG.out.below
theorem newD_few (a : Option Addr) (n c : Nat) (l : List Int) (w : World) (hb : BS w a n c l) (hn : n ≤ 64) : Calls Tryz.prog 7 #[.slice a n c] w (GDv ((⟨DevM.fill l, DevM.fill [], ⟨⟨true, (⟨1, 0, false, 0, 1, (⟨1, n, SumM.addL 1 l⟩ : InfR), RecM.noInf⟩ : RecR)⟩, RecM.noCop⟩, true, 0, [], false, noPat, 0⟩ : DevR), 0) w) := by
 have t1 : decide ((n : Int) > 64) = false := by simp; omega
 have HB := LH hb
 have HSm : Hid (∀ W, BS W a n c l → Calls Tryz.prog 36 #[.slice a n c] W fun e w' => e = .returned (.int .i64 (SumM.addL 1 l)) ∧ W = w') := fun W h => of_any a n c l W h
 have HFl : Hid (∀ W F, W.heap.size = F → BS W a n c l → Calls Tryz.prog 37 #[.slice a n c] W fun e w' => e = .returned (.slice (some ⟨F, 0, none⟩) 64 64) ∧ w' = W.alloc (.cells (fillC l) 5)) := fun W F hF hb => by
   subst hF
   exact filledD_any a n c l W hb (by omega)
 have HFn : Hid (∀ W F, W.heap.size = F → Calls Tryz.prog 37 #[.slice none 0 0] W fun e w' => e = .returned (.slice (some ⟨F, 0, none⟩) 64 64) ∧ w' = W.alloc (.cells (fillC []) 5)) := fun W F hF => by
   subst hF
   exact filledD_any none 0 0 [] W (BS.nil_ W) (by omega)
 have HLl := LH hb.len
 have HNn := LH hn
 clear hb hn
 obtain ⟨P1, hP1⟩ : ∃ P, w.heap.size = P := ⟨_, rfl⟩
 have HS := LH ((MS.start w).alloc (p := P1) (by simp [hP1]) zDev 37)
 go_enter Tryz.func7, Tryz.ntmps7
 go_upto_region 1 with fail
 refine wp_gen HS.out (fun V0 HS1 => ?_)
 replace HS := LH HS1
 clear HS1 hP1
 replace HS := LH (MH.of HS.out)
 obtain ⟨P3, hP3⟩ : ∃ P, V0.heap.size = P := ⟨_, rfl⟩
 replace HS := LH (HS.out.alloc hP3 (rcC (⟨1, 0, false, 0, 1, RecM.noInf, RecM.noInf⟩ : RecR)) 28)
 go_upto_region 4 with ((with_reducible show wpList _ _ _ _ _ _); refine wSN rfl 28 (.tmp 4) (.tmp 9) rfl P3 (rcC (⟨1, 0, false, 0, 1, RecM.noInf, RecM.noInf⟩ : RecR)) rfl rfl 28 _ ?_ ?_ ?_ ?_ ?_; exact hP3.symm; exact (sRc (⟨1, 0, false, 0, 1, RecM.noInf, RecM.noInf⟩ : RecR)); exact (lRc (⟨1, 0, false, 0, 1, RecM.noInf, RecM.noInf⟩ : RecR)); exact (oRc (⟨1, 0, false, 0, 1, RecM.noInf, RecM.noInf⟩ : RecR)))
 refine gnH HS.out (fun V1 HS1 => ?_)
 replace HS := LH HS1
 clear HS1 hP3
 go_wp2_with fail
 refine (HSm.out _ (HB.out.later HS.out.below)).mono ?_
 rintro e W9 ⟨rfl, rfl⟩
 have HS2 := LH (HS.out.cells 0 rfl (put_inf0 1 0 false 0 1 RecM.noInf RecM.noInf (⟨1, n, SumM.addL 1 l⟩ : InfR)))
 go_upto_region 5 with (first
   | ((with_reducible show wpList _ _ _ _ _ _); refine wpList_store_mid rfl 25 (.tmp 16) (.tmp 14) rfl P3 5 #[Value.int .i64 1, .int .i64 n, .int .i64 (SumM.addL 1 l)] rfl rfl ?_ ?_ ?_ ?_; exact HS.out.ms.there 0 rfl (by show 8 ≤ 11; decide); exact size_inf (⟨1, n, SumM.addL 1 l⟩ : InfR); exact one_inf (⟨1, n, SumM.addL 1 l⟩ : InfR); refine glH HS2.out (fun V3 HS1 => ?_)))
 replace HS := LH HS1
 clear HS1 HS2
 replace HS := LH HS.out.drew
 refine rTu (S := MS w [(P3, (rcC (⟨1, 0, false, 0, 1, (⟨1, n, SumM.addL 1 l⟩ : InfR), RecM.noInf⟩ : RecR)), 28)] [] []) [(0, false), (4, false), (5, false), (6, false), (1, true), (2, true), (3, false), (7, false), (8, true), (9, false)] false 9999 (by kernel_rfl) (by kernel_rfl) (HS.out.ms.sub (List.sublist_append_left [(P3, (rcC (⟨1, 0, false, 0, 1, (⟨1, n, SumM.addL 1 l⟩ : InfR), RecM.noInf⟩ : RecR)), 28)] [(P1, _, 37)])) ?_
 simp only [turned, gA, gB, gC]
 refine tSt ?_ (by rfl) (fun W9 hW9 => ?_) ?_
 rotate_left
 · (go_simp <;> with_reducible rfl)
 simp only [Act.put, sA, sB, sC]
 refine turn_row (by rfl) 28 (.tmp 4) rfl P3 rfl 28 (rcC (⟨1, 0, false, 0, 1, (⟨1, n, SumM.addL 1 l⟩ : InfR), RecM.noInf⟩ : RecR)) _ (fun W hW => hW.get 0 rfl) Tryz.underlying28 rfl (sRc (⟨1, 0, false, 0, 1, (⟨1, n, SumM.addL 1 l⟩ : InfR), RecM.noInf⟩ : RecR)) ?_
 simp only [Act.put, sA, sB, sC]
 refine tSt (.agg #[.bool true, .int .i64 1, .int .i64 0, .bool false, .int .i64 0, .int .i64 1, .int .i64 1, .int .i64 n, .int .i64 (SumM.addL 1 l), .int .i64 0, .int .i64 0, .int .i64 0]) (by rfl) (fun W9 _ => by kernel_rfl) ?_
 simp only [Act.put, sA, sB, sC]
 refine tSt (.agg (cpC ⟨⟨true, (⟨1, 0, false, 0, 1, (⟨1, n, SumM.addL 1 l⟩ : InfR), RecM.noInf⟩ : RecR)⟩, RecM.noCop⟩)) (by rfl) (fun W9 _ => by kernel_rfl) ?_
 simp only [Act.put, sA, sB, sC]
 obtain ⟨F0, hF0⟩ : ∃ F, (V3.drew).heap.size = F := ⟨_, rfl⟩
 refine tCa (fun K hK => ?_)
 go_simp
 go_at_call 37
 with_reducible refine (HFl.out _ F0 hF0 (HB.out.later HS.out.below)).mono ?_
 rintro e W9 ⟨rfl, rfl⟩
 replace HS := LH (HS.out.alloc hF0 (fillC l) 5)
 clear hF0
 try go_wp2_with fail
 refine hK.out _ _ (HS.out.ms.sub (.cons _ (List.sublist_append_left [(P3, (rcC (⟨1, 0, false, 0, 1, (⟨1, n, SumM.addL 1 l⟩ : InfR), RecM.noInf⟩ : RecR)), 28)] [(P1, _, 37)]))) ?_
 clear hK K
 try simp only [Act.put, sA, sB, sC]
 refine turn_gen HS.out (fun U0 HS1 => ?_)
 replace HS := LH HS1
 clear HS1
 repeat (first
   | (refine tSt ?_ (by rfl) (fun W9 hW9 => ?_) ?_
      rotate_left
      · (go_simp <;> with_reducible rfl)
      simp only [Act.put, sA, sB, sC])
   | (refine tSk (by rfl) ?_; simp only [Act.put, sA, sB, sC]))
 obtain ⟨F1, hF1⟩ : ∃ F, (U0).heap.size = F := ⟨_, rfl⟩
 refine tCa (fun K hK => ?_)
 go_simp
 go_at_call 37
 with_reducible refine (HFn.out _ F1 hF1).mono ?_
 rintro e W9 ⟨rfl, rfl⟩
 replace HS := LH (HS.out.alloc hF1 (fillC []) 5)
 clear hF1
 try go_wp2_with fail
 refine hK.out _ _ (HS.out.ms.sub (.cons _ (.cons _ (List.sublist_append_left [(P3, (rcC (⟨1, 0, false, 0, 1, (⟨1, n, SumM.addL 1 l⟩ : InfR), RecM.noInf⟩ : RecR)), 28)] [(P1, _, 37)])))) ?_
 clear hK K
 try simp only [Act.put, sA, sB, sC]
 refine turn_gen HS.out (fun U1 HS1 => ?_)
 replace HS := LH HS1
 clear HS1
 refine tSt ?_ (by rfl) (fun W9 hW9 => ?_) ?_
 rotate_left
 · (go_simp <;> with_reducible rfl)
 simp only [Act.put, sA, sB, sC]
 refine tSt (.agg (dvC (⟨some ⟨F0, 0, none⟩, 64, 64, some ⟨F1, 0, none⟩, 64, 64, none, 0, 0, none, 0, 0⟩ : DevH) (⟨DevM.fill l, DevM.fill [], ⟨⟨true, (⟨1, 0, false, 0, 1, (⟨1, n, SumM.addL 1 l⟩ : InfR), RecM.noInf⟩ : RecR)⟩, RecM.noCop⟩, true, 0, [], false, noPat, 0⟩ : DevR))) (by rfl) (fun W9 _ => by kernel_rfl) ?_
 simp only [Act.put, sA, sB, sC]
 have HS2 := LH (HS.out.cells 3 rfl (put_all (⟨some ⟨F0, 0, none⟩, 64, 64, some ⟨F1, 0, none⟩, 64, 64, none, 0, 0, none, 0, 0⟩ : DevH) (⟨DevM.fill l, DevM.fill [], ⟨⟨true, (⟨1, 0, false, 0, 1, (⟨1, n, SumM.addL 1 l⟩ : InfR), RecM.noInf⟩ : RecR)⟩, RecM.noCop⟩, true, 0, [], false, noPat, 0⟩ : DevR)))
 refine tCa (fun K hK => ?_)
 refine wp_store_cellsO (by rfl) 37 (.tmp 2) (.tmp 24) rfl P1 0 (dvC (⟨some ⟨F0, 0, none⟩, 64, 64, some ⟨F1, 0, none⟩, 64, 64, none, 0, 0, none, 0, 0⟩ : DevH) (⟨DevM.fill l, DevM.fill [], ⟨⟨true, (⟨1, 0, false, 0, 1, (⟨1, n, SumM.addL 1 l⟩ : InfR), RecM.noInf⟩ : RecR)⟩, RecM.noCop⟩, true, 0, [], false, noPat, 0⟩ : DevR)) rfl rfl (HS.out.ms.there 3 rfl (by show 37 ≤ 37; decide)) (sDv _ _) (oDv _ _) ?_
 refine hK.out _ _ (HS2.out.ms.sub (.cons _ (.cons _ (List.sublist_append_left [(P3, (rcC (⟨1, 0, false, 0, 1, (⟨1, n, SumM.addL 1 l⟩ : InfR), RecM.noInf⟩ : RecR)), 28)] [(P1, _, 37)])))) ?_
 clear hK K
 try simp only [Act.put]
 refine turn_gen HS2.out (fun U2 HS1 => ?_)
 replace HS := LH HS1
 clear HS1 HS2
 repeat (first
   | (refine tSt ?_ (by rfl) (fun W9 hW9 => ?_) ?_
      rotate_left
      · (go_simp <;> with_reducible rfl)
      simp only [Act.put, sA, sB, sC])
   | (refine tSk (by rfl) ?_; simp only [Act.put, sA, sB, sC]))
 refine tEn ?_
 go_wp2_with fail
 refine bodyPost_ret (v := .tuple #[.agg (dvC (⟨some ⟨F0, 0, none⟩, 64, 64, some ⟨F1, 0, none⟩, 64, 64, none, 0, 0, none, 0, 0⟩ : DevH) (⟨DevM.fill l, DevM.fill [], ⟨⟨true, (⟨1, 0, false, 0, 1, (⟨1, n, SumM.addL 1 l⟩ : InfR), RecM.noInf⟩ : RecR)⟩, RecM.noCop⟩, true, 0, [], false, noPat, 0⟩ : DevR)), .int .i64 0]) ?_ rfl ?_
 · exact res_ct (fn := Tryz.f7) (p := 2) (a := 3) rfl rfl rfl (HS.out.get 3 rfl) Tryz.underlying37 rfl (sDv _ _)
 · have g0 := HS.out.get 1 rfl
   have g1 := HS.out.get 0 rfl
   simp only at g0 g1
   have b0 : w.heap.size ≤ F0 := HS.out.ms.base (F0, fillC l, 5) (by simp)
   have b1 : w.heap.size ≤ F1 := HS.out.ms.base (F1, fillC [], 5) (by simp)
   have c0 := HS.out.ms.lt (q := (F0, fillC l, 5)) (by simp)
   have c1 := HS.out.ms.lt (q := (F1, fillC [], 5)) (by simp)
   refine ⟨(⟨some ⟨F0, 0, none⟩, 64, 64, some ⟨F1, 0, none⟩, 64, 64, none, 0, 0, none, 0, 0⟩ : DevH), rfl, HS.out.below, fun V v1 v2 => ?_⟩
   have hl := HLl.out
   have hn := HNn.out
   have hs := SumM.addL_bd l 1 (by omega) (by omega)
   refine ⟨fillC_bs ((v2 F0 b0 c0).trans g0) (by omega) HB.out.bytes, fillC_bs ((v2 F1 b1 c1).trans g1) (by show (0 : Nat) ≤ 64; omega) (fun x hx => by cases hx), CS.nil_ _, OS.nil_ _, ⟨?_, noRec_w⟩, i64_zero, noPat_w, i64_zero⟩
   unfold RecW InfW I64 RecM.noInf
   simp only
   omega
theorem newD_any (a : Option Addr) (n c : Nat) (l : List Int) (w : World) (hb : BS w a n c l) : Calls Tryz.prog 7 #[.slice a n c] w (GDv (DevM.newOf l) w) := by
 unfold DevM.newOf
 have hl := hb.len
 by_cases h : 64 < l.length
 · rw [if_pos h]
   exact newD_many a n c l w hb (by omega)
 · rw [if_neg h, hl]
   exact newD_few a n c l w hb (by omega)
end Go.Proofs.YtmpmaljkmfgagacGreat
namespace Go.Proofs.YtmpmaljkmfgagacGreat
open Go.RowKit Go.Shelf
attribute [local go_sem] Oper.semAt_some
abbrev HeadV : Type := Option Addr × Nat × Nat
def HeadV.v (x : HeadV) : Value := .slice x.1 x.2.1 x.2.2
def partK (a : Option Addr) (n k : Nat) : HeadV := (a.map (·.add (k * 16)), min 16 (n - k * 16), min 16 (n - k * 16))
def partsTo (a : Option Addr) (n k : Nat) : List HeadV := (List.range k).map (partK a n)
theorem partsTo_succ (a : Option Addr) (n k : Nat) : partsTo a n (k + 1) = partsTo a n k ++ [partK a n k] := by simp [partsTo, List.range_succ]
theorem partsTo_length (a : Option Addr) (n k : Nat) : (partsTo a n k).length = k := by simp [partsTo]
theorem run_cut_lhm (a : Option Addr) (n c : Nat) (W : World) (k h : Nat) (hk : k < h) (hh : h ≤ c) : (Instr.slice 22 (.slice a n c) (some (.int .i64 (k : Int))) (some (.int .i64 (h : Int))) (some (.int .i64 (h : Int)))).run Tryz.prog W = .ok (.slice (a.map (·.add k)) (h - k) (h - k)) W := by
 have ht : Tryz.prog.underlying 22 = some (.slice (Tryz.prog.elem 22)) := by simp [Program.elem, Tryz.underlying22]
 have he : Tryz.prog.elem 22 = 5 := by simp [Program.elem, Tryz.underlying22]
 have hne : h ≠ k := by omega
 rw [run_slice_lhm W 22 _ _ _ ht .i64 .i64 .i64 _ _ _ (by omega) (by omega) (by omega) (by omega), he, size_run_u8]
 simp [Result.andThen, sliced, hne]
theorem chunk1_in (F : Fence) (n : Nat) (h7 : F.fn 129) (hro : F.round = none) (hn : 1 ≤ n) (l Bs Bn n₀ : Nat) (a : Option Addr) (len cap : Nat) (hlen : len ≤ cap) (hcap : len ≤ 1000000) (hBs : Bs < n₀) (hBn : Bn < n₀) (J Jx : List HeadV → World → Prop) (B : Nat) (hJ : AbidesFrom B J)
   (hY : ∀ pre x W, J pre W → pre.length < (len + 15) / 16 → YieldAt F (n - 1) Tryz.prog l #[HeadV.v x] W fun e W' =>
     (e = .returned (.bool true) ∧ J (pre ++ [x]) W' ∧ Below n₀ W W') ∨ (e = .returned (.bool false) ∧ Jx (pre ++ [x]) W'))
   (W : World) (hcs : W.cell? ⟨Bs, 0, none⟩ = some (.slice a len cap)) (hcn : W.cell? ⟨Bn, 0, none⟩ = some (.int .i64 16)) (h0 : J [] W) :
   CallsIn F n Tryz.prog 129 #[.func (.yield l) #[] #[], .pointer (some ⟨Bs, 0, none⟩), .pointer (some ⟨Bn, 0, none⟩)] W fun e W' => (∃ v, e = .returned v) ∧
     ((∃ ys, ys = partsTo a len ((len + 15) / 16) ∧ J ys W') ∨ (∃ pre, (∃ k, k ≤ (len + 15) / 16 ∧ pre = partsTo a len k) ∧ Jx pre W')) := by
 refine callsIn_of_wp Tryz.func129 rfl h7 ?_ hro
 simp only [Tryz.ntmps129, List.size_toArray, List.length_cons, List.length_nil, Nat.reduceAdd, Nat.reduceSub, Array.replicate_succ, Array.replicate_zero, List.push_toArray, List.append_toArray, List.nil_append, List.cons_append]
 gi_wp2
 gi_loopw [4] (fun i wr => ∃ k : Nat, k ≤ (len + 15) / 16 ∧ i = .int .i64 ((k * 16 : Nat) : Int) ∧ J (partsTo a len k) wr ∧ Below n₀ W wr)
   (fun i _ => len + 16 - (intOf i).toNat)
 case atStart => exact ⟨0, Nat.zero_le _, rfl, h0, Below.refl _ _⟩
 case round =>
   obtain ⟨k, hk, rfl, hJs, hnx⟩ := hrel
   have qs := (hnx.cell (p := ⟨Bs, 0, none⟩) hBs).trans hcs
   have qn := (hnx.cell (p := ⟨Bn, 0, none⟩) hBn).trans hcn
   obtain ⟨I, hI⟩ : ∃ I : Nat, k * 16 = I := ⟨_, rfl⟩
   rw [hI]
   by_cases hlt : I < len
   · have hJd := hJ _ wr wr.drew none hJs ⟨rfl, rfl, rfl, Nat.le_refl _, fun _ _ _ => rfl⟩ (fun r e => by cases e)
     have hnd : Below n₀ W wr.drew := hnx.drew
     obtain ⟨fn, tmps, assign, body, hy, hR⟩ := hY _ (partK a len k) wr.drew hJd (by rw [partsTo_length]; omega)
     obtain ⟨M, hM⟩ : ∃ M : Nat, len - I = M := ⟨_, rfl⟩
     obtain ⟨E, hE⟩ : ∃ E : Nat, (if (M : Int) < 16 then (M : Int) else 16) = E := ⟨min 16 M, by split <;> omega⟩
     have hE2 : min 16 (len - I) = E := by rw [hM]; split at hE <;> omega
     have hE6 : min (16 : Int) (M : Int) = E := by split at hE <;> omega
     have hE7 : min (M : Int) (16 : Int) = E := by split at hE <;> omega
     obtain ⟨H, hH⟩ : ∃ H : Nat, (I : Int) + (E : Int) = H := ⟨I + E, by omega⟩
     have hE3 : 0 < E := by omega
     have hHc : H ≤ cap := by omega
     have hHI : H - I = E := by omega
     have hcut1 : ∀ W, (Instr.slice 22 (.slice a len cap) (some (.int .i64 (I : Int))) none none).run Tryz.prog W = .ok (.slice (cutA a cap I) M (cap - I)) W := fun W => by rw [run_cut_l a len cap W I (by omega), hM]
     have hcut2 : ∀ W, (Instr.slice 22 (.slice a len cap) (some (.int .i64 (I : Int))) (some (.int .i64 (H : Int))) (some (.int .i64 (H : Int)))).run Tryz.prog W = .ok (.slice (a.map (·.add I)) E E) W := fun W => by rw [run_cut_lhm a len cap W I H (by omega) hHc, hHI]
     have hpk : (partK a len k).v = .slice (a.map (·.add I)) E E := by unfold partK HeadV.v; simp only; rw [hI, hE2]
     rw [hpk] at hy
     generalize cutA a cap I = A1 at hcut1
     generalize a.map (·.add I) = A2 at hcut2 hpk hy
     gi_wp2
     gi_region
     all_goals
       clear hJs hnx
       gi_wp2
       refine hR.mono ?_
       rintro e W3 (⟨rfl, hJ3, hk3⟩ | ⟨rfl, hJx3⟩)
       · have qn3 := (hk3.cell (p := ⟨Bn, 0, none⟩) hBn).trans ((hnd.cell (p := ⟨Bn, 0, none⟩) hBn).trans hcn)
         gi_wp2
         go_roundw
         case rel => exact ⟨k + 1, by omega, by rw [← hI]; congr 1; omega, by rw [partsTo_succ]; exact hJ3, hnd.trans hk3⟩
         case measure => simp [intOf]; omega
       · gi_wp2
         refine bodyPost_ret (results_none rfl _ _ _) rfl ?_
         exact ⟨⟨_, rfl⟩, .inr ⟨_, ⟨k + 1, by omega, (partsTo_succ _ _ _).symm⟩, hJx3⟩⟩
   · obtain rfl : k = (len + 15) / 16 := by omega
     gi_wp2
     go_end0
     exact ⟨⟨_, rfl⟩, .inl ⟨_, rfl, hJs⟩⟩
end Go.Proofs.YtmpmaljkmfgagacGreat
namespace Go.Proofs.YtmpmaljkmfgagacGreat
open Go.RowKit Go.Shelf
attribute [local go_sem] Oper.semAt_some
theorem partsTo_prefix (a : Option Addr) (n : Nat) {k m : Nat} (h : k ≤ m) : partsTo a n k <+: partsTo a n m := by
 refine ⟨((List.range m).drop k).map (partK a n), ?_⟩
 unfold partsTo
 rw [← List.map_append]
 congr 1
 have := List.take_append_drop k (List.range m)
 rwa [List.take_range, show min k m = k by omega] at this
theorem chunk_stops (F : Fence) (n : Nat) (h7 : F.fn 129) (hro : F.round = none) (hn : 1 ≤ n) (Bs Bn n₀ : Nat) (a : Option Addr) (len cap : Nat) (hlen : len ≤ cap) (hcap : len ≤ 1000000) (w : World) (hBs : Bs < n₀) (hBn : Bn < n₀) (hn₀ : n₀ ≤ w.heap.size)
   (hcs : w.cell? ⟨Bs, 0, none⟩ = some (.slice a len cap)) (hcn : w.cell? ⟨Bn, 0, none⟩ = some (.int .i64 16)) :
   SeqStopsK F n Tryz.prog 129 #[.pointer (some ⟨Bs, 0, none⟩), .pointer (some ⟨Bn, 0, none⟩)] (fun x : HeadV => #[HeadV.v x]) (Below n₀) (fun ys => ys = partsTo a len ((len + 15) / 16)) (fun pre => pre <+: partsTo a len ((len + 15) / 16)) ((len + 15) / 16) w := fun l J Jx W hW hJ _ hY h0 => by
 refine (chunk1_in F n h7 hro hn l Bs Bn n₀ a len cap hlen hcap hBs hBn J Jx _ hJ hY W ((hW.cell (p := ⟨Bs, 0, none⟩) (by show Bs < _; omega)).trans hcs) ((hW.cell (p := ⟨Bn, 0, none⟩) (by show Bn < _; omega)).trans hcn) h0).mono ?_
 rintro e W' ⟨he, ⟨ys, rfl, hj⟩ | ⟨pre, ⟨k, hk, rfl⟩, hj⟩⟩
 · exact ⟨he, .inl ⟨_, rfl, hj⟩⟩
 · exact ⟨he, .inr ⟨_, partsTo_prefix a len hk, hj⟩⟩
theorem Tryz.info_bs : (Tryz.prog.info? 22).map (fun i => (i.zero, i.size, i.bytes)) = some (some (.slice none 0 0), 1, 24) := by kernel_rfl
theorem appendSeq_in (F : Fence) (n : Nat) (h3 : F.fn 128) (h5 : F.fn 129) (hro : F.round = none) (hn : 3 ≤ n) (Bs Bn : Nat) (a : Option Addr) (len cap : Nat) (hlen : len ≤ cap) (hcap : len ≤ 1000000) (w : World) (hBs : Bs < w.heap.size) (hBn : Bn < w.heap.size)
   (hcs : w.cell? ⟨Bs, 0, none⟩ = some (.slice a len cap)) (hcn : w.cell? ⟨Bn, 0, none⟩ = some (.int .i64 16)) :
   CallsIn F n Tryz.prog 128 #[.slice none 0 0, .func (.func 129) #[] #[.pointer (some ⟨Bs, 0, none⟩), .pointer (some ⟨Bn, 0, none⟩)]] w fun e W' => ∃ v, e = .returned v ∧ W'.ownsRow w.heap.size 22 1 v ((len + 15) / 16) ((partsTo a len ((len + 15) / 16)).map HeadV.v) ∧ Below w.heap.size w W' := by
 have h1 : 1 ≤ n := by omega
 obtain ⟨i0, hi, hz0, hz1, hz2⟩ := info_parts Tryz.info_bs
 refine callsIn_of_wp_marks Tryz.func128 rfl h3 ?_ hro
 simp only [Tryz.ntmps128, List.size_toArray, List.length_cons, List.length_nil, Nat.reduceAdd, Nat.reduceSub, Array.replicate_succ, Array.replicate_zero, List.push_toArray, List.append_toArray, List.nil_append, List.cons_append]
 gi_wp2
 have bO := Boxed.new w 80 (.slice none 0 0)
 have hB0 : Below w.heap.size w (w.alloc (.cells #[.slice none 0 0] 80)) := (Below.refl _ w).alloc (Nat.le_refl _) _
 refine wpIn_rangeFunc_ownG hro h1 (gf := 129) (lb := #[.pointer (some ⟨Bs, 0, none⟩), .pointer (some ⟨Bn, 0, none⟩)]) rfl h5 (enters_of Tryz.func129 (by kernel_rfl) rfl)
   (chunk_stops F (n - 1) h5 hro (by omega) Bs Bn w.heap.size a len cap hlen hcap _ hBs hBn hB0.size ((hB0.cell (p := ⟨Bs, 0, none⟩) hBs).trans hcs) ((hB0.cell (p := ⟨Bn, 0, none⟩) hBn).trans hcn)) belowK_t (belowK_b (by simp)) (Below.refl _ _) (fun _ => rfl)
   (fun pre W => (∃ v, Boxed W w.heap.size 80 v ∧ W.ownsRow w.heap.size 22 1 v pre.length (pre.map HeadV.v) ∧ True) ∧ Below w.heap.size w W)
   (fun _ _ _ => False)
   (OwnFrom.and (Own.from (holdsRow_own w.heap.size w.heap.size 80 22 1 (fun pre : List HeadV => pre.length) (fun pre => pre.map HeadV.v) (fun _ _ => True)) _) (ownFrom_below (Nat.le_refl _) (by simp)))
   (fun _ _ _ _ _ hs _ _ => hs)
   ⟨⟨_, bO, World.ownsRow_nil _ _ _ _, trivial⟩, hB0⟩
   (fun x => { tmps := #[.slice none 0 0, .func (.func 129) #[] #[.pointer (some ⟨Bs, 0, none⟩), .pointer (some ⟨Bn, 0, none⟩)], .pointer (some ⟨w.heap.size, 0, none⟩), undef, .slice none 0 0, .slice x.1 x.2.1 x.2.2, .func (.func 129) #[] #[.pointer (some ⟨Bs, 0, none⟩), .pointer (some ⟨Bn, 0, none⟩)], .slice x.1 x.2.1 x.2.2, undef, undef, undef, undef, undef], defers := [] }) ?assign ?body ?done ?stop
 case assign =>
   intro l x W K hK
   gi_wp2
   exact hK
 case body =>
   rintro l pre ⟨xa, xn, xc⟩ W ⟨⟨v, hv, hrow, -⟩, hB⟩ hlt
   simp only
   have hc := hv.cell
   gi_wp2_with (gi_at_builtin; refine wpListIn_append_own _ rfl _ _ 80 rfl w.heap.size 22 i0 (.slice none 0 0) 1 24 Tryz.underlying80 hi hz0 hz1 hz2 rfl (by decide) _ _ _ rfl (hrow.alloc _) ⟨W.heap.size, 0, none⟩ 1 1 [.slice xa xn xc] rfl rfl (cell_one_new _ _ _) (by simp [Value.oneCell']) (by unfold maxLen; omega) (by omega) (by have := hB.size; simp; omega) ?_; intro v' w1 hown' hgrow _; obtain ⟨g', cap', rfl⟩ := ownsRow_succ hown'; obtain ⟨hv1, hv2, hr2, hk2, hb2⟩ := hv.appended (by decide) hrow hB.size (Nat.le_refl _) hown' hgrow; have hc1 := hv1.cell; have hf1 := hv1.frozen)
   exact ⟨hk2.from _, hb2, ⟨_, hv2, by simpa [HeadV.v] using hr2, trivial⟩, hB.trans hb2⟩
 case done =>
   rintro D ys W hD rfl ⟨⟨v, hv, hrow, -⟩, hB⟩ hK
   have hc := hv.cell
   gi_wp2
   refine ⟨by simp, .inl ⟨_, _, rfl, run_takeDeferred hK, ?_⟩⟩
   rw [partsTo_length] at hrow
   exact ⟨_, results_tmp rfl _ _ _, v, rfl, ownsRow_putObj hrow _ hK rfl, hB.trans (belowK_b (w := w) (Nat.le_refl _) W D _ _ (by simp at hD; omega) hK rfl rfl)⟩
 case stop =>
   rintro D c pre W _ _ h _
   exact h.elim
theorem appendSeq_any (Bs Bn : Nat) (a : Option Addr) (len cap : Nat) (hlen : len ≤ cap) (hcap : len ≤ 1000000) (w : World) (hBs : Bs < w.heap.size) (hBn : Bn < w.heap.size)
   (hcs : w.cell? ⟨Bs, 0, none⟩ = some (.slice a len cap)) (hcn : w.cell? ⟨Bn, 0, none⟩ = some (.int .i64 16)) :
   Calls Tryz.prog 128 #[.slice none 0 0, .func (.func 129) #[] #[.pointer (some ⟨Bs, 0, none⟩), .pointer (some ⟨Bn, 0, none⟩)]] w fun e W' => ∃ v, e = .returned v ∧ W'.ownsRow w.heap.size 22 1 v ((len + 15) / 16) ((partsTo a len ((len + 15) / 16)).map HeadV.v) ∧ Below w.heap.size w W' :=
 (callsIn_wide (n := 3)).1 (appendSeq_in Fence.wide 3 trivial trivial rfl (by omega) Bs Bn a len cap hlen hcap w hBs hBn hcs hcn)
end Go.Proofs.YtmpmaljkmfgagacGreat
namespace Go.Proofs.YtmpmaljkmfgagacGreat
open Go.RowKit
theorem alike_any (a : Option Addr) (n c : Nat) (l : List Int) (w : World) (hr : BS w a n c l) (hp : 0 < n) :
   Calls Tryz.prog 130 #[.slice a n c] w fun e w' => e = .returned (.int .i64 (PackM.run l)) ∧ DrewN w w' := by
 have hlen : n ≤ 9223372036854775807 := by have := hr.le; have := hr.max; omega
 have hl := LH hr.len
 have hcells := hr.cells
 clear hr
 go_enter Tryz.func130, Tryz.ntmps130
 go_wp2
 go_loopw [3] (fun i wr => ∃ k : Nat, 1 ≤ k ∧ k ≤ n ∧ k ≤ 127 ∧ i = .int .i64 k ∧ Hid (∀ j, j < k → l[j]?.getD 0 = l[0]?.getD 0) ∧ DrewN w wr) (fun i _ => 127 - (intOf i).toNat)
 case atStart => exact ⟨1, by omega, by omega, by omega, rfl, LH (fun j hj => by rw [show j = 0 by omega]), 0, rfl⟩
 case round =>
   obtain ⟨k, hk1, hk, hk2, rfl, HE, nq, rfl⟩ := hrel
   by_cases hlt : k < n
   · by_cases h127 : k < 127
     · obtain ⟨b, off, rfl, hc⟩ := hcells (by omega)
       have hck := hc k (by omega)
       have hc0 := hc 0 (by omega)
       have hpos : (0 : Int) < n := by omega
       have hpos2 : 0 < n := by omega
       rw [Nat.add_zero] at hc0
       have hd1 : decide ((k : Int) < 127) = true := by simp; omega
       have hd2 : decide (k < n) = true := by simp; omega
       by_cases heq : l[k]?.getD 0 = l[0]?.getD 0
       · have HQ := LH heq
         rw [heq] at hck
         clear hc hcells heq
         go_wp2
         go_quiet (fail)
         go_wp2
         go_roundw
         case rel => exact ⟨k + 1, by omega, by omega, by omega, by go_num, LH (fun j hj => by
           rcases Nat.lt_or_ge j k with h | h
           · exact HE.out j h
           · obtain rfl : j = k := by omega
             exact HQ.out), _, rfl⟩
         case measure => simp [intOf]; omega
       · have hb : (l[k]?.getD 0 == l[0]?.getD 0) = false := by simpa using heq
         have HQ := LH heq
         clear hc hcells heq
         go_wp2
         go_quiet (fail)
         go_wp2
         go_ret
         exact ⟨ret_run (by rw [PackM.run_eq l k (by rw [hl.out]; omega) hk2 HE.out (.inr (.inr HQ.out))]), DrewN.more _ _ _⟩
     · have hd : decide ((k : Int) < 127) = false := by simp; omega
       clear hcells
       go_wp2
       go_quiet (fail)
       go_wp2
       go_ret
       exact ⟨ret_run (by rw [PackM.run_eq l k (by rw [hl.out]; omega) hk2 HE.out (.inr (.inl (by omega)))]), DrewN.more _ _ _⟩
   · have hd : decide (k < n) = false := by simp; omega
     clear hcells
     go_wp2
     go_quiet (fail)
     go_wp2
     go_ret
     exact ⟨ret_run (by rw [PackM.run_eq l k (by rw [hl.out]; omega) hk2 HE.out (.inl (by rw [hl.out]; omega))]), DrewN.more _ _ _⟩
def PackRel (l : List Int) (w : World) (b out : Value) (wr : World) : Prop :=
 ∃ (a : Option Addr) (m c : Nat) (rem : List Int) (a' : Option Addr) (k c' : Nat) (outl : List Int), b = .slice a m c ∧ out = .slice a' k c' ∧ BS w a m c rem ∧
   wr.ownsRow w.heap.size 5 1 (.slice a' k c') k (outl.map (Value.int .u8)) ∧ (∀ o, PackM.Packs rem o → PackM.Packs l (outl ++ o)) ∧ k + 2 * m ≤ 2 * l.length ∧ (∀ x ∈ outl, 0 ≤ x ∧ x ≤ 255) ∧ Below w.heap.size w wr
theorem one_bs (w : World) (x : Int) (hx : 0 ≤ x ∧ x ≤ 255) : BS (w.alloc (.cells #[.int .u8 x] 5)) (some ⟨w.heap.size, 0, none⟩) 1 1 [x] := by
 refine ⟨rfl, by omega, by omega, by simpa using hx, fun _ => ⟨w.heap.size, 0, rfl, ?_⟩, fun h => by cases h⟩
 intro i hi
 obtain rfl : i = 0 := by omega
 simp
theorem pair_bs (w : World) (x y : Int) (hx : 0 ≤ x ∧ x ≤ 255) (hy : 0 ≤ y ∧ y ≤ 255) : BS (w.alloc (.cells #[.int .u8 x, .int .u8 y] 5)) (some ⟨w.heap.size, 0, none⟩) 2 2 [x, y] := by
 refine ⟨rfl, by omega, by omega, by simp [hx, hy], fun _ => ⟨w.heap.size, 0, rfl, ?_⟩, fun h => by cases h⟩
 intro i hi
 match i, hi with
 | 0, _ => simp
 | 1, _ => simp
theorem lit_appends {w Wx : World} {a2 : Option Addr} {k c2 : Nat} {outl : List Int} (hB : Below w.heap.size w Wx) (ho : Wx.ownsRow w.heap.size 5 1 (.slice a2 k c2) k (outl.map (Value.int .u8)))
   {A : Option Addr} {j C : Nat} {lt : List Int} (hh : BS w A j C lt) (hj : j ≤ 127) (hk : k ≤ 16777216) :
   ∃ a5 c5 W5 a6 c6 W6, (Builtin.append_ #[22, 22] 22 #[.slice a2 k c2, .slice (some ⟨Wx.heap.size, 0, none⟩) 1 1]).run Tryz.prog (Wx.alloc (.cells #[.int .u8 (j : Int)] 5)) = .ok (.slice a5 (k + 1) c5) W5 ∧
     (Builtin.append_ #[22, 22] 22 #[.slice a5 (k + 1) c5, .slice A j C]).run Tryz.prog W5 = .ok (.slice a6 (k + 1 + j) c6) W6 ∧
     Hid (W6.ownsRow w.heap.size 5 1 (.slice a6 (k + 1 + j) c6) (k + 1 + j) ((outl ++ ((j : Int) :: lt)).map (Value.int .u8))) ∧ Below w.heap.size w W6 := by
 have hB2 := hB.alloc hB.size (.cells #[.int .u8 (j : Int)] 5)
 have ho2 := ho.alloc (.cells #[.int .u8 (j : Int)] 5)
 obtain ⟨a5, c5, W5, hrun1, ho5, hg5⟩ := app_run ho2 (one_bs Wx (j : Int) (by omega)) (by omega) hB2.size
 have hB5 := hB2.grown hg5 hB2.size (fun g hg => (ho2.lt g hg).1)
 obtain ⟨a6, c6, W6, hrun2, ho6, hg6⟩ := app_run ho5 (hh.later hB5) (by omega) hB5.size
 have hB6 := hB5.grown hg6 hB5.size (fun g hg => (ho5.lt g hg).1)
 exact ⟨a5, c5, W5, a6, c6, W6, hrun1, hrun2, by simpa [Hid, List.append_assoc] using ho6, hB6⟩
theorem lit_rel {l : List Int} {w : World} {a1 : Option Addr} {m c1 : Nat} {rem : List Int} {k : Nat} {outl : List Int} (hb : BS w a1 m c1 rem) (hu : ∀ o, PackM.Packs rem o → PackM.Packs l (outl ++ o)) (hy : ∀ x ∈ outl, 0 ≤ x ∧ x ≤ 255)
   (hbd : k + 2 * m ≤ 2 * l.length) {j : Nat} (h1 : 1 ≤ j) (h2 : j ≤ 127) (h3 : j ≤ m) (h4 : ∀ i, i < j → PackM.run (rem.drop i) < 3) (h5 : j = m ∨ j = 127 ∨ 3 ≤ PackM.run (rem.drop j))
   {a6 : Option Addr} {c6 : Nat} {W6 : World} (ho : W6.ownsRow w.heap.size 5 1 (.slice a6 (k + 1 + j) c6) (k + 1 + j) ((outl ++ ((j : Int) :: rem.take j)).map (Value.int .u8))) (hB : Below w.heap.size w W6) :
   PackRel l w (.slice (cutA a1 c1 j) (m - j) (c1 - j)) (.slice a6 (k + 1 + j) c6) W6 := by
 refine ⟨_, _, _, _, _, _, _, _, rfl, rfl, hb.cut j h3, ho, ?_, by omega, ?_, hB⟩
 · intro o h
   have := hu _ (.lit rem o j h1 h2 (by rw [hb.len]; exact h3) h4 (by rw [hb.len]; exact h5) h)
   simpa using this
 · intro y hyy
   simp only [List.mem_append, List.mem_cons] at hyy
   rcases hyy with hyy | rfl | hyy
   · exact hy y hyy
   · omega
   · exact hb.bytes y (List.mem_of_mem_take hyy)
theorem packed_any (a : Option Addr) (n c : Nat) (l : List Int) (w : World) (hr : BS w a n c l) (hn : n ≤ 4194304) :
   Calls Tryz.prog 92 #[.slice a n c] w (GivesPk l w) := by
 have hln := hr.len
 have HR := LH hr
 have hl : l.length ≤ 4194304 := by omega
 clear hr hln
 go_enter Tryz.func92, Tryz.ntmps92
 go_wp2
 go_loopw [0, 3] (fun b out wr => PackRel l w b out wr) (fun b _ _ => lenV b)
 case atStart => exact ⟨a, n, c, l, none, 0, 0, [], rfl, rfl, HR.out, World.ownsRow_nil _ _ _ _, fun o h => h, by rw [HR.out.len]; omega, by simp, Below.refl _ _⟩
 case round =>
   obtain ⟨a1, m, c1, rem, a2, k, c2, outl, rfl, rfl, hb, ho, hu, hbd, hby, hB⟩ := hrel
   have HO := LH ho
   have HU := LH hu
   have HY := LH hby
   have hk : k ≤ 8388608 := by omega
   clear ho hby hu
   by_cases hm : m = 0
   · subst hm
     obtain rfl : rem = [] := List.eq_nil_of_length_eq_zero hb.len
     go_wp2
     go_ret
     exact ⟨outl, a2, k, c2, by have := HU.out [] .nil; simpa using this, rfl, BS.of_own HO.out HY.out, hB⟩
   · have hm0 : 0 < m := by omega
     have hrm := PackM.run_max rem
     have hrl := PackM.run_le rem
     rw [hb.len] at hrl
     obtain ⟨R, hR⟩ : ∃ R, PackM.run rem = R := ⟨_, rfl⟩
     rw [hR] at hrm hrl
     have HRn := LH hR
     clear hR
     go_wp2_with fail
     refine (alike_any a1 m c1 rem _ (hb.later hB) hm0).mono ?_
     rintro e W1 ⟨rfl, hd1⟩
     rw [HRn.out]
     have hB1 := bTh hB hd1.below
     have HO1 := LH (own_later HO.out hd1.below)
     clear hd1 hB HO
     by_cases h3 : 3 ≤ R
     · obtain ⟨blk, off, rfl, hc⟩ := (hb.later hB1).cells hm0
       have hc0 := hc 0 hm0
       rw [Nat.add_zero] at hc0
       have hx := hb.byte 0
       clear hc
       have hcut : ∀ W, (Instr.slice 22 (.slice (some ⟨blk, off, none⟩) m c1) (some (.int .i64 R)) none none).run Tryz.prog W = .ok (.slice (cutA (some ⟨blk, off, none⟩) c1 R) (m - R) (c1 - R)) W := fun W => run_cut_l _ m c1 W R (by omega)
       have hb3 := hb.cut R (by omega)
       generalize cutA (some ⟨blk, off, none⟩) c1 R = A3 at hcut hb3
       have hB2 := hB1.alloc hB1.size (.cells #[.int .u8 (128 + (R : Int)), .int .u8 (rem[0]?.getD 0)] 5)
       have ho2 := HO1.out.alloc (.cells #[.int .u8 (128 + (R : Int)), .int .u8 (rem[0]?.getD 0)] 5)
       obtain ⟨a5, c5, W5, hrun, ho5, hg5⟩ := app_run ho2 (pair_bs W1 (128 + (R : Int)) (rem[0]?.getD 0) (by omega) hx) (by omega) hB2.size
       have hB5 := hB2.grown hg5 hB2.size (fun g hg => (ho2.lt g hg).1)
       have HO5 := LH ho5
       clear ho5 ho2 hg5 hB2
       go_wp2_with (at_builtin; refine Lib.wpList_append_run _ rfl _ _ _ _ rfl _ _ rfl rfl _ _ hrun ?_)
       go_roundw
       case rel =>
         refine ⟨A3, m - R, c1 - R, rem.drop R, a5, k + 2, c5, outl ++ [128 + (R : Int), rem[0]?.getD 0], rfl, rfl, hb3, HO5.out, ?_, by omega, ?_, hB5⟩
         · intro o h
           have := HU.out _ (.run rem o R HRn.out h3 h)
           simpa using this
         · intro y hy
           simp only [List.mem_append, List.mem_cons, List.not_mem_nil, or_false] at hy
           rcases hy with hy | rfl | rfl
           · exact HY.out y hy
           · omega
           · exact hx
       case measure => simp [lenV]; omega
     · have H3 := LH h3
       go_wp2_with fail
       go_loopw [5] (fun v wr => ∃ j : Nat, 1 ≤ j ∧ j ≤ m ∧ j ≤ 127 ∧ v = .int .i64 j ∧ Hid (∀ i, i < j → PackM.run (rem.drop i) < 3) ∧ Below W1.heap.size W1 wr) (fun v _ => 127 - (intOf v).toNat)
       case atStart =>
         refine ⟨1, by omega, by omega, by omega, rfl, LH (fun i hi => ?_), Below.refl _ _⟩
         rw [show i = 0 by omega, List.drop_zero, HRn.out]
         omega
       case round =>
         obtain ⟨j, hj1, hjm, hj127, rfl, HJ, hBj⟩ := hrel
         by_cases hlm : j < m
         · by_cases hl7 : j < 127
           · have hcut : ∀ W, (Instr.slice 22 (.slice a1 m c1) (some (.int .i64 j)) none none).run Tryz.prog W = .ok (.slice (cutA a1 c1 j) (m - j) (c1 - j)) W := fun W => run_cut_l _ m c1 W j (by omega)
             have hbj := hb.cut j (by omega)
             generalize cutA a1 c1 j = A3 at hcut hbj
             go_wp2_with fail
             refine (alike_any A3 (m - j) (c1 - j) (rem.drop j) _ ((hbj.later hB1).later hBj) (by omega)).mono ?_
             rintro e W4 ⟨rfl, hd4⟩
             have hrj := PackM.run_max (rem.drop j)
             have hB4 := bTh hBj hd4.below
             clear hcut hbj hBj hd4
             by_cases hrun : PackM.run (rem.drop j) < 3
             · have HS := LH hrun
               generalize PackM.run (rem.drop j) = S at hrun hrj ⊢
               go_wp2_with fail
               go_roundw
               case rel => exact ⟨j + 1, by omega, by omega, by omega, by go_num, LH (fun i hi => by
                 rcases Nat.lt_or_ge i j with h | h
                 · exact HJ.out i h
                 · obtain rfl : i = j := by omega
                   exact HS.out), hB4⟩
               case measure => simp [intOf]; omega
             · have HS : Hid (j = m ∨ j = 127 ∨ 3 ≤ PackM.run (rem.drop j)) := .inr (.inr (by omega))
               generalize PackM.run (rem.drop j) = S at hrun hrj ⊢
               have hBx := bTh hB1 hB4
               have HOx := LH (own_later HO1.out hB4)
               have hcut1 : ∀ W, (Instr.slice 22 (.slice a1 m c1) none (some (.int .i64 j)) none).run Tryz.prog W = .ok (.slice a1 j c1) W := fun W => rCh a1 m c1 W j (by have := hb.le; omega)
               have hcut2 : ∀ W, (Instr.slice 22 (.slice a1 m c1) (some (.int .i64 j)) none none).run Tryz.prog W = .ok (.slice (cutA a1 c1 j) (m - j) (c1 - j)) W := fun W => run_cut_l _ m c1 W j (by omega)
               obtain ⟨a5, c5, W5, a6, c6, W6, hrun1, hrun2, HO6, hB6⟩ := lit_appends hBx HOx.out (hb.head j hjm) hj127 (by omega)
               go_wp2_with (at_builtin; first
                 | (refine Lib.wpList_append_run _ rfl (.tmp 42) (.tmp 45) _ _ rfl _ _ rfl rfl _ _ hrun1 ?_)
                 | (refine Lib.wpList_append_run _ rfl (.tmp 47) (.tmp 50) _ _ rfl _ _ rfl rfl _ _ hrun2 ?_))
               go_roundw
               case rel => exact lit_rel hb HU.out HY.out hbd hj1 hj127 hjm HJ.out HS.out HO6.out hB6
               case measure => simp [lenV]; omega
           · have HS : Hid (j = m ∨ j = 127 ∨ 3 ≤ PackM.run (rem.drop j)) := .inr (.inl (by omega))
             have hd : decide ((j : Int) < 127) = false := by simp; omega
             have hBx := bTh hB1 hBj
             have HOx := LH (own_later HO1.out hBj)
             have hcut1 : ∀ W, (Instr.slice 22 (.slice a1 m c1) none (some (.int .i64 j)) none).run Tryz.prog W = .ok (.slice a1 j c1) W := fun W => rCh a1 m c1 W j (by have := hb.le; omega)
             have hcut2 : ∀ W, (Instr.slice 22 (.slice a1 m c1) (some (.int .i64 j)) none none).run Tryz.prog W = .ok (.slice (cutA a1 c1 j) (m - j) (c1 - j)) W := fun W => run_cut_l _ m c1 W j (by omega)
             obtain ⟨a5, c5, W5, a6, c6, W6, hrun1, hrun2, HO6, hB6⟩ := lit_appends hBx HOx.out (hb.head j hjm) hj127 (by omega)
             go_wp2_with (at_builtin; first
               | (refine Lib.wpList_append_run _ rfl (.tmp 42) (.tmp 45) _ _ rfl _ _ rfl rfl _ _ hrun1 ?_)
               | (refine Lib.wpList_append_run _ rfl (.tmp 47) (.tmp 50) _ _ rfl _ _ rfl rfl _ _ hrun2 ?_))
             go_roundw
             case rel => exact lit_rel hb HU.out HY.out hbd hj1 hj127 hjm HJ.out HS.out HO6.out hB6
             case measure => simp [lenV]; omega
         · have HS : Hid (j = m ∨ j = 127 ∨ 3 ≤ PackM.run (rem.drop j)) := .inl (by omega)
           have hd : decide (j < m) = false := by simp; omega
           have hBx := bTh hB1 hBj
           have HOx := LH (own_later HO1.out hBj)
           have hcut1 : ∀ W, (Instr.slice 22 (.slice a1 m c1) none (some (.int .i64 j)) none).run Tryz.prog W = .ok (.slice a1 j c1) W := fun W => rCh a1 m c1 W j (by have := hb.le; omega)
           have hcut2 : ∀ W, (Instr.slice 22 (.slice a1 m c1) (some (.int .i64 j)) none none).run Tryz.prog W = .ok (.slice (cutA a1 c1 j) (m - j) (c1 - j)) W := fun W => run_cut_l _ m c1 W j (by omega)
           obtain ⟨a5, c5, W5, a6, c6, W6, hrun1, hrun2, HO6, hB6⟩ := lit_appends hBx HOx.out (hb.head j hjm) hj127 (by omega)
           go_wp2_with (at_builtin; first
             | (refine Lib.wpList_append_run _ rfl (.tmp 42) (.tmp 45) _ _ rfl _ _ rfl rfl _ _ hrun1 ?_)
             | (refine Lib.wpList_append_run _ rfl (.tmp 47) (.tmp 50) _ _ rfl _ _ rfl rfl _ _ hrun2 ?_))
           go_roundw
           case rel => exact lit_rel hb HU.out HY.out hbd hj1 hj127 hjm HJ.out HS.out HO6.out hB6
           case measure => simp [lenV]; omega
end Go.Proofs.YtmpmaljkmfgagacGreat
