/-
  Texts put into one: DvBoot, InstCl, DvImgs, DvNew, DvCrash, RecConf, DvConf, SeqCh, Collect, PatPut, ChunksR.
-/
import Derived.Test.YtmpmaljkmfgagacGreatMemStToStep
import Derived.Test.YtmpmaljkmfgagacGreatDvSame1ToDvHear
import Derived.Test.YtmpmaljkmfgagacGreatDiffedToLawG
import Derived.Test.YtmpmaljkmfgagacGreatDvOpenToRecStart
import Derived.Test.YtmpmaljkmfgagacGreatDvFinToJoinL
import Derived.Deep.DeepCutAuto
import Derived.Test.YtmpmaljkmfgagacGreatRowToNewR
import Derived.RangeFuncBox
import Derived.RangeFuncLeaves
import Derived.Shelf.Abstract
import Derived.WalkKit
import Derived.OwnWalkIn
import Derived.TacticsInMore
import Derived.LoopNIn
import Derived.LoopIn
import Derived.Maps.AppendAt
set_option maxRecDepth 100000
set_option maxHeartbeats 4000000
namespace Go.Proofs.YtmpmaljkmfgagacGreat
open Go.RowKit
theorem bootD_bad (h : DevH) (d : DevR) (w : World) (HD : DH w h d) (E : Int) (h0 : E ≠ 0) (HBg : Hid (∀ W, DH W h d → Calls Tryz.prog 55 #[.agg (dvC h d), .bool false] W fun e w' => e = .returned (.tuple #[.agg (rcC RecM.noRec), .int .i64 E]) ∧ Below W.heap.size W w')) : Calls Tryz.prog 21 #[devV h d] w (GDv (DevM.noDev, E) w) := by
 have t0 : (E != 0) = true := by simp [h0]
 have HDh := LH HD
 clear HD
 unfold devV
 obtain ⟨P1, hP1⟩ : ∃ P, w.heap.size = P := ⟨_, rfl⟩
 have HS := LH (((((MS.start w).alloc (p := P1) (by simp [hP1]) (dvC h d) 37)).alloc (p := (P1 + 1)) (by simp [hP1]) zDev 37))
 go_enter Tryz.func21, Tryz.ntmps21
 go_upto_region 1 with fail
 refine wp_gen HS.out (fun V0 HS1 => ?_)
 replace HS := LH HS1
 clear HS1 hP1
 replace HS := LH (MH.of HS.out)
 have bP1 := HS.out.get 1 rfl
 simp only at bP1
 go_wp2_with (first
   | (refine wpList_load_row rfl 37 (.tmp 1) rfl P1 rfl 37 (dvC h d) (0, 0) _ bP1 Tryz.underlying37 rfl (sDv h d) ?_))
 clear bP1
 refine (HBg.out _ (HDh.out.later HS.out.below)).mono ?_
 rintro e W1 ⟨rfl, hb⟩
 replace HS := LH (HS.out.later hb)
 clear hb
 obtain ⟨P3, hP3⟩ : ∃ P, W1.heap.size = P := ⟨_, rfl⟩
 replace HS := LH (HS.out.alloc hP3 (rcC RecM.noRec) 28)
 go_upto_region 2 with (refine wSN rfl 28 (.tmp 4) (.tmp 11) rfl P3 (rcC RecM.noRec) rfl rfl 28 _ hP3.symm (sRc RecM.noRec) (lRc RecM.noRec) (oRc RecM.noRec) ?_)
 refine gnH HS.out (fun V1 HS1 => ?_)
 replace HS := LH HS1
 clear HS1 hP3
 have bP1p1 := HS.out.get 1 rfl
 simp only at bP1p1
 have HG := LH (HS.out.set 1 rfl zDev)
 go_wp2_with (first
   | (refine wpList_store_row rfl 37 (.tmp 2) (.tmp 15) rfl (P1 + 1) zDev rfl rfl 37 _ bP1p1 size_zdev like_zz one_zdev ?_))
 clear bP1p1
 refine bodyPost_ret (v := .tuple #[.agg zDev, .int .i64 E]) ?_ rfl ?_
 · exact res_ct (fn := Tryz.f21) (p := 2) (a := 3) rfl rfl rfl (HG.out.get 1 rfl) Tryz.underlying37 rfl size_zdev
 · exact GDv.bad HG.out.below
theorem bootD_same (h : DevH) (d : DevR) (w : World) (HD : DH w h d) (HBg : Hid (∀ W, DH W h d → Calls Tryz.prog 55 #[.agg (dvC h d), .bool false] W fun e w' => e = .returned (.tuple #[.agg (rcC (DevM.rc d)), .int .i64 0]) ∧ Below W.heap.size W w')) (hok : DevM.Ok d) (hu : d.up = false) (hs : (RecM.after (DevM.rc d)) = DevM.rc d) : Calls Tryz.prog 21 #[devV h d] w (GDv ({ d with up := true, run := (RecM.slot (DevM.rc d)) }, 0) w) := by
 have _hk := hok
 have _hv := hu
 clear _hk _hv
 have HSt : Hid (∀ W, Calls Tryz.prog 65 #[.agg (rcC (DevM.rc d))] W fun e w' => e = .returned (.tuple #[.int .i64 (RecM.slot (DevM.rc d)), .agg (rcC (RecM.after (DevM.rc d))), .int .i64 0]) ∧ Below W.heap.size W w') := fun W => by
   have := startR_any (DevM.rc d) W
   rw [RecM.startOf_ok hok.rec_] at this
   exact this
 have hq : ∀ W, (binOp .neq 28 (.agg (rcC (RecM.after (DevM.rc d)))) (.agg (rcC (DevM.rc d)))).run Tryz.prog W = .ok (.bool false) W := fun W => by
   have := rec_neq (RecM.after (DevM.rc d)) (DevM.rc d) W
   rw [decide_eq_true hs] at this
   exact this
 have HSlW : Hid (I64 (RecM.slot (DevM.rc d))) := by
   show I64 _
   have h1 := (RecM.check_nums hok.rec_).2.1
   unfold RecM.slot I64
   split <;> omega
 have HCy := LH (fun W (x : DH W h d) => copiedD_new h d W x (DevM.few_of hok))
 unfold devV at HCy
 clear hok hu hs
 have HDh := LH HD
 clear HD
 unfold devV
 obtain ⟨P1, hP1⟩ : ∃ P, w.heap.size = P := ⟨_, rfl⟩
 have HS := LH (((((MS.start w).alloc (p := P1) (by simp [hP1]) (dvC h d) 37)).alloc (p := (P1 + 1)) (by simp [hP1]) zDev 37))
 go_enter Tryz.func21, Tryz.ntmps21
 go_upto_region 1 with fail
 refine wp_gen HS.out (fun V0 HS1 => ?_)
 replace HS := LH HS1
 clear HS1 hP1
 replace HS := LH (MH.of HS.out)
 have bP1 := HS.out.get 1 rfl
 simp only at bP1
 go_wp2_with (first
   | (refine wpList_load_row rfl 37 (.tmp 1) rfl P1 rfl 37 (dvC h d) (0, 0) _ bP1 Tryz.underlying37 rfl (sDv h d) ?_))
 clear bP1
 refine (HBg.out _ (HDh.out.later HS.out.below)).mono ?_
 rintro e W1 ⟨rfl, hb⟩
 replace HS := LH (HS.out.later hb)
 clear hb
 obtain ⟨P3, hP3⟩ : ∃ P, W1.heap.size = P := ⟨_, rfl⟩
 replace HS := LH (HS.out.alloc hP3 (rcC (DevM.rc d)) 28)
 go_upto_region 2 with (refine wSN rfl 28 (.tmp 4) (.tmp 11) rfl P3 (rcC (DevM.rc d)) rfl rfl 28 _ hP3.symm (sRc (DevM.rc d)) (lRc (DevM.rc d)) (oRc (DevM.rc d)) ?_)
 refine gnH HS.out (fun V1 HS1 => ?_)
 replace HS := LH HS1
 clear HS1 hP3
 have bP3 := HS.out.get 0 rfl
 simp only at bP3
 go_wp2_with (first
   | (refine wpList_load_row rfl 28 (.tmp 4) rfl P3 rfl 28 (rcC (DevM.rc d)) (0, 0) _ bP3 Tryz.underlying28 rfl (sRc (DevM.rc d)) ?_))
 clear bP3
 refine (HSt.out _).mono ?_
 rintro e W2 ⟨rfl, hb⟩
 replace HS := LH (HS.out.later hb)
 clear hb
 obtain ⟨P7, hP7⟩ : ∃ P, W2.heap.size = P := ⟨_, rfl⟩
 replace HS := LH (HS.out.alloc hP7 (rcC (RecM.after (DevM.rc d))) 28)
 go_upto_region 5 with (refine wSN rfl 28 (.tmp 7) (.tmp 21) rfl P7 (rcC (RecM.after (DevM.rc d))) rfl rfl 28 _ hP7.symm (sRc (RecM.after (DevM.rc d))) (lRc (RecM.after (DevM.rc d))) (oRc (RecM.after (DevM.rc d))) ?_)
 refine gnH HS.out (fun V2 HS1 => ?_)
 replace HS := LH HS1
 clear HS1 hP7
 have bP1 := HS.out.get 3 rfl
 simp only at bP1
 go_wp2_with (first
   | (refine wpList_load_row rfl 37 (.tmp 1) rfl P1 rfl 37 (dvC h d) (0, 0) _ bP1 Tryz.underlying37 rfl (sDv h d) ?_))
 clear bP1
 refine (HCy.out _ (HDh.out.later HS.out.below)).mono ?_
 rintro e W3 ⟨h', rfl, hb, hn, -, -⟩
 replace HS := LH (HS.out.gain hb hn)
 clear hb hn
 unfold devV
 have HS2 := LH (HS.out.set 3 rfl (dvC h' d))
 have bP1 := HS.out.get 3 rfl
 simp only at bP1
 go_upto_region 8 with (first
   | (refine wpList_store_row rfl 37 (.tmp 1) (.tmp 28) rfl P1 (dvC h' d) rfl rfl 37 _ bP1 (sDv h' d) (lDv h h' d d) (oDv h' d) ?_))
 clear bP1
 refine gnH HS2.out (fun V3 HS1 => ?_)
 replace HS := LH HS1
 clear HS1 HS2
 have bP7 := HS.out.get 0 rfl
 simp only at bP7
 have bP3 := HS.out.get 1 rfl
 simp only at bP3
 go_upto_region 12 with (first
   | (refine wpList_load_row rfl 28 (.tmp 7) rfl P7 rfl 28 (rcC (RecM.after (DevM.rc d))) (0, 0) _ bP7 Tryz.underlying28 rfl (sRc (RecM.after (DevM.rc d))) ?_)
   | (refine wpList_load_row rfl 28 (.tmp 4) rfl P3 rfl 28 (rcC (DevM.rc d)) (0, 0) _ bP3 Tryz.underlying28 rfl (sRc (DevM.rc d)) ?_))
 clear bP7 bP3
 have cP1_26 := cAt (k := 26) (v := .bool d.up) (HS.out.get 3 rfl) rfl
 simp only at cP1_26
 have fP1_26 := tAt (k := 26) (HS.out.get 3 rfl)
 simp only at fP1_26
 have cP1_27 := cAt (k := 27) (v := .int .i64 d.run) (HS.out.get 3 rfl) rfl
 simp only at cP1_27
 have fP1_27 := tAt (k := 27) (HS.out.get 3 rfl)
 simp only at fP1_27
 have HS2 := LH ((HS.out.cell 3 rfl (put_up h' d true)).cell 3 rfl (put_run h' ({ d with up := true } : DevR) (RecM.slot (DevM.rc d))))
 go_upto_region 13 with fail
 clear cP1_26 fP1_26 cP1_27 fP1_27
 refine gnH HS2.out (fun V6 HS1 => ?_)
 replace HS := LH HS1
 clear HS1 HS2
 have bP1 := HS.out.get 3 rfl
 simp only at bP1
 have bP1p1 := HS.out.get 2 rfl
 simp only at bP1p1
 have HG := LH (HS.out.set 2 rfl (dvC h' ({ d with up := true, run := (RecM.slot (DevM.rc d)) } : DevR)))
 go_wp2_with (first
   | (refine wpList_load_row rfl 37 (.tmp 1) rfl P1 rfl 37 (dvC h' ({ d with up := true, run := (RecM.slot (DevM.rc d)) } : DevR)) (0, 0) _ bP1 Tryz.underlying37 rfl (sDv h' ({ d with up := true, run := (RecM.slot (DevM.rc d)) } : DevR)) ?_)
   | (refine wpList_store_row rfl 37 (.tmp 2) (.tmp 47) rfl (P1 + 1) (dvC h' ({ d with up := true, run := (RecM.slot (DevM.rc d)) } : DevR)) rfl rfl 37 _ bP1p1 (sDv h' ({ d with up := true, run := (RecM.slot (DevM.rc d)) } : DevR)) (like_zdev h' ({ d with up := true, run := (RecM.slot (DevM.rc d)) } : DevR)) (oDv h' ({ d with up := true, run := (RecM.slot (DevM.rc d)) } : DevR)) ?_))
 clear bP1 bP1p1
 refine bodyPost_ret (v := .tuple #[.agg (dvC h' ({ d with up := true, run := (RecM.slot (DevM.rc d)) } : DevR)), .int .i64 0]) ?_ rfl ?_
 · exact res_ct (fn := Tryz.f21) (p := 2) (a := 3) rfl rfl rfl (HG.out.get 2 rfl) Tryz.underlying37 rfl (sDv _ _)
 · refine ⟨h', rfl, HG.out.below, fun V v1 v2 => ?_⟩
   have k1 := HG.out.newR 0 rfl V v1 v2
   simp only at k1
   exact ⟨k1.b0, k1.b1, k1.got, k1.ops, k1.copsW, HSlW.out, k1.jobI, k1.doneI⟩
theorem bootD_err (h : DevH) (d : DevR) (w : World) (HD : DH w h d) (HBg : Hid (∀ W, DH W h d → Calls Tryz.prog 55 #[.agg (dvC h d), .bool false] W fun e w' => e = .returned (.tuple #[.agg (rcC (DevM.rc d)), .int .i64 0]) ∧ Below W.heap.size W w')) (hok : DevM.Ok d) (hu : d.up = false) (hs : (RecM.after (DevM.rc d)) ≠ DevM.rc d) (L : CopsR) (E : Int) (hW : RecM.writeOf d.c (RecM.after (DevM.rc d)) false = (L, E)) (hE : E ≠ 0) : Calls Tryz.prog 21 #[devV h d] w (GDv (DevM.noDev, E) w) := by
 have _hk := hok
 have _hv := hu
 clear _hk _hv
 have HSt : Hid (∀ W, Calls Tryz.prog 65 #[.agg (rcC (DevM.rc d))] W fun e w' => e = .returned (.tuple #[.int .i64 (RecM.slot (DevM.rc d)), .agg (rcC (RecM.after (DevM.rc d))), .int .i64 0]) ∧ Below W.heap.size W w') := fun W => by
   have := startR_any (DevM.rc d) W
   rw [RecM.startOf_ok hok.rec_] at this
   exact this
 have hq : ∀ W, (binOp .neq 28 (.agg (rcC (RecM.after (DevM.rc d)))) (.agg (rcC (DevM.rc d)))).run Tryz.prog W = .ok (.bool true) W := fun W => by
   have := rec_neq (RecM.after (DevM.rc d)) (DevM.rc d) W
   rw [decide_eq_false hs] at this
   exact this
 have HWr : Hid (∀ W, Calls Tryz.prog 63 #[.agg (cpC d.c), .agg (rcC (RecM.after (DevM.rc d))), .bool false] W fun e w' => e = .returned (.tuple #[.agg (cpC L), .int .i64 E]) ∧ Below W.heap.size W w') := fun W => by
   have := writeR_any d.c (RecM.after (DevM.rc d)) false W
   rw [hW] at this
   exact this
 have t2 : (E != 0) = true := by simp [hE]
 have HSlW : Hid (I64 (RecM.slot (DevM.rc d))) := by
   show I64 _
   have h1 := (RecM.check_nums hok.rec_).2.1
   unfold RecM.slot I64
   split <;> omega
 have HCy := LH (fun W (x : DH W h d) => copiedD_new h d W x (DevM.few_of hok))
 unfold devV at HCy
 clear hok hu hs hW hE
 have HDh := LH HD
 clear HD
 unfold devV
 obtain ⟨P1, hP1⟩ : ∃ P, w.heap.size = P := ⟨_, rfl⟩
 have HS := LH (((((MS.start w).alloc (p := P1) (by simp [hP1]) (dvC h d) 37)).alloc (p := (P1 + 1)) (by simp [hP1]) zDev 37))
 go_enter Tryz.func21, Tryz.ntmps21
 go_upto_region 1 with fail
 refine wp_gen HS.out (fun V0 HS1 => ?_)
 replace HS := LH HS1
 clear HS1 hP1
 replace HS := LH (MH.of HS.out)
 have bP1 := HS.out.get 1 rfl
 simp only at bP1
 go_wp2_with (first
   | (refine wpList_load_row rfl 37 (.tmp 1) rfl P1 rfl 37 (dvC h d) (0, 0) _ bP1 Tryz.underlying37 rfl (sDv h d) ?_))
 clear bP1
 refine (HBg.out _ (HDh.out.later HS.out.below)).mono ?_
 rintro e W1 ⟨rfl, hb⟩
 replace HS := LH (HS.out.later hb)
 clear hb
 obtain ⟨P3, hP3⟩ : ∃ P, W1.heap.size = P := ⟨_, rfl⟩
 replace HS := LH (HS.out.alloc hP3 (rcC (DevM.rc d)) 28)
 go_upto_region 2 with (refine wSN rfl 28 (.tmp 4) (.tmp 11) rfl P3 (rcC (DevM.rc d)) rfl rfl 28 _ hP3.symm (sRc (DevM.rc d)) (lRc (DevM.rc d)) (oRc (DevM.rc d)) ?_)
 refine gnH HS.out (fun V1 HS1 => ?_)
 replace HS := LH HS1
 clear HS1 hP3
 have bP3 := HS.out.get 0 rfl
 simp only at bP3
 go_wp2_with (first
   | (refine wpList_load_row rfl 28 (.tmp 4) rfl P3 rfl 28 (rcC (DevM.rc d)) (0, 0) _ bP3 Tryz.underlying28 rfl (sRc (DevM.rc d)) ?_))
 clear bP3
 refine (HSt.out _).mono ?_
 rintro e W2 ⟨rfl, hb⟩
 replace HS := LH (HS.out.later hb)
 clear hb
 obtain ⟨P7, hP7⟩ : ∃ P, W2.heap.size = P := ⟨_, rfl⟩
 replace HS := LH (HS.out.alloc hP7 (rcC (RecM.after (DevM.rc d))) 28)
 go_upto_region 5 with (refine wSN rfl 28 (.tmp 7) (.tmp 21) rfl P7 (rcC (RecM.after (DevM.rc d))) rfl rfl 28 _ hP7.symm (sRc (RecM.after (DevM.rc d))) (lRc (RecM.after (DevM.rc d))) (oRc (RecM.after (DevM.rc d))) ?_)
 refine gnH HS.out (fun V2 HS1 => ?_)
 replace HS := LH HS1
 clear HS1 hP7
 have bP1 := HS.out.get 3 rfl
 simp only at bP1
 go_wp2_with (first
   | (refine wpList_load_row rfl 37 (.tmp 1) rfl P1 rfl 37 (dvC h d) (0, 0) _ bP1 Tryz.underlying37 rfl (sDv h d) ?_))
 clear bP1
 refine (HCy.out _ (HDh.out.later HS.out.below)).mono ?_
 rintro e W3 ⟨h', rfl, hb, hn, -, -⟩
 replace HS := LH (HS.out.gain hb hn)
 clear hb hn
 unfold devV
 have HS2 := LH (HS.out.set 3 rfl (dvC h' d))
 have bP1 := HS.out.get 3 rfl
 simp only at bP1
 go_upto_region 8 with (first
   | (refine wpList_store_row rfl 37 (.tmp 1) (.tmp 28) rfl P1 (dvC h' d) rfl rfl 37 _ bP1 (sDv h' d) (lDv h h' d d) (oDv h' d) ?_))
 clear bP1
 refine gnH HS2.out (fun V3 HS1 => ?_)
 replace HS := LH HS1
 clear HS1 HS2
 have bP7 := HS.out.get 0 rfl
 simp only at bP7
 have bP3 := HS.out.get 1 rfl
 simp only at bP3
 have bP1 := HS.out.get 3 rfl
 simp only at bP1
 go_wp2_with (first
   | (refine wpList_load_row rfl 28 (.tmp 7) rfl P7 rfl 28 (rcC (RecM.after (DevM.rc d))) (0, 0) _ bP7 Tryz.underlying28 rfl (sRc (RecM.after (DevM.rc d))) ?_)
   | (refine wpList_load_row rfl 28 (.tmp 4) rfl P3 rfl 28 (rcC (DevM.rc d)) (0, 0) _ bP3 Tryz.underlying28 rfl (sRc (DevM.rc d)) ?_)
   | (refine wLP rfl 31 (.tmp 33) rfl P1 2 rfl (dvC h' d) 37 (0, 0) bP1 (cpC d.c) (part_cops h' d) _ Tryz.underlying31 rfl (sCp d.c) ?_))
 clear bP7 bP3 bP1
 refine (HWr.out _).mono ?_
 rintro e W4 ⟨rfl, hb⟩
 replace HS := LH (HS.out.later hb)
 clear hb
 have HS2 := LH (HS.out.cells 3 rfl (put_cops h' d L))
 go_upto_region 10 with (first
   | (refine wpList_store_mid rfl 31 (.tmp 39) (.tmp 37) rfl P1 2 (cpC L) rfl rfl (HS.out.ms.there 3 rfl (by show 26 ≤ 37; decide)) (sCp L) (one_copsA L) ?_; refine glH HS2.out (fun V4 HS1 => ?_)))
 replace HS := LH HS1
 clear HS1 HS2
 have bP1p1 := HS.out.get 2 rfl
 simp only at bP1p1
 have HG := LH (HS.out.set 2 rfl zDev)
 go_wp2_with (first
   | (refine wpList_store_row rfl 37 (.tmp 2) (.tmp 42) rfl (P1 + 1) zDev rfl rfl 37 _ bP1p1 size_zdev like_zz one_zdev ?_))
 clear bP1p1
 refine bodyPost_ret (v := .tuple #[.agg zDev, .int .i64 E]) ?_ rfl ?_
 · exact res_ct (fn := Tryz.f21) (p := 2) (a := 3) rfl rfl rfl (HG.out.get 2 rfl) Tryz.underlying37 rfl size_zdev
 · exact GDv.bad HG.out.below
theorem bootD_fine (h : DevH) (d : DevR) (w : World) (HD : DH w h d) (HBg : Hid (∀ W, DH W h d → Calls Tryz.prog 55 #[.agg (dvC h d), .bool false] W fun e w' => e = .returned (.tuple #[.agg (rcC (DevM.rc d)), .int .i64 0]) ∧ Below W.heap.size W w')) (hok : DevM.Ok d) (hu : d.up = false) (hs : (RecM.after (DevM.rc d)) ≠ DevM.rc d) (L : CopsR) (E : Int) (hW : RecM.writeOf d.c (RecM.after (DevM.rc d)) false = (L, E)) (hE : E = 0) (hL : RecM.copies L = 0) : Calls Tryz.prog 21 #[devV h d] w (GDv ({ d with c := L, up := true, run := (RecM.slot (DevM.rc d)) }, 0) w) := by
 have _hk := hok
 have _hv := hu
 clear _hk _hv
 have HSt : Hid (∀ W, Calls Tryz.prog 65 #[.agg (rcC (DevM.rc d))] W fun e w' => e = .returned (.tuple #[.int .i64 (RecM.slot (DevM.rc d)), .agg (rcC (RecM.after (DevM.rc d))), .int .i64 0]) ∧ Below W.heap.size W w') := fun W => by
   have := startR_any (DevM.rc d) W
   rw [RecM.startOf_ok hok.rec_] at this
   exact this
 have hq : ∀ W, (binOp .neq 28 (.agg (rcC (RecM.after (DevM.rc d)))) (.agg (rcC (DevM.rc d)))).run Tryz.prog W = .ok (.bool true) W := fun W => by
   have := rec_neq (RecM.after (DevM.rc d)) (DevM.rc d) W
   rw [decide_eq_false hs] at this
   exact this
 have HWr : Hid (∀ W, Calls Tryz.prog 63 #[.agg (cpC d.c), .agg (rcC (RecM.after (DevM.rc d))), .bool false] W fun e w' => e = .returned (.tuple #[.agg (cpC L), .int .i64 E]) ∧ Below W.heap.size W w') := fun W => by
   have := writeR_any d.c (RecM.after (DevM.rc d)) false W
   rw [hW] at this
   exact this
 have HLW := LH (cops_w hL)
 subst hE
 have HSlW : Hid (I64 (RecM.slot (DevM.rc d))) := by
   show I64 _
   have h1 := (RecM.check_nums hok.rec_).2.1
   unfold RecM.slot I64
   split <;> omega
 have HCy := LH (fun W (x : DH W h d) => copiedD_new h d W x (DevM.few_of hok))
 unfold devV at HCy
 clear hok hu hs hW hL
 have HDh := LH HD
 clear HD
 unfold devV
 obtain ⟨P1, hP1⟩ : ∃ P, w.heap.size = P := ⟨_, rfl⟩
 have HS := LH (((((MS.start w).alloc (p := P1) (by simp [hP1]) (dvC h d) 37)).alloc (p := (P1 + 1)) (by simp [hP1]) zDev 37))
 go_enter Tryz.func21, Tryz.ntmps21
 go_upto_region 1 with fail
 refine wp_gen HS.out (fun V0 HS1 => ?_)
 replace HS := LH HS1
 clear HS1 hP1
 replace HS := LH (MH.of HS.out)
 have bP1 := HS.out.get 1 rfl
 simp only at bP1
 go_wp2_with (first
   | (refine wpList_load_row rfl 37 (.tmp 1) rfl P1 rfl 37 (dvC h d) (0, 0) _ bP1 Tryz.underlying37 rfl (sDv h d) ?_))
 clear bP1
 refine (HBg.out _ (HDh.out.later HS.out.below)).mono ?_
 rintro e W1 ⟨rfl, hb⟩
 replace HS := LH (HS.out.later hb)
 clear hb
 obtain ⟨P3, hP3⟩ : ∃ P, W1.heap.size = P := ⟨_, rfl⟩
 replace HS := LH (HS.out.alloc hP3 (rcC (DevM.rc d)) 28)
 go_upto_region 2 with (refine wSN rfl 28 (.tmp 4) (.tmp 11) rfl P3 (rcC (DevM.rc d)) rfl rfl 28 _ hP3.symm (sRc (DevM.rc d)) (lRc (DevM.rc d)) (oRc (DevM.rc d)) ?_)
 refine gnH HS.out (fun V1 HS1 => ?_)
 replace HS := LH HS1
 clear HS1 hP3
 have bP3 := HS.out.get 0 rfl
 simp only at bP3
 go_wp2_with (first
   | (refine wpList_load_row rfl 28 (.tmp 4) rfl P3 rfl 28 (rcC (DevM.rc d)) (0, 0) _ bP3 Tryz.underlying28 rfl (sRc (DevM.rc d)) ?_))
 clear bP3
 refine (HSt.out _).mono ?_
 rintro e W2 ⟨rfl, hb⟩
 replace HS := LH (HS.out.later hb)
 clear hb
 obtain ⟨P7, hP7⟩ : ∃ P, W2.heap.size = P := ⟨_, rfl⟩
 replace HS := LH (HS.out.alloc hP7 (rcC (RecM.after (DevM.rc d))) 28)
 go_upto_region 5 with (refine wSN rfl 28 (.tmp 7) (.tmp 21) rfl P7 (rcC (RecM.after (DevM.rc d))) rfl rfl 28 _ hP7.symm (sRc (RecM.after (DevM.rc d))) (lRc (RecM.after (DevM.rc d))) (oRc (RecM.after (DevM.rc d))) ?_)
 refine gnH HS.out (fun V2 HS1 => ?_)
 replace HS := LH HS1
 clear HS1 hP7
 have bP1 := HS.out.get 3 rfl
 simp only at bP1
 go_wp2_with (first
   | (refine wpList_load_row rfl 37 (.tmp 1) rfl P1 rfl 37 (dvC h d) (0, 0) _ bP1 Tryz.underlying37 rfl (sDv h d) ?_))
 clear bP1
 refine (HCy.out _ (HDh.out.later HS.out.below)).mono ?_
 rintro e W3 ⟨h', rfl, hb, hn, -, -⟩
 replace HS := LH (HS.out.gain hb hn)
 clear hb hn
 unfold devV
 have HS2 := LH (HS.out.set 3 rfl (dvC h' d))
 have bP1 := HS.out.get 3 rfl
 simp only at bP1
 go_upto_region 8 with (first
   | (refine wpList_store_row rfl 37 (.tmp 1) (.tmp 28) rfl P1 (dvC h' d) rfl rfl 37 _ bP1 (sDv h' d) (lDv h h' d d) (oDv h' d) ?_))
 clear bP1
 refine gnH HS2.out (fun V3 HS1 => ?_)
 replace HS := LH HS1
 clear HS1 HS2
 have bP7 := HS.out.get 0 rfl
 simp only at bP7
 have bP3 := HS.out.get 1 rfl
 simp only at bP3
 have bP1 := HS.out.get 3 rfl
 simp only at bP1
 go_wp2_with (first
   | (refine wpList_load_row rfl 28 (.tmp 7) rfl P7 rfl 28 (rcC (RecM.after (DevM.rc d))) (0, 0) _ bP7 Tryz.underlying28 rfl (sRc (RecM.after (DevM.rc d))) ?_)
   | (refine wpList_load_row rfl 28 (.tmp 4) rfl P3 rfl 28 (rcC (DevM.rc d)) (0, 0) _ bP3 Tryz.underlying28 rfl (sRc (DevM.rc d)) ?_)
   | (refine wLP rfl 31 (.tmp 33) rfl P1 2 rfl (dvC h' d) 37 (0, 0) bP1 (cpC d.c) (part_cops h' d) _ Tryz.underlying31 rfl (sCp d.c) ?_))
 clear bP7 bP3 bP1
 refine (HWr.out _).mono ?_
 rintro e W4 ⟨rfl, hb⟩
 replace HS := LH (HS.out.later hb)
 clear hb
 have HS2 := LH (HS.out.cells 3 rfl (put_cops h' d L))
 go_upto_region 10 with (first
   | (refine wpList_store_mid rfl 31 (.tmp 39) (.tmp 37) rfl P1 2 (cpC L) rfl rfl (HS.out.ms.there 3 rfl (by show 26 ≤ 37; decide)) (sCp L) (one_copsA L) ?_; refine glH HS2.out (fun V4 HS1 => ?_)))
 replace HS := LH HS1
 clear HS1 HS2
 go_upto_region 12 with fail
 have cP1_26 := cAt (k := 26) (v := .bool d.up) (HS.out.get 3 rfl) rfl
 simp only at cP1_26
 have fP1_26 := tAt (k := 26) (HS.out.get 3 rfl)
 simp only at fP1_26
 have cP1_27 := cAt (k := 27) (v := .int .i64 d.run) (HS.out.get 3 rfl) rfl
 simp only at cP1_27
 have fP1_27 := tAt (k := 27) (HS.out.get 3 rfl)
 simp only at fP1_27
 have HS2 := LH ((HS.out.cell 3 rfl (put_up h' ({ d with c := L } : DevR) true)).cell 3 rfl (put_run h' ({ d with c := L, up := true } : DevR) (RecM.slot (DevM.rc d))))
 go_upto_region 13 with fail
 clear cP1_26 fP1_26 cP1_27 fP1_27
 refine gnH HS2.out (fun V6 HS1 => ?_)
 replace HS := LH HS1
 clear HS1 HS2
 have bP1 := HS.out.get 3 rfl
 simp only at bP1
 have bP1p1 := HS.out.get 2 rfl
 simp only at bP1p1
 have HG := LH (HS.out.set 2 rfl (dvC h' ({ d with c := L, up := true, run := (RecM.slot (DevM.rc d)) } : DevR)))
 go_wp2_with (first
   | (refine wpList_load_row rfl 37 (.tmp 1) rfl P1 rfl 37 (dvC h' ({ d with c := L, up := true, run := (RecM.slot (DevM.rc d)) } : DevR)) (0, 0) _ bP1 Tryz.underlying37 rfl (sDv h' ({ d with c := L, up := true, run := (RecM.slot (DevM.rc d)) } : DevR)) ?_)
   | (refine wpList_store_row rfl 37 (.tmp 2) (.tmp 47) rfl (P1 + 1) (dvC h' ({ d with c := L, up := true, run := (RecM.slot (DevM.rc d)) } : DevR)) rfl rfl 37 _ bP1p1 (sDv h' ({ d with c := L, up := true, run := (RecM.slot (DevM.rc d)) } : DevR)) (like_zdev h' ({ d with c := L, up := true, run := (RecM.slot (DevM.rc d)) } : DevR)) (oDv h' ({ d with c := L, up := true, run := (RecM.slot (DevM.rc d)) } : DevR)) ?_))
 clear bP1 bP1p1
 refine bodyPost_ret (v := .tuple #[.agg (dvC h' ({ d with c := L, up := true, run := (RecM.slot (DevM.rc d)) } : DevR)), .int .i64 0]) ?_ rfl ?_
 · exact res_ct (fn := Tryz.f21) (p := 2) (a := 3) rfl rfl rfl (HG.out.get 2 rfl) Tryz.underlying37 rfl (sDv _ _)
 · refine ⟨h', rfl, HG.out.below, fun V v1 v2 => ?_⟩
   have k1 := HG.out.newR 0 rfl V v1 v2
   simp only at k1
   exact ⟨k1.b0, k1.b1, k1.got, k1.ops, HLW.out, HSlW.out, k1.jobI, k1.doneI⟩
theorem bootD_ok (h : DevH) (d : DevR) (w : World) (HD : DH w h d) (HBg : Hid (∀ W, DH W h d → Calls Tryz.prog 55 #[.agg (dvC h d), .bool false] W fun e w' => e = .returned (.tuple #[.agg (rcC (DevM.rc d)), .int .i64 0]) ∧ Below W.heap.size W w')) (hok : DevM.Ok d) (hu : d.up = false) : Calls Tryz.prog 21 #[devV h d] w (GDv (DevM.boot d) w) := by
 unfold DevM.boot
 by_cases hs : RecM.after (DevM.rc d) = DevM.rc d
 · rw [if_pos hs]
   exact bootD_same h d w HD HBg hok hu hs
 · rw [if_neg hs]
   obtain ⟨⟨L, E⟩, hW⟩ : ∃ x, RecM.writeOf d.c (RecM.after (DevM.rc d)) false = x := ⟨_, rfl⟩
   rw [hW]
   unfold DevM.wrong
   by_cases hE : E = 0
   · rw [if_neg (fun q => q hE)]
     exact bootD_fine h d w HD HBg hok hu hs L E hW hE (by
       have := (RecM.writeOf_zero hok.cops (r := RecM.after (DevM.rc d)) (torn := false) (by rw [hW]; exact hE)).2.1
       rwa [hW] at this)
   · rw [if_pos hE]
     exact bootD_err h d w HD HBg hok hu hs L E hW hE
theorem bootD_any (h : DevH) (d : DevR) (w : World) (HD : DH w h d) : Calls Tryz.prog 21 #[devV h d] w (GDv (DevM.told d false (DevM.boot d)) w) := by
 have HBg := fun W (x : DH W h d) => beginD_any checkD_ok h d false W x
 unfold devV at HBg
 rcases DevM.beg_cases d false with ⟨E, h0, hb, ht⟩ | ⟨hok, hu, hb, ht⟩
 · rw [ht]
   rw [hb] at HBg
   exact bootD_bad h d  w HD E h0 (LH HBg)
 · rw [ht]
   rw [hb] at HBg
   exact bootD_ok h d  w HD (LH HBg) hok hu
def ISt (w : World) (PB PK PD PE PL : Nat) (a1 : Option Addr) (N1 c1 : Nat) (la : Option Addr) (ln lc : Nat) (keep : Int) (cs : List ChR) (d : DevR) (W : World) : Prop :=
 ∃ h lo hi lo' hi', MH w [(PL, #[.slice la ln lc], 32), (PE, #[.int .i64 0], 40), (PD, (dvC h d), 37), (PK, #[.int .i64 keep], 3), (PB, #[.slice a1 N1 c1], 22)] [(lo, hi, fun V => DH V h d), (lo', hi', fun V => CS V la ln lc cs)] W
def IR1 (w : World) (PB PK PD PE PL : Nat) (a1 : Option Addr) (N1 c1 : Nat) (la : Option Addr) (ln lc : Nat) (keep : Int) (cs : List ChR) (X o : List Int) (to_ g : Int) (i : Value) (W : World) : Prop := ∃ (j : Nat) (d : DevR), i = .int .i64 j ∧ j ≤ ln ∧ ISt w PB PK PD PE PL a1 N1 c1 la ln lc keep cs d W ∧ DevM.Hears X to_ o g j d
def IR2 (w : World) (PB PK PD PE PL : Nat) (a1 : Option Addr) (N1 c1 : Nat) (la : Option Addr) (ln lc : Nat) (keep : Int) (cs : List ChR) (X : List Int) (p : PatR) (g torn : Int) (i : Value) (W : World) : Prop := ∃ (m M : Nat) (d : DevR), i = .int .i64 M ∧ M = 8 * m ∧ M ≤ 72 ∧ ISt w PB PK PD PE PL a1 N1 c1 la ln lc keep cs d W ∧ DevM.Writes X p g m d ∧ ∀ q : Nat, q < m → torn ≠ ((8 * q : Nat) : Int)
def IEnd (X : List Int) (N1 : Nat) (p : PatR) (g torn : Int) (d : DevR) : Prop :=
 (∃ m : Nat, torn = ((8 * m : Nat) : Int) ∧ 8 * m < N1 ∧ DevM.Down X g d) ∨ ((∀ m : Nat, 8 * m < N1 → torn ≠ ((8 * m : Nat) : Int)) ∧ ∃ m, N1 ≤ 8 * m ∧ DevM.Writes X p g m d)
theorem inst_any (w : World) (PB PK PD PE PL : Nat) (a1 : Option Addr) (N1 c1 : Nat) (la : Option Addr) (ln lc : Nat) (keep : Int) (cs : List ChR) (X Y o : List Int) (to_ g torn : Int) (p : PatR) (d0 : DevR) (W : World) (hst : DevM.Sent X Y to_ p o) (hr : DevM.Rest X g d0) (hg : g + 10 < 1000000) (hln : ChunkM.parts o = ln) (hcs : cs = ChunkM.cutL 1 to_ o) (hyl : Y.length = N1) (hN1 : N1 ≤ 64) (hS : ISt w PB PK PD PE PL a1 N1 c1 la ln lc keep cs d0 W) : Calls Tryz.prog 26 #[.int .i64 torn, .pointer (some ⟨PL, 0, none⟩), .pointer (some ⟨PD, 0, none⟩), .pointer (some ⟨PE, 0, none⟩), .pointer (some ⟨PB, 0, none⟩), .pointer (some ⟨PK, 0, none⟩)] W fun e W' => e = .returned (.bool true) ∧ ∃ d, ISt w PB PK PD PE PL a1 N1 c1 la ln lc keep cs d W' ∧ IEnd X N1 p (g + 1) torn d := by
 have HSt := LH hst
 have HR0 := LH hr
 have HLn := LH hln
 have HCSl := LH (fun (j : Nat) (hj : j < ln) => ChunkM.cutL_get 1 to_ o (k := j) (by rw [hln]; exact hj))
 rw [← hcs] at HCSl
 have HYl := LH hyl
 have hGb := hg
 have HGb := LH hGb
 have hln10 : ln ≤ 10 := by have := hst.parts; omega
 have hN64 : N1 ≤ 64 := by omega
 have HT : Hid (ISt w PB PK PD PE PL a1 N1 c1 la ln lc keep cs d0 W) := hS
 clear hst hr hln hcs hyl hg hGb hS hN1
 obtain ⟨h, lo, hi, lo', hi', hms⟩ := HT.out
 have HS := LH hms
 clear hms
 have c0 := cAt (k := 0) (v := .slice la ln lc) (HS.out.get 0 rfl) rfl
 try simp only at c0
 go_enter Tryz.func26, Tryz.ntmps26
 go_wp2_with fail
 clear c0 HS h lo hi lo' hi'
 go_loopw [13] (fun i wr => IR1 w PB PK PD PE PL a1 N1 c1 la ln lc keep cs X o to_ g i wr) (fun i _ => ln - (intOf i).toNat)
 case atStart => exact ⟨0, d0, rfl, Nat.zero_le _, HT.out, HR0.out.hears⟩
 case round =>
   obtain ⟨j, d, rfl, hj, hts, hhr⟩ := hrel
   clear HT HR0
   obtain ⟨h, lo, hi, lo', hi', hms⟩ := hts
   have HS := LH hms
   have HHr := LH hhr
   clear hms hhr
   have hj0 : (0 : Int) ≤ (j : Int) := by omega
   by_cases hjl : j < ln
   · obtain ⟨x, hx, hx2⟩ := HHr.out.next HSt.out (k := j) (by rw [HLn.out]; exact hjl)
     have hjI : (j : Int) < (ln : Int) := by omega
     obtain ⟨b, off, hla, hcs⟩ := (HS.out.fact 1 rfl).cells (by omega)
     subst hla
     have hqk := hcs j hjl
     rw [HCSl.out j hjl] at hqk
     generalize ChunkM.nth 1 to_ o j = c at hx hqk
     obtain ⟨va, vm, vc, q0, q1, q2, q3, q4, q5, qI⟩ := hqk
     have HHe : Hid (∀ h W, DH W h d → BS W va vm vc c.data → Calls Tryz.prog 15 #[.agg (dvC h d), .agg #[.int .i64 c.fr, .int .i64 c.to_, .int .i64 c.n, .int .i64 c.of_, .slice va vm vc]] W (GDv (x, 0) W)) := fun h W hd hb => by
       have := hearD_any h d c va vm vc W hd ⟨va, vm, vc, rfl, hb, qI⟩
       rw [hx] at this
       exact this
     have HX2 := LH hx2
     have HQ5 := LH q5
     clear hx hx2 hcs q5 qI
     obtain ⟨P9, hP9⟩ : ∃ P, wr.heap.size = P := ⟨_, rfl⟩
     replace HS := LH (HS.out.alloc hP9 #[.int .i64 c.fr, .int .i64 c.to_, .int .i64 c.n, .int .i64 c.of_, .slice va vm vc] 39)
     have HQ6 := LH (HQ5.out.later ((Below.refl wr.heap.size wr).alloc (Nat.le_refl _) (.cells #[.int .i64 c.fr, .int .i64 c.to_, .int .i64 c.n, .int .i64 c.of_, .slice va vm vc] 39)))
     clear HQ5
     go_upto_region 4 with fail
     refine gnX (fun V => MH w [(P9, #[.int .i64 c.fr, .int .i64 c.to_, .int .i64 c.n, .int .i64 c.of_, .slice va vm vc], 39), (PL, #[.slice (some ⟨b, off, none⟩) ln lc], 32), (PE, #[.int .i64 0], 40), (PD, (dvC h d), 37), (PK, #[.int .i64 keep], 3), (PB, #[.slice a1 N1 c1], 22)] [(lo, hi, fun V => DH V h d), (lo', hi', fun V => CS V (some ⟨b, off, none⟩) ln lc cs)] V ∧ BS V va vm vc c.data) ⟨HS.out, HQ6.out⟩ (fun V11 HX1 => ?_)
     clear q0 q1 q2 q3 q4 HQ6 HS
     obtain ⟨HS1, q5⟩ := HX1
     have HS := LH HS1
     have HQ5 := LH q5
     clear HS1 q5 hP9
     have cP9_0 := cAt (k := 0) (v := .int .i64 c.fr) (HS.out.get 0 rfl) rfl
     simp only at cP9_0
     have cP9_1 := cAt (k := 1) (v := .int .i64 c.to_) (HS.out.get 0 rfl) rfl
     simp only at cP9_1
     have cP9_2 := cAt (k := 2) (v := .int .i64 c.n) (HS.out.get 0 rfl) rfl
     simp only at cP9_2
     have cP9_3 := cAt (k := 3) (v := .int .i64 c.of_) (HS.out.get 0 rfl) rfl
     simp only at cP9_3
     have cP9_4 := cAt (k := 4) (v := .slice va vm vc) (HS.out.get 0 rfl) rfl
     simp only at cP9_4
     have bPD := HS.out.get 3 rfl
     simp only at bPD
     go_wp2_with (first
       | ((with_reducible show wpList _ _ _ _ _ _); refine LR rfl (t := 37) Tryz.underlying37 rfl (.tmp 2) rfl PD rfl bPD (sDv h d) ?_))
     clear cP9_0 cP9_1 cP9_2 cP9_3 cP9_4 bPD
     refine (HHe.out _ _ (HS.out.fact 0 rfl) HQ5.out).mono ?_
     rintro e X4 ⟨h4, rfl, hb, hn⟩
     unfold devV
     try simp only
     replace HS := LH (HS.out.gain hb hn)
     clear hb hn
     have HS2 := LH (HS.out.set 3 rfl (dvC h4 x)).drop1
     have bPD := HS.out.get 3 rfl
     simp only at bPD
     go_upto_region 5 with (first
       | ((with_reducible show wpList _ _ _ _ _ _); refine wpList_store_row rfl 37 (.tmp 2) (.tmp 21) rfl PD (dvC h4 x) rfl rfl 37 (dvC h d) ?_ ?_ ?_ ?_ ?_; exact bPD; exact (sDv _ _); exact (lDv h h4 d x); exact (oDv _ _); refine glH HS2.out (fun Va HSv => ?_); have e0 := cAt (k := 0) (v := .int .i64 0) (HSv.get 2 rfl) rfl; have z0 := tAt (k := 0) (HSv.get 2 rfl); try simp only at e0 z0; have HS3 := LH (HSv.cell (v := .int .i64 0) (c' := #[.int .i64 0]) (k := 0) 2 rfl rfl)))
     clear bPD
     refine gnH HS3.out (fun V4 HS1 => ?_)
     replace HS := LH HS1
     clear HS1 HS2 HS3 e0 z0 HSv
     have e0 := cAt (k := 0) (v := .int .i64 0) (HS.out.get 2 rfl) rfl
     try simp only at e0
     go_wp2_with fail
     go_roundw
     case rel => exact ⟨j + 1, x, by go_num, by omega, ⟨_, _, _, _, _, HS.out.subL (by repeat (first | exact List.Sublist.refl _ | apply List.Sublist.cons_cons | apply List.Sublist.cons))⟩, HX2.out⟩
     case measure => simp [intOf]; omega
   · have hjn : j = ln := by omega
     subst hjn
     have hhr := HHr.out
     rw [← HLn.out] at hhr
     obtain ⟨x, hx, hx2⟩ := hhr.opens HSt.out (by have := HGb.out; omega)
     have HX2 := LH hx2
     clear hhr hx2
     have HOp : Hid (∀ h W, DH W h d → Calls Tryz.prog 16 #[.agg (dvC h d)] W (GDv (x, 0) W)) := fun h W hd => by
       have := openD_any h d W hd
       rw [hx] at this
       exact this
     clear hx
     have bPD := HS.out.get 2 rfl
     simp only at bPD
     go_wp2_with (first
       | ((with_reducible show wpList _ _ _ _ _ _); refine LR rfl (t := 37) Tryz.underlying37 rfl (.tmp 2) rfl PD rfl bPD (sDv h d) ?_))
     clear bPD
     refine (HOp.out _ _ (HS.out.fact 0 rfl)).mono ?_
     rintro e X8 ⟨h8, rfl, hb, hn⟩
     unfold devV
     try simp only
     replace HS := LH (HS.out.gain hb hn)
     clear hb hn
     have HS2 := LH (HS.out.set 2 rfl (dvC h8 x)).drop1
     have bPD := HS.out.get 2 rfl
     simp only at bPD
     go_upto_region 9 with (first
       | ((with_reducible show wpList _ _ _ _ _ _); refine wpList_store_row rfl 37 (.tmp 2) (.tmp 29) rfl PD (dvC h8 x) rfl rfl 37 (dvC h d) ?_ ?_ ?_ ?_ ?_; exact bPD; exact (sDv _ _); exact (lDv h h8 d x); exact (oDv _ _); refine glH HS2.out (fun Va HSv => ?_); have e0 := cAt (k := 0) (v := .int .i64 0) (HSv.get 1 rfl) rfl; have z0 := tAt (k := 0) (HSv.get 1 rfl); try simp only at e0 z0; have HS3 := LH (HSv.cell (v := .int .i64 0) (c' := #[.int .i64 0]) (k := 0) 1 rfl rfl)))
     clear bPD
     refine gnH HS3.out (fun V8 HS1 => ?_)
     replace HS := LH HS1
     clear HS1 HS2 HS3 e0 z0 HSv
     have e0 := cAt (k := 0) (v := .int .i64 0) (HS.out.get 1 rfl) rfl
     try simp only at e0
     have HT : Hid (ISt w PB PK PD PE PL a1 N1 c1 la j lc keep cs x V8) := ⟨_, _, _, _, _, HS.out⟩
     go_wp2_with fail
     clear e0 HS HHr HOp hjl
     go_loopw [10] (fun i wr => IR2 w PB PK PD PE PL a1 N1 c1 la j lc keep cs X p (g + 1) torn i wr) (fun i _ => 100 - (intOf i).toNat)
     case atStart => exact ⟨0, 0, x, rfl, rfl, by omega, HT.out, HX2.out, fun q hq => absurd hq (by omega)⟩
     case round =>
       obtain ⟨m, M, d, rfl, hM, hM72, hts, hwr, hno⟩ := hrel
       clear HT HX2
       obtain ⟨h, lo, hi, lo', hi', hms⟩ := hts
       have HS := LH hms
       have HWr := LH hwr
       have HNo := LH hno
       have HM := LH hM
       clear hms hwr hno hM
       have hM0 : (0 : Int) ≤ (M : Int) := by omega
       by_cases hMl : M < N1
       · have hMI : (M : Int) < (N1 : Int) := by omega
         obtain ⟨M8, hM8⟩ : ∃ M8 : Nat, M + 8 = M8 := ⟨_, rfl⟩
         have hMe : (M : Int) + 8 = (M8 : Int) := by omega
         have HME := LH hMe
         have hwr8 : IntKind.i64.wrap (M8 : Int) = M8 := IntWalk.i64_in _ (by omega)
         clear hMe
         by_cases htq : (M : Int) = torn
         · have htb : ((M : Int) == torn) = true := by simpa using htq
           obtain ⟨x, hx, hx2⟩ := HWr.out.tear HSt.out (by rw [HYl.out]; have := HM.out; omega) keep
           have HX2 := LH hx2
           have HTq := LH htq
           clear hx2 htq
           have HWt : Hid (∀ h W, DH W h d → Calls Tryz.prog 17 #[.agg (dvC h d), .bool true, .int .i64 keep] W (GDv (x, 0) W)) := fun h W hd => by
             have := writeD_any h d true keep W hd
             rw [hx] at this
             exact this
           clear hx
           have cB := cAt (k := 0) (v := .slice a1 N1 c1) (HS.out.get 4 rfl) rfl
           have cK := cAt (k := 0) (v := .int .i64 keep) (HS.out.get 3 rfl) rfl
           try simp only at cB cK
           have bPD := HS.out.get 2 rfl
           simp only at bPD
           go_wp2_with (first
             | ((with_reducible show wpList _ _ _ _ _ _); refine LR rfl (t := 37) Tryz.underlying37 rfl (.tmp 2) rfl PD rfl bPD (sDv h d) ?_))
           clear cB cK bPD
           refine (HWt.out _ _ (HS.out.fact 0 rfl)).mono ?_
           rintro e X14 ⟨h14, rfl, hb, hn⟩
           unfold devV
           try simp only
           replace HS := LH (HS.out.gain hb hn)
           clear hb hn
           have HS2 := LH (HS.out.set 2 rfl (dvC h14 x)).drop1
           have bPD := HS.out.get 2 rfl
           simp only at bPD
           go_upto_region 15 with (first
             | ((with_reducible show wpList _ _ _ _ _ _); refine wpList_store_row rfl 37 (.tmp 2) (.tmp 46) rfl PD (dvC h14 x) rfl rfl 37 (dvC h d) ?_ ?_ ?_ ?_ ?_; exact bPD; exact (sDv _ _); exact (lDv h h14 d x); exact (oDv _ _); refine glH HS2.out (fun Va HSv => ?_); have e0 := cAt (k := 0) (v := .int .i64 0) (HSv.get 1 rfl) rfl; have z0 := tAt (k := 0) (HSv.get 1 rfl); try simp only at e0 z0; have HS3 := LH (HSv.cell (v := .int .i64 0) (c' := #[.int .i64 0]) (k := 0) 1 rfl rfl)))
           clear bPD
           refine gnH HS3.out (fun V14 HS1 => ?_)
           replace HS := LH HS1
           clear HS1 HS2 HS3 e0 z0 HSv
           have e0 := cAt (k := 0) (v := .int .i64 0) (HS.out.get 1 rfl) rfl
           try simp only at e0
           go_wp2_with fail
           go_ret
           exact ⟨rfl, x, ⟨_, _, _, _, _, HS.out⟩, .inl ⟨m, by have := HTq.out; have := HM.out; omega, by have := HM.out; omega, HX2.out⟩⟩
         · have htb : ((M : Int) == torn) = false := by simpa using htq
           obtain ⟨x, hx, hx2⟩ := HWr.out.next HSt.out (by rw [HYl.out]; have := HM.out; omega) keep
           have HX2 := LH hx2
           have HTq := LH htq
           clear hx2 htq
           have HWt : Hid (∀ h W, DH W h d → Calls Tryz.prog 17 #[.agg (dvC h d), .bool false, .int .i64 keep] W (GDv (x, 0) W)) := fun h W hd => by
             have := writeD_any h d false keep W hd
             rw [hx] at this
             exact this
           clear hx
           have cB := cAt (k := 0) (v := .slice a1 N1 c1) (HS.out.get 4 rfl) rfl
           have cK := cAt (k := 0) (v := .int .i64 keep) (HS.out.get 3 rfl) rfl
           try simp only at cB cK
           have bPD := HS.out.get 2 rfl
           simp only at bPD
           go_wp2_with (first
             | ((with_reducible show wpList _ _ _ _ _ _); refine LR rfl (t := 37) Tryz.underlying37 rfl (.tmp 2) rfl PD rfl bPD (sDv h d) ?_))
           clear cB cK bPD
           refine (HWt.out _ _ (HS.out.fact 0 rfl)).mono ?_
           rintro e X14 ⟨h14, rfl, hb, hn⟩
           unfold devV
           try simp only
           replace HS := LH (HS.out.gain hb hn)
           clear hb hn
           have HS2 := LH (HS.out.set 2 rfl (dvC h14 x)).drop1
           have bPD := HS.out.get 2 rfl
           simp only at bPD
           go_upto_region 15 with (first
             | ((with_reducible show wpList _ _ _ _ _ _); refine wpList_store_row rfl 37 (.tmp 2) (.tmp 46) rfl PD (dvC h14 x) rfl rfl 37 (dvC h d) ?_ ?_ ?_ ?_ ?_; exact bPD; exact (sDv _ _); exact (lDv h h14 d x); exact (oDv _ _); refine glH HS2.out (fun Va HSv => ?_); have e0 := cAt (k := 0) (v := .int .i64 0) (HSv.get 1 rfl) rfl; have z0 := tAt (k := 0) (HSv.get 1 rfl); try simp only at e0 z0; have HS3 := LH (HSv.cell (v := .int .i64 0) (c' := #[.int .i64 0]) (k := 0) 1 rfl rfl)))
           clear bPD
           refine gnH HS3.out (fun V14 HS1 => ?_)
           replace HS := LH HS1
           clear HS1 HS2 HS3 e0 z0 HSv
           have e0 := cAt (k := 0) (v := .int .i64 0) (HS.out.get 1 rfl) rfl
           try simp only at e0
           go_wp2_with fail
           go_roundw
           case rel => exact ⟨m + 1, M8, x, by rw [HME.out], by have := HM.out; omega, by omega, ⟨_, _, _, _, _, HS.out⟩, HX2.out, fun q hq => by
             by_cases hqm : q < m
             · exact HNo.out q hqm
             · intro e
               have hqe : q = m := by omega
               subst hqe
               exact HTq.out (by rw [HM.out]; exact e.symm)⟩
           case measure => simp [intOf]; omega
       · have hMI : ¬ (M : Int) < (N1 : Int) := by omega
         have cB := cAt (k := 0) (v := .slice a1 N1 c1) (HS.out.get 4 rfl) rfl
         try simp only at cB
         go_wp2_with fail
         go_ret
         exact ⟨rfl, d, ⟨_, _, _, _, _, HS.out⟩, .inr ⟨fun q hq => HNo.out q (by have := HM.out; omega), m, by have := HM.out; omega, HWr.out⟩⟩
def GivesIm (w : World) (e : Ending) (w' : World) : Prop :=
 ∃ B A0 A1 A2, e = .returned (.slice (some ⟨B, 0, none⟩) 3 3) ∧ w'.heap[B]? = some (.cells #[.slice A0 8 8, .slice A1 9 9, .slice A2 11 11] 22 (0, 0)) ∧ BS w' A0 8 8 Inst.im0 ∧ BS w' A1 9 9 Inst.im1 ∧ w.heap.size ≤ B ∧ Below w.heap.size w w'
theorem images_any (w : World) : Calls Tryz.prog 46 #[] w (GivesIm w) := by
 have kc := fun (w : World) (C : Array Value) (n c : Nat) => Lib.run_convert_bytes_const (P := Tryz.prog) w 22 5 C n c Tryz.underlying22 Tryz.underlying5
 have sz : ∀ (w : World) (o : Obj), (w.alloc o).heap.size = w.heap.size + 1 := fun w o => by simp
 have kc2 : ∀ (w : World) (o : Obj) (C : Array Value) (n c : Nat), (convert 22 22 (.slice (some ⟨w.heap.size + 1, 0, none⟩) n c)).run Tryz.prog ((w.alloc o).alloc (.cells C 5)) = .ok (.slice (some ⟨w.heap.size + 1, 0, none⟩) n c) ((w.alloc o).alloc (.cells C 5 (C.size, C.size + 1))) := fun w o C n c => by
   have := kc (w.alloc o) C n c
   rwa [sz] at this
 have kc3 : ∀ (w : World) (o o' : Obj) (C : Array Value) (n c : Nat), (convert 22 22 (.slice (some ⟨w.heap.size + 1 + 1, 0, none⟩) n c)).run Tryz.prog (((w.alloc o).alloc o').alloc (.cells C 5)) = .ok (.slice (some ⟨w.heap.size + 1 + 1, 0, none⟩) n c) (((w.alloc o).alloc o').alloc (.cells C 5 (C.size, C.size + 1))) := fun w o o' C n c => by
   have := kc ((w.alloc o).alloc o') C n c
   rwa [sz, sz] at this
 have l1 := lit_bs_marked w [97, 98, 99, 100, 101, 102, 103, 104] 8 (8, 9) rfl (by omega) (by decide)
 have l2 := lit_bs_marked (w.alloc (.cells (([97, 98, 99, 100, 101, 102, 103, 104] : List Int).map (Value.int .u8)).toArray 5 (8, 9))) [120, 101, 102, 103, 104, 97, 98, 99, 100] 9 (9, 10) rfl (by omega) (by decide)
 have SZ := LH sz
 have HL := LH (And.intro l1 l2)
 clear sz l1 l2 kc
 have kc := fun (w : World) (C : Array Value) (n c : Nat) => Lib.run_convert_bytes_const (P := Tryz.prog) w 22 5 C n c Tryz.underlying22 Tryz.underlying5
 go_enter Tryz.func46, Tryz.ntmps46
 go_wp2_with fail
 go_ret
 have hb : ∀ (v : World) (o1 o2 o3 : Obj), Below v.heap.size v (((v.alloc o1).alloc o2).alloc o3) := fun v o1 o2 o3 => (((Below.refl _ _).alloc (Nat.le_refl _) o1).alloc (by rw [SZ.out]; omega) o2).alloc (by rw [SZ.out, SZ.out]; omega) o3
 have hb2 : ∀ (v : World) (o1 o2 : Obj), Below v.heap.size v ((v.alloc o1).alloc o2) := fun v o1 o2 => ((Below.refl _ _).alloc (Nat.le_refl _) o1).alloc (by rw [SZ.out]; omega) o2
 have h2 := HL.out.2
 rw [SZ.out] at h2
 refine ⟨w.heap.size + 1 + 1 + 1, some ⟨w.heap.size, 0, none⟩, some ⟨w.heap.size + 1, 0, none⟩, some ⟨w.heap.size + 1 + 1, 0, none⟩, rfl, ?_, HL.out.1.later (hb _ _ _ _), h2.later (hb2 _ _ _), by omega, (hb w _ _ _).alloc (by rw [SZ.out, SZ.out, SZ.out]; omega) _⟩
 rw [hpA, if_pos (by rw [SZ.out, SZ.out, SZ.out])]
theorem put_all (h : DevH) (d : DevR) : putAt zDev 0 (dvC h d).toList = dvC h d := by kernel_rfl
theorem newD_many (a : Option Addr) (n c : Nat) (l : List Int) (w : World) (hb : BS w a n c l) (hn : 64 < n) : Calls Tryz.prog 7 #[.slice a n c] w (GDv (DevM.noDev, 1) w) := by
 have _hb := hb
 clear _hb
 have t1 : decide ((n : Int) > 64) = true := by simp; omega
 clear hb hn
 obtain ⟨P1, hP1⟩ : ∃ P, w.heap.size = P := ⟨_, rfl⟩
 have HS := LH ((MS.start w).alloc (p := P1) (by simp [hP1]) zDev 37)
 go_enter Tryz.func7, Tryz.ntmps7
 go_upto_region 1 with fail
 refine wp_gen HS.out (fun V0 HS1 => ?_)
 replace HS := LH HS1
 clear HS1 hP1
 replace HS := LH (MH.of HS.out)
 have bP1 := HS.out.get 0 rfl
 simp only at bP1
 have HG := LH (HS.out.set 0 rfl zDev)
 go_wp2_with (first
   | ((with_reducible show wpList _ _ _ _ _ _); refine wpList_store_row rfl 37 (.tmp 2) (.tmp 8) rfl P1 zDev rfl rfl 37 zDev ?_ ?_ ?_ ?_ ?_; exact bP1; exact size_zdev; exact like_zz; exact one_zdev))
 clear bP1
 refine bodyPost_ret (v := .tuple #[.agg zDev, .int .i64 1]) ?_ rfl ?_
 · exact res_ct (fn := Tryz.f7) (p := 2) (a := 3) rfl rfl rfl (HG.out.get 0 rfl) Tryz.underlying37 rfl size_zdev
 · exact GDv.bad HG.out.below
theorem newD_few (a : Option Addr) (n c : Nat) (l : List Int) (w : World) (hb : BS w a n c l) (hn : n ≤ 64) : Calls Tryz.prog 7 #[.slice a n c] w (GDv ((⟨DevM.fill l, DevM.fill [], ⟨⟨true, (⟨1, 0, false, 0, 1, (⟨1, n, SumM.addL 1 l⟩ : InfR), RecM.noInf⟩ : RecR)⟩, RecM.noCop⟩, true, 0, [], false, noPat, 0⟩ : DevR), 0) w) := by
 have t1 : decide ((n : Int) > 64) = false := by simp; omega
 have HB := LH hb
 have HSm : Hid (∀ W, BS W a n c l → Calls Tryz.prog 36 #[.slice a n c] W fun e w' => e = .returned (.int .i64 (SumM.addL 1 l)) ∧ W = w') := fun W h => of_any a n c l W h
 have HFl : Hid (∀ W F, W.heap.size = F → BS W a n c l → Calls Tryz.prog 37 #[.slice a n c] W fun e w' => e = .returned (.slice (some ⟨F, 0, none⟩) 64 64) ∧ w' = W.alloc (.cells (fillC l) 5)) := fun W F hF hb => by
   subst hF
   exact filledD_any a n c l W hb (by omega)
 have HFn : Hid (∀ W F, W.heap.size = F → Calls Tryz.prog 37 #[.slice none 0 0] W fun e w' => e = .returned (.slice (some ⟨F, 0, none⟩) 64 64) ∧ w' = W.alloc (.cells (fillC []) 5)) := fun W F hF => by
   subst hF
   exact filledD_any none 0 0 [] W (BS.nil_ W) (by omega)
 have HLl := LH hb.len
 have HNn := LH hn
 clear hb hn
 obtain ⟨P1, hP1⟩ : ∃ P, w.heap.size = P := ⟨_, rfl⟩
 have HS := LH ((MS.start w).alloc (p := P1) (by simp [hP1]) zDev 37)
 go_enter Tryz.func7, Tryz.ntmps7
 go_upto_region 1 with fail
 refine wp_gen HS.out (fun V0 HS1 => ?_)
 replace HS := LH HS1
 clear HS1 hP1
 replace HS := LH (MH.of HS.out)
 obtain ⟨P3, hP3⟩ : ∃ P, V0.heap.size = P := ⟨_, rfl⟩
 replace HS := LH (HS.out.alloc hP3 (rcC (⟨1, 0, false, 0, 1, RecM.noInf, RecM.noInf⟩ : RecR)) 28)
 go_upto_region 4 with ((with_reducible show wpList _ _ _ _ _ _); refine wSN rfl 28 (.tmp 4) (.tmp 9) rfl P3 (rcC (⟨1, 0, false, 0, 1, RecM.noInf, RecM.noInf⟩ : RecR)) rfl rfl 28 _ ?_ ?_ ?_ ?_ ?_; exact hP3.symm; exact (sRc (⟨1, 0, false, 0, 1, RecM.noInf, RecM.noInf⟩ : RecR)); exact (lRc (⟨1, 0, false, 0, 1, RecM.noInf, RecM.noInf⟩ : RecR)); exact (oRc (⟨1, 0, false, 0, 1, RecM.noInf, RecM.noInf⟩ : RecR)))
 refine gnH HS.out (fun V1 HS1 => ?_)
 replace HS := LH HS1
 clear HS1 hP3
 go_wp2_with fail
 refine (HSm.out _ (HB.out.later HS.out.below)).mono ?_
 rintro e W9 ⟨rfl, rfl⟩
 have HS2 := LH (HS.out.cells 0 rfl (put_inf0 1 0 false 0 1 RecM.noInf RecM.noInf (⟨1, n, SumM.addL 1 l⟩ : InfR)))
 go_upto_region 5 with (first
   | ((with_reducible show wpList _ _ _ _ _ _); refine wpList_store_mid rfl 25 (.tmp 16) (.tmp 14) rfl P3 5 #[Value.int .i64 1, .int .i64 n, .int .i64 (SumM.addL 1 l)] rfl rfl ?_ ?_ ?_ ?_; exact HS.out.ms.there 0 rfl (by show 8 ≤ 11; decide); exact size_inf (⟨1, n, SumM.addL 1 l⟩ : InfR); exact one_inf (⟨1, n, SumM.addL 1 l⟩ : InfR); refine glH HS2.out (fun V3 HS1 => ?_)))
 replace HS := LH HS1
 clear HS1 HS2
 replace HS := LH HS.out.drew
 refine rTu (S := MS w [(P3, (rcC (⟨1, 0, false, 0, 1, (⟨1, n, SumM.addL 1 l⟩ : InfR), RecM.noInf⟩ : RecR)), 28)] [] []) [(0, false), (4, false), (5, false), (6, false), (1, true), (2, true), (3, false), (7, false), (8, true), (9, false)] false 9999 (by kernel_rfl) (by kernel_rfl) (HS.out.ms.sub (List.sublist_append_left [(P3, (rcC (⟨1, 0, false, 0, 1, (⟨1, n, SumM.addL 1 l⟩ : InfR), RecM.noInf⟩ : RecR)), 28)] [(P1, _, 37)])) ?_
 simp only [turned, gA, gB, gC]
 refine tSt ?_ (by rfl) (fun W9 hW9 => ?_) ?_
 rotate_left
 · (go_simp <;> with_reducible rfl)
 simp only [Act.put, sA, sB, sC]
 refine turn_row (by rfl) 28 (.tmp 4) rfl P3 rfl 28 (rcC (⟨1, 0, false, 0, 1, (⟨1, n, SumM.addL 1 l⟩ : InfR), RecM.noInf⟩ : RecR)) _ (fun W hW => hW.get 0 rfl) Tryz.underlying28 rfl (sRc (⟨1, 0, false, 0, 1, (⟨1, n, SumM.addL 1 l⟩ : InfR), RecM.noInf⟩ : RecR)) ?_
 simp only [Act.put, sA, sB, sC]
 refine tSt (.agg #[.bool true, .int .i64 1, .int .i64 0, .bool false, .int .i64 0, .int .i64 1, .int .i64 1, .int .i64 n, .int .i64 (SumM.addL 1 l), .int .i64 0, .int .i64 0, .int .i64 0]) (by rfl) (fun W9 _ => by kernel_rfl) ?_
 simp only [Act.put, sA, sB, sC]
 refine tSt (.agg (cpC ⟨⟨true, (⟨1, 0, false, 0, 1, (⟨1, n, SumM.addL 1 l⟩ : InfR), RecM.noInf⟩ : RecR)⟩, RecM.noCop⟩)) (by rfl) (fun W9 _ => by kernel_rfl) ?_
 simp only [Act.put, sA, sB, sC]
 obtain ⟨F0, hF0⟩ : ∃ F, (V3.drew).heap.size = F := ⟨_, rfl⟩
 refine tCa (fun K hK => ?_)
 go_simp
 go_at_call 37
 with_reducible refine (HFl.out _ F0 hF0 (HB.out.later HS.out.below)).mono ?_
 rintro e W9 ⟨rfl, rfl⟩
 replace HS := LH (HS.out.alloc hF0 (fillC l) 5)
 clear hF0
 try go_wp2_with fail
 refine hK.out _ _ (HS.out.ms.sub (.cons _ (List.sublist_append_left [(P3, (rcC (⟨1, 0, false, 0, 1, (⟨1, n, SumM.addL 1 l⟩ : InfR), RecM.noInf⟩ : RecR)), 28)] [(P1, _, 37)]))) ?_
 clear hK K
 try simp only [Act.put, sA, sB, sC]
 refine turn_gen HS.out (fun U0 HS1 => ?_)
 replace HS := LH HS1
 clear HS1
 repeat (first
   | (refine tSt ?_ (by rfl) (fun W9 hW9 => ?_) ?_
      rotate_left
      · (go_simp <;> with_reducible rfl)
      simp only [Act.put, sA, sB, sC])
   | (refine tSk (by rfl) ?_; simp only [Act.put, sA, sB, sC]))
 obtain ⟨F1, hF1⟩ : ∃ F, (U0).heap.size = F := ⟨_, rfl⟩
 refine tCa (fun K hK => ?_)
 go_simp
 go_at_call 37
 with_reducible refine (HFn.out _ F1 hF1).mono ?_
 rintro e W9 ⟨rfl, rfl⟩
 replace HS := LH (HS.out.alloc hF1 (fillC []) 5)
 clear hF1
 try go_wp2_with fail
 refine hK.out _ _ (HS.out.ms.sub (.cons _ (.cons _ (List.sublist_append_left [(P3, (rcC (⟨1, 0, false, 0, 1, (⟨1, n, SumM.addL 1 l⟩ : InfR), RecM.noInf⟩ : RecR)), 28)] [(P1, _, 37)])))) ?_
 clear hK K
 try simp only [Act.put, sA, sB, sC]
 refine turn_gen HS.out (fun U1 HS1 => ?_)
 replace HS := LH HS1
 clear HS1
 refine tSt ?_ (by rfl) (fun W9 hW9 => ?_) ?_
 rotate_left
 · (go_simp <;> with_reducible rfl)
 simp only [Act.put, sA, sB, sC]
 refine tSt (.agg (dvC (⟨some ⟨F0, 0, none⟩, 64, 64, some ⟨F1, 0, none⟩, 64, 64, none, 0, 0, none, 0, 0⟩ : DevH) (⟨DevM.fill l, DevM.fill [], ⟨⟨true, (⟨1, 0, false, 0, 1, (⟨1, n, SumM.addL 1 l⟩ : InfR), RecM.noInf⟩ : RecR)⟩, RecM.noCop⟩, true, 0, [], false, noPat, 0⟩ : DevR))) (by rfl) (fun W9 _ => by kernel_rfl) ?_
 simp only [Act.put, sA, sB, sC]
 have HS2 := LH (HS.out.cells 3 rfl (put_all (⟨some ⟨F0, 0, none⟩, 64, 64, some ⟨F1, 0, none⟩, 64, 64, none, 0, 0, none, 0, 0⟩ : DevH) (⟨DevM.fill l, DevM.fill [], ⟨⟨true, (⟨1, 0, false, 0, 1, (⟨1, n, SumM.addL 1 l⟩ : InfR), RecM.noInf⟩ : RecR)⟩, RecM.noCop⟩, true, 0, [], false, noPat, 0⟩ : DevR)))
 refine tCa (fun K hK => ?_)
 refine wp_store_cellsO (by rfl) 37 (.tmp 2) (.tmp 24) rfl P1 0 (dvC (⟨some ⟨F0, 0, none⟩, 64, 64, some ⟨F1, 0, none⟩, 64, 64, none, 0, 0, none, 0, 0⟩ : DevH) (⟨DevM.fill l, DevM.fill [], ⟨⟨true, (⟨1, 0, false, 0, 1, (⟨1, n, SumM.addL 1 l⟩ : InfR), RecM.noInf⟩ : RecR)⟩, RecM.noCop⟩, true, 0, [], false, noPat, 0⟩ : DevR)) rfl rfl (HS.out.ms.there 3 rfl (by show 37 ≤ 37; decide)) (sDv _ _) (oDv _ _) ?_
 refine hK.out _ _ (HS2.out.ms.sub (.cons _ (.cons _ (List.sublist_append_left [(P3, (rcC (⟨1, 0, false, 0, 1, (⟨1, n, SumM.addL 1 l⟩ : InfR), RecM.noInf⟩ : RecR)), 28)] [(P1, _, 37)])))) ?_
 clear hK K
 try simp only [Act.put]
 refine turn_gen HS2.out (fun U2 HS1 => ?_)
 replace HS := LH HS1
 clear HS1 HS2
 repeat (first
   | (refine tSt ?_ (by rfl) (fun W9 hW9 => ?_) ?_
      rotate_left
      · (go_simp <;> with_reducible rfl)
      simp only [Act.put, sA, sB, sC])
   | (refine tSk (by rfl) ?_; simp only [Act.put, sA, sB, sC]))
 refine tEn ?_
 go_wp2_with fail
 refine bodyPost_ret (v := .tuple #[.agg (dvC (⟨some ⟨F0, 0, none⟩, 64, 64, some ⟨F1, 0, none⟩, 64, 64, none, 0, 0, none, 0, 0⟩ : DevH) (⟨DevM.fill l, DevM.fill [], ⟨⟨true, (⟨1, 0, false, 0, 1, (⟨1, n, SumM.addL 1 l⟩ : InfR), RecM.noInf⟩ : RecR)⟩, RecM.noCop⟩, true, 0, [], false, noPat, 0⟩ : DevR)), .int .i64 0]) ?_ rfl ?_
 · exact res_ct (fn := Tryz.f7) (p := 2) (a := 3) rfl rfl rfl (HS.out.get 3 rfl) Tryz.underlying37 rfl (sDv _ _)
 · have g0 := HS.out.get 1 rfl
   have g1 := HS.out.get 0 rfl
   simp only at g0 g1
   have b0 : w.heap.size ≤ F0 := HS.out.ms.base (F0, fillC l, 5) (by simp)
   have b1 : w.heap.size ≤ F1 := HS.out.ms.base (F1, fillC [], 5) (by simp)
   have c0 := HS.out.ms.lt (q := (F0, fillC l, 5)) (by simp)
   have c1 := HS.out.ms.lt (q := (F1, fillC [], 5)) (by simp)
   refine ⟨(⟨some ⟨F0, 0, none⟩, 64, 64, some ⟨F1, 0, none⟩, 64, 64, none, 0, 0, none, 0, 0⟩ : DevH), rfl, HS.out.below, fun V v1 v2 => ?_⟩
   have hl := HLl.out
   have hn := HNn.out
   have hs := SumM.addL_bd l 1 (by omega) (by omega)
   refine ⟨fillC_bs ((v2 F0 b0 c0).trans g0) (by omega) HB.out.bytes, fillC_bs ((v2 F1 b1 c1).trans g1) (by show (0 : Nat) ≤ 64; omega) (fun x hx => by cases hx), CS.nil_ _, OS.nil_ _, ⟨?_, noRec_w⟩, i64_zero, noPat_w, i64_zero⟩
   unfold RecW InfW I64 RecM.noInf
   simp only
   omega
theorem newD_any (a : Option Addr) (n c : Nat) (l : List Int) (w : World) (hb : BS w a n c l) : Calls Tryz.prog 7 #[.slice a n c] w (GDv (DevM.newOf l) w) := by
 unfold DevM.newOf
 have hl := hb.len
 by_cases h : 64 < l.length
 · rw [if_pos h]
   exact newD_many a n c l w hb (by omega)
 · rw [if_neg h, hl]
   exact newD_few a n c l w hb (by omega)
theorem crashD_bad (h : DevH) (d : DevR) (w : World) (HD : DH w h d) (E : Int) (h0 : E ≠ 0) (HBg : Hid (∀ W, DH W h d → Calls Tryz.prog 55 #[.agg (dvC h d), .bool true] W fun e w' => e = .returned (.tuple #[.agg (rcC RecM.noRec), .int .i64 E]) ∧ Below W.heap.size W w')) : Calls Tryz.prog 20 #[devV h d] w (GDv (DevM.noDev, E) w) := by
 have t0 : (E != 0) = true := by simp [h0]
 have HDh := LH HD
 clear HD
 unfold devV
 obtain ⟨P1, hP1⟩ : ∃ P, w.heap.size = P := ⟨_, rfl⟩
 have HS := LH (((((MS.start w).alloc (p := P1) (by simp [hP1]) (dvC h d) 37)).alloc (p := (P1 + 1)) (by simp [hP1]) zDev 37))
 go_enter Tryz.func20, Tryz.ntmps20
 go_upto_region 1 with fail
 refine wp_gen HS.out (fun V0 HS1 => ?_)
 replace HS := LH HS1
 clear HS1 hP1
 replace HS := LH (MH.of HS.out)
 have bP1 := HS.out.get 1 rfl
 simp only at bP1
 go_wp2_with (first
   | (refine wpList_load_row rfl 37 (.tmp 1) rfl P1 rfl 37 (dvC h d) (0, 0) _ bP1 Tryz.underlying37 rfl (sDv h d) ?_))
 clear bP1
 refine (HBg.out _ (HDh.out.later HS.out.below)).mono ?_
 rintro e W1 ⟨rfl, hb⟩
 replace HS := LH (HS.out.later hb)
 clear hb
 obtain ⟨P3, hP3⟩ : ∃ P, W1.heap.size = P := ⟨_, rfl⟩
 replace HS := LH (HS.out.alloc hP3 (rcC RecM.noRec) 28)
 go_upto_region 2 with (refine wSN rfl 28 (.tmp 4) (.tmp 9) rfl P3 (rcC RecM.noRec) rfl rfl 28 _ hP3.symm (sRc RecM.noRec) (lRc RecM.noRec) (oRc RecM.noRec) ?_)
 refine gnH HS.out (fun V1 HS1 => ?_)
 replace HS := LH HS1
 clear HS1 hP3
 have bP1p1 := HS.out.get 1 rfl
 simp only at bP1p1
 have HG := LH (HS.out.set 1 rfl zDev)
 go_wp2_with (first
   | (refine wpList_store_row rfl 37 (.tmp 2) (.tmp 13) rfl (P1 + 1) zDev rfl rfl 37 _ bP1p1 size_zdev like_zz one_zdev ?_))
 clear bP1p1
 refine bodyPost_ret (v := .tuple #[.agg zDev, .int .i64 E]) ?_ rfl ?_
 · exact res_ct (fn := Tryz.f20) (p := 2) (a := 3) rfl rfl rfl (HG.out.get 1 rfl) Tryz.underlying37 rfl size_zdev
 · exact GDv.bad HG.out.below
theorem crashD_ok (h : DevH) (d : DevR) (w : World) (HD : DH w h d) (HBg : Hid (∀ W, DH W h d → Calls Tryz.prog 55 #[.agg (dvC h d), .bool true] W fun e w' => e = .returned (.tuple #[.agg (rcC (DevM.rc d)), .int .i64 0]) ∧ Below W.heap.size W w')) (hok : DevM.Ok d) (hu : d.up = true) : Calls Tryz.prog 20 #[devV h d] w (GDv (DevM.crash d) w) := by
 have _hk := hok
 have _hv := hu
 clear _hk _hv
 have HO := LH (fun W => offD_any h d W)
 have HCy := LH (fun W (x : DH W h d) => copiedD_new (offH h) (DevM.off d) W x.off (DevM.few_off (DevM.few_of hok)))
 unfold devV at HO HCy
 clear hok hu
 have HDh := LH HD
 clear HD
 unfold devV
 obtain ⟨P1, hP1⟩ : ∃ P, w.heap.size = P := ⟨_, rfl⟩
 have HS := LH (((((MS.start w).alloc (p := P1) (by simp [hP1]) (dvC h d) 37)).alloc (p := (P1 + 1)) (by simp [hP1]) zDev 37))
 go_enter Tryz.func20, Tryz.ntmps20
 go_upto_region 1 with fail
 refine wp_gen HS.out (fun V0 HS1 => ?_)
 replace HS := LH HS1
 clear HS1 hP1
 replace HS := LH (MH.of HS.out)
 have bP1 := HS.out.get 1 rfl
 simp only at bP1
 go_wp2_with (first
   | (refine wpList_load_row rfl 37 (.tmp 1) rfl P1 rfl 37 (dvC h d) (0, 0) _ bP1 Tryz.underlying37 rfl (sDv h d) ?_))
 clear bP1
 refine (HBg.out _ (HDh.out.later HS.out.below)).mono ?_
 rintro e W1 ⟨rfl, hb⟩
 replace HS := LH (HS.out.later hb)
 clear hb
 obtain ⟨P3, hP3⟩ : ∃ P, W1.heap.size = P := ⟨_, rfl⟩
 replace HS := LH (HS.out.alloc hP3 (rcC (DevM.rc d)) 28)
 go_upto_region 2 with (refine wSN rfl 28 (.tmp 4) (.tmp 9) rfl P3 (rcC (DevM.rc d)) rfl rfl 28 _ hP3.symm (sRc (DevM.rc d)) (lRc (DevM.rc d)) (oRc (DevM.rc d)) ?_)
 refine gnH HS.out (fun V1 HS1 => ?_)
 replace HS := LH HS1
 clear HS1 hP3
 have bP1 := HS.out.get 2 rfl
 simp only at bP1
 go_wp2_with (first
   | (refine wpList_load_row rfl 37 (.tmp 1) rfl P1 rfl 37 (dvC h d) (0, 0) _ bP1 Tryz.underlying37 rfl (sDv h d) ?_))
 clear bP1
 refine (HO.out _).mono ?_
 rintro e W2 ⟨rfl, hb⟩
 replace HS := LH (HS.out.later hb)
 clear hb
 go_wp2_with fail
 refine (HCy.out _ (HDh.out.later HS.out.below)).mono ?_
 rintro e W5 ⟨h', rfl, hb, hn, -, -⟩
 replace HS := LH (HS.out.gain hb hn)
 clear hb hn
 unfold devV
 have bP1p1 := HS.out.get 1 rfl
 simp only at bP1p1
 have HG := LH (HS.out.set 1 rfl (dvC h' (DevM.off d)))
 go_wp2_with (first
   | (refine wpList_store_row rfl 37 (.tmp 2) (.tmp 17) rfl (P1 + 1) (dvC h' (DevM.off d)) rfl rfl 37 _ bP1p1 (sDv h' (DevM.off d)) (like_zdev h' (DevM.off d)) (oDv h' (DevM.off d)) ?_))
 clear bP1p1
 refine bodyPost_ret (v := .tuple #[.agg (dvC h' (DevM.off d)), .int .i64 0]) ?_ rfl ?_
 · exact res_ct (fn := Tryz.f20) (p := 2) (a := 3) rfl rfl rfl (HG.out.get 1 rfl) Tryz.underlying37 rfl (sDv _ _)
 · exact ⟨h', rfl, HG.out.below, HG.out.newR 0 rfl⟩
theorem crashD_any (h : DevH) (d : DevR) (w : World) (HD : DH w h d) : Calls Tryz.prog 20 #[devV h d] w (GDv (DevM.told d true (DevM.crash d)) w) := by
 have HBg := fun W (x : DH W h d) => beginD_any checkD_ok h d true W x
 unfold devV at HBg
 rcases DevM.beg_cases d true with ⟨E, h0, hb, ht⟩ | ⟨hok, hu, hb, ht⟩
 · rw [ht]
   rw [hb] at HBg
   exact crashD_bad h d  w HD E h0 (LH HBg)
 · rw [ht]
   rw [hb] at HBg
   exact crashD_ok h d  w HD (LH HBg) hok hu
theorem confR_any (r : RecR) (w : World) :
   Calls Tryz.prog 64 #[recV r] w fun e w' => e = .returned (.tuple #[recV (RecM.confOf r).1, .int .i64 (RecM.confOf r).2]) ∧ Below w.heap.size w w' := by
 have HC := LH (fun W => checkR_any r W)
 have HST := LH (RSt1.start w r)
 have hi := sRc r
 have HS : Hid (RecM.confOf r = if RecM.check r ≠ 0 then (RecM.noRec, RecM.check r) else if r.trying = false then (RecM.noRec, 5) else (RecM.conf r, 0)) := rfl
 have HV : Hid (∀ x, recV x = .agg (rcC x)) := fun _ => rfl
 rw [HV.out] at HC
 rw [HV.out]
 have hc0 := HST.out.c0
 go_enter Tryz.func64, Tryz.ntmps64
 go_wp2_with (refine wpList_load_row rfl 28 (.tmp 1) rfl w.heap.size rfl 28 (rcC r) (0, 0) _ hc0 Tryz.underlying28 rfl hi ?_)
 refine (HC.out _).mono ?_
 rintro e W2 ⟨rfl, hb2⟩
 have HST2 := LH (HST.out.later hb2)
 clear hb2 HST hc0 HC hi
 have HG := LH HST2.out.nil_
 by_cases e0 : RecM.check r = 0
 · replace HS := LH (HS.out.trans (if_neg (fun q => q e0)))
   have hn := RecM.check_nums e0
   have hr := RecM.check_rec e0
   rw [e0]
   clear e0
   obtain ⟨q0, q1, q2, q3, q4, q5, q8, qf⟩ := HST2.out.cells
   cases ht : r.trying
   · rw [ht] at q2
     replace HS := LH (HS.out.trans (if_pos ht))
     have hc1 := HST2.out.c1
     have hi2 := size_zero
     have ha := one_zero
     unfold zeroRec at hi2 ha hc1
     clear hn hr qf ht
     go_wp2_with (refine wpList_store_row rfl 28 (.tmp 2) (.tmp 14) rfl (w.heap.size + 1) #[.int .i64 0, .int .i64 0, .bool false, .int .i64 0, .int .i64 0, .int .i64 0, .int .i64 0, .int .i64 0, .int .i64 0, .int .i64 0, .int .i64 0] rfl rfl 28 _ hc1 hi2 rfl ha ?_)
     refine bodyPost_ret (v := .tuple #[.agg zeroRec, .int .i64 5]) ?_ rfl ?_
     · exact res_ct (fn := Tryz.f64) (p := 2) (a := 3) rfl rfl rfl HG.out.1 Tryz.underlying28 rfl size_zero
     · exact ⟨by rw [HS.out]; rfl, HG.out.2⟩
   rw [ht] at q2
   replace HS := LH (HS.out.trans (if_neg (by rw [ht]; simp)))
   rcases hn.2.1 with ha | ha
   · rw [ha] at q1
     have HO : Hid (∀ W, Calls Tryz.prog 112 #[.int .i64 0] W fun e w' => e = .returned (.int .i64 1) ∧ W = w') := fun W => by simpa using other_any 0 W (by decide)
     have HST3 : Hid (RSt1 w { r with act := 1, trying := false, tries := 0 } (((W2.setCell ⟨w.heap.size, 1, none⟩ (.int .i64 1)).setCell ⟨w.heap.size, 2, none⟩ (.bool false)).setCell ⟨w.heap.size, 3, none⟩ (.int .i64 0))) := ((HST2.out.set (r' := { r with act := 1 }) rfl).set (r' := { r with act := 1, trying := false }) rfl).set rfl
     have hfl : r.floor ≤ r.i1.ver := by
       have := hr.2.1 ht
       rw [ha] at this
       exact this
     have HCf : Hid (RecM.conf r = ⟨r.gen, 1, false, 0, r.i1.ver, r.i0, r.i1⟩) := by
       show _ = _
       unfold RecM.conf
       have e : (RecM.inf r (1 - r.act)).ver = r.i1.ver := by rw [ha]; rfl
       rw [e, ha, Int.max_eq_right hfl]
       rfl
     have m1 : (if r.floor < r.i1.ver then r.i1.ver else r.floor) = r.i1.ver := by split <;> omega
     have m2 : (if r.i1.ver < r.floor then r.floor else r.i1.ver) = r.i1.ver := by split <;> omega
     have m3 : max r.floor r.i1.ver = r.i1.ver := by omega
     have m4 : max r.i1.ver r.floor = r.i1.ver := by omega
     have qf1 := qf 1
     have qf2 := qf 2
     have qf3 := qf 3
     clear qf hr hn ha
     go_wp2_with fail
     refine (HO.out _).mono ?_
     rintro e w' ⟨rfl, rfl⟩
     go_wp2_with fail
     generalize ((W2.setCell ⟨w.heap.size, 1, none⟩ (.int .i64 1)).setCell ⟨w.heap.size, 2, none⟩ (.bool false)).setCell ⟨w.heap.size, 3, none⟩ (.int .i64 0) = W3 at HST3 ⊢
     clear ht q0 q1 q2 q3 q4 q5 q8 qf1 qf2 qf3 hfl HST2
     have HST4 := LH HST3.out.drew
     obtain ⟨p0, p1, p2, p3, p4, p5, p8, pf⟩ := HST4.out.cells
     have pf4 := pf 4
     clear pf p0 p2 p3
     have HST5 : Hid (RSt1 w ⟨r.gen, 1, false, 0, r.i1.ver, r.i0, r.i1⟩ (W3.drew.setCell ⟨w.heap.size, 4, none⟩ (.int .i64 r.i1.ver))) := HST4.out.set rfl
     go_still_tail 10, (by kernel_rfl)
     change wpList _ _ _ _ _ W3.drew
     have hc0 := HST5.out.c0
     have hc1 := HST5.out.c1
     replace HG := LH HST5.out.give
     have hi := sRc ⟨r.gen, 1, false, 0, r.i1.ver, r.i0, r.i1⟩
     have ha := oRc ⟨r.gen, 1, false, 0, r.i1.ver, r.i0, r.i1⟩
     go_wp2_with (first
       | (refine wpList_load_row rfl 28 (.tmp 1) rfl w.heap.size rfl 28 (rcC ⟨r.gen, 1, false, 0, r.i1.ver, r.i0, r.i1⟩) (0, 0) _ hc0 Tryz.underlying28 rfl hi ?_)
       | (refine wpList_store_row rfl 28 (.tmp 2) (.tmp 31) rfl (w.heap.size + 1) (rcC ⟨r.gen, 1, false, 0, r.i1.ver, r.i0, r.i1⟩) rfl rfl 28 _ hc1 hi rfl ha ?_))
     refine bodyPost_ret (v := .tuple #[.agg (rcC ⟨r.gen, 1, false, 0, r.i1.ver, r.i0, r.i1⟩), .int .i64 0]) ?_ rfl ?_
     · exact res_ct (fn := Tryz.f64) (p := 2) (a := 3) rfl rfl rfl HG.out.1 Tryz.underlying28 rfl hi
     · exact ⟨by rw [HS.out, HCf.out]; rfl, HG.out.2⟩
   · rw [ha] at q1
     have HO : Hid (∀ W, Calls Tryz.prog 112 #[.int .i64 1] W fun e w' => e = .returned (.int .i64 0) ∧ W = w') := fun W => by simpa using other_any 1 W (by decide)
     have HST3 : Hid (RSt1 w { r with act := 0, trying := false, tries := 0 } (((W2.setCell ⟨w.heap.size, 1, none⟩ (.int .i64 0)).setCell ⟨w.heap.size, 2, none⟩ (.bool false)).setCell ⟨w.heap.size, 3, none⟩ (.int .i64 0))) := ((HST2.out.set (r' := { r with act := 0 }) rfl).set (r' := { r with act := 0, trying := false }) rfl).set rfl
     have hfl : r.floor ≤ r.i0.ver := by
       have := hr.2.1 ht
       rw [ha] at this
       exact this
     have HCf : Hid (RecM.conf r = ⟨r.gen, 0, false, 0, r.i0.ver, r.i0, r.i1⟩) := by
       show _ = _
       unfold RecM.conf
       have e : (RecM.inf r (1 - r.act)).ver = r.i0.ver := by rw [ha]; rfl
       rw [e, ha, Int.max_eq_right hfl]
       rfl
     have m1 : (if r.floor < r.i0.ver then r.i0.ver else r.floor) = r.i0.ver := by split <;> omega
     have m2 : (if r.i0.ver < r.floor then r.floor else r.i0.ver) = r.i0.ver := by split <;> omega
     have m3 : max r.floor r.i0.ver = r.i0.ver := by omega
     have m4 : max r.i0.ver r.floor = r.i0.ver := by omega
     have qf1 := qf 1
     have qf2 := qf 2
     have qf3 := qf 3
     clear qf hr hn ha
     go_wp2_with fail
     refine (HO.out _).mono ?_
     rintro e w' ⟨rfl, rfl⟩
     go_wp2_with fail
     generalize ((W2.setCell ⟨w.heap.size, 1, none⟩ (.int .i64 0)).setCell ⟨w.heap.size, 2, none⟩ (.bool false)).setCell ⟨w.heap.size, 3, none⟩ (.int .i64 0) = W3 at HST3 ⊢
     clear ht q0 q1 q2 q3 q4 q5 q8 qf1 qf2 qf3 hfl HST2
     have HST4 := LH HST3.out.drew
     obtain ⟨p0, p1, p2, p3, p4, p5, p8, pf⟩ := HST4.out.cells
     have pf4 := pf 4
     clear pf p0 p2 p3
     have HST5 : Hid (RSt1 w ⟨r.gen, 0, false, 0, r.i0.ver, r.i0, r.i1⟩ (W3.drew.setCell ⟨w.heap.size, 4, none⟩ (.int .i64 r.i0.ver))) := HST4.out.set rfl
     go_still_tail 10, (by kernel_rfl)
     change wpList _ _ _ _ _ W3.drew
     have hc0 := HST5.out.c0
     have hc1 := HST5.out.c1
     replace HG := LH HST5.out.give
     have hi := sRc ⟨r.gen, 0, false, 0, r.i0.ver, r.i0, r.i1⟩
     have ha := oRc ⟨r.gen, 0, false, 0, r.i0.ver, r.i0, r.i1⟩
     go_wp2_with (first
       | (refine wpList_load_row rfl 28 (.tmp 1) rfl w.heap.size rfl 28 (rcC ⟨r.gen, 0, false, 0, r.i0.ver, r.i0, r.i1⟩) (0, 0) _ hc0 Tryz.underlying28 rfl hi ?_)
       | (refine wpList_store_row rfl 28 (.tmp 2) (.tmp 31) rfl (w.heap.size + 1) (rcC ⟨r.gen, 0, false, 0, r.i0.ver, r.i0, r.i1⟩) rfl rfl 28 _ hc1 hi rfl ha ?_))
     refine bodyPost_ret (v := .tuple #[.agg (rcC ⟨r.gen, 0, false, 0, r.i0.ver, r.i0, r.i1⟩), .int .i64 0]) ?_ rfl ?_
     · exact res_ct (fn := Tryz.f64) (p := 2) (a := 3) rfl rfl rfl HG.out.1 Tryz.underlying28 rfl hi
     · exact ⟨by rw [HS.out, HCf.out]; rfl, HG.out.2⟩
 · obtain ⟨E, hE⟩ : ∃ E, RecM.check r = E := ⟨_, rfl⟩
   replace HS := LH (HS.out.trans (if_pos e0))
   rw [hE] at e0 HS ⊢
   have t0 : (E != 0) = true := by simp [e0]
   clear hE
   have hc1 := HST2.out.c1
   have hi2 := size_zero
   have ha := one_zero
   unfold zeroRec at hi2 ha hc1
   go_wp2_with (refine wpList_store_row rfl 28 (.tmp 2) (.tmp 9) rfl (w.heap.size + 1) #[.int .i64 0, .int .i64 0, .bool false, .int .i64 0, .int .i64 0, .int .i64 0, .int .i64 0, .int .i64 0, .int .i64 0, .int .i64 0, .int .i64 0] rfl rfl 28 _ hc1 hi2 rfl ha ?_)
   refine bodyPost_ret (v := .tuple #[.agg zeroRec, .int .i64 E]) ?_ rfl ?_
   · exact res_ct (fn := Tryz.f64) (p := 2) (a := 3) rfl rfl rfl HG.out.1 Tryz.underlying28 rfl size_zero
   · exact ⟨by rw [HS.out]; rfl, HG.out.2⟩
theorem confirmD_bad (h : DevH) (d : DevR) (w : World) (HD : DH w h d) (E : Int) (h0 : E ≠ 0) (HBg : Hid (∀ W, DH W h d → Calls Tryz.prog 55 #[.agg (dvC h d), .bool true] W fun e w' => e = .returned (.tuple #[.agg (rcC RecM.noRec), .int .i64 E]) ∧ Below W.heap.size W w')) : Calls Tryz.prog 19 #[devV h d] w (GDv (DevM.noDev, E) w) := by
 have t0 : (E != 0) = true := by simp [h0]
 have HDh := LH HD
 clear HD
 unfold devV
 obtain ⟨P1, hP1⟩ : ∃ P, w.heap.size = P := ⟨_, rfl⟩
 have HS := LH (((((MS.start w).alloc (p := P1) (by simp [hP1]) (dvC h d) 37)).alloc (p := (P1 + 1)) (by simp [hP1]) zDev 37))
 go_enter Tryz.func19, Tryz.ntmps19
 go_upto_region 1 with fail
 refine wp_gen HS.out (fun V0 HS1 => ?_)
 replace HS := LH HS1
 clear HS1 hP1
 replace HS := LH (MH.of HS.out)
 have bP1 := HS.out.get 1 rfl
 simp only at bP1
 go_wp2_with (first
   | (refine wpList_load_row rfl 37 (.tmp 1) rfl P1 rfl 37 (dvC h d) (0, 0) _ bP1 Tryz.underlying37 rfl (sDv h d) ?_))
 clear bP1
 refine (HBg.out _ (HDh.out.later HS.out.below)).mono ?_
 rintro e W1 ⟨rfl, hb⟩
 replace HS := LH (HS.out.later hb)
 clear hb
 obtain ⟨P3, hP3⟩ : ∃ P, W1.heap.size = P := ⟨_, rfl⟩
 replace HS := LH (HS.out.alloc hP3 (rcC RecM.noRec) 28)
 go_upto_region 2 with (refine wSN rfl 28 (.tmp 4) (.tmp 10) rfl P3 (rcC RecM.noRec) rfl rfl 28 _ hP3.symm (sRc RecM.noRec) (lRc RecM.noRec) (oRc RecM.noRec) ?_)
 refine gnH HS.out (fun V1 HS1 => ?_)
 replace HS := LH HS1
 clear HS1 hP3
 have bP1p1 := HS.out.get 1 rfl
 simp only at bP1p1
 have HG := LH (HS.out.set 1 rfl zDev)
 go_wp2_with (first
   | (refine wpList_store_row rfl 37 (.tmp 2) (.tmp 14) rfl (P1 + 1) zDev rfl rfl 37 _ bP1p1 size_zdev like_zz one_zdev ?_))
 clear bP1p1
 refine bodyPost_ret (v := .tuple #[.agg zDev, .int .i64 E]) ?_ rfl ?_
 · exact res_ct (fn := Tryz.f19) (p := 2) (a := 3) rfl rfl rfl (HG.out.get 1 rfl) Tryz.underlying37 rfl size_zdev
 · exact GDv.bad HG.out.below
theorem confirmD_same (h : DevH) (d : DevR) (w : World) (HD : DH w h d) (HBg : Hid (∀ W, DH W h d → Calls Tryz.prog 55 #[.agg (dvC h d), .bool true] W fun e w' => e = .returned (.tuple #[.agg (rcC (DevM.rc d)), .int .i64 0]) ∧ Below W.heap.size W w')) (hok : DevM.Ok d) (hu : d.up = true) (hrn : d.run = (DevM.rc d).act) : Calls Tryz.prog 19 #[devV h d] w (GDv (DevM.noDev, 5) w) := by
 have _hk := hok
 have _hv := hu
 clear _hk _hv
 have t1 : (d.run == (DevM.rc d).act) = true := by simpa using hrn
 clear hok hu hrn
 have HDh := LH HD
 clear HD
 unfold devV
 obtain ⟨P1, hP1⟩ : ∃ P, w.heap.size = P := ⟨_, rfl⟩
 have HS := LH (((((MS.start w).alloc (p := P1) (by simp [hP1]) (dvC h d) 37)).alloc (p := (P1 + 1)) (by simp [hP1]) zDev 37))
 go_enter Tryz.func19, Tryz.ntmps19
 go_upto_region 1 with fail
 refine wp_gen HS.out (fun V0 HS1 => ?_)
 replace HS := LH HS1
 clear HS1 hP1
 replace HS := LH (MH.of HS.out)
 have bP1 := HS.out.get 1 rfl
 simp only at bP1
 go_wp2_with (first
   | (refine wpList_load_row rfl 37 (.tmp 1) rfl P1 rfl 37 (dvC h d) (0, 0) _ bP1 Tryz.underlying37 rfl (sDv h d) ?_))
 clear bP1
 refine (HBg.out _ (HDh.out.later HS.out.below)).mono ?_
 rintro e W1 ⟨rfl, hb⟩
 replace HS := LH (HS.out.later hb)
 clear hb
 obtain ⟨P3, hP3⟩ : ∃ P, W1.heap.size = P := ⟨_, rfl⟩
 replace HS := LH (HS.out.alloc hP3 (rcC (DevM.rc d)) 28)
 go_upto_region 2 with (refine wSN rfl 28 (.tmp 4) (.tmp 10) rfl P3 (rcC (DevM.rc d)) rfl rfl 28 _ hP3.symm (sRc (DevM.rc d)) (lRc (DevM.rc d)) (oRc (DevM.rc d)) ?_)
 refine gnH HS.out (fun V1 HS1 => ?_)
 replace HS := LH HS1
 clear HS1 hP3
 have cP1_27 := cAt (k := 27) (v := .int .i64 d.run) (HS.out.get 2 rfl) rfl
 simp only at cP1_27
 have cP3_1 := cAt (k := 1) (v := .int .i64 (DevM.rc d).act) (HS.out.get 0 rfl) rfl
 simp only at cP3_1
 have bP1p1 := HS.out.get 1 rfl
 simp only at bP1p1
 have HG := LH (HS.out.set 1 rfl zDev)
 go_wp2_with (first
   | (refine wpList_store_row rfl 37 (.tmp 2) (.tmp 21) rfl (P1 + 1) zDev rfl rfl 37 _ bP1p1 size_zdev like_zz one_zdev ?_))
 clear cP1_27 cP3_1 bP1p1
 refine bodyPost_ret (v := .tuple #[.agg zDev, .int .i64 5]) ?_ rfl ?_
 · exact res_ct (fn := Tryz.f19) (p := 2) (a := 3) rfl rfl rfl (HG.out.get 1 rfl) Tryz.underlying37 rfl size_zdev
 · exact GDv.bad HG.out.below
theorem confirmD_err (h : DevH) (d : DevR) (w : World) (HD : DH w h d) (HBg : Hid (∀ W, DH W h d → Calls Tryz.prog 55 #[.agg (dvC h d), .bool true] W fun e w' => e = .returned (.tuple #[.agg (rcC (DevM.rc d)), .int .i64 0]) ∧ Below W.heap.size W w')) (hok : DevM.Ok d) (hu : d.up = true) (hrn : d.run ≠ (DevM.rc d).act) (ht : (DevM.rc d).trying = true) (L : CopsR) (E : Int) (hW : RecM.writeOf d.c (RecM.conf (DevM.rc d)) false = (L, E)) (hE : E ≠ 0) : Calls Tryz.prog 19 #[devV h d] w (GDv (DevM.noDev, E) w) := by
 have _hk := hok
 have _hv := hu
 clear _hk _hv
 have t1 : (d.run == (DevM.rc d).act) = false := by simpa using hrn
 have HCf : Hid (∀ W, Calls Tryz.prog 64 #[.agg (rcC (DevM.rc d))] W fun e w' => e = .returned (.tuple #[.agg (rcC (RecM.conf (DevM.rc d))), .int .i64 0]) ∧ Below W.heap.size W w') := fun W => by
   have := confR_any (DevM.rc d) W
   rw [RecM.confOf_ok hok.rec_ ht] at this
   exact this
 have HWr : Hid (∀ W, Calls Tryz.prog 63 #[.agg (cpC d.c), .agg (rcC (RecM.conf (DevM.rc d))), .bool false] W fun e w' => e = .returned (.tuple #[.agg (cpC L), .int .i64 E]) ∧ Below W.heap.size W w') := fun W => by
   have := writeR_any d.c (RecM.conf (DevM.rc d)) false W
   rw [hW] at this
   exact this
 have t2 : (E != 0) = true := by simp [hE]
 clear hok hu hrn ht hW hE
 have HDh := LH HD
 clear HD
 unfold devV
 obtain ⟨P1, hP1⟩ : ∃ P, w.heap.size = P := ⟨_, rfl⟩
 have HS := LH (((((MS.start w).alloc (p := P1) (by simp [hP1]) (dvC h d) 37)).alloc (p := (P1 + 1)) (by simp [hP1]) zDev 37))
 go_enter Tryz.func19, Tryz.ntmps19
 go_upto_region 1 with fail
 refine wp_gen HS.out (fun V0 HS1 => ?_)
 replace HS := LH HS1
 clear HS1 hP1
 replace HS := LH (MH.of HS.out)
 have bP1 := HS.out.get 1 rfl
 simp only at bP1
 go_wp2_with (first
   | (refine wpList_load_row rfl 37 (.tmp 1) rfl P1 rfl 37 (dvC h d) (0, 0) _ bP1 Tryz.underlying37 rfl (sDv h d) ?_))
 clear bP1
 refine (HBg.out _ (HDh.out.later HS.out.below)).mono ?_
 rintro e W1 ⟨rfl, hb⟩
 replace HS := LH (HS.out.later hb)
 clear hb
 obtain ⟨P3, hP3⟩ : ∃ P, W1.heap.size = P := ⟨_, rfl⟩
 replace HS := LH (HS.out.alloc hP3 (rcC (DevM.rc d)) 28)
 go_upto_region 2 with (refine wSN rfl 28 (.tmp 4) (.tmp 10) rfl P3 (rcC (DevM.rc d)) rfl rfl 28 _ hP3.symm (sRc (DevM.rc d)) (lRc (DevM.rc d)) (oRc (DevM.rc d)) ?_)
 refine gnH HS.out (fun V1 HS1 => ?_)
 replace HS := LH HS1
 clear HS1 hP3
 have cP1_27 := cAt (k := 27) (v := .int .i64 d.run) (HS.out.get 2 rfl) rfl
 simp only at cP1_27
 have cP3_1 := cAt (k := 1) (v := .int .i64 (DevM.rc d).act) (HS.out.get 0 rfl) rfl
 simp only at cP3_1
 have bP3 := HS.out.get 0 rfl
 simp only at bP3
 go_wp2_with (first
   | (refine wpList_load_row rfl 28 (.tmp 4) rfl P3 rfl 28 (rcC (DevM.rc d)) (0, 0) _ bP3 Tryz.underlying28 rfl (sRc (DevM.rc d)) ?_))
 clear cP1_27 cP3_1 bP3
 refine (HCf.out _).mono ?_
 rintro e W2 ⟨rfl, hb⟩
 replace HS := LH (HS.out.later hb)
 clear hb
 have HS2 := LH (HS.out.set 0 rfl (rcC (RecM.conf (DevM.rc d))))
 have bP3 := HS.out.get 0 rfl
 simp only at bP3
 go_upto_region 7 with (first
   | (refine wpList_store_row rfl 28 (.tmp 4) (.tmp 25) rfl P3 (rcC (RecM.conf (DevM.rc d))) rfl rfl 28 _ bP3 (sRc (RecM.conf (DevM.rc d))) (like_rr (DevM.rc d) (RecM.conf (DevM.rc d))) (oRc (RecM.conf (DevM.rc d))) ?_))
 clear bP3
 refine gnH HS2.out (fun V2 HS1 => ?_)
 replace HS := LH HS1
 clear HS1 HS2
 have bP1 := HS.out.get 2 rfl
 simp only at bP1
 have bP3 := HS.out.get 0 rfl
 simp only at bP3
 go_wp2_with (first
   | (refine wLP rfl 31 (.tmp 32) rfl P1 2 rfl (dvC h d) 37 (0, 0) bP1 (cpC d.c) (part_cops h d) _ Tryz.underlying31 rfl (sCp d.c) ?_)
   | (refine wpList_load_row rfl 28 (.tmp 4) rfl P3 rfl 28 (rcC (RecM.conf (DevM.rc d))) (0, 0) _ bP3 Tryz.underlying28 rfl (sRc (RecM.conf (DevM.rc d))) ?_))
 clear bP1 bP3
 refine (HWr.out _).mono ?_
 rintro e W3 ⟨rfl, hb⟩
 replace HS := LH (HS.out.later hb)
 clear hb
 obtain ⟨P6, hP6⟩ : ∃ P, W3.heap.size = P := ⟨_, rfl⟩
 replace HS := LH (HS.out.alloc hP6 (cpC L) 31)
 go_upto_region 10 with (refine wSN rfl 31 (.tmp 6) (.tmp 36) rfl P6 (cpC L) rfl rfl 31 _ hP6.symm (sCp L) (like_copsL L) (one_cops L) ?_)
 refine gnH HS.out (fun V3 HS1 => ?_)
 replace HS := LH HS1
 clear HS1 hP6
 have bP1p1 := HS.out.get 2 rfl
 simp only at bP1p1
 have HG := LH (HS.out.set 2 rfl zDev)
 go_wp2_with (first
   | (refine wpList_store_row rfl 37 (.tmp 2) (.tmp 40) rfl (P1 + 1) zDev rfl rfl 37 _ bP1p1 size_zdev like_zz one_zdev ?_))
 clear bP1p1
 refine bodyPost_ret (v := .tuple #[.agg zDev, .int .i64 E]) ?_ rfl ?_
 · exact res_ct (fn := Tryz.f19) (p := 2) (a := 3) rfl rfl rfl (HG.out.get 2 rfl) Tryz.underlying37 rfl size_zdev
 · exact GDv.bad HG.out.below
theorem confirmD_fine (h : DevH) (d : DevR) (w : World) (HD : DH w h d) (HBg : Hid (∀ W, DH W h d → Calls Tryz.prog 55 #[.agg (dvC h d), .bool true] W fun e w' => e = .returned (.tuple #[.agg (rcC (DevM.rc d)), .int .i64 0]) ∧ Below W.heap.size W w')) (hok : DevM.Ok d) (hu : d.up = true) (hrn : d.run ≠ (DevM.rc d).act) (ht : (DevM.rc d).trying = true) (L : CopsR) (E : Int) (hW : RecM.writeOf d.c (RecM.conf (DevM.rc d)) false = (L, E)) (hE : E = 0) (hL : RecM.copies L = 0) : Calls Tryz.prog 19 #[devV h d] w (GDv ({ d with c := L }, 0) w) := by
 have _hk := hok
 have _hv := hu
 clear _hk _hv
 have t1 : (d.run == (DevM.rc d).act) = false := by simpa using hrn
 have HCf : Hid (∀ W, Calls Tryz.prog 64 #[.agg (rcC (DevM.rc d))] W fun e w' => e = .returned (.tuple #[.agg (rcC (RecM.conf (DevM.rc d))), .int .i64 0]) ∧ Below W.heap.size W w') := fun W => by
   have := confR_any (DevM.rc d) W
   rw [RecM.confOf_ok hok.rec_ ht] at this
   exact this
 have HWr : Hid (∀ W, Calls Tryz.prog 63 #[.agg (cpC d.c), .agg (rcC (RecM.conf (DevM.rc d))), .bool false] W fun e w' => e = .returned (.tuple #[.agg (cpC L), .int .i64 E]) ∧ Below W.heap.size W w') := fun W => by
   have := writeR_any d.c (RecM.conf (DevM.rc d)) false W
   rw [hW] at this
   exact this
 have HLW := LH (cops_w hL)
 have HCy := LH (fun W (x : DH W h d) => copiedD_new h d W x (DevM.few_of hok))
 unfold devV at HCy
 subst hE
 clear hok hu hrn ht hW hL
 have HDh := LH HD
 clear HD
 unfold devV
 obtain ⟨P1, hP1⟩ : ∃ P, w.heap.size = P := ⟨_, rfl⟩
 have HS := LH (((((MS.start w).alloc (p := P1) (by simp [hP1]) (dvC h d) 37)).alloc (p := (P1 + 1)) (by simp [hP1]) zDev 37))
 go_enter Tryz.func19, Tryz.ntmps19
 go_upto_region 1 with fail
 refine wp_gen HS.out (fun V0 HS1 => ?_)
 replace HS := LH HS1
 clear HS1 hP1
 replace HS := LH (MH.of HS.out)
 have bP1 := HS.out.get 1 rfl
 simp only at bP1
 go_wp2_with (first
   | (refine wpList_load_row rfl 37 (.tmp 1) rfl P1 rfl 37 (dvC h d) (0, 0) _ bP1 Tryz.underlying37 rfl (sDv h d) ?_))
 clear bP1
 refine (HBg.out _ (HDh.out.later HS.out.below)).mono ?_
 rintro e W1 ⟨rfl, hb⟩
 replace HS := LH (HS.out.later hb)
 clear hb
 obtain ⟨P3, hP3⟩ : ∃ P, W1.heap.size = P := ⟨_, rfl⟩
 replace HS := LH (HS.out.alloc hP3 (rcC (DevM.rc d)) 28)
 go_upto_region 2 with (refine wSN rfl 28 (.tmp 4) (.tmp 10) rfl P3 (rcC (DevM.rc d)) rfl rfl 28 _ hP3.symm (sRc (DevM.rc d)) (lRc (DevM.rc d)) (oRc (DevM.rc d)) ?_)
 refine gnH HS.out (fun V1 HS1 => ?_)
 replace HS := LH HS1
 clear HS1 hP3
 have cP1_27 := cAt (k := 27) (v := .int .i64 d.run) (HS.out.get 2 rfl) rfl
 simp only at cP1_27
 have cP3_1 := cAt (k := 1) (v := .int .i64 (DevM.rc d).act) (HS.out.get 0 rfl) rfl
 simp only at cP3_1
 have bP3 := HS.out.get 0 rfl
 simp only at bP3
 go_wp2_with (first
   | (refine wpList_load_row rfl 28 (.tmp 4) rfl P3 rfl 28 (rcC (DevM.rc d)) (0, 0) _ bP3 Tryz.underlying28 rfl (sRc (DevM.rc d)) ?_))
 clear cP1_27 cP3_1 bP3
 refine (HCf.out _).mono ?_
 rintro e W2 ⟨rfl, hb⟩
 replace HS := LH (HS.out.later hb)
 clear hb
 have HS2 := LH (HS.out.set 0 rfl (rcC (RecM.conf (DevM.rc d))))
 have bP3 := HS.out.get 0 rfl
 simp only at bP3
 go_upto_region 7 with (first
   | (refine wpList_store_row rfl 28 (.tmp 4) (.tmp 25) rfl P3 (rcC (RecM.conf (DevM.rc d))) rfl rfl 28 _ bP3 (sRc (RecM.conf (DevM.rc d))) (like_rr (DevM.rc d) (RecM.conf (DevM.rc d))) (oRc (RecM.conf (DevM.rc d))) ?_))
 clear bP3
 refine gnH HS2.out (fun V2 HS1 => ?_)
 replace HS := LH HS1
 clear HS1 HS2
 have bP1 := HS.out.get 2 rfl
 simp only at bP1
 have bP3 := HS.out.get 0 rfl
 simp only at bP3
 go_wp2_with (first
   | (refine wLP rfl 31 (.tmp 32) rfl P1 2 rfl (dvC h d) 37 (0, 0) bP1 (cpC d.c) (part_cops h d) _ Tryz.underlying31 rfl (sCp d.c) ?_)
   | (refine wpList_load_row rfl 28 (.tmp 4) rfl P3 rfl 28 (rcC (RecM.conf (DevM.rc d))) (0, 0) _ bP3 Tryz.underlying28 rfl (sRc (RecM.conf (DevM.rc d))) ?_))
 clear bP1 bP3
 refine (HWr.out _).mono ?_
 rintro e W3 ⟨rfl, hb⟩
 replace HS := LH (HS.out.later hb)
 clear hb
 obtain ⟨P6, hP6⟩ : ∃ P, W3.heap.size = P := ⟨_, rfl⟩
 replace HS := LH (HS.out.alloc hP6 (cpC L) 31)
 go_upto_region 10 with (refine wSN rfl 31 (.tmp 6) (.tmp 36) rfl P6 (cpC L) rfl rfl 31 _ hP6.symm (sCp L) (like_copsL L) (one_cops L) ?_)
 refine gnH HS.out (fun V3 HS1 => ?_)
 replace HS := LH HS1
 clear HS1 hP6
 have bP1 := HS.out.get 3 rfl
 simp only at bP1
 go_wp2_with (first
   | (refine wpList_load_row rfl 37 (.tmp 1) rfl P1 rfl 37 (dvC h d) (0, 0) _ bP1 Tryz.underlying37 rfl (sDv h d) ?_))
 clear bP1
 refine (HCy.out _ (HDh.out.later HS.out.below)).mono ?_
 rintro e W4 ⟨h', rfl, hb, hn, -, -⟩
 replace HS := LH (HS.out.gain hb hn)
 clear hb hn
 unfold devV
 have HS2 := LH (HS.out.set 3 rfl (dvC h' d))
 have bP1 := HS.out.get 3 rfl
 simp only at bP1
 go_upto_region 13 with (first
   | (refine wpList_store_row rfl 37 (.tmp 1) (.tmp 43) rfl P1 (dvC h' d) rfl rfl 37 _ bP1 (sDv h' d) (lDv h h' d d) (oDv h' d) ?_))
 clear bP1
 refine gnH HS2.out (fun V4 HS1 => ?_)
 replace HS := LH HS1
 clear HS1 HS2
 have HS2 := LH (HS.out.cells 3 rfl (put_cops h' d L))
 have bP6 := HS.out.get 0 rfl
 simp only at bP6
 go_upto_region 14 with (first
   | (refine wpList_load_row rfl 31 (.tmp 6) rfl P6 rfl 31 (cpC L) (0, 0) _ bP6 Tryz.underlying31 rfl (sCp L) ?_)
   | (refine wpList_store_mid rfl 31 (.tmp 45) (.tmp 44) rfl P1 2 (cpC L) rfl rfl (HS.out.ms.there 3 rfl (by show 26 ≤ 37; decide)) (sCp L) (one_copsA L) ?_; refine glH HS2.out (fun V5 HS1 => ?_)))
 clear bP6
 replace HS := LH HS1
 clear HS1 HS2
 have bP1 := HS.out.get 3 rfl
 simp only at bP1
 have bP1p1 := HS.out.get 2 rfl
 simp only at bP1p1
 have HG := LH (HS.out.set 2 rfl (dvC h' ({ d with c := L } : DevR)))
 go_wp2_with (first
   | (refine wpList_load_row rfl 37 (.tmp 1) rfl P1 rfl 37 (dvC h' ({ d with c := L } : DevR)) (0, 0) _ bP1 Tryz.underlying37 rfl (sDv h' ({ d with c := L } : DevR)) ?_)
   | (refine wpList_store_row rfl 37 (.tmp 2) (.tmp 46) rfl (P1 + 1) (dvC h' ({ d with c := L } : DevR)) rfl rfl 37 _ bP1p1 (sDv h' ({ d with c := L } : DevR)) (like_zdev h' ({ d with c := L } : DevR)) (oDv h' ({ d with c := L } : DevR)) ?_))
 clear bP1 bP1p1
 refine bodyPost_ret (v := .tuple #[.agg (dvC h' ({ d with c := L } : DevR)), .int .i64 0]) ?_ rfl ?_
 · exact res_ct (fn := Tryz.f19) (p := 2) (a := 3) rfl rfl rfl (HG.out.get 2 rfl) Tryz.underlying37 rfl (sDv _ _)
 · refine ⟨h', rfl, HG.out.below, fun V v1 v2 => ?_⟩
   have k1 := HG.out.newR 0 rfl V v1 v2
   simp only at k1
   exact ⟨k1.b0, k1.b1, k1.got, k1.ops, HLW.out, k1.runI, k1.jobI, k1.doneI⟩
theorem confirmD_ok (h : DevH) (d : DevR) (w : World) (HD : DH w h d) (HBg : Hid (∀ W, DH W h d → Calls Tryz.prog 55 #[.agg (dvC h d), .bool true] W fun e w' => e = .returned (.tuple #[.agg (rcC (DevM.rc d)), .int .i64 0]) ∧ Below W.heap.size W w')) (hok : DevM.Ok d) (hu : d.up = true) : Calls Tryz.prog 19 #[devV h d] w (GDv (DevM.confirm d) w) := by
 unfold DevM.confirm
 by_cases hrn : d.run = DevM.act d
 · rw [if_pos (.inl hrn)]
   exact confirmD_same h d w HD HBg hok hu hrn
 · have ht : (DevM.rc d).trying = true := by
     cases e : (DevM.rc d).trying with
     | true => rfl
     | false => exact absurd ((hok.up hu).still e) hrn
   rw [if_neg (by rintro (q | q); exact hrn q; rw [ht] at q; cases q)]
   obtain ⟨⟨L, E⟩, hW⟩ : ∃ x, RecM.writeOf d.c (RecM.conf (DevM.rc d)) false = x := ⟨_, rfl⟩
   rw [hW]
   unfold DevM.wrong
   by_cases hE : E = 0
   · rw [if_neg (fun q => q hE)]
     exact confirmD_fine h d w HD HBg hok hu hrn ht L E hW hE (by
       have := (RecM.writeOf_zero hok.cops (r := RecM.conf (DevM.rc d)) (torn := false) (by rw [hW]; exact hE)).2.1
       rwa [hW] at this)
   · rw [if_pos hE]
     exact confirmD_err h d w HD HBg hok hu hrn ht L E hW hE
theorem confirmD_any (h : DevH) (d : DevR) (w : World) (HD : DH w h d) : Calls Tryz.prog 19 #[devV h d] w (GDv (DevM.told d true (DevM.confirm d)) w) := by
 have HBg := fun W (x : DH W h d) => beginD_any checkD_ok h d true W x
 unfold devV at HBg
 rcases DevM.beg_cases d true with ⟨E, h0, hb, ht⟩ | ⟨hok, hu, hb, ht⟩
 · rw [ht]
   rw [hb] at HBg
   exact confirmD_bad h d  w HD E h0 (LH HBg)
 · rw [ht]
   rw [hb] at HBg
   exact confirmD_ok h d  w HD (LH HBg) hok hu
end Go.Proofs.YtmpmaljkmfgagacGreat
namespace Go.Proofs.YtmpmaljkmfgagacGreat
open Go.RowKit Go.Shelf
attribute [local go_sem] Oper.semAt_some
abbrev HeadV : Type := Option Addr × Nat × Nat
def HeadV.v (x : HeadV) : Value := .slice x.1 x.2.1 x.2.2
def partK (a : Option Addr) (n k : Nat) : HeadV := (a.map (·.add (k * 16)), min 16 (n - k * 16), min 16 (n - k * 16))
def partsTo (a : Option Addr) (n k : Nat) : List HeadV := (List.range k).map (partK a n)
theorem partsTo_succ (a : Option Addr) (n k : Nat) : partsTo a n (k + 1) = partsTo a n k ++ [partK a n k] := by simp [partsTo, List.range_succ]
theorem partsTo_length (a : Option Addr) (n k : Nat) : (partsTo a n k).length = k := by simp [partsTo]
theorem run_cut_lhm (a : Option Addr) (n c : Nat) (W : World) (k h : Nat) (hk : k < h) (hh : h ≤ c) : (Instr.slice 22 (.slice a n c) (some (.int .i64 (k : Int))) (some (.int .i64 (h : Int))) (some (.int .i64 (h : Int)))).run Tryz.prog W = .ok (.slice (a.map (·.add k)) (h - k) (h - k)) W := by
 have ht : Tryz.prog.underlying 22 = some (.slice (Tryz.prog.elem 22)) := by simp [Program.elem, Tryz.underlying22]
 have he : Tryz.prog.elem 22 = 5 := by simp [Program.elem, Tryz.underlying22]
 have hne : h ≠ k := by omega
 rw [run_slice_lhm W 22 _ _ _ ht .i64 .i64 .i64 _ _ _ (by omega) (by omega) (by omega) (by omega), he, size_run_u8]
 simp [Result.andThen, sliced, hne]
theorem chunk1_in (F : Fence) (n : Nat) (h7 : F.fn 129) (hro : F.round = none) (hn : 1 ≤ n) (l Bs Bn n₀ : Nat) (a : Option Addr) (len cap : Nat) (hlen : len ≤ cap) (hcap : len ≤ 1000000) (hBs : Bs < n₀) (hBn : Bn < n₀) (J Jx : List HeadV → World → Prop) (B : Nat) (hJ : AbidesFrom B J)
   (hY : ∀ pre x W, J pre W → pre.length < (len + 15) / 16 → YieldAt F (n - 1) Tryz.prog l #[HeadV.v x] W fun e W' =>
     (e = .returned (.bool true) ∧ J (pre ++ [x]) W' ∧ Below n₀ W W') ∨ (e = .returned (.bool false) ∧ Jx (pre ++ [x]) W'))
   (W : World) (hcs : W.cell? ⟨Bs, 0, none⟩ = some (.slice a len cap)) (hcn : W.cell? ⟨Bn, 0, none⟩ = some (.int .i64 16)) (h0 : J [] W) :
   CallsIn F n Tryz.prog 129 #[.func (.yield l) #[] #[], .pointer (some ⟨Bs, 0, none⟩), .pointer (some ⟨Bn, 0, none⟩)] W fun e W' => (∃ v, e = .returned v) ∧
     ((∃ ys, ys = partsTo a len ((len + 15) / 16) ∧ J ys W') ∨ (∃ pre, (∃ k, k ≤ (len + 15) / 16 ∧ pre = partsTo a len k) ∧ Jx pre W')) := by
 refine callsIn_of_wp Tryz.func129 rfl h7 ?_ hro
 simp only [Tryz.ntmps129, List.size_toArray, List.length_cons, List.length_nil, Nat.reduceAdd, Nat.reduceSub, Array.replicate_succ, Array.replicate_zero, List.push_toArray, List.append_toArray, List.nil_append, List.cons_append]
 gi_wp2
 gi_loopw [4] (fun i wr => ∃ k : Nat, k ≤ (len + 15) / 16 ∧ i = .int .i64 ((k * 16 : Nat) : Int) ∧ J (partsTo a len k) wr ∧ Below n₀ W wr)
   (fun i _ => len + 16 - (intOf i).toNat)
 case atStart => exact ⟨0, Nat.zero_le _, rfl, h0, Below.refl _ _⟩
 case round =>
   obtain ⟨k, hk, rfl, hJs, hnx⟩ := hrel
   have qs := (hnx.cell (p := ⟨Bs, 0, none⟩) hBs).trans hcs
   have qn := (hnx.cell (p := ⟨Bn, 0, none⟩) hBn).trans hcn
   obtain ⟨I, hI⟩ : ∃ I : Nat, k * 16 = I := ⟨_, rfl⟩
   rw [hI]
   by_cases hlt : I < len
   · have hJd := hJ _ wr wr.drew none hJs ⟨rfl, rfl, rfl, Nat.le_refl _, fun _ _ _ => rfl⟩ (fun r e => by cases e)
     have hnd : Below n₀ W wr.drew := hnx.drew
     obtain ⟨fn, tmps, assign, body, hy, hR⟩ := hY _ (partK a len k) wr.drew hJd (by rw [partsTo_length]; omega)
     obtain ⟨M, hM⟩ : ∃ M : Nat, len - I = M := ⟨_, rfl⟩
     obtain ⟨E, hE⟩ : ∃ E : Nat, (if (M : Int) < 16 then (M : Int) else 16) = E := ⟨min 16 M, by split <;> omega⟩
     have hE2 : min 16 (len - I) = E := by rw [hM]; split at hE <;> omega
     have hE6 : min (16 : Int) (M : Int) = E := by split at hE <;> omega
     obtain ⟨H, hH⟩ : ∃ H : Nat, (I : Int) + (E : Int) = H := ⟨I + E, by omega⟩
     have hE3 : 0 < E := by omega
     have hHc : H ≤ cap := by omega
     have hHI : H - I = E := by omega
     have hcut1 : ∀ W, (Instr.slice 22 (.slice a len cap) (some (.int .i64 (I : Int))) none none).run Tryz.prog W = .ok (.slice (cutA a cap I) M (cap - I)) W := fun W => by rw [run_cut_l a len cap W I (by omega), hM]
     have hcut2 : ∀ W, (Instr.slice 22 (.slice a len cap) (some (.int .i64 (I : Int))) (some (.int .i64 (H : Int))) (some (.int .i64 (H : Int)))).run Tryz.prog W = .ok (.slice (a.map (·.add I)) E E) W := fun W => by rw [run_cut_lhm a len cap W I H (by omega) hHc, hHI]
     have hpk : (partK a len k).v = .slice (a.map (·.add I)) E E := by unfold partK HeadV.v; simp only; rw [hI, hE2]
     rw [hpk] at hy
     generalize cutA a cap I = A1 at hcut1
     generalize a.map (·.add I) = A2 at hcut2 hpk hy
     gi_wp2
     gi_region
     all_goals
       clear hJs hnx
       gi_wp2
       refine hR.mono ?_
       rintro e W3 (⟨rfl, hJ3, hk3⟩ | ⟨rfl, hJx3⟩)
       · have qn3 := (hk3.cell (p := ⟨Bn, 0, none⟩) hBn).trans ((hnd.cell (p := ⟨Bn, 0, none⟩) hBn).trans hcn)
         gi_wp2
         go_roundw
         case rel => exact ⟨k + 1, by omega, by rw [← hI]; congr 1; omega, by rw [partsTo_succ]; exact hJ3, hnd.trans hk3⟩
         case measure => simp [intOf]; omega
       · gi_wp2
         refine bodyPost_ret (results_none rfl _ _ _) rfl ?_
         exact ⟨⟨_, rfl⟩, .inr ⟨_, ⟨k + 1, by omega, (partsTo_succ _ _ _).symm⟩, hJx3⟩⟩
   · obtain rfl : k = (len + 15) / 16 := by omega
     gi_wp2
     go_end0
     exact ⟨⟨_, rfl⟩, .inl ⟨_, rfl, hJs⟩⟩
end Go.Proofs.YtmpmaljkmfgagacGreat
namespace Go.Proofs.YtmpmaljkmfgagacGreat
open Go.RowKit Go.Shelf
attribute [local go_sem] Oper.semAt_some
theorem partsTo_prefix (a : Option Addr) (n : Nat) {k m : Nat} (h : k ≤ m) : partsTo a n k <+: partsTo a n m := by
 refine ⟨((List.range m).drop k).map (partK a n), ?_⟩
 unfold partsTo
 rw [← List.map_append]
 congr 1
 have := List.take_append_drop k (List.range m)
 rwa [List.take_range, show min k m = k by omega] at this
theorem chunk_stops (F : Fence) (n : Nat) (h7 : F.fn 129) (hro : F.round = none) (hn : 1 ≤ n) (Bs Bn n₀ : Nat) (a : Option Addr) (len cap : Nat) (hlen : len ≤ cap) (hcap : len ≤ 1000000) (w : World) (hBs : Bs < n₀) (hBn : Bn < n₀) (hn₀ : n₀ ≤ w.heap.size)
   (hcs : w.cell? ⟨Bs, 0, none⟩ = some (.slice a len cap)) (hcn : w.cell? ⟨Bn, 0, none⟩ = some (.int .i64 16)) :
   SeqStopsK F n Tryz.prog 129 #[.pointer (some ⟨Bs, 0, none⟩), .pointer (some ⟨Bn, 0, none⟩)] (fun x : HeadV => #[HeadV.v x]) (Below n₀) (fun ys => ys = partsTo a len ((len + 15) / 16)) (fun pre => pre <+: partsTo a len ((len + 15) / 16)) ((len + 15) / 16) w := fun l J Jx W hW hJ _ hY h0 => by
 refine (chunk1_in F n h7 hro hn l Bs Bn n₀ a len cap hlen hcap hBs hBn J Jx _ hJ hY W ((hW.cell (p := ⟨Bs, 0, none⟩) (by show Bs < _; omega)).trans hcs) ((hW.cell (p := ⟨Bn, 0, none⟩) (by show Bn < _; omega)).trans hcn) h0).mono ?_
 rintro e W' ⟨he, ⟨ys, rfl, hj⟩ | ⟨pre, ⟨k, hk, rfl⟩, hj⟩⟩
 · exact ⟨he, .inl ⟨_, rfl, hj⟩⟩
 · exact ⟨he, .inr ⟨_, partsTo_prefix a len hk, hj⟩⟩
theorem Tryz.info_bs : (Tryz.prog.info? 22).map (fun i => (i.zero, i.size, i.bytes)) = some (some (.slice none 0 0), 1, 24) := by kernel_rfl
theorem appendSeq_in (F : Fence) (n : Nat) (h3 : F.fn 128) (h5 : F.fn 129) (hro : F.round = none) (hn : 3 ≤ n) (Bs Bn : Nat) (a : Option Addr) (len cap : Nat) (hlen : len ≤ cap) (hcap : len ≤ 1000000) (w : World) (hBs : Bs < w.heap.size) (hBn : Bn < w.heap.size)
   (hcs : w.cell? ⟨Bs, 0, none⟩ = some (.slice a len cap)) (hcn : w.cell? ⟨Bn, 0, none⟩ = some (.int .i64 16)) :
   CallsIn F n Tryz.prog 128 #[.slice none 0 0, .func (.func 129) #[] #[.pointer (some ⟨Bs, 0, none⟩), .pointer (some ⟨Bn, 0, none⟩)]] w fun e W' => ∃ v, e = .returned v ∧ W'.ownsRow w.heap.size 22 1 v ((len + 15) / 16) ((partsTo a len ((len + 15) / 16)).map HeadV.v) ∧ Below w.heap.size w W' := by
 have h1 : 1 ≤ n := by omega
 obtain ⟨i0, hi, hz0, hz1, hz2⟩ := info_parts Tryz.info_bs
 refine callsIn_of_wp_marks Tryz.func128 rfl h3 ?_ hro
 simp only [Tryz.ntmps128, List.size_toArray, List.length_cons, List.length_nil, Nat.reduceAdd, Nat.reduceSub, Array.replicate_succ, Array.replicate_zero, List.push_toArray, List.append_toArray, List.nil_append, List.cons_append]
 gi_wp2
 have bO := Boxed.new w 80 (.slice none 0 0)
 have hB0 : Below w.heap.size w (w.alloc (.cells #[.slice none 0 0] 80)) := (Below.refl _ w).alloc (Nat.le_refl _) _
 refine wpIn_rangeFunc_ownG hro h1 (gf := 129) (lb := #[.pointer (some ⟨Bs, 0, none⟩), .pointer (some ⟨Bn, 0, none⟩)]) rfl h5 (enters_of Tryz.func129 (by kernel_rfl) rfl)
   (chunk_stops F (n - 1) h5 hro (by omega) Bs Bn w.heap.size a len cap hlen hcap _ hBs hBn hB0.size ((hB0.cell (p := ⟨Bs, 0, none⟩) hBs).trans hcs) ((hB0.cell (p := ⟨Bn, 0, none⟩) hBn).trans hcn)) belowK_t (belowK_b (by simp)) (Below.refl _ _) (fun _ => rfl)
   (fun pre W => (∃ v, Boxed W w.heap.size 80 v ∧ W.ownsRow w.heap.size 22 1 v pre.length (pre.map HeadV.v) ∧ True) ∧ Below w.heap.size w W)
   (fun _ _ _ => False)
   (OwnFrom.and (Own.from (holdsRow_own w.heap.size w.heap.size 80 22 1 (fun pre : List HeadV => pre.length) (fun pre => pre.map HeadV.v) (fun _ _ => True)) _) (ownFrom_below (Nat.le_refl _) (by simp)))
   (fun _ _ _ _ _ hs _ _ => hs)
   ⟨⟨_, bO, World.ownsRow_nil _ _ _ _, trivial⟩, hB0⟩
   (fun x => { tmps := #[.slice none 0 0, .func (.func 129) #[] #[.pointer (some ⟨Bs, 0, none⟩), .pointer (some ⟨Bn, 0, none⟩)], .pointer (some ⟨w.heap.size, 0, none⟩), undef, .slice none 0 0, .slice x.1 x.2.1 x.2.2, .func (.func 129) #[] #[.pointer (some ⟨Bs, 0, none⟩), .pointer (some ⟨Bn, 0, none⟩)], .slice x.1 x.2.1 x.2.2, undef, undef, undef, undef, undef], defers := [] }) ?assign ?body ?done ?stop
 case assign =>
   intro l x W K hK
   gi_wp2
   exact hK
 case body =>
   rintro l pre ⟨xa, xn, xc⟩ W ⟨⟨v, hv, hrow, -⟩, hB⟩ hlt
   simp only
   have hc := hv.cell
   gi_wp2_with (gi_at_builtin; refine wpListIn_append_own _ rfl _ _ 80 rfl w.heap.size 22 i0 (.slice none 0 0) 1 24 Tryz.underlying80 hi hz0 hz1 hz2 rfl (by decide) _ _ _ rfl (hrow.alloc _) ⟨W.heap.size, 0, none⟩ 1 1 [.slice xa xn xc] rfl rfl (cell_one_new _ _ _) (by simp [Value.oneCell']) (by unfold maxLen; omega) (by omega) (by have := hB.size; simp; omega) ?_; intro v' w1 hown' hgrow _; obtain ⟨g', cap', rfl⟩ := ownsRow_succ hown'; obtain ⟨hv1, hv2, hr2, hk2, hb2⟩ := hv.appended (by decide) hrow hB.size (Nat.le_refl _) hown' hgrow; have hc1 := hv1.cell; have hf1 := hv1.frozen)
   exact ⟨hk2.from _, hb2, ⟨_, hv2, by simpa [HeadV.v] using hr2, trivial⟩, hB.trans hb2⟩
 case done =>
   rintro D ys W hD rfl ⟨⟨v, hv, hrow, -⟩, hB⟩ hK
   have hc := hv.cell
   gi_wp2
   refine ⟨by simp, .inl ⟨_, _, rfl, run_takeDeferred hK, ?_⟩⟩
   rw [partsTo_length] at hrow
   exact ⟨_, results_tmp rfl _ _ _, v, rfl, ownsRow_putObj hrow _ hK rfl, hB.trans (belowK_b (w := w) (Nat.le_refl _) W D _ _ (by simp at hD; omega) hK rfl rfl)⟩
 case stop =>
   rintro D c pre W _ _ h _
   exact h.elim
theorem appendSeq_any (Bs Bn : Nat) (a : Option Addr) (len cap : Nat) (hlen : len ≤ cap) (hcap : len ≤ 1000000) (w : World) (hBs : Bs < w.heap.size) (hBn : Bn < w.heap.size)
   (hcs : w.cell? ⟨Bs, 0, none⟩ = some (.slice a len cap)) (hcn : w.cell? ⟨Bn, 0, none⟩ = some (.int .i64 16)) :
   Calls Tryz.prog 128 #[.slice none 0 0, .func (.func 129) #[] #[.pointer (some ⟨Bs, 0, none⟩), .pointer (some ⟨Bn, 0, none⟩)]] w fun e W' => ∃ v, e = .returned v ∧ W'.ownsRow w.heap.size 22 1 v ((len + 15) / 16) ((partsTo a len ((len + 15) / 16)).map HeadV.v) ∧ Below w.heap.size w W' :=
 (callsIn_wide (n := 3)).1 (appendSeq_in Fence.wide 3 trivial trivial rfl (by omega) Bs Bn a len cap hlen hcap w hBs hBn hcs hcn)
end Go.Proofs.YtmpmaljkmfgagacGreat
namespace Go.Proofs.YtmpmaljkmfgagacGreat
open Go.RowKit
def PutRel (l : List Int) (w : World) (out i : Value) (wr : World) : Prop :=
 ∃ (k : Nat) (a : Option Addr) (c : Nat), i = .int .i64 k ∧ k ≤ 8 ∧ out = .slice a k c ∧ wr.ownsRow w.heap.size 5 1 (.slice a k c) k ((l.take k).map (Value.int .u8)) ∧ Below w.heap.size w wr
def EncRel (hd : List Int) (ops : List OpR) (w : World) (out i : Value) (wr : World) : Prop :=
 ∃ (k : Nat) (a : Option Addr) (n c : Nat) (outl : List Int), i = .int .i64 k ∧ k ≤ ops.length ∧ out = .slice a n c ∧ outl.length = n ∧ outl = hd ++ PatM.encs (ops.take k) ∧ wr.ownsRow w.heap.size 5 1 (.slice a n c) outl.length (outl.map (Value.int .u8)) ∧ Below w.heap.size w wr
theorem two_lit (W : World) (x y : Int) (hx : 0 ≤ x ∧ x ≤ 255) (hy : 0 ≤ y ∧ y ≤ 255) : BS (W.alloc (.cells #[.int .u8 x, .int .u8 y] 5)) (some ⟨W.heap.size, 0, none⟩) 2 2 [x, y] := by
 refine ⟨rfl, Nat.le_refl _, by omega, by intro v hv; simp at hv; rcases hv with rfl | rfl <;> assumption, fun _ => ⟨W.heap.size, 0, rfl, fun i hi => ?_⟩, fun h => by cases h⟩
 simp only [World.cell?, hpA, if_pos]
 match i, hi with
 | 0, _ | 1, _ => rfl
theorem patPut_any (v : Value) (p : PatR) (w : World) (hp : PV w v p) :
   Calls Tryz.prog 89 #[v] w (GivesBE (PatM.putOf p) w) := by
 have hp' := hp
 obtain ⟨ao, no, co, rfl, ho, -⟩ := hp
 obtain ⟨f, t, o, nw, s, ops⟩ := p
 simp only at ho
 have hb : Below w.heap.size w (w.alloc (.cells #[.int .i64 f, .int .i64 t, .int .i64 o, .int .i64 nw, .int .i64 s, .slice ao no co] 35)) := (Below.refl _ _).alloc (Nat.le_refl _) _
 obtain ⟨B, hBw⟩ : ∃ B, w.heap.size = B := ⟨_, rfl⟩
 have hB0 : (w.alloc (.cells #[.int .i64 f, .int .i64 t, .int .i64 o, .int .i64 nw, .int .i64 s, .slice ao no co] 35)).heap[B]? = some (.cells #[.int .i64 f, .int .i64 t, .int .i64 o, .int .i64 nw, .int .i64 s, .slice ao no co] 35 (0, 0)) := by rw [hpA, if_pos hBw.symm]
 replace hp' := hp'.later hb
 replace ho := ho.later hb
 obtain ⟨E, hE⟩ : ∃ E, PatM.check ⟨f, t, o, nw, s, ops⟩ = E := ⟨_, rfl⟩
 have HE := LH hE
 clear hE
 go_enter Tryz.func89, Tryz.ntmps89
 go_wp2_with fail
 generalize w.alloc (.cells #[.int .i64 f, .int .i64 t, .int .i64 o, .int .i64 nw, .int .i64 s, .slice ao no co] 35) = W0 at hb hB0 hp' ho ⊢
 refine (checkPat_any _ _ _ hp').mono ?_
 rintro e W1 ⟨rfl, b1⟩
 rw [HE.out]
 replace hB0 := (b1.block B (lt_blk hB0)).trans hB0
 replace ho := ho.later b1
 replace b1 := bTh hb b1
 clear hb hp' hBw W0
 by_cases h0 : E = 0
 · subst h0
   have HK : Hid (PatM.putOf ⟨f, t, o, nw, s, ops⟩ = (PatM.putL ⟨f, t, o, nw, s, ops⟩, 0)) := PatM.putOf_ok HE.out
   obtain ⟨hh, h2⟩ := PatM.check_parts HE.out
   obtain ⟨h40, -, -, s1, s2, hg, ht⟩ := DeltaM.check_zero h2
   unfold PatM.badHead at hh
   simp only at hh h40 s1 s2 hg ht
   have v1 : 1 ≤ f ∧ f ≤ 30 := by omega
   have v2 : 1 ≤ t ∧ t ≤ 30 := by omega
   have v3 : 0 ≤ o ∧ o ≤ 65535 := by omega
   have v4 : 0 ≤ nw ∧ nw ≤ 65535 := by omega
   obtain ⟨r0, r1, r2, r3, r4, r5, -⟩ := pat_cells hB0
   have hno := ho.len
   obtain ⟨hd, hhd⟩ : ∃ hd, hd = PatM.head ⟨f, t, o, nw, s, ops⟩ := ⟨_, rfl⟩
   have hb2 : Below W1.heap.size W1 (W1.alloc (.cells #[.int .i64 f, .int .i64 t, .int .i64 (o / 256), .int .i64 (o % 256), .int .i64 (nw / 256), .int .i64 (nw % 256), .int .i64 s, .int .i64 (no : Int)] 3)) := (Below.refl _ _).alloc (Nat.le_refl _) _
   obtain ⟨Br, hBr⟩ : ∃ Br, W1.heap.size = Br := ⟨_, rfl⟩
   have HI : Hid (∀ k, k < 8 → (W1.alloc (.cells #[.int .i64 f, .int .i64 t, .int .i64 (o / 256), .int .i64 (o % 256), .int .i64 (nw / 256), .int .i64 (nw % 256), .int .i64 s, .int .i64 (no : Int)] 3)).cell? ⟨Br, k, none⟩ = some (.int .i64 (hd.getD k 0))) := by
     show ∀ k, _
     have hblk : (W1.alloc (.cells #[.int .i64 f, .int .i64 t, .int .i64 (o / 256), .int .i64 (o % 256), .int .i64 (nw / 256), .int .i64 (nw % 256), .int .i64 s, .int .i64 (no : Int)] 3)).heap[Br]? = some (.cells #[.int .i64 f, .int .i64 t, .int .i64 (o / 256), .int .i64 (o % 256), .int .i64 (nw / 256), .int .i64 (nw % 256), .int .i64 s, .int .i64 (no : Int)] 3 (0, 0)) := by rw [hpA, if_pos hBr.symm]
     intro k hk
     rw [hhd]
     simp only [World.cell?, hblk, PatM.head, hno]
     match k, hk with
     | 0, _ | 1, _ | 2, _ | 3, _ | 4, _ | 5, _ | 6, _ | 7, _ => rfl
   have HBy : Hid (∀ k, k < 8 → 0 ≤ hd.getD k 0 ∧ hd.getD k 0 ≤ 255) := by
     show ∀ k, _
     intro k hk
     rw [hhd]
     simp only [PatM.head]
     match k, hk with
     | 0, _ | 1, _ | 2, _ | 3, _ | 4, _ | 5, _ | 6, _ | 7, _ => simp; omega
   have HHd : Hid (hd.length = 8) := by show hd.length = 8; rw [hhd]; rfl
   have HPL : Hid (PatM.putL ⟨f, t, o, nw, s, ops⟩ = hd ++ PatM.encs ops) := by show _ = _; rw [hhd]; rfl
   have HO2 := LH (ho.later hb2)
   have HB2 := LH (bTh b1 hb2)
   have r5' := cell_later hb2 r5
   have HG := LH hg
   have HLn := LH hno
   have hno40 : no ≤ 40 := by rw [← hno]; exact h40
   have HLE := LH (PatM.putL_len HE.out)
   have HBD : Hid (∀ k, (hd ++ PatM.encs (ops.take k)).length ≤ 152) := by
     show ∀ k, _
     intro k
     have h1 := HLE.out
     have h2 : PatM.encs ops = PatM.encs (ops.take k) ++ PatM.encs (ops.drop k) := by rw [← PatM.encs_append, List.take_append_drop]
     rw [HPL.out, h2] at h1
     simp only [List.length_append] at h1 ⊢
     omega
   go_wp2_with fail
   generalize W1.alloc (.cells #[.int .i64 f, .int .i64 t, .int .i64 (o / 256), .int .i64 (o % 256), .int .i64 (nw / 256), .int .i64 (nw % 256), .int .i64 s, .int .i64 (no : Int)] 3) = W2 at hb2 HI HO2 HB2 r5' ⊢
   clear r0 r1 r2 r3 r4 r5 hh h2 hg ht h40 hhd ho b1 hno hB0
   clear hBr hb2
   go_loopw [5, 38] (fun out i wr => PutRel hd W2 out i wr) (fun _ i _ => 8 - (intOf i).toNat)
   case atStart => exact ⟨0, none, 0, rfl, by omega, rfl, World.ownsRow_nil _ _ _ _, Below.refl _ _⟩
   case round =>
     obtain ⟨k, a, c, rfl, hk, rfl, hown, hbw⟩ := hrel
     by_cases hlt : k < 8
     · have hcell := cell_later hbw (HI.out k hlt)
       have hv := HBy.out k hlt
       have HT : Hid ((hd.take (k + 1)).map (Value.int .u8) = (hd.take k ++ [hd.getD k 0]).map (Value.int .u8)) := by
         show _ = _
         rw [List.take_add_one, List.getD_eq_getElem?_getD, List.getElem?_eq_getElem (by rw [HHd.out]; exact hlt)]
         simp
       generalize hd.getD k 0 = x at hcell hv HT
       have hw : IntKind.u8.wrap x = x := by rw [IntKind.wrap_u8]; omega
       have hbl : Below wr.heap.size wr (wr.alloc (.cells #[.int .u8 x] 5)) := (Below.refl _ _).alloc (Nat.le_refl _) _
       obtain ⟨a5, c5, W5, hrun, hown5, hg5⟩ := app_run (own_later hown hbl) (one_lit wr x hv) (by omega) (by have := hbl.size; have := hbw.size; omega)
       have hb5 := (bTh hbw hbl).grown hg5 (bTh hbw hbl).size (fun g hg => (oL3 hown hg).1)
       have HOw := LH hown5
       have HB5 := LH hb5
       clear hown5 hg5 hbl hb5 hown
       go_wp2_with (at_builtin; refine Lib.wpList_append_run _ rfl _ _ _ _ rfl _ _ rfl rfl _ _ hrun ?_)
       go_roundw
       case rel => exact ⟨k + 1, a5, c5, by go_num, by omega, rfl, by rw [HT.out]; exact HOw.out, HB5.out⟩
       case measure => simp [intOf]; omega
     · obtain rfl : k = 8 := by omega
       have r5w := cell_later hbw r5'
       rw [List.take_of_length_le (by rw [HHd.out]; omega)] at hown
       have HOw := LH hown
       have HBw := LH hbw
       clear hown hbw
       go_wp2_with fail
       clear r5w
       go_loopw [5, 51] (fun out i wr => EncRel hd ops W2 out i wr) (fun _ i _ => no - (intOf i).toNat)
       case atStart => exact ⟨0, a, 8, c, hd, rfl, Nat.zero_le _, rfl, HHd.out, by simp [PatM.encs], by rw [HHd.out]; exact HOw.out, HBw.out⟩
       case round =>
         clear HOw HBw
         obtain ⟨k, a2, n2, c2, outl, rfl, hk, rfl, hol, hou, ho2, hbw⟩ := hrel
         rw [HLn.out] at hk
         have HOL := LH hol
         have HOU := LH hou
         have hbd := HBD.out k
         rw [← hou, hol] at hbd
         clear hol hou
         by_cases hlt : k < no
         · obtain ⟨b, off, rfl, hcs⟩ := HO2.out.cells (by omega)
           obtain ⟨va, vn, vc, q0, q1, q2, q3, -, -⟩ := hcs k hlt
           replace q0 := cell_later hbw q0
           replace q1 := cell_later hbw q1
           replace q2 := cell_later hbw q2
           have hkl : k < ops.length := by rw [HLn.out]; exact hlt
           have HT : Hid (PatM.encs (ops.take (k + 1)) = PatM.encs (ops.take k) ++ PatM.enc (ops.getD k default)) := by
             show _ = _
             rw [List.take_add_one, List.getElem?_eq_getElem hkl, PatM.encs_append]
             simp [PatM.encs, List.getD_eq_getElem?_getD, List.getElem?_eq_getElem hkl]
           have hg := HG.out (ops.getD k default) (by rw [List.getD_eq_getElem?_getD, List.getElem?_eq_getElem hkl]; exact List.getElem_mem hkl)
           generalize ops.getD k default = oo at q0 q1 q2 q3 HT hg
           obtain ⟨A, L, D⟩ := oo
           simp only at q0 q1 q2 q3
           obtain ⟨g1, g2, g3⟩ := DeltaM.good_len hg.2
           simp only at g1 g2 g3
           have hDn := q3.len
           obtain ⟨Bo, hBo⟩ : ∃ Bo, wr.heap.size = Bo := ⟨_, rfl⟩
           have hbl : Below wr.heap.size wr (wr.alloc (.cells #[.int .i64 A, .int .i64 L, .slice va vn vc] 123)) := (Below.refl _ _).alloc (Nat.le_refl _) _
           have hst : ASt W2 Bo #[.int .i64 A, .int .i64 L, .slice va vn vc] (.slice a2 n2 c2) outl (wr.alloc (.cells #[.int .i64 A, .int .i64 L, .slice va vn vc] 123)) := by
             refine ⟨by rw [hpA, if_pos hBo.symm], own_later ho2 hbl, fun e => ?_, bTh hbw hbl, by rw [← hBo]; exact hbw.size⟩
             have := (oL3 ho2 e).2
             omega
           have e1 : (wr.alloc (.cells #[.int .i64 A, .int .i64 L, .slice va vn vc] 123)).heap.size = Bo + 1 := by simp [hBo]
           by_cases hL : L = 0
           · subst hL
             obtain ⟨hform, d1, d2⟩ := PatM.form_data hg.1 rfl
             simp only at d1 d2
             rw [hDn] at d1 d2
             have HEn : Hid (PatM.enc ⟨A, 0, D⟩ = [255, (vn : Int)] ++ D) := by show _ = _; simp [PatM.enc, hDn]
             have hw : IntKind.u8.wrap (vn : Int) = vn := by rw [IntKind.wrap_u8]; omega
             have hba : Below (wr.alloc (.cells #[.int .i64 A, .int .i64 0, .slice va vn vc] 123)).heap.size (wr.alloc (.cells #[.int .i64 A, .int .i64 0, .slice va vn vc] 123)) ((wr.alloc (.cells #[.int .i64 A, .int .i64 0, .slice va vn vc] 123)).alloc (.cells #[.int .u8 255, .int .u8 (vn : Int)] 5)) := (Below.refl _ _).alloc (Nat.le_refl _) _
             have htl := two_lit (wr.alloc (.cells #[.int .i64 A, .int .i64 0, .slice va vn vc] 123)) 255 vn (by omega) (by omega)
             rw [e1] at htl
             obtain ⟨a5, c5, W5, hrun, HS5⟩ := (hst.later hba).app htl (by omega) (by rw [HOL.out]; omega)
             rw [HOL.out] at hrun HS5
             have q5 := q3.later HS5.out.below
             obtain ⟨a7, c7, W7, hrun2, HS7⟩ := HS5.out.app q5 (by omega) (by rw [List.length_append, HOL.out]; simp only [List.length_cons, List.length_nil]; omega)
             have hl5 : (outl ++ [255, (vn : Int)]).length = n2 + 2 := by rw [List.length_append, HOL.out]; rfl
             rw [hl5] at hrun2 HS7
             obtain ⟨d0, d1', d2'⟩ := cells_blk HS5.out.cb
             clear hst hba htl HS5 q5 hbl hform hg
             go_wp2_with (first | (at_builtin; refine Lib.wpList_append_run _ rfl (.tmp 58) (.tmp 63) _ _ rfl _ _ rfl rfl _ _ hrun ?_) | (at_builtin; refine Lib.wpList_append_run _ rfl (.tmp 65) (.tmp 67) _ _ rfl _ _ rfl rfl _ _ hrun2 ?_))
             go_roundw
             case rel =>
               (repeat apply Exists.intro)
               refine ⟨?_, rfl⟩
               refine ⟨k + 1, a7, n2 + 2 + vn, c7, outl ++ [255, (vn : Int)] ++ D, by go_num, by rw [HLn.out]; omega, rfl, ?_, ?_, HS7.out.own, HS7.out.below⟩
               · rw [List.length_append, hl5, hDn]
               · rw [HT.out, HEn.out, HOU.out]
                 simp
             case measure => simp [intOf]; omega
           · have hLb : (L == 0) = false := by simp [hL]
             have hw1 : IntKind.u8.wrap A = A := by rw [IntKind.wrap_u8]; omega
             have hw2 : IntKind.u8.wrap L = L := by rw [IntKind.wrap_u8]; omega
             have HEn : Hid (PatM.enc ⟨A, L, D⟩ = [A, L]) := by show _ = _; simp [PatM.enc, hL]
             have hba : Below (wr.alloc (.cells #[.int .i64 A, .int .i64 L, .slice va vn vc] 123)).heap.size (wr.alloc (.cells #[.int .i64 A, .int .i64 L, .slice va vn vc] 123)) ((wr.alloc (.cells #[.int .i64 A, .int .i64 L, .slice va vn vc] 123)).alloc (.cells #[.int .u8 A, .int .u8 L] 5)) := (Below.refl _ _).alloc (Nat.le_refl _) _
             have htl := two_lit (wr.alloc (.cells #[.int .i64 A, .int .i64 L, .slice va vn vc] 123)) A L (by omega) (by omega)
             rw [e1] at htl
             obtain ⟨a5, c5, W5, hrun, HS5⟩ := (hst.later hba).app htl (by omega) (by rw [HOL.out]; omega)
             rw [HOL.out] at hrun HS5
             clear hst hba htl hbl hg
             go_wp2_with (at_builtin; refine Lib.wpList_append_run _ rfl (.tmp 69) (.tmp 76) _ _ rfl _ _ rfl rfl _ _ hrun ?_)
             go_roundw
             case rel =>
               (repeat apply Exists.intro)
               refine ⟨?_, rfl⟩
               refine ⟨k + 1, a5, n2 + 2, c5, outl ++ [A, L], by go_num, by rw [HLn.out]; omega, rfl, ?_, ?_, HS5.out.own, HS5.out.below⟩
               · rw [List.length_append, HOL.out]; rfl
               · rw [HT.out, HEn.out, HOU.out]
                 simp
             case measure => simp [intOf]; omega
         · obtain rfl : k = no := by omega
           have HEq : Hid (outl = PatM.putL ⟨f, t, o, nw, s, ops⟩) := by
             show outl = _
             rw [HPL.out, HOU.out, List.take_of_length_le (by rw [HLn.out]; omega)]
           have HBt : Hid (∀ v ∈ outl, 0 ≤ v ∧ v ≤ 255) := by
             show ∀ v ∈ outl, _
             rw [HEq.out]
             exact PatM.putL_bytes HE.out (OS.bytes HO2.out)
           have HOw2 := LH ho2
           have HBw2 := LH (bTh HB2.out hbw)
           clear ho2 hbw
           go_wp2_with fail
           go_ret2
           refine ⟨a2, n2, c2, tup_a (by rw [HK.out]), ?_, HBw2.out⟩
           rw [HK.out]
           simp only
           rw [← HEq.out]
           have := HOw2.out
           rw [HOL.out] at this
           exact BS.of_own this HBt.out
 · have hnb : (E != 0) = true := by simp [h0]
   have HK : Hid (PatM.putOf ⟨f, t, o, nw, s, ops⟩ = ([], E)) := by
     show _ = _
     rw [PatM.putOf_bad (by rw [HE.out]; exact h0), HE.out]
   go_wp2_with fail
   go_ret2
   exact ⟨none, 0, 0, tup_a (by rw [HK.out]), by rw [HK.out]; exact BS.nil_ _, b1⟩
theorem seqChunk_any (a : Option Addr) (n c : Nat) (w : World) :
   Calls Tryz.prog 91 #[.slice a n c, .int .i64 16] w fun e w' => e = .returned (.func (.func 129) #[] #[.pointer (some ⟨w.heap.size, 0, none⟩), .pointer (some ⟨w.heap.size + 1, 0, none⟩)]) ∧ w' = (w.alloc (.cells #[.slice a n c] 22)).alloc (.cells #[.int .i64 16] 3) := by
 have hmf : ∀ (fn : Fn) (first cap : Array Value) (w : World), (Instr.makeFunc fn first cap).run Tryz.prog w = .ok (.func fn first cap) w := fun _ _ _ _ => rfl
 go_enter Tryz.func91, Tryz.ntmps91
 go_wp2_with fail
 go_ret
 exact ⟨rfl, rfl⟩
theorem collect_any (Bs Bn : Nat) (a : Option Addr) (len cap : Nat) (hlen : len ≤ cap) (hcap : len ≤ 1000000) (w : World) (hBs : Bs < w.heap.size) (hBn : Bn < w.heap.size)
   (hcs : w.cell? ⟨Bs, 0, none⟩ = some (.slice a len cap)) (hcn : w.cell? ⟨Bn, 0, none⟩ = some (.int .i64 16)) :
   Calls Tryz.prog 90 #[.func (.func 129) #[] #[.pointer (some ⟨Bs, 0, none⟩), .pointer (some ⟨Bn, 0, none⟩)]] w fun e W' => ∃ v, e = .returned v ∧ W'.ownsRow w.heap.size 22 1 v ((len + 15) / 16) ((partsTo a len ((len + 15) / 16)).map HeadV.v) ∧ Below w.heap.size w W' := by
 go_enter Tryz.func90, Tryz.ntmps90
 go_wp2_with fail
 refine (appendSeq_any Bs Bn a len cap hlen hcap _ hBs hBn hcs hcn).mono ?_
 rintro e W' ⟨v, rfl, ho, hb⟩
 have HO := LH ho
 clear ho
 go_wp2_with fail
 go_ret
 exact ⟨v, rfl, HO.out, hb⟩
theorem lt_blkO {W : World} {g : Nat} {o : Obj} (h : W.heap[g]? = some o) : g < W.heap.size := by
 rcases Nat.lt_or_ge g W.heap.size with hlt | hge
 · exact hlt
 · rw [Array.getElem?_eq_none hge] at h; cases h
theorem BS.part {w : World} {a : Option Addr} {n c : Nat} {l : List Int} (h : BS w a n c l) {k : Nat} (hk : k * 16 < n) : BS w (a.map (·.add (k * 16))) (min 16 (n - k * 16)) (min 16 (n - k * 16)) ((l.drop (k * 16)).take 16) := by
 have h1 := h.len
 have h2 := h.le
 have h3 := h.max
 obtain ⟨b, off, rfl, hc⟩ := h.cells (by omega)
 refine ⟨by simp; omega, Nat.le_refl _, by omega, fun x hx => h.bytes x (List.mem_of_mem_drop (List.mem_of_mem_take hx)), fun hp => ?_, fun he => by cases he⟩
 refine ⟨b, off + k * 16, by rw [Option.map_some, addr_add], fun i hi => ?_⟩
 rw [Nat.add_assoc, hc (k * 16 + i) (by omega), List.getElem?_take_of_lt (by omega), List.getElem?_drop]
def ChunksRel (w1 : World) (fr tv : Int) (o : List Int) (out i : Value) (wr : World) : Prop :=
 ∃ k : Nat, i = .int .i64 k ∧ k ≤ ChunkM.parts o ∧ ChSt w1 w1.heap.size out ((ChunkM.cutL fr tv o).take k) wr ∧ Below w1.heap.size w1 wr
theorem two_new (w : World) (v1 v2 : Value) (t1 t2 : Nat) : ((w.alloc (.cells #[v1] t1)).alloc (.cells #[v2] t2)).cell? ⟨w.heap.size, 0, none⟩ = some v1 ∧ ((w.alloc (.cells #[v1] t1)).alloc (.cells #[v2] t2)).cell? ⟨w.heap.size + 1, 0, none⟩ = some v2 := by
 have e1 : (w.alloc (.cells #[v1] t1)).heap.size = w.heap.size + 1 := by simp
 refine ⟨?_, ?_⟩
 · simp only [World.cell?, hpA]
   rw [if_neg (by rw [e1]; omega), if_pos trivial]
   rfl
 · simp only [World.cell?, hpA]
   rw [if_pos e1.symm]
   rfl
theorem chunksR_any (v : Value) (p : PatR) (w : World) (hv : PV w v p) :
   Calls Tryz.prog 48 #[v] w (GivesCs p w) := by
 obtain ⟨ap, np, cp, rfl, hop, i1, i2, i3, i4, i5⟩ := hv
 obtain ⟨f, t, od, nw, sz, ops⟩ := p
 simp only at hop i1 i2 i3 i4 i5 ⊢
 have hb0 : Below w.heap.size w (w.alloc (.cells #[.int .i64 f, .int .i64 t, .int .i64 od, .int .i64 nw, .int .i64 sz, .slice ap np cp] 35)) := (Below.refl _ _).alloc (Nat.le_refl _) _
 obtain ⟨B, hBB⟩ : ∃ B, w.heap.size = B := ⟨_, rfl⟩
 have hblk : (w.alloc (.cells #[.int .i64 f, .int .i64 t, .int .i64 od, .int .i64 nw, .int .i64 sz, .slice ap np cp] 35)).heap[B]? = some (.cells #[.int .i64 f, .int .i64 t, .int .i64 od, .int .i64 nw, .int .i64 sz, .slice ap np cp] 35 (0, 0)) := by rw [hpA, if_pos hBB.symm]
 have HPV : Hid (PV (w.alloc (.cells #[.int .i64 f, .int .i64 t, .int .i64 od, .int .i64 nw, .int .i64 sz, .slice ap np cp] 35)) (.agg #[.int .i64 f, .int .i64 t, .int .i64 od, .int .i64 nw, .int .i64 sz, .slice ap np cp]) ⟨f, t, od, nw, sz, ops⟩) := ⟨ap, np, cp, rfl, hop.later hb0, i1, i2, i3, i4, i5⟩
 have HB0 := LH hb0
 have HBLK := LH hblk
 have HI : Hid (I64 f ∧ I64 t) := ⟨i1, i2⟩
 clear hop i1 i2 i3 i4 i5 hb0 hblk
 go_enter Tryz.func48, Tryz.ntmps48
 go_wp2_with fail
 refine (patPut_any _ _ _ HPV.out).mono ?_
 rintro e W1 ⟨a1, n1, c1, rfl, s1, b1⟩
 by_cases hc : PatM.check ⟨f, t, od, nw, sz, ops⟩ = 0
 · rw [PatM.putOf_ok hc] at s1 ⊢
   simp only at s1 ⊢
   have hpl := PatM.putL_len hc
   have hs1l := s1.len
   have HB1 := LH (bTh HB0.out b1)
   have HBLK1 := LH ((b1.block B (lt_blkO HBLK.out)).trans HBLK.out)
   have HC := LH hc
   clear b1 HB0 HBLK HPV hc
   go_wp2_with fail
   refine (packed_any a1 n1 c1 _ _ s1 (by omega)).mono ?_
   rintro e W2 ⟨o, a2, n2, c2, hpk, rfl, s2, b2⟩
   have hol := ChunkM.packed_len HC.out hpk
   have hop := ChunkM.packed_parts HC.out hpk
   have hs2l := s2.len
   have HB2 := LH (bTh HB1.out b2)
   have HBLK2 := LH ((b2.block B (lt_blkO HBLK1.out)).trans HBLK1.out)
   have HPK := LH hpk
   have HS2 := LH s2
   have hle2 := s2.le
   clear s1 b2 HB1 HBLK1 hpk s2 hpl hs1l
   go_wp2_with fail
   refine (seqChunk_any a2 n2 c2 _).mono ?_
   rintro e W3 ⟨rfl, hW3⟩
   have hb3 : Below W2.heap.size W2 W3 := by rw [hW3]; exact ((Below.refl _ _).alloc (Nat.le_refl _) _).alloc (by simp) _
   have hk1 : W3.cell? ⟨W2.heap.size, 0, none⟩ = some (.slice a2 n2 c2) := by rw [hW3]; exact (two_new W2 _ _ _ _).1
   have hk2 : W3.cell? ⟨W2.heap.size + 1, 0, none⟩ = some (.int .i64 16) := by rw [hW3]; exact (two_new W2 _ _ _ _).2
   have hsz : W3.heap.size = W2.heap.size + 2 := by rw [hW3]; simp
   have HCol := LH (collect_any W2.heap.size (W2.heap.size + 1) a2 n2 c2 hle2 (by omega) W3 (by omega) (by omega) hk1 hk2)
   have HB3 := LH (bTh HB2.out hb3)
   have HBLK3 := LH ((hb3.block B (lt_blkO HBLK2.out)).trans HBLK2.out)
   have HS3 := LH hb3
   clear hk1 hk2 hsz hW3 hb3 HB2 HBLK2
   go_wp2_with fail
   refine HCol.out.mono ?_
   rintro e W4 ⟨vr, rfl, ho4, b4⟩
   have hK : (n2 + 15) / 16 = ChunkM.parts o := by unfold ChunkM.parts; rw [hs2l]
   rw [hK] at ho4
   obtain ⟨K, hKK⟩ : ∃ K, ChunkM.parts o = K := ⟨_, rfl⟩
   have HKK := LH hKK
   rw [hKK] at ho4 hop
   obtain ⟨ar, cr, hvr⟩ : ∃ ar cr, vr = .slice ar K cr := by
     rcases ho4.2 with ⟨q1, q2⟩ | ⟨g, cap, cur, q1, _⟩
     · exact ⟨none, 0, by rw [q1, q2]⟩
     · exact ⟨_, _, q1⟩
   subst hvr
   have HB4 := LH (bTh HB3.out b4)
   have HO4 := LH ho4
   obtain ⟨k0, k1, -⟩ := pat_cells ((b4.block B (lt_blkO HBLK3.out)).trans HBLK3.out)
   have HPC : Hid (∀ W, Below W4.heap.size W4 W → W.cell? ⟨B, 0, none⟩ = some (.int .i64 f) ∧ W.cell? ⟨B, 1, none⟩ = some (.int .i64 t)) := fun W h => ⟨cell_later h k0, cell_later h k1⟩
   have HS4 := LH ((HS2.out.later HS3.out).later b4)
   clear ho4 b4 HB3 HBLK3 HCol HS2 HS3 k0 k1
   go_wp2_with fail
   go_loopw [7, 27] (fun out i wr => ChunksRel W4 f t o out i wr) (fun _ i _ => K - (intOf i).toNat)
   case atStart => exact ⟨0, rfl, Nat.zero_le _, by rw [List.take_zero]; exact ChSt.start _ _ _, Below.refl _ _⟩
   case round =>
     obtain ⟨k, rfl, hk, hch, hB⟩ := hrel
     rw [HKK.out] at hk
     have HCH := LH hch
     have HB := LH hB
     clear hch hB
     by_cases hlt : k < K
     · obtain ⟨g, cap, hv, -, hgl⟩ := HO4.out.form (by omega)
       simp only [Value.slice.injEq, true_and] at hv
       obtain ⟨rfl, rfl⟩ := hv
       have e0 := HO4.out.cellAt k (by omega)
       have hpk : ((partsTo a2 n2 K).map HeadV.v)[k]? = some (.slice (a2.map (·.add (k * 16))) (min 16 (n2 - k * 16)) (min 16 (n2 - k * 16))) := by
         unfold partsTo
         rw [List.map_map, List.getElem?_map, List.getElem?_range hlt]
         rfl
       rw [hpk] at e0
       have e1 := cell_later HB.out e0
       have hk16 : k * 16 < n2 := by have := HKK.out; unfold ChunkM.parts at this; omega
       have hbs := HS4.out.part hk16
       obtain ⟨E, hE⟩ : ∃ E, min 16 (n2 - k * 16) = E := ⟨_, rfl⟩
       rw [hE] at e1 hbs
       generalize a2.map (·.add (k * 16)) = A2 at e1 hbs
       obtain ⟨k0, k1⟩ := HPC.out _ HB.out
       have hln : ((ChunkM.cutL f t o).take k).length = k := by rw [List.length_take, ChunkM.cutL_length, HKK.out]; omega
       have hnth : ChunkM.nth f t o k = ⟨f, t, k, K, (o.drop (k * 16)).take 16⟩ := by unfold ChunkM.nth; rw [HKK.out]
       obtain ⟨g5, cap5, W5, hrun, HS5, -⟩ := HCH.out.app (ChunkM.nth f t o k) (a := A2) (n := E) (c := E) (by rw [hnth]; exact hbs) (by rw [hnth]; exact ⟨HI.out.1, HI.out.2, by unfold I64; simp only; omega, by unfold I64; simp only; omega⟩) (by omega) HB.out.size HB.out rfl
       rw [hnth] at hrun
       simp only at hrun
       rw [hln] at hrun HS5
       have HT : Hid ((ChunkM.cutL f t o).take (k + 1) = (ChunkM.cutL f t o).take k ++ [ChunkM.nth f t o k]) := by
         show _ = _
         rw [List.take_add_one]
         congr 1
         have hkl : k < (ChunkM.cutL f t o).length := by rw [ChunkM.cutL_length, HKK.out]; exact hlt
         have := ChunkM.cutL_get f t o (k := k) (by rw [HKK.out]; exact hlt)
         rw [List.getD_eq_getElem?_getD, List.getElem?_eq_getElem hkl, Option.getD_some] at this
         rw [List.getElem?_eq_getElem hkl, this]
         rfl
       clear e0 hpk hbs hnth hln
       go_wp2_with (at_builtin; refine Lib.wpList_append_run _ rfl _ _ _ _ rfl _ _ rfl rfl _ _ hrun ?_)
       go_roundw
       case rel => exact ⟨k + 1, by go_num, by rw [HKK.out]; omega, by rw [HT.out]; exact HS5.out.1, HS5.out.2⟩
       case measure => simp [intOf]; omega
     · have hkK : k = K := by omega
       subst hkK
       have hch := HCH.out
       rw [List.take_of_length_le (by rw [ChunkM.cutL_length, HKK.out]; exact Nat.le_refl _)] at hch
       obtain ⟨a9, c9, h9⟩ := hch.form
       subst h9
       have HCS := LH (hch.cs rfl HB.out)
       have HR : Hid (ChunkM.CutIs ⟨f, t, od, nw, sz, ops⟩ (ChunkM.cutL f t o) 0) := .inr ⟨HC.out, o, HPK.out, rfl, rfl⟩
       have hb9 := bTh HB4.out HB.out
       clear hch HCH
       go_wp2_with fail
       go_ret2
       exact ⟨_, 0, a9, _, c9, HR.out, rfl, HCS.out, hb9⟩
 · rw [PatM.putOf_bad hc] at s1 ⊢
   obtain ⟨E, hE⟩ : ∃ E, PatM.check ⟨f, t, od, nw, sz, ops⟩ = E := ⟨_, rfl⟩
   simp only [hE] at hc ⊢
   have t0 : (E != 0) = true := by simp [hc]
   have hb2 := bTh HB0.out b1
   have HR : Hid (ChunkM.CutIs ⟨f, t, od, nw, sz, ops⟩ [] E) := .inl ⟨by rw [hE]; exact hc, rfl, hE.symm⟩
   clear s1 hE
   go_wp2_with fail
   go_ret2
   exact ⟨[], E, none, 0, 0, HR.out, rfl, CS.nil_ _, hb2⟩
end Go.Proofs.YtmpmaljkmfgagacGreat
