/-
  Texts put into one: DvFin, JoinL.
-/
import Derived.Test.YtmpmaljkmfgagacGreatMemStToStep
import Derived.Test.YtmpmaljkmfgagacGreatDvSame1ToDvHear
import Derived.Test.YtmpmaljkmfgagacGreatDiffedToLawG
import Derived.Test.YtmpmaljkmfgagacGreatRowToNewR
set_option maxRecDepth 100000
set_option maxHeartbeats 4000000
namespace Go.Proofs.YtmpmaljkmfgagacGreat
open Go.RowKit
def RecR.setI (r : RecR) (O : Nat) (i : InfR) : RecR := if O = 0 then { r with i0 := i } else { r with i1 := i }
theorem put_infV (r : RecR) (O : Nat) (i : InfR) (hO : O < 2) : putAt (rcC r) (5 + O * 3) (#[Value.int .i64 i.ver, .int .i64 i.size, .int .i64 i.sum] : Array Value).toList = rcC (r.setI O i) := by
 rcases (show O = 0 ∨ O = 1 by omega) with rfl | rfl <;> kernel_rfl
theorem act_setI (r : RecR) (O : Nat) (i : InfR) : (rcC (r.setI O i))[1]? = some (.int .i64 r.act) := by
 unfold RecR.setI
 split <;> rfl
theorem put_tryR (r : RecR) (b : Bool) : (rcC r).setIfInBounds 2 (.bool b) = rcC { r with trying := b } := by kernel_rfl
theorem put_triesR (r : RecR) (n : Int) : (rcC r).setIfInBounds 3 (.int .i64 n) = rcC { r with tries := n } := by kernel_rfl
theorem oth_nat {r : RecR} (h : r.act = 0 ∨ r.act = 1) : ∃ O : Nat, 1 - r.act = (O : Int) ∧ O < 2 := ⟨(1 - r.act).toNat, by omega, by omega⟩
theorem othN_any (r : RecR) (O : Nat) (ha : 1 - r.act = (O : Int)) (ha01 : r.act = 0 ∨ r.act = 1) : Hid (∀ W, Calls Tryz.prog 62 #[.int .i64 r.act] W fun e w' => e = .returned (.int .i64 (O : Int)) ∧ Below W.heap.size W w') := fun W => by
 have := otherD_any r.act W ha01
 rw [ha] at this
 exact this.mono fun _ _ ⟨h1, h2⟩ => ⟨h1, h2 ▸ Below.refl _ _⟩
theorem tried_is (d : DevR) (O : Nat) (ha : 1 - (DevM.rc d).act = (O : Int)) (hO2 : O < 2) : DevM.tried d = RecR.setI { DevM.rc d with trying := true, tries := 3 } O ⟨d.job.to_, d.job.size, d.job.new⟩ := by
 unfold DevM.tried DevM.put RecR.setI
 by_cases h : O = 0
 · rw [if_pos h, if_neg (by omega)]
 · rw [if_neg h]
   by_cases h1 : (DevM.rc d).act = 0
   · rw [if_pos h1]
   · rw [if_neg h1]
     exact absurd (by omega : O = 0) h
theorem finishD_bad (h : DevH) (d : DevR) (torn : Bool) (w : World) (HD : DH w h d) (E : Int) (h0 : E ≠ 0) (HBg : Hid (∀ W, DH W h d → Calls Tryz.prog 55 #[.agg (dvC h d), .bool true] W fun e w' => e = .returned (.tuple #[.agg (rcC RecM.noRec), .int .i64 E]) ∧ Below W.heap.size W w')) : Calls Tryz.prog 18 #[devV h d, .bool torn] w (GDv (DevM.noDev, E) w) := by
 have t0 : (E != 0) = true := by simp [h0]
 have HDh := LH HD
 clear HD
 unfold devV
 obtain ⟨P1, hP1⟩ : ∃ P, w.heap.size = P := ⟨_, rfl⟩
 have HS := LH (((((MS.start w).alloc (p := P1) (by simp [hP1]) (dvC h d) 37)).alloc (p := (P1 + 1)) (by simp [hP1]) zDev 37))
 go_enter Tryz.func18, Tryz.ntmps18
 go_upto_region 1 with fail
 refine wp_gen HS.out (fun V0 HS1 => ?_)
 replace HS := LH HS1
 clear HS1 hP1
 replace HS := LH (MH.of HS.out)
 have bP1 := HS.out.get 1 rfl
 simp only at bP1
 go_wp2_with (first
   | ((with_reducible show wpList _ _ _ _ _ _); refine LR rfl (t := 37) Tryz.underlying37 rfl (.tmp 2) rfl P1 rfl bP1 (sDv h d) ?_))
 clear bP1
 refine (HBg.out _ (HDh.out.later HS.out.below)).mono ?_
 rintro e W1 ⟨rfl, hb⟩
 replace HS := LH (HS.out.later hb)
 clear hb
 obtain ⟨P3, hP3⟩ : ∃ P, W1.heap.size = P := ⟨_, rfl⟩
 replace HS := LH (HS.out.alloc hP3 (rcC RecM.noRec) 28)
 go_upto_region 2 with ((with_reducible show wpList _ _ _ _ _ _); refine wSN rfl 28 (.tmp 6) (.tmp 12) rfl P3 (rcC RecM.noRec) rfl rfl 28 _ ?_ ?_ ?_ ?_ ?_; exact hP3.symm; exact (sRc RecM.noRec); exact (lRc RecM.noRec); exact (oRc RecM.noRec))
 refine gnH HS.out (fun V1 HS1 => ?_)
 replace HS := LH HS1
 clear HS1 hP3
 have bP1p1 := HS.out.get 1 rfl
 simp only at bP1p1
 have HG := LH (HS.out.set 1 rfl zDev)
 go_wp2_with (first
   | ((with_reducible show wpList _ _ _ _ _ _); refine wpList_store_row rfl 37 (.tmp 4) (.tmp 16) rfl (P1 + 1) zDev rfl rfl 37 zDev ?_ ?_ ?_ ?_ ?_; exact bP1p1; exact size_zdev; exact like_zz; exact one_zdev))
 clear bP1p1
 refine bodyPost_ret (v := .tuple #[.agg zDev, .int .i64 E]) ?_ rfl ?_
 · exact res_ct (fn := Tryz.f18) (p := 4) (a := 5) rfl rfl rfl (HG.out.get 1 rfl) Tryz.underlying37 rfl size_zdev
 · exact GDv.bad HG.out.below
theorem finishD_ok (h : DevH) (d : DevR) (torn : Bool) (w : World) (HD : DH w h d) (HBg : Hid (∀ W, DH W h d → Calls Tryz.prog 55 #[.agg (dvC h d), .bool true] W fun e w' => e = .returned (.tuple #[.agg (rcC (DevM.rc d)), .int .i64 0]) ∧ Below W.heap.size W w')) (hok : DevM.Ok d) (hu : d.up = true) : Calls Tryz.prog 18 #[devV h d, .bool torn] w (GDv (DevM.finish d torn) w) := by
 have HF := LH (rfl : DevM.finish d torn = DevM.finish d torn)
 have HOk := LH hok
 have ha := hok.act01
 unfold DevM.act at ha
 obtain ⟨O, hO, hO2⟩ := oth_nat ha
 have HO := othN_any _ O hO ha
 have HTr := LH (tried_is d O hO hO2)
 have hO0 : (0 : Int) ≤ (O : Int) := by omega
 have hOI : (O : Int) < 2 := by omega
 have _hv := hu
 clear hok hu ha hO HF _hv
 generalize hr : DevM.rc d = r at HBg HO HTr
 clear hr
 have HDh := LH HD
 clear HD
 unfold devV
 obtain ⟨P1, hP1⟩ : ∃ P, w.heap.size = P := ⟨_, rfl⟩
 have HS := LH (((((MS.start w).alloc (p := P1) (by simp [hP1]) (dvC h d) 37)).alloc (p := (P1 + 1)) (by simp [hP1]) zDev 37))
 go_enter Tryz.func18, Tryz.ntmps18
 go_upto_region 1 with fail
 refine wp_gen HS.out (fun V0 HS1 => ?_)
 replace HS := LH HS1
 clear HS1 hP1
 replace HS := LH (MH.of HS.out)
 have bP1 := HS.out.get 1 rfl
 simp only at bP1
 go_wp2_with (first
   | ((with_reducible show wpList _ _ _ _ _ _); refine LR rfl (t := 37) Tryz.underlying37 rfl (.tmp 2) rfl P1 rfl bP1 (sDv h d) ?_))
 clear bP1
 refine (HBg.out _ (HDh.out.later HS.out.below)).mono ?_
 rintro e W1 ⟨rfl, hb⟩
 replace HS := LH (HS.out.later hb)
 clear hb
 obtain ⟨P3, hP3⟩ : ∃ P, W1.heap.size = P := ⟨_, rfl⟩
 replace HS := LH (HS.out.alloc hP3 (rcC r) 28)
 go_upto_region 2 with ((with_reducible show wpList _ _ _ _ _ _); refine wSN rfl 28 (.tmp 6) (.tmp 12) rfl P3 (rcC r) rfl rfl 28 _ ?_ ?_ ?_ ?_ ?_; exact hP3.symm; exact (sRc r); exact (lRc r); exact (oRc r))
 refine gnH HS.out (fun V1 HS1 => ?_)
 replace HS := LH HS1
 clear HS1 hP3
 have cP1_29 := cAt (k := 29) (v := .bool d.busy) (HS.out.get 2 rfl) rfl
 simp only at cP1_29
 have cP1_36 := cAt (k := 36) (v := .int .i64 d.done) (HS.out.get 2 rfl) rfl
 simp only at cP1_36
 have cP1_34 := cAt (k := 34) (v := .int .i64 d.job.size) (HS.out.get 2 rfl) rfl
 simp only at cP1_34
 by_cases hl : d.busy = false ∨ d.done < d.job.size
 · have HR : Hid (DevM.finish d torn = (DevM.noDev, 5)) := by
     show _ = _
     unfold DevM.finish
     rw [if_pos hl]
   have HG := LH (HS.out.set 1 rfl zDev)
   have bR := HS.out.get 1 rfl
   simp only at bR
   have bP1p1 := HS.out.get 1 rfl
   simp only at bP1p1
   rcases hl with hb | hlt
   · rw [hb] at cP1_29
     clear hb
     go_wp2_with (first
       | ((with_reducible show wpList _ _ _ _ _ _); refine wpList_store_row rfl 37 (.tmp 4) (.tmp 29) rfl (P1 + 1) zDev rfl rfl 37 zDev ?_ ?_ ?_ ?_ ?_; exact bP1p1; exact size_zdev; exact like_zz; exact one_zdev))
     refine bodyPost_ret (v := .tuple #[.agg zDev, .int .i64 5]) ?_ rfl ?_
     · exact res_ct (fn := Tryz.f18) (p := 4) (a := 5) rfl rfl rfl (HG.out.get 1 rfl) Tryz.underlying37 rfl size_zdev
     · rw [HR.out]
       exact GDv.bad HG.out.below
   · have t2 : decide (d.done < d.job.size) = true := by simp [hlt]
     clear hlt
     cases hb : d.busy with
     | true =>
       rw [hb] at cP1_29
       clear hb
       go_wp2_with (first
         | ((with_reducible show wpList _ _ _ _ _ _); refine wpList_store_row rfl 37 (.tmp 4) (.tmp 29) rfl (P1 + 1) zDev rfl rfl 37 zDev ?_ ?_ ?_ ?_ ?_; exact bP1p1; exact size_zdev; exact like_zz; exact one_zdev))
       refine bodyPost_ret (v := .tuple #[.agg zDev, .int .i64 5]) ?_ rfl ?_
       · exact res_ct (fn := Tryz.f18) (p := 4) (a := 5) rfl rfl rfl (HG.out.get 1 rfl) Tryz.underlying37 rfl size_zdev
       · rw [HR.out]
         exact GDv.bad HG.out.below
     | false =>
       rw [hb] at cP1_29
       clear hb
       go_wp2_with (first
         | ((with_reducible show wpList _ _ _ _ _ _); refine wpList_store_row rfl 37 (.tmp 4) (.tmp 29) rfl (P1 + 1) zDev rfl rfl 37 zDev ?_ ?_ ?_ ?_ ?_; exact bP1p1; exact size_zdev; exact like_zz; exact one_zdev))
       refine bodyPost_ret (v := .tuple #[.agg zDev, .int .i64 5]) ?_ rfl ?_
       · exact res_ct (fn := Tryz.f18) (p := 4) (a := 5) rfl rfl rfl (HG.out.get 1 rfl) Tryz.underlying37 rfl size_zdev
       · rw [HR.out]
         exact GDv.bad HG.out.below
 · have hbu : d.busy = true := by
     cases q : d.busy with
     | true => rfl
     | false => exact absurd (.inl q) hl
   have t2 : decide (d.done < d.job.size) = false := by
     have : ¬ d.done < d.job.size := fun q => hl (.inr q)
     simp
     omega
   rw [hbu] at cP1_29
   obtain ⟨⟨L, E⟩, hW⟩ : ∃ x, RecM.writeOf d.c (DevM.tried d) torn = x := ⟨_, rfl⟩
   have HR : Hid (DevM.finish d torn = DevM.wrong E (if torn then (DevM.off { d with c := L }, 0) else ({ d with c := L, busy := false, done := 0, job := noPat }, 0))) := by
     show _ = _
     unfold DevM.finish
     rw [if_neg hl, hW]
   have HCz := LH (fun q : E = 0 => cops_w (RecM.writeOf_zero HOk.out.cops (r := DevM.tried d) (torn := torn) (by rw [hW]; exact q)).2.1)
   rw [hW] at HCz
   rw [HTr.out] at hW
   have HWr : Hid (∀ W, Calls Tryz.prog 63 #[.agg (cpC d.c), .agg (rcC (RecR.setI ({ r with trying := true, tries := 3 } : RecR) O ⟨d.job.to_, d.job.size, d.job.new⟩)), .bool torn] W fun e w' => e = .returned (.tuple #[.agg (cpC L), .int .i64 E]) ∧ Below W.heap.size W w') := fun W => by
     have := writeR_any d.c (RecR.setI ({ r with trying := true, tries := 3 } : RecR) O ⟨d.job.to_, d.job.size, d.job.new⟩) torn W
     rw [hW] at this
     exact this
   have HCy := LH (fun W (x : DH W h d) => copiedD_new h d W x (DevM.few_of HOk.out))
   unfold devV at HCy
   clear hW hl hbu HTr HOk
   have cP3_2 := cAt (k := 2) (v := .bool r.trying) (HS.out.get 0 rfl) rfl
   simp only at cP3_2
   have fP3_2 := tAt (k := 2) (HS.out.get 0 rfl)
   simp only at fP3_2
   have cP3_3 := cAt (k := 3) (v := .int .i64 r.tries) (HS.out.get 0 rfl) rfl
   simp only at cP3_3
   have fP3_3 := tAt (k := 3) (HS.out.get 0 rfl)
   simp only at fP3_3
   have HS2 := LH ((HS.out.cell 0 rfl (put_tryR r true)).cell 0 rfl (put_triesR { r with trying := true } 3))
   go_upto_region 7 with fail
   clear cP1_29 cP1_36 cP1_34 cP3_2 fP3_2 cP3_3 fP3_3
   refine gnH HS2.out (fun V2 HS1 => ?_)
   replace HS := LH HS1
   clear HS1 HS2
   replace HS := LH HS.out.drew
   refine rTu (S := (fun W => MS w [((P1 + 1), zDev, 37), (P1, (dvC h d), 37)] [] [] W ∧ W.cell? ⟨P3, 1, none⟩ = some (.int .i64 r.act))) [(0, false), (1, false), (3, false), (4, false), (5, false), (6, false), (7, false), (8, false), (9, false), (10, false), (11, false), (12, false), (13, false), (2, true), (14, false), (15, true)] false 9999 (by kernel_rfl) (by kernel_rfl) ⟨HS.out.ms.tail, cAt (k := 1) (v := .int .i64 r.act) (HS.out.get 0 rfl) rfl⟩ ?_
   simp only [turned, gA, gB, gC]
   have uP3_1 : ∀ W, (fun W => MS w [((P1 + 1), zDev, 37), (P1, (dvC h d), 37)] [] [] W ∧ W.cell? ⟨P3, 1, none⟩ = some (.int .i64 r.act)) W → W.cell? ⟨P3, 1, none⟩ = some (.int .i64 r.act) := fun W hW => hW.2
   have uP1_31 : ∀ W, (fun W => MS w [((P1 + 1), zDev, 37), (P1, (dvC h d), 37)] [] [] W ∧ W.cell? ⟨P3, 1, none⟩ = some (.int .i64 r.act)) W → W.cell? ⟨P1, 31, none⟩ = some (.int .i64 d.job.to_) := fun W hW => cAt (hW.1.get 1 rfl) rfl
   have uP1_34 : ∀ W, (fun W => MS w [((P1 + 1), zDev, 37), (P1, (dvC h d), 37)] [] [] W ∧ W.cell? ⟨P3, 1, none⟩ = some (.int .i64 r.act)) W → W.cell? ⟨P1, 34, none⟩ = some (.int .i64 d.job.size) := fun W hW => cAt (hW.1.get 1 rfl) rfl
   have uP1_33 : ∀ W, (fun W => MS w [((P1 + 1), zDev, 37), (P1, (dvC h d), 37)] [] [] W ∧ W.cell? ⟨P3, 1, none⟩ = some (.int .i64 r.act)) W → W.cell? ⟨P1, 33, none⟩ = some (.int .i64 d.job.new) := fun W hW => cAt (hW.1.get 1 rfl) rfl
   repeat (first
     | (refine tSt ?_ (by rfl) (fun W9 hW9 => ?_) ?_
        rotate_left
        · (go_simp <;> with_reducible rfl)
        simp only [Act.put, sA, sB, sC])
     | (refine tSk (by rfl) ?_; simp only [Act.put, sA, sB, sC]))
   refine tCa (fun K hK => ?_)
   go_simp
   go_at_call 62
   with_reducible refine (HO.out _).mono ?_
   rintro e W2 ⟨rfl, hb⟩
   replace HS := LH (HS.out.later hb)
   clear hb
   try go_wp2_with fail
   refine hK.out _ _ ⟨HS.out.ms.tail, cAt (k := 1) (v := .int .i64 r.act) (HS.out.get 0 rfl) rfl⟩ ?_
   clear hK K
   try simp only [Act.put, sA, sB, sC]
   repeat (first
     | (refine tSt ?_ (by rfl) (fun W9 hW9 => ?_) ?_
        rotate_left
        · (go_simp <;> with_reducible rfl)
        simp only [Act.put, sA, sB, sC])
     | (refine tSk (by rfl) ?_; simp only [Act.put, sA, sB, sC]))
   have HS2 := LH (HS.out.cells 0 rfl (put_infV ({ r with trying := true, tries := 3 } : RecR) O ⟨d.job.to_, d.job.size, d.job.new⟩ hO2))
   refine tCa (fun K hK => ?_)
   refine wp_store_cellsO (by rfl) 25 (.tmp 46) (.tmp 44) rfl P3 (5 + O * 3) #[Value.int .i64 d.job.to_, .int .i64 d.job.size, .int .i64 d.job.new] rfl rfl (HS.out.ms.there 0 rfl (by show 5 + O * 3 + 3 ≤ 11; omega)) (size_inf ⟨d.job.to_, d.job.size, d.job.new⟩) (one_inf ⟨d.job.to_, d.job.size, d.job.new⟩) ?_
   refine hK.out _ _ ⟨HS2.out.ms.tail, cAt (k := 1) (v := .int .i64 r.act) (HS2.out.get 0 rfl) (act_setI _ _ _)⟩ ?_
   clear hK K
   try simp only [Act.put]
   clear uP3_1 uP1_31 uP1_34 uP1_33
   refine tEn ?_
   go_upto_region 8 with fail
   refine gnH HS2.out (fun V3 HS1 => ?_)
   replace HS := LH HS1
   clear HS1 HS2
   have bP1 := HS.out.get 2 rfl
   simp only at bP1
   have bP3 := HS.out.get 0 rfl
   simp only at bP3
   go_wp2_with (first
     | ((with_reducible show wpList _ _ _ _ _ _); refine wLP rfl 31 (.tmp 48) rfl P1 2 rfl (dvC h d) 37 (0, 0) ?_ (cpC d.c) ?_ _ Tryz.underlying31 rfl ?_ ?_; exact bP1; exact (part_cops h d); exact (sCp d.c))
     | ((with_reducible show wpList _ _ _ _ _ _); refine LR rfl (t := 28) Tryz.underlying28 rfl (.tmp 6) rfl P3 rfl bP3 (sRc (RecR.setI ({ r with trying := true, tries := 3 } : RecR) O ⟨d.job.to_, d.job.size, d.job.new⟩)) ?_))
   clear bP1 bP3
   refine (HWr.out _).mono ?_
   rintro e W3 ⟨rfl, hb⟩
   replace HS := LH (HS.out.later hb)
   clear hb
   obtain ⟨P8, hP8⟩ : ∃ P, W3.heap.size = P := ⟨_, rfl⟩
   replace HS := LH (HS.out.alloc hP8 (cpC L) 31)
   go_upto_region 9 with ((with_reducible show wpList _ _ _ _ _ _); refine wSN rfl 31 (.tmp 8) (.tmp 53) rfl P8 (cpC L) rfl rfl 31 _ ?_ ?_ ?_ ?_ ?_; exact hP8.symm; exact (sCp L); exact (like_copsL L); exact (one_cops L))
   refine gnH HS.out (fun V4 HS1 => ?_)
   replace HS := LH HS1
   clear HS1 hP8 HWr HO
   by_cases hE : E = 0
   · subst hE
     have HLW := LH (HCz.out rfl)
     have bP1 := HS.out.get 3 rfl
     simp only at bP1
     go_wp2_with (first
       | ((with_reducible show wpList _ _ _ _ _ _); refine LR rfl (t := 37) Tryz.underlying37 rfl (.tmp 2) rfl P1 rfl bP1 (sDv h d) ?_))
     clear bP1
     refine (HCy.out _ (HDh.out.later HS.out.below)).mono ?_
     rintro e W4 ⟨h', rfl, hb, hn, -, -⟩
     replace HS := LH (HS.out.gain hb hn)
     clear hb hn
     unfold devV
     have HS2 := LH (HS.out.set 3 rfl (dvC h' d))
     have bP1 := HS.out.get 3 rfl
     simp only at bP1
     go_upto_region 12 with (first
       | ((with_reducible show wpList _ _ _ _ _ _); refine wpList_store_row rfl 37 (.tmp 2) (.tmp 60) rfl P1 (dvC h' d) rfl rfl 37 (dvC h d) ?_ ?_ ?_ ?_ ?_; exact bP1; exact (sDv h' d); exact (lDv h h' d d); exact (oDv h' d)))
     clear bP1
     refine gnH HS2.out (fun V5 HS1 => ?_)
     replace HS := LH HS1
     clear HS1 HS2
     have HSa := LH (HS.out.cells 3 rfl (put_cops h' d L))
     have bP8 := HS.out.get 0 rfl
     simp only at bP8
     go_upto_region 13 with (first
       | ((with_reducible show wpList _ _ _ _ _ _); refine LR rfl (t := 31) Tryz.underlying31 rfl (.tmp 8) rfl P8 rfl bP8 (sCp L) ?_)
       | ((with_reducible show wpList _ _ _ _ _ _); refine wpList_store_mid rfl 31 (.tmp 63) (.tmp 61) rfl P1 2 (cpC L) rfl rfl ?_ ?_ ?_ ?_; exact HS.out.ms.there 3 rfl (by show 26 ≤ 37; decide); exact (sCp L); exact (one_copsA L); refine glH HSa.out (fun Va HSv => ?_); have e29 := cAt (k := 29) (v := .bool d.busy) (HSv.get 3 rfl) rfl; have z29 := tAt (k := 29) (HSv.get 3 rfl); simp only at e29 z29; have HSb := LH (HSv.cell 3 rfl (put_busy h' ({ d with c := L } : DevR) false)))
       | ((with_reducible show wpList _ _ _ _ _ _); refine wpList_store_mid rfl 35 (.tmp 65) (.tmp 62) rfl P1 30 (jbC none 0 0 noPat) rfl rfl ?_ ?_ ?_ ?_; exact HSb.out.ms.there 3 rfl (by show 36 ≤ 37; decide); exact sJb _ _ _ _; exact one_job _ _ _ _; refine glH (HSb.out.cells 3 rfl (put_job h' ({ d with c := L, busy := false } : DevR) none 0 0 noPat)) (fun Vb HSw => ?_); have e36 := cAt (k := 36) (v := .int .i64 d.done) (HSw.get 3 rfl) rfl; have z36 := tAt (k := 36) (HSw.get 3 rfl); simp only at e36 z36; have HS2 := LH (HSw.cell 3 rfl (put_done ({ h' with oa := none, on := 0, oc := 0 } : DevH) ({ d with c := L, busy := false, job := noPat } : DevR) 0))))
     clear bP8
     refine gnH HS2.out (fun V6 HS1 => ?_)
     replace HS := LH HS1
     clear HS1 HS2
     clear e29 z29 e36 z36 HSa HSb HSv HSw
     cases torn with
     | false =>
       have HR2 : Hid (DevM.finish d false = ({ d with c := L, busy := false, done := 0, job := noPat }, 0)) := HR.out
       have bP1 := HS.out.get 3 rfl
       simp only at bP1
       have bP1p1 := HS.out.get 2 rfl
       simp only at bP1p1
       have HG := LH (HS.out.set 2 rfl (dvC ({ h' with oa := none, on := 0, oc := 0 } : DevH) ({ d with c := L, busy := false, job := noPat, done := 0 } : DevR)))
       go_wp2_with (first
         | ((with_reducible show wpList _ _ _ _ _ _); refine LR rfl (t := 37) Tryz.underlying37 rfl (.tmp 2) rfl P1 rfl bP1 (sDv ({ h' with oa := none, on := 0, oc := 0 } : DevH) ({ d with c := L, busy := false, job := noPat, done := 0 } : DevR)) ?_)
         | ((with_reducible show wpList _ _ _ _ _ _); refine wpList_store_row rfl 37 (.tmp 4) (.tmp 70) rfl (P1 + 1) (dvC ({ h' with oa := none, on := 0, oc := 0 } : DevH) ({ d with c := L, busy := false, job := noPat, done := 0 } : DevR)) rfl rfl 37 zDev ?_ ?_ ?_ ?_ ?_; exact bP1p1; exact (sDv ({ h' with oa := none, on := 0, oc := 0 } : DevH) ({ d with c := L, busy := false, job := noPat, done := 0 } : DevR)); exact (like_zdev ({ h' with oa := none, on := 0, oc := 0 } : DevH) ({ d with c := L, busy := false, job := noPat, done := 0 } : DevR)); exact (oDv ({ h' with oa := none, on := 0, oc := 0 } : DevH) ({ d with c := L, busy := false, job := noPat, done := 0 } : DevR))))
       clear bP1 bP1p1
       refine bodyPost_ret (v := .tuple #[.agg (dvC ({ h' with oa := none, on := 0, oc := 0 } : DevH) ({ d with c := L, busy := false, job := noPat, done := 0 } : DevR)), .int .i64 0]) ?_ rfl ?_
       · exact res_ct (fn := Tryz.f18) (p := 4) (a := 5) rfl rfl rfl (HG.out.get 2 rfl) Tryz.underlying37 rfl (sDv _ _)
       · rw [HR2.out]
         refine ⟨({ h' with oa := none, on := 0, oc := 0 } : DevH), rfl, HG.out.below, fun V v1 v2 => ?_⟩
         have k1 := HG.out.newR 0 rfl V v1 v2
         simp only at k1
         exact ⟨k1.b0, k1.b1, k1.got, OS.nil_ _, HLW.out, k1.runI, noPat_w, i64_zero⟩
     | true =>
       have HR2 : Hid (DevM.finish d true = (DevM.off { d with c := L }, 0)) := HR.out
       have HOf := LH (fun h W => offD_any h { d with c := L, busy := false, job := noPat, done := 0 } W)
       unfold devV at HOf
       have bP1 := HS.out.get 3 rfl
       simp only at bP1
       go_wp2_with (first
         | ((with_reducible show wpList _ _ _ _ _ _); refine LR rfl (t := 37) Tryz.underlying37 rfl (.tmp 2) rfl P1 rfl bP1 (sDv ({ h' with oa := none, on := 0, oc := 0 } : DevH) ({ d with c := L, busy := false, job := noPat, done := 0 } : DevR)) ?_))
       clear bP1
       refine (HOf.out ({ h' with oa := none, on := 0, oc := 0 } : DevH) _).mono ?_
       rintro e W5 ⟨rfl, hb⟩
       replace HS := LH (HS.out.later hb)
       clear hb
       have bP1p1 := HS.out.get 2 rfl
       simp only at bP1p1
       have HG := LH (HS.out.set 2 rfl (dvC (offH ({ h' with oa := none, on := 0, oc := 0 } : DevH)) (DevM.off ({ d with c := L, busy := false, job := noPat, done := 0 } : DevR))))
       go_wp2_with (first
         | ((with_reducible show wpList _ _ _ _ _ _); refine wpList_store_row rfl 37 (.tmp 4) (.tmp 69) rfl (P1 + 1) (dvC (offH ({ h' with oa := none, on := 0, oc := 0 } : DevH)) (DevM.off ({ d with c := L, busy := false, job := noPat, done := 0 } : DevR))) rfl rfl 37 zDev ?_ ?_ ?_ ?_ ?_; exact bP1p1; exact (sDv (offH ({ h' with oa := none, on := 0, oc := 0 } : DevH)) (DevM.off ({ d with c := L, busy := false, job := noPat, done := 0 } : DevR))); exact (like_zdev (offH ({ h' with oa := none, on := 0, oc := 0 } : DevH)) (DevM.off ({ d with c := L, busy := false, job := noPat, done := 0 } : DevR))); exact (oDv (offH ({ h' with oa := none, on := 0, oc := 0 } : DevH)) (DevM.off ({ d with c := L, busy := false, job := noPat, done := 0 } : DevR)))))
       clear bP1p1
       refine bodyPost_ret (v := .tuple #[.agg (dvC (offH ({ h' with oa := none, on := 0, oc := 0 } : DevH)) (DevM.off ({ d with c := L, busy := false, job := noPat, done := 0 } : DevR))), .int .i64 0]) ?_ rfl ?_
       · exact res_ct (fn := Tryz.f18) (p := 4) (a := 5) rfl rfl rfl (HG.out.get 2 rfl) Tryz.underlying37 rfl (sDv _ _)
       · rw [HR2.out]
         refine ⟨(offH ({ h' with oa := none, on := 0, oc := 0 } : DevH)), rfl, HG.out.below, fun V v1 v2 => ?_⟩
         have k1 := HG.out.newR 0 rfl V v1 v2
         simp only at k1
         exact ⟨k1.b0, k1.b1, CS.nil_ _, OS.nil_ _, HLW.out, i64_zero, noPat_w, i64_zero⟩
   · have t3 : (E != 0) = true := by simp [hE]
     have HR2 : Hid (DevM.finish d torn = (DevM.noDev, E)) := by
       show _ = _
       rw [HR.out]
       unfold DevM.wrong
       rw [if_pos hE]
     clear hE
     have bP1p1 := HS.out.get 2 rfl
     simp only at bP1p1
     have HG := LH (HS.out.set 2 rfl zDev)
     go_wp2_with (first
       | ((with_reducible show wpList _ _ _ _ _ _); refine wpList_store_row rfl 37 (.tmp 4) (.tmp 57) rfl (P1 + 1) zDev rfl rfl 37 zDev ?_ ?_ ?_ ?_ ?_; exact bP1p1; exact size_zdev; exact like_zz; exact one_zdev))
     clear bP1p1
     refine bodyPost_ret (v := .tuple #[.agg zDev, .int .i64 E]) ?_ rfl ?_
     · exact res_ct (fn := Tryz.f18) (p := 4) (a := 5) rfl rfl rfl (HG.out.get 2 rfl) Tryz.underlying37 rfl size_zdev
     · rw [HR2.out]
       exact GDv.bad HG.out.below
theorem finishD_any (h : DevH) (d : DevR) (torn : Bool) (w : World) (HD : DH w h d) : Calls Tryz.prog 18 #[devV h d, .bool torn] w (GDv (DevM.told d true (DevM.finish d torn)) w) := by
 have HBg := fun W (x : DH W h d) => beginD_any checkD_ok h d true W x
 unfold devV at HBg
 rcases DevM.beg_cases d true with ⟨E, h0, hb, ht⟩ | ⟨hok, hu, hb, ht⟩
 · rw [ht]
   rw [hb] at HBg
   exact finishD_bad h d torn w HD E h0 (LH HBg)
 · rw [ht]
   rw [hb] at HBg
   exact finishD_ok h d torn w HD (LH HBg) hok hu
theorem six_set {w W : World} {B : Nat} {v0 v1 v2 v3 v4 v5 : Value} (hB : W.heap[B]? = some (.cells #[v0, v1, v2, v3, v4, v5] 35 (0, 0))) (hb : Below w.heap.size w W) (hle : w.heap.size ≤ B) (u0 u1 u2 u3 u4 u5 : Value) :
   ∃ W6, (((((W.setCell ⟨B, 0, none⟩ u0).setCell ⟨B, 1, none⟩ u1).setCell ⟨B, 2, none⟩ u2).setCell ⟨B, 3, none⟩ u3).setCell ⟨B, 4, none⟩ u4).setCell ⟨B, 5, none⟩ u5 = W6 ∧
     W6.cell? ⟨B, 0, none⟩ = some u0 ∧ W6.cell? ⟨B, 1, none⟩ = some u1 ∧ W6.cell? ⟨B, 2, none⟩ = some u2 ∧ W6.cell? ⟨B, 3, none⟩ = some u3 ∧ W6.cell? ⟨B, 4, none⟩ = some u4 ∧ W6.cell? ⟨B, 5, none⟩ = some u5 ∧
     Below w.heap.size w W6 ∧ (∀ k, k ≠ B → W6.heap[k]? = W.heap[k]?) ∧ W6.heap.size = W.heap.size := by
 obtain ⟨W6, hW6, q0, q1, q2, q3, q4, q5, hoth, hsz⟩ := set_six hB u0 u1 u2 u3 u4 u5
 refine ⟨W6, hW6, q0, q1, q2, q3, q4, q5, ?_, hoth, hsz⟩
 rw [← hW6]
 exact (((((hb.setCell hle _).setCell hle _).setCell hle _).setCell hle _).setCell hle _).setCell hle _
theorem CS.bytes {w : World} {a : Option Addr} {n c : Nat} {l : List ChR} (h : CS w a n c l) : ∀ x ∈ l, ∀ v ∈ x.data, 0 ≤ v ∧ v ≤ 255 := by
 intro x hx v hv
 obtain ⟨i, hi, rfl⟩ := List.mem_iff_getElem.1 hx
 have hlen := h.len
 obtain ⟨b, off, _, hc⟩ := h.cells (by omega)
 obtain ⟨_, _, _, _, _, _, _, _, hb, _⟩ := hc i (by omega)
 rw [List.getD_eq_getElem?_getD, List.getElem?_eq_getElem hi, Option.getD_some] at hb
 exact hb.bytes v hv
theorem flat_bytes {l : List ChR} (h : ∀ x ∈ l, ∀ v ∈ x.data, 0 ≤ v ∧ v ≤ 255) : ∀ v ∈ ChunkM.flatD l, 0 ≤ v ∧ v ≤ 255 := by
 induction l with
 | nil => simp [ChunkM.flatD]
 | cons x t ih =>
   intro v hv
   simp only [ChunkM.flatD, List.mem_append] at hv
   rcases hv with hv | hv
   · exact h x (by simp) v hv
   · exact ih (fun y hy => h y (by simp [hy])) v hv
def JoinRel (l : List ChR) (W1 : World) (vb i : Value) (wr : World) : Prop :=
 ∃ k : Nat, i = .int .i64 k ∧ k ≤ l.length ∧ wr.ownsRow W1.heap.size 5 1 vb (ChunkM.flatD (l.take k)).length ((ChunkM.flatD (l.take k)).map (Value.int .u8)) ∧ Below W1.heap.size W1 wr
end Go.Proofs.YtmpmaljkmfgagacGreat
