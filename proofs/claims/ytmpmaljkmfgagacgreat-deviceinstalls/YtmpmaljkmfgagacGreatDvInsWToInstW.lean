/-
  Texts put into one: DvInsW, At, Image, InstW.
-/
import Derived.Test.YtmpmaljkmfgagacGreatDiffedToLawG
import Derived.Test.YtmpmaljkmfgagacGreatDvBootToChunksR
import Derived.Test.YtmpmaljkmfgagacGreatDvSame1ToDvHear
import Derived.Test.YtmpmaljkmfgagacGreatDvOpenToRecStart
import Derived.Test.YtmpmaljkmfgagacGreatDvFinToJoinL
import Derived.Test.YtmpmaljkmfgagacGreatMemStToStep
import Derived.Deep.DeepCutAuto
import Derived.Test.YtmpmaljkmfgagacGreatRowToNewR
set_option maxRecDepth 100000
set_option maxHeartbeats 4000000
namespace Go.Proofs.YtmpmaljkmfgagacGreat
open Go.RowKit
theorem put_dev (h : DevH) (d : DevR) (h' : DevH) (d' : DevR) : putAt (dvC h d) 0 (dvC h' d').toList = dvC h' d' := by kernel_rfl
def InsCut (w : World) (P1 : Nat) (h0 : DevH) (s3 s4 : Value) (W : World) : Prop :=
 ∃ P3 ap np cp lo hi lo' hi', s3 = .pointer (some ⟨P3, 0, none⟩) ∧ s4 = .int .i64 0 ∧ MH w [(P3, jbC ap np cp patL, 35), (P1, dvC h0 Inst.d0, 37)] [(lo', hi', fun V => OS V ap np cp patL.ops), (lo, hi, fun V => DH V h0 Inst.d0)] W
def InsCut6 (w : World) (P1 P3 : Nat) (C3 : Array Value) (s2 : Value) (W : World) : Prop :=
 ∃ h1 lo hi, s2 = .int .i64 0 ∧ MH w [(P3, C3, 35), (P1, dvC h1 Inst.d1, 37)] [(lo, hi, fun V => DH V h1 Inst.d1)] W
theorem installed_any (w : World) (hM : MaxCell w) : Calls Tryz.prog 9 #[] w fun e w' => e = .returned (.bool true) ∧ Below w.heap.size w w' := by
 have HCs : Hid (∀ ap np cp W, OS W ap np cp patL.ops → Calls Tryz.prog 48 #[.agg (jbC ap np cp patL)] W fun e W' => ∃ al cl, e = .returned (.tuple #[.slice al 1 cl, .int .i64 0]) ∧ CS W' al 1 cl [Inst.chL] ∧ Below W.heap.size W W') := fun ap np cp W ho => by
   refine (chunksR_any (.agg (jbC ap np cp patL)) patL W ⟨ap, np, cp, rfl, ho, by unfold I64; decide, by unfold I64; decide, by unfold I64; decide, by unfold I64; decide, by unfold I64; decide⟩).mono ?_
   rintro e W' ⟨cs, err, a, n, c, hc, rfl, hs, hb⟩
   obtain ⟨rfl, rfl⟩ := Inst.cut_patL hc
   obtain rfl : n = 1 := hs.len.symm
   exact ⟨a, c, rfl, hs, hb⟩
 have HHe : Hid (∀ h xa xm xc W, DH W h Inst.d0 → BS W xa xm xc Inst.packL → Calls Tryz.prog 15 #[.agg (dvC h Inst.d0), .agg #[.int .i64 1, .int .i64 2, .int .i64 0, .int .i64 1, .slice xa xm xc]] W (GDv (Inst.d1, 0) W)) := fun h xa xm xc W hd hx => by
   have := hearD_any h Inst.d0 Inst.chL xa xm xc W hd ⟨xa, xm, xc, rfl, hx, by unfold I64; decide, by unfold I64; decide, by unfold I64; decide, by unfold I64; decide⟩
   rw [Inst.st1] at this
   exact this
 have HOp : Hid (∀ h W, DH W h Inst.d1 → Calls Tryz.prog 16 #[.agg (dvC h Inst.d1)] W (GDv (Inst.d2, 0) W)) := fun h W hd => by
   have := openD_any h Inst.d1 W hd
   rw [Inst.st2] at this
   exact this
 have HW1 : Hid (∀ h W, DH W h Inst.d2 → Calls Tryz.prog 17 #[.agg (dvC h Inst.d2), .bool false, .int .i64 0] W (GDv (Inst.d3, 0) W)) := fun h W hd => by
   have := writeD_any h Inst.d2 false 0 W hd
   rw [Inst.st3] at this
   exact this
 have HFL : Hid (∀ h W, DH W h Inst.d3 → Calls Tryz.prog 18 #[.agg (dvC h Inst.d3), .bool false] W (GDv (DevM.noDev, 5) W)) := fun h W hd => by
   have := finishD_any h Inst.d3 false W hd
   rw [Inst.stL] at this
   exact this
 have HW2 : Hid (∀ h W, DH W h Inst.d3 → Calls Tryz.prog 17 #[.agg (dvC h Inst.d3), .bool false, .int .i64 0] W (GDv (Inst.d4, 0) W)) := fun h W hd => by
   have := writeD_any h Inst.d3 false 0 W hd
   rw [Inst.st4] at this
   exact this
 have HFi : Hid (∀ h W, DH W h Inst.d4 → Calls Tryz.prog 18 #[.agg (dvC h Inst.d4), .bool false] W (GDv (Inst.d5, 0) W)) := fun h W hd => by
   have := finishD_any h Inst.d4 false W hd
   rw [Inst.st5] at this
   exact this
 have HCr : Hid (∀ h W, DH W h Inst.d5 → Calls Tryz.prog 20 #[.agg (dvC h Inst.d5)] W (GDv (Inst.d6, 0) W)) := fun h W hd => by
   have := crashD_any h Inst.d5 W hd
   rw [Inst.st6] at this
   exact this
 have HBo : Hid (∀ h W, DH W h Inst.d6 → Calls Tryz.prog 21 #[.agg (dvC h Inst.d6)] W (GDv (Inst.d7, 0) W)) := fun h W hd => by
   have := bootD_any h Inst.d6 W hd
   rw [Inst.st7] at this
   exact this
 have HCo : Hid (∀ h W, DH W h Inst.d7 → Calls Tryz.prog 19 #[.agg (dvC h Inst.d7)] W (GDv (Inst.d8, 0) W)) := fun h W hd => by
   have := confirmD_any h Inst.d7 W hd
   rw [Inst.st8] at this
   exact this
 have HIm := LH (fun W => images_any W)
 have HNw : Hid (∀ a c W, BS W a 8 c Inst.im0 → Calls Tryz.prog 7 #[.slice a 8 c] W (GDv (Inst.d0, 0) W)) := fun a c W hb => by
   have := newD_any a 8 c Inst.im0 W hb
   rwa [Inst.st0] at this
 have HMd := LH (fun a0 a1 c0 c1 W => madeL_any a0 a1 c0 c1 W)
 have HMx := LH hM
 clear hM
 have HS := LH (MH.of (MS.start w))
 go_enter Tryz.func9, Tryz.ntmps9
 go_wp2_with fail
 refine (HIm.out _).mono ?_
 rintro e W1 ⟨B, A0, A1, A2, rfl, hB, b0, b1, -, hb⟩
 replace HS := LH (HS.out.later hb)
 clear hb
 have cB := cAt (k := 0) (v := .slice A0 8 8) hB rfl
 go_wp2_with fail
 clear cB
 refine (HNw.out _ _ _ b0).mono ?_
 rintro e W2 ⟨h0, rfl, hb, hn⟩
 replace HS := LH (HS.out.gain hb hn)
 clear hb hn b0 b1 hB
 unfold devV
 try simp only
 obtain ⟨P1, hP1⟩ : ∃ P, W2.heap.size = P := ⟨_, rfl⟩
 replace HS := LH (HS.out.alloc hP1 (dvC h0 Inst.d0) 37)
 go_upto_region 2 with ((with_reducible show wpList _ _ _ _ _ _); refine wSN rfl 37 (.tmp 1) (.tmp 20) rfl P1 (dvC h0 Inst.d0) rfl rfl 37 _ ?_ ?_ ?_ ?_ ?_; exact hP1.symm; exact (sDv _ _); exact (like_zdev _ _); exact (oDv _ _))
 refine gnH HS.out (fun V1 HS1 => ?_)
 replace HS := LH HS1
 clear HS1 hP1
 go_cut [3, 4] (fun s3 s4 wx => InsCut w P1 h0 s3 s4 wx)
 case first =>
   replace HS := LH HS.out.drew
   refine wp_region_way (S := MS w [(P1, dvC h0 Inst.d0, 37)] [] []) (.fork 0 (.one 1 (.one 2 (.fork 3 (.one 4 (.one 5 (.fork 6 (.one 7 (.one 8 (.one 9 (.call 10 (.call 11 (.one 12 .done)))))) 10 (.call 6 (.one 7 (.one 8 (.one 9 (.call 11 (.one 12 .done))))))))) 10 (.call 3 (.one 4 (.one 5 (.call 6 (.one 7 (.one 8 (.one 9 (.call 11 (.one 12 .done)))))))))))) 10 (.call 0 (.one 1 (.one 2 (.call 3 (.one 4 (.one 5 (.call 6 (.one 7 (.one 8 (.one 9 (.call 11 (.one 12 .done))))))))))))) (by kernel_rfl) (by kernel_rfl) HS.out.ms ?_
   simp only [laid, Array.getD_eq_getD_getElem?, List.getElem?_toArray, List.getElem?_cons_zero, List.getElem?_cons_succ, Option.getD_some]
   refine gnY (fun V => MH w [(P1, dvC h0 Inst.d0, 37)] [(W1.heap.size, W2.heap.size, fun V => DH V h0 Inst.d0)] V) HS.out (fun V2 HS1 => ?_)
   replace HS := LH HS1
   clear HS1
   refine way_fork ?_ ?_
   · refine yCa (by rfl) (fun K hK => ?_)
     go_simp
     go_at_call 46
     with_reducible refine (HIm.out _).mono ?_
     rintro e W101 ⟨B0, A00, A10, A20, rfl, hB, b0, b1, hlo, hb⟩
     replace HS := LH (HS.out.block hb hB hlo)
     clear hb hB hlo
     have X0 := LH b0
     clear b0 b1
     try go_wp2_with fail
     refine hK.out _ _ (MS w [(B0, #[.slice A00 8 8, .slice A10 9 9, .slice A20 11 11], 22), (P1, dvC h0 Inst.d0, 37)] [] []) (fun _ h => h.sub (by repeat (first | exact List.Sublist.refl _ | apply List.Sublist.cons_cons | apply List.Sublist.cons))) (HS.out.ms.sub (by repeat (first | exact List.Sublist.refl _ | apply List.Sublist.cons_cons | apply List.Sublist.cons))) ?_
     clear hK K
     try simp only [Act.put, sA, sB, sC]
     refine ySt ?_ (by rfl) (fun W9 hW9 => ?_) ?_
     rotate_left
     · (go_simp <;> with_reducible rfl)
     simp only [Act.put, sA, sB, sC]
     refine ySt ?_ (by rfl) (fun W9 hW9 => ?_) ?_
     rotate_left
     · have cB := cAt (k := 0) (v := .slice A00 8 8) (hW9.get 0 rfl) rfl
       try simp only at cB
       (go_simp <;> with_reducible rfl)
     simp only [Act.put, sA, sB, sC]
     refine way_fork ?_ ?_
     · refine yCa (by rfl) (fun K hK => ?_)
       go_simp
       go_at_call 46
       with_reducible refine (HIm.out _).mono ?_
       rintro e W102 ⟨B1, A01, A11, A21, rfl, hB, b0, b1, hlo, hb⟩
       replace HS := LH (HS.out.block hb hB hlo)
       replace X0 := LH (X0.out.later hb)
       clear hb hB hlo
       have X1 := LH b1
       clear b0 b1
       try go_wp2_with fail
       refine hK.out _ _ (MS w [(B1, #[.slice A01 8 8, .slice A11 9 9, .slice A21 11 11], 22), (B0, #[.slice A00 8 8, .slice A10 9 9, .slice A20 11 11], 22), (P1, dvC h0 Inst.d0, 37)] [] []) (fun _ h => h.sub (by repeat (first | exact List.Sublist.refl _ | apply List.Sublist.cons_cons | apply List.Sublist.cons))) (HS.out.ms.sub (by repeat (first | exact List.Sublist.refl _ | apply List.Sublist.cons_cons | apply List.Sublist.cons))) ?_
       clear hK K
       try simp only [Act.put, sA, sB, sC]
       refine ySt ?_ (by rfl) (fun W9 hW9 => ?_) ?_
       rotate_left
       · (go_simp <;> with_reducible rfl)
       simp only [Act.put, sA, sB, sC]
       refine ySt ?_ (by rfl) (fun W9 hW9 => ?_) ?_
       rotate_left
       · have cB := cAt (k := 1) (v := .slice A11 9 9) (hW9.get 0 rfl) rfl
         try simp only at cB
         (go_simp <;> with_reducible rfl)
       simp only [Act.put, sA, sB, sC]
       refine way_fork ?_ ?_
       · refine yCa (by rfl) (fun K hK => ?_)
         go_simp
         go_at_call 47
         with_reducible refine (HMd.out _ _ _ _ _ X0.out X1.out (HMx.out.later HS.out.below)).mono ?_
         rintro e W103 ⟨ap, np, cp, rfl, hb, hn⟩
         replace HS := LH (HS.out.gain hb hn)
         clear hb hn X0 X1
         try go_wp2_with fail
         refine hK.out _ _ (MS w [(B1, #[.slice A01 8 8, .slice A11 9 9, .slice A21 11 11], 22), (B0, #[.slice A00 8 8, .slice A10 9 9, .slice A20 11 11], 22), (P1, dvC h0 Inst.d0, 37)] [] []) (fun _ h => h) (HS.out.ms.sub (by repeat (first | exact List.Sublist.refl _ | apply List.Sublist.cons_cons | apply List.Sublist.cons))) ?_
         clear hK K
         try simp only [Act.put, sA, sB, sC]
         refine ySt ?_ (by rfl) (fun W9 hW9 => ?_) ?_
         rotate_left
         · (go_simp <;> with_reducible rfl)
         simp only [Act.put, sA, sB, sC]
         refine ySt ?_ (by rfl) (fun W9 hW9 => ?_) ?_
         rotate_left
         · (go_simp <;> with_reducible rfl)
         simp only [Act.put, sA, sB, sC]
         refine ySt ?_ (by rfl) (fun W9 hW9 => ?_) ?_
         rotate_left
         · (go_simp <;> with_reducible rfl)
         simp only [Act.put, sA, sB, sC]
         refine yCa (by rfl) (fun K hK => ?_)
         go_simp
         obtain ⟨P3, hP3⟩ : ∃ P, W103.heap.size = P := ⟨_, rfl⟩
         replace HS := LH (HS.out.alloc hP3 zPat 35)
         have hba : Below W103.heap.size W103 (W103.alloc (.cells zPat 35)) := (Below.refl _ _).alloc (Nat.le_refl _) _
         clear hba
         try rw [hP3]
         refine hK.out _ _ (MS w [(B1, #[.slice A01 8 8, .slice A11 9 9, .slice A21 11 11], 22), (B0, #[.slice A00 8 8, .slice A10 9 9, .slice A20 11 11], 22), (P1, dvC h0 Inst.d0, 37)] [] []) (fun _ h => h) (HS.out.ms.sub (by repeat (first | exact List.Sublist.refl _ | apply List.Sublist.cons_cons | apply List.Sublist.cons))) ?_
         clear hK K
         try simp only [Act.put, sA, sB, sC]
         refine gnY (fun V => MH w [(P3, zPat, 35), (B1, #[.slice A01 8 8, .slice A11 9 9, .slice A21 11 11], 22), (B0, #[.slice A00 8 8, .slice A10 9 9, .slice A20 11 11], 22), (P1, dvC h0 Inst.d0, 37)] [(W102.heap.size, W103.heap.size, fun V => OS V ap np cp patL.ops), (W1.heap.size, W2.heap.size, fun V => DH V h0 Inst.d0)] V) HS.out (fun V104 HS1 => ?_)
         replace HS := LH HS1
         clear HS1 hP3
         have HS2 := LH (HS.out.cells 0 rfl (put_zpat ap np cp patL))
         refine yCa (by rfl) (fun K hK => ?_)
         refine wp_store_mid 35 (.tmp 3) (.tmp 30) rfl P3 0 (jbC ap np cp patL) rfl rfl (HS.out.ms.there 0 rfl (by show 6 ≤ 6; decide)) (sJb _ _ _ _) (one_job _ _ _ _) ?_
         refine hK.out _ _ (MS w [(B1, #[.slice A01 8 8, .slice A11 9 9, .slice A21 11 11], 22), (B0, #[.slice A00 8 8, .slice A10 9 9, .slice A20 11 11], 22), (P1, dvC h0 Inst.d0, 37)] [] []) (fun _ h => h) (HS2.out.ms.sub (by repeat (first | exact List.Sublist.refl _ | apply List.Sublist.cons_cons | apply List.Sublist.cons))) ?_
         clear hK K
         try simp only [Act.put]
         refine ySt ?_ (by rfl) (fun W9 hW9 => ?_) ?_
         rotate_left
         · (go_simp <;> with_reducible rfl)
         simp only [Act.put, sA, sB, sC]
         refine way_end ?_
         go_wp2_with fail
         go_meet
         exact ⟨P3, ap, np, cp, _, _, _, _, rfl, rfl, HS2.out.subL (by repeat (first | exact List.Sublist.refl _ | apply List.Sublist.cons_cons | apply List.Sublist.cons))⟩
       · refine yCa (by rfl) (fun K hK => ?_)
         go_simp
         obtain ⟨P3, hP3⟩ : ∃ P, W102.heap.size = P := ⟨_, rfl⟩
         replace HS := LH (HS.out.alloc hP3 zPat 35)
         have hba : Below W102.heap.size W102 (W102.alloc (.cells zPat 35)) := (Below.refl _ _).alloc (Nat.le_refl _) _
         replace X0 := LH (X0.out.later hba)
         replace X1 := LH (X1.out.later hba)
         clear hba
         try rw [hP3]
         refine hK.out _ _ (MS w [(B1, #[.slice A01 8 8, .slice A11 9 9, .slice A21 11 11], 22), (B0, #[.slice A00 8 8, .slice A10 9 9, .slice A20 11 11], 22), (P1, dvC h0 Inst.d0, 37)] [] []) (fun _ h => h) (HS.out.ms.sub (by repeat (first | exact List.Sublist.refl _ | apply List.Sublist.cons_cons | apply List.Sublist.cons))) ?_
         clear hK K
         try simp only [Act.put, sA, sB, sC]
         refine gnY (fun V => MH w [(P3, zPat, 35), (B1, #[.slice A01 8 8, .slice A11 9 9, .slice A21 11 11], 22), (B0, #[.slice A00 8 8, .slice A10 9 9, .slice A20 11 11], 22), (P1, dvC h0 Inst.d0, 37)] [(W1.heap.size, W2.heap.size, fun V => DH V h0 Inst.d0)] V ∧ BS V A00 8 8 Inst.im0 ∧ BS V A11 9 9 Inst.im1) ⟨HS.out, X0.out, X1.out⟩ (fun V105 HX => ?_)
         obtain ⟨HS1, nX0, nX1⟩ := HX
         replace HS := LH HS1
         clear HS1 hP3
         replace X0 := LH nX0
         clear nX0
         replace X1 := LH nX1
         clear nX1
         refine yCa (by rfl) (fun K hK => ?_)
         go_simp
         go_at_call 47
         with_reducible refine (HMd.out _ _ _ _ _ X0.out X1.out (HMx.out.later HS.out.below)).mono ?_
         rintro e W106 ⟨ap, np, cp, rfl, hb, hn⟩
         replace HS := LH (HS.out.gain hb hn)
         clear hb hn X0 X1
         try go_wp2_with fail
         refine hK.out _ _ (MS w [(B1, #[.slice A01 8 8, .slice A11 9 9, .slice A21 11 11], 22), (B0, #[.slice A00 8 8, .slice A10 9 9, .slice A20 11 11], 22), (P1, dvC h0 Inst.d0, 37)] [] []) (fun _ h => h) (HS.out.ms.sub (by repeat (first | exact List.Sublist.refl _ | apply List.Sublist.cons_cons | apply List.Sublist.cons))) ?_
         clear hK K
         try simp only [Act.put, sA, sB, sC]
         refine ySt ?_ (by rfl) (fun W9 hW9 => ?_) ?_
         rotate_left
         · (go_simp <;> with_reducible rfl)
         simp only [Act.put, sA, sB, sC]
         refine ySt ?_ (by rfl) (fun W9 hW9 => ?_) ?_
         rotate_left
         · (go_simp <;> with_reducible rfl)
         simp only [Act.put, sA, sB, sC]
         refine ySt ?_ (by rfl) (fun W9 hW9 => ?_) ?_
         rotate_left
         · (go_simp <;> with_reducible rfl)
         simp only [Act.put, sA, sB, sC]
         have HS2 := LH (HS.out.cells 0 rfl (put_zpat ap np cp patL))
         refine yCa (by rfl) (fun K hK => ?_)
         refine wp_store_mid 35 (.tmp 3) (.tmp 30) rfl P3 0 (jbC ap np cp patL) rfl rfl (HS.out.ms.there 0 rfl (by show 6 ≤ 6; decide)) (sJb _ _ _ _) (one_job _ _ _ _) ?_
         refine hK.out _ _ (MS w [(B1, #[.slice A01 8 8, .slice A11 9 9, .slice A21 11 11], 22), (B0, #[.slice A00 8 8, .slice A10 9 9, .slice A20 11 11], 22), (P1, dvC h0 Inst.d0, 37)] [] []) (fun _ h => h) (HS2.out.ms.sub (by repeat (first | exact List.Sublist.refl _ | apply List.Sublist.cons_cons | apply List.Sublist.cons))) ?_
         clear hK K
         try simp only [Act.put]
         refine ySt ?_ (by rfl) (fun W9 hW9 => ?_) ?_
         rotate_left
         · (go_simp <;> with_reducible rfl)
         simp only [Act.put, sA, sB, sC]
         refine way_end ?_
         go_wp2_with fail
         go_meet
         exact ⟨P3, ap, np, cp, _, _, _, _, rfl, rfl, HS2.out.subL (by repeat (first | exact List.Sublist.refl _ | apply List.Sublist.cons_cons | apply List.Sublist.cons))⟩
     · refine yCa (by rfl) (fun K hK => ?_)
       go_simp
       obtain ⟨P3, hP3⟩ : ∃ P, W101.heap.size = P := ⟨_, rfl⟩
       replace HS := LH (HS.out.alloc hP3 zPat 35)
       have hba : Below W101.heap.size W101 (W101.alloc (.cells zPat 35)) := (Below.refl _ _).alloc (Nat.le_refl _) _
       replace X0 := LH (X0.out.later hba)
       clear hba
       try rw [hP3]
       refine hK.out _ _ (MS w [(B0, #[.slice A00 8 8, .slice A10 9 9, .slice A20 11 11], 22), (P1, dvC h0 Inst.d0, 37)] [] []) (fun _ h => h) (HS.out.ms.sub (by repeat (first | exact List.Sublist.refl _ | apply List.Sublist.cons_cons | apply List.Sublist.cons))) ?_
       clear hK K
       try simp only [Act.put, sA, sB, sC]
       refine gnY (fun V => MH w [(P3, zPat, 35), (B0, #[.slice A00 8 8, .slice A10 9 9, .slice A20 11 11], 22), (P1, dvC h0 Inst.d0, 37)] [(W1.heap.size, W2.heap.size, fun V => DH V h0 Inst.d0)] V ∧ BS V A00 8 8 Inst.im0) ⟨HS.out, X0.out⟩ (fun V107 HX => ?_)
       obtain ⟨HS1, nX0⟩ := HX
       replace HS := LH HS1
       clear HS1 hP3
       replace X0 := LH nX0
       clear nX0
       refine yCa (by rfl) (fun K hK => ?_)
       go_simp
       go_at_call 46
       with_reducible refine (HIm.out _).mono ?_
       rintro e W108 ⟨B1, A01, A11, A21, rfl, hB, b0, b1, hlo, hb⟩
       replace HS := LH (HS.out.block hb hB hlo)
       replace X0 := LH (X0.out.later hb)
       clear hb hB hlo
       have X1 := LH b1
       clear b0 b1
       try go_wp2_with fail
       refine hK.out _ _ (MS w [(B1, #[.slice A01 8 8, .slice A11 9 9, .slice A21 11 11], 22), (B0, #[.slice A00 8 8, .slice A10 9 9, .slice A20 11 11], 22), (P1, dvC h0 Inst.d0, 37)] [] []) (fun _ h => h.sub (by repeat (first | exact List.Sublist.refl _ | apply List.Sublist.cons_cons | apply List.Sublist.cons))) (HS.out.ms.sub (by repeat (first | exact List.Sublist.refl _ | apply List.Sublist.cons_cons | apply List.Sublist.cons))) ?_
       clear hK K
       try simp only [Act.put, sA, sB, sC]
       refine ySt ?_ (by rfl) (fun W9 hW9 => ?_) ?_
       rotate_left
       · (go_simp <;> with_reducible rfl)
       simp only [Act.put, sA, sB, sC]
       refine ySt ?_ (by rfl) (fun W9 hW9 => ?_) ?_
       rotate_left
       · have cB := cAt (k := 1) (v := .slice A11 9 9) (hW9.get 0 rfl) rfl
         try simp only at cB
         (go_simp <;> with_reducible rfl)
       simp only [Act.put, sA, sB, sC]
       refine yCa (by rfl) (fun K hK => ?_)
       go_simp
       go_at_call 47
       with_reducible refine (HMd.out _ _ _ _ _ X0.out X1.out (HMx.out.later HS.out.below)).mono ?_
       rintro e W109 ⟨ap, np, cp, rfl, hb, hn⟩
       replace HS := LH (HS.out.gain hb hn)
       clear hb hn X0 X1
       try go_wp2_with fail
       refine hK.out _ _ (MS w [(B1, #[.slice A01 8 8, .slice A11 9 9, .slice A21 11 11], 22), (B0, #[.slice A00 8 8, .slice A10 9 9, .slice A20 11 11], 22), (P1, dvC h0 Inst.d0, 37)] [] []) (fun _ h => h) (HS.out.ms.sub (by repeat (first | exact List.Sublist.refl _ | apply List.Sublist.cons_cons | apply List.Sublist.cons))) ?_
       clear hK K
       try simp only [Act.put, sA, sB, sC]
       refine ySt ?_ (by rfl) (fun W9 hW9 => ?_) ?_
       rotate_left
       · (go_simp <;> with_reducible rfl)
       simp only [Act.put, sA, sB, sC]
       refine ySt ?_ (by rfl) (fun W9 hW9 => ?_) ?_
       rotate_left
       · (go_simp <;> with_reducible rfl)
       simp only [Act.put, sA, sB, sC]
       refine ySt ?_ (by rfl) (fun W9 hW9 => ?_) ?_
       rotate_left
       · (go_simp <;> with_reducible rfl)
       simp only [Act.put, sA, sB, sC]
       have HS2 := LH (HS.out.cells 1 rfl (put_zpat ap np cp patL))
       refine yCa (by rfl) (fun K hK => ?_)
       refine wp_store_mid 35 (.tmp 3) (.tmp 30) rfl P3 0 (jbC ap np cp patL) rfl rfl (HS.out.ms.there 1 rfl (by show 6 ≤ 6; decide)) (sJb _ _ _ _) (one_job _ _ _ _) ?_
       refine hK.out _ _ (MS w [(B1, #[.slice A01 8 8, .slice A11 9 9, .slice A21 11 11], 22), (B0, #[.slice A00 8 8, .slice A10 9 9, .slice A20 11 11], 22), (P1, dvC h0 Inst.d0, 37)] [] []) (fun _ h => h) (HS2.out.ms.sub (by repeat (first | exact List.Sublist.refl _ | apply List.Sublist.cons_cons | apply List.Sublist.cons))) ?_
       clear hK K
       try simp only [Act.put]
       refine ySt ?_ (by rfl) (fun W9 hW9 => ?_) ?_
       rotate_left
       · (go_simp <;> with_reducible rfl)
       simp only [Act.put, sA, sB, sC]
       refine way_end ?_
       go_wp2_with fail
       go_meet
       exact ⟨P3, ap, np, cp, _, _, _, _, rfl, rfl, HS2.out.subL (by repeat (first | exact List.Sublist.refl _ | apply List.Sublist.cons_cons | apply List.Sublist.cons))⟩
   · refine yCa (by rfl) (fun K hK => ?_)
     go_simp
     obtain ⟨P3, hP3⟩ : ∃ P, V2.heap.size = P := ⟨_, rfl⟩
     replace HS := LH (HS.out.alloc hP3 zPat 35)
     have hba : Below V2.heap.size V2 (V2.alloc (.cells zPat 35)) := (Below.refl _ _).alloc (Nat.le_refl _) _
     clear hba
     try rw [hP3]
     refine hK.out _ _ (MS w [(P1, dvC h0 Inst.d0, 37)] [] []) (fun _ h => h) (HS.out.ms.sub (by repeat (first | exact List.Sublist.refl _ | apply List.Sublist.cons_cons | apply List.Sublist.cons))) ?_
     clear hK K
     try simp only [Act.put, sA, sB, sC]
     refine gnY (fun V => MH w [(P3, zPat, 35), (P1, dvC h0 Inst.d0, 37)] [(W1.heap.size, W2.heap.size, fun V => DH V h0 Inst.d0)] V) HS.out (fun V110 HS1 => ?_)
     replace HS := LH HS1
     clear HS1 hP3
     refine yCa (by rfl) (fun K hK => ?_)
     go_simp
     go_at_call 46
     with_reducible refine (HIm.out _).mono ?_
     rintro e W111 ⟨B0, A00, A10, A20, rfl, hB, b0, b1, hlo, hb⟩
     replace HS := LH (HS.out.block hb hB hlo)
     clear hb hB hlo
     have X0 := LH b0
     clear b0 b1
     try go_wp2_with fail
     refine hK.out _ _ (MS w [(B0, #[.slice A00 8 8, .slice A10 9 9, .slice A20 11 11], 22), (P1, dvC h0 Inst.d0, 37)] [] []) (fun _ h => h.sub (by repeat (first | exact List.Sublist.refl _ | apply List.Sublist.cons_cons | apply List.Sublist.cons))) (HS.out.ms.sub (by repeat (first | exact List.Sublist.refl _ | apply List.Sublist.cons_cons | apply List.Sublist.cons))) ?_
     clear hK K
     try simp only [Act.put, sA, sB, sC]
     refine ySt ?_ (by rfl) (fun W9 hW9 => ?_) ?_
     rotate_left
     · (go_simp <;> with_reducible rfl)
     simp only [Act.put, sA, sB, sC]
     refine ySt ?_ (by rfl) (fun W9 hW9 => ?_) ?_
     rotate_left
     · have cB := cAt (k := 0) (v := .slice A00 8 8) (hW9.get 0 rfl) rfl
       try simp only at cB
       (go_simp <;> with_reducible rfl)
     simp only [Act.put, sA, sB, sC]
     refine yCa (by rfl) (fun K hK => ?_)
     go_simp
     go_at_call 46
     with_reducible refine (HIm.out _).mono ?_
     rintro e W112 ⟨B1, A01, A11, A21, rfl, hB, b0, b1, hlo, hb⟩
     replace HS := LH (HS.out.block hb hB hlo)
     replace X0 := LH (X0.out.later hb)
     clear hb hB hlo
     have X1 := LH b1
     clear b0 b1
     try go_wp2_with fail
     refine hK.out _ _ (MS w [(B1, #[.slice A01 8 8, .slice A11 9 9, .slice A21 11 11], 22), (B0, #[.slice A00 8 8, .slice A10 9 9, .slice A20 11 11], 22), (P1, dvC h0 Inst.d0, 37)] [] []) (fun _ h => h.sub (by repeat (first | exact List.Sublist.refl _ | apply List.Sublist.cons_cons | apply List.Sublist.cons))) (HS.out.ms.sub (by repeat (first | exact List.Sublist.refl _ | apply List.Sublist.cons_cons | apply List.Sublist.cons))) ?_
     clear hK K
     try simp only [Act.put, sA, sB, sC]
     refine ySt ?_ (by rfl) (fun W9 hW9 => ?_) ?_
     rotate_left
     · (go_simp <;> with_reducible rfl)
     simp only [Act.put, sA, sB, sC]
     refine ySt ?_ (by rfl) (fun W9 hW9 => ?_) ?_
     rotate_left
     · have cB := cAt (k := 1) (v := .slice A11 9 9) (hW9.get 0 rfl) rfl
       try simp only at cB
       (go_simp <;> with_reducible rfl)
     simp only [Act.put, sA, sB, sC]
     refine yCa (by rfl) (fun K hK => ?_)
     go_simp
     go_at_call 47
     with_reducible refine (HMd.out _ _ _ _ _ X0.out X1.out (HMx.out.later HS.out.below)).mono ?_
     rintro e W113 ⟨ap, np, cp, rfl, hb, hn⟩
     replace HS := LH (HS.out.gain hb hn)
     clear hb hn X0 X1
     try go_wp2_with fail
     refine hK.out _ _ (MS w [(B1, #[.slice A01 8 8, .slice A11 9 9, .slice A21 11 11], 22), (B0, #[.slice A00 8 8, .slice A10 9 9, .slice A20 11 11], 22), (P1, dvC h0 Inst.d0, 37)] [] []) (fun _ h => h) (HS.out.ms.sub (by repeat (first | exact List.Sublist.refl _ | apply List.Sublist.cons_cons | apply List.Sublist.cons))) ?_
     clear hK K
     try simp only [Act.put, sA, sB, sC]
     refine ySt ?_ (by rfl) (fun W9 hW9 => ?_) ?_
     rotate_left
     · (go_simp <;> with_reducible rfl)
     simp only [Act.put, sA, sB, sC]
     refine ySt ?_ (by rfl) (fun W9 hW9 => ?_) ?_
     rotate_left
     · (go_simp <;> with_reducible rfl)
     simp only [Act.put, sA, sB, sC]
     refine ySt ?_ (by rfl) (fun W9 hW9 => ?_) ?_
     rotate_left
     · (go_simp <;> with_reducible rfl)
     simp only [Act.put, sA, sB, sC]
     have HS2 := LH (HS.out.cells 2 rfl (put_zpat ap np cp patL))
     refine yCa (by rfl) (fun K hK => ?_)
     refine wp_store_mid 35 (.tmp 3) (.tmp 30) rfl P3 0 (jbC ap np cp patL) rfl rfl (HS.out.ms.there 2 rfl (by show 6 ≤ 6; decide)) (sJb _ _ _ _) (one_job _ _ _ _) ?_
     refine hK.out _ _ (MS w [(B1, #[.slice A01 8 8, .slice A11 9 9, .slice A21 11 11], 22), (B0, #[.slice A00 8 8, .slice A10 9 9, .slice A20 11 11], 22), (P1, dvC h0 Inst.d0, 37)] [] []) (fun _ h => h) (HS2.out.ms.sub (by repeat (first | exact List.Sublist.refl _ | apply List.Sublist.cons_cons | apply List.Sublist.cons))) ?_
     clear hK K
     try simp only [Act.put]
     refine ySt ?_ (by rfl) (fun W9 hW9 => ?_) ?_
     rotate_left
     · (go_simp <;> with_reducible rfl)
     simp only [Act.put, sA, sB, sC]
     refine way_end ?_
     go_wp2_with fail
     go_meet
     exact ⟨P3, ap, np, cp, _, _, _, _, rfl, rfl, HS2.out.subL (by repeat (first | exact List.Sublist.refl _ | apply List.Sublist.cons_cons | apply List.Sublist.cons))⟩
 case rest =>
   obtain ⟨P3, ap, np, cp, lo, hi, lo', hi', rfl, rfl, hms⟩ := hcut
   replace HS := LH hms
   clear hms HIm HNw HMd
   have bP3 := HS.out.get 0 rfl
   simp only at bP3
   go_wp2_with (first
     | ((with_reducible show wpList _ _ _ _ _ _); refine LR rfl (t := 35) Tryz.underlying35 rfl (.tmp 3) rfl P3 rfl bP3 (sJb ap np cp patL) ?_))
   clear bP3
   refine (HCs.out ap np cp _ (HS.out.fact 0 rfl)).mono ?_
   rintro e W4 ⟨al, cl, rfl, sl, hb⟩
   replace HS := LH (HS.out.later hb)
   have HL := LH sl
   clear hb sl HCs
   go_upto_region 6 with fail
   go_cut [2] (fun s2 wx => InsCut6 w P1 P3 (jbC ap np cp patL) s2 wx)
   case first =>
     obtain ⟨b, off, rfl, hcs⟩ := (HL.out.later (Below.refl _ _).drew).cells (by omega)
     obtain ⟨va, vm, vc, q0, q1, q2, q3, q4, q5, -⟩ := hcs 0 (by omega)
     clear hcs
     simp only [Nat.zero_mul, Nat.add_zero] at q0 q1 q2 q3 q4
     replace q0 : W4.drew.cell? ⟨b, off, none⟩ = some (.int .i64 1) := q0
     replace q1 : W4.drew.cell? ⟨b, off + 1, none⟩ = some (.int .i64 2) := q1
     replace q2 : W4.drew.cell? ⟨b, off + 2, none⟩ = some (.int .i64 0) := q2
     replace q3 : W4.drew.cell? ⟨b, off + 3, none⟩ = some (.int .i64 1) := q3
     replace q5 : BS W4.drew va vm vc Inst.packL := q5
     have HD0 := LH q5
     clear q5
     refine wp_region_way (S := (fun _ => True)) (.one 1 (.one 2 (.fork 0 (.call 3 (.call 4 (.one 5 (.one 6 (.one 7 (.call 8 (.one 9 .done))))))) 3 (.call 0 (.call 4 (.one 5 (.one 6 (.one 7 (.call 8 (.one 9 .done)))))))))) (by kernel_rfl) (by kernel_rfl) trivial ?_
     simp only [laid, Array.getD_eq_getD_getElem?, List.getElem?_toArray, List.getElem?_cons_zero, List.getElem?_cons_succ, Option.getD_some]
     replace HS := LH HS.out.drew
     refine ySt ?_ (by rfl) (fun W9 hW9 => ?_) ?_
     rotate_left
     · (go_simp <;> with_reducible rfl)
     simp only [Act.put, sA, sB, sC]
     refine ySt ?_ (by rfl) (fun W9 hW9 => ?_) ?_
     rotate_left
     · (go_simp <;> with_reducible rfl)
     simp only [Act.put, sA, sB, sC]
     refine way_fork ?_ ?_
     · refine yCa (by rfl) (fun K hK => ?_)
       refine wp_load_row 37 (.tmp 1) rfl P1 rfl 37 (dvC h0 Inst.d0) (0, 0) _ (HS.out.get 1 rfl) Tryz.underlying37 rfl (sDv _ _) ?_
       refine hK.out _ _ _ (fun _ h => h) trivial ?_
       clear hK K
       try simp only [Act.put, sA, sB, sC]
       refine yCa (by rfl) (fun K hK => ?_)
       go_simp
       refine hK.out _ _ _ (fun _ h => h) trivial ?_
       clear hK K
       try simp only [Act.put, sA, sB, sC]
       refine yCa (by rfl) (fun K hK => ?_)
       go_simp
       go_at_call 15
       with_reducible refine (HHe.out h0 va vm vc _ (HS.out.fact 1 rfl) HD0.out).mono ?_
       rintro e W5 ⟨h1, rfl, hb, hn⟩
       replace HS := LH (HS.out.gain hb hn)
       clear hb hn
       unfold devV
       try go_wp2_with fail
       refine hK.out _ _ _ (fun _ h => h) trivial ?_
       clear hK K
       try simp only [Act.put, sA, sB, sC]
       refine ySt ?_ (by rfl) (fun W9 hW9 => ?_) ?_
       rotate_left
       · (go_simp <;> with_reducible rfl)
       simp only [Act.put, sA, sB, sC]
       refine ySt ?_ (by rfl) (fun W9 hW9 => ?_) ?_
       rotate_left
       · (go_simp <;> with_reducible rfl)
       simp only [Act.put, sA, sB, sC]
       refine ySt ?_ (by rfl) (fun W9 hW9 => ?_) ?_
       rotate_left
       · (go_simp <;> with_reducible rfl)
       simp only [Act.put, sA, sB, sC]
       have HS2 := LH (HS.out.cells 1 rfl (put_dev h0 Inst.d0 h1 Inst.d1))
       refine yCa (by rfl) (fun K hK => ?_)
       refine wp_store_mid 37 (.tmp 1) (.tmp 58) rfl P1 0 (dvC h1 Inst.d1) rfl rfl (HS.out.ms.there 1 rfl (by show 37 ≤ 37; decide)) (sDv _ _) (oDv _ _) ?_
       refine hK.out _ _ _ (fun _ h => h) trivial ?_
       clear hK K
       try simp only [Act.put]
       refine ySt ?_ (by rfl) (fun W9 hW9 => ?_) ?_
       rotate_left
       · (go_simp <;> with_reducible rfl)
       simp only [Act.put, sA, sB, sC]
       refine way_end ?_
       go_wp2_with fail
       go_meet
       exact ⟨h1, _, _, rfl, HS2.out.sub (fun q hq => by rw [List.mem_singleton] at hq; subst hq; exact List.mem_cons_self)⟩
     · refine yCa (by rfl) (fun K hK => ?_)
       go_simp
       refine hK.out _ _ _ (fun _ h => h) trivial ?_
       clear hK K
       try simp only [Act.put, sA, sB, sC]
       refine yCa (by rfl) (fun K hK => ?_)
       refine wp_load_row 37 (.tmp 1) rfl P1 rfl 37 (dvC h0 Inst.d0) (0, 0) _ (HS.out.get 1 rfl) Tryz.underlying37 rfl (sDv _ _) ?_
       refine hK.out _ _ _ (fun _ h => h) trivial ?_
       clear hK K
       try simp only [Act.put, sA, sB, sC]
       refine yCa (by rfl) (fun K hK => ?_)
       go_simp
       go_at_call 15
       with_reducible refine (HHe.out h0 va vm vc _ (HS.out.fact 1 rfl) HD0.out).mono ?_
       rintro e W5 ⟨h1, rfl, hb, hn⟩
       replace HS := LH (HS.out.gain hb hn)
       clear hb hn
       unfold devV
       try go_wp2_with fail
       refine hK.out _ _ _ (fun _ h => h) trivial ?_
       clear hK K
       try simp only [Act.put, sA, sB, sC]
       refine ySt ?_ (by rfl) (fun W9 hW9 => ?_) ?_
       rotate_left
       · (go_simp <;> with_reducible rfl)
       simp only [Act.put, sA, sB, sC]
       refine ySt ?_ (by rfl) (fun W9 hW9 => ?_) ?_
       rotate_left
       · (go_simp <;> with_reducible rfl)
       simp only [Act.put, sA, sB, sC]
       refine ySt ?_ (by rfl) (fun W9 hW9 => ?_) ?_
       rotate_left
       · (go_simp <;> with_reducible rfl)
       simp only [Act.put, sA, sB, sC]
       have HS2 := LH (HS.out.cells 1 rfl (put_dev h0 Inst.d0 h1 Inst.d1))
       refine yCa (by rfl) (fun K hK => ?_)
       refine wp_store_mid 37 (.tmp 1) (.tmp 58) rfl P1 0 (dvC h1 Inst.d1) rfl rfl (HS.out.ms.there 1 rfl (by show 37 ≤ 37; decide)) (sDv _ _) (oDv _ _) ?_
       refine hK.out _ _ _ (fun _ h => h) trivial ?_
       clear hK K
       try simp only [Act.put]
       refine ySt ?_ (by rfl) (fun W9 hW9 => ?_) ?_
       rotate_left
       · (go_simp <;> with_reducible rfl)
       simp only [Act.put, sA, sB, sC]
       refine way_end ?_
       go_wp2_with fail
       go_meet
       exact ⟨h1, _, _, rfl, HS2.out.sub (fun q hq => by rw [List.mem_singleton] at hq; subst hq; exact List.mem_cons_self)⟩
   case rest =>
     obtain ⟨h1, lo1, hi1, rfl, hms⟩ := hcut
     replace HS := LH hms
     clear hms HHe HL
     have bP1 := HS.out.get 1 rfl
     simp only at bP1
     go_wp2_with (first
       | ((with_reducible show wpList _ _ _ _ _ _); refine LR rfl (t := 37) Tryz.underlying37 rfl (.tmp 1) rfl P1 rfl bP1 (sDv h1 Inst.d1) ?_))
     clear bP1
     refine (HOp.out _ _ (HS.out.fact 0 rfl)).mono ?_
     rintro e X2 ⟨h2, rfl, hb, hn⟩
     unfold devV
     try simp only
     replace HS := LH (HS.out.gain hb hn)
     clear hb hn HOp
     have HS2 := LH ((HS.out.set 1 rfl (dvC h2 Inst.d2)).sub (H' := [(_, _, fun V => DH V h2 Inst.d2)]) (fun q hq => by rw [List.mem_singleton] at hq; subst hq; exact List.mem_cons_self))
     have bP1 := HS.out.get 1 rfl
     simp only at bP1
     go_upto_region 8 with (first
       | ((with_reducible show wpList _ _ _ _ _ _); refine wpList_store_row rfl 37 (.tmp 1) (.tmp 63) rfl P1 (dvC h2 Inst.d2) rfl rfl 37 (dvC h1 Inst.d1) ?_ ?_ ?_ ?_ ?_; exact bP1; exact (sDv h2 Inst.d2); exact (lDv h1 h2 Inst.d1 Inst.d2); exact (oDv h2 Inst.d2)))
     clear bP1
     refine gnH HS2.out (fun V202 HS1 => ?_)
     replace HS := LH HS1
     clear HS1 HS2
     have bP1 := HS.out.get 1 rfl
     simp only at bP1
     go_wp2_with (first
       | ((with_reducible show wpList _ _ _ _ _ _); refine LR rfl (t := 37) Tryz.underlying37 rfl (.tmp 1) rfl P1 rfl bP1 (sDv h2 Inst.d2) ?_))
     clear bP1
     refine (HW1.out _ _ (HS.out.fact 0 rfl)).mono ?_
     rintro e X3 ⟨h3, rfl, hb, hn⟩
     unfold devV
     try simp only
     replace HS := LH (HS.out.gain hb hn)
     clear hb hn HW1
     have HS2 := LH ((HS.out.set 1 rfl (dvC h3 Inst.d3)).sub (H' := [(_, _, fun V => DH V h3 Inst.d3)]) (fun q hq => by rw [List.mem_singleton] at hq; subst hq; exact List.mem_cons_self))
     have bP1 := HS.out.get 1 rfl
     simp only at bP1
     go_upto_region 9 with (first
       | ((with_reducible show wpList _ _ _ _ _ _); refine wpList_store_row rfl 37 (.tmp 1) (.tmp 68) rfl P1 (dvC h3 Inst.d3) rfl rfl 37 (dvC h2 Inst.d2) ?_ ?_ ?_ ?_ ?_; exact bP1; exact (sDv h3 Inst.d3); exact (lDv h2 h3 Inst.d2 Inst.d3); exact (oDv h3 Inst.d3)))
     clear bP1
     refine gnH HS2.out (fun V203 HS1 => ?_)
     replace HS := LH HS1
     clear HS1 HS2
     have bP1 := HS.out.get 1 rfl
     simp only at bP1
     go_wp2_with (first
       | ((with_reducible show wpList _ _ _ _ _ _); refine LR rfl (t := 37) Tryz.underlying37 rfl (.tmp 1) rfl P1 rfl bP1 (sDv h3 Inst.d3) ?_))
     clear bP1
     refine (HFL.out _ _ (HS.out.fact 0 rfl)).mono ?_
     rintro e X31 ⟨h31, rfl, hb, hn⟩
     unfold devV
     try simp only
     replace HS := LH (HS.out.later hb)
     clear hb hn HFL
     obtain ⟨P7, hP7⟩ : ∃ P, X31.heap.size = P := ⟨_, rfl⟩
     replace HS := LH (HS.out.alloc hP7 (dvC h31 DevM.noDev) 37)
     go_upto_region 10 with ((with_reducible show wpList _ _ _ _ _ _); refine wSN rfl 37 (.tmp 7) (.tmp 73) rfl P7 (dvC h31 DevM.noDev) rfl rfl 37 _ ?_ ?_ ?_ ?_ ?_; exact hP7.symm; exact (sDv _ _); exact (like_zdev _ _); exact (oDv _ _))
     refine gnH HS.out (fun V231 HS1 => ?_)
     replace HS := LH HS1
     clear HS1 hP7
     have bP1 := HS.out.get 2 rfl
     simp only at bP1
     go_wp2_with (first
       | ((with_reducible show wpList _ _ _ _ _ _); refine LR rfl (t := 37) Tryz.underlying37 rfl (.tmp 1) rfl P1 rfl bP1 (sDv h3 Inst.d3) ?_))
     clear bP1
     refine (HW2.out _ _ (HS.out.fact 0 rfl)).mono ?_
     rintro e X4 ⟨h4, rfl, hb, hn⟩
     unfold devV
     try simp only
     replace HS := LH (HS.out.gain hb hn)
     clear hb hn HW2
     have HS2 := LH ((HS.out.set 2 rfl (dvC h4 Inst.d4)).sub (H' := [(_, _, fun V => DH V h4 Inst.d4)]) (fun q hq => by rw [List.mem_singleton] at hq; subst hq; exact List.mem_cons_self))
     have bP1 := HS.out.get 2 rfl
     simp only at bP1
     go_upto_region 11 with (first
       | ((with_reducible show wpList _ _ _ _ _ _); refine wpList_store_row rfl 37 (.tmp 1) (.tmp 78) rfl P1 (dvC h4 Inst.d4) rfl rfl 37 (dvC h3 Inst.d3) ?_ ?_ ?_ ?_ ?_; exact bP1; exact (sDv h4 Inst.d4); exact (lDv h3 h4 Inst.d3 Inst.d4); exact (oDv h4 Inst.d4)))
     clear bP1
     refine gnH HS2.out (fun V204 HS1 => ?_)
     replace HS := LH HS1
     clear HS1 HS2
     have bP1 := HS.out.get 2 rfl
     simp only at bP1
     go_wp2_with (first
       | ((with_reducible show wpList _ _ _ _ _ _); refine LR rfl (t := 37) Tryz.underlying37 rfl (.tmp 1) rfl P1 rfl bP1 (sDv h4 Inst.d4) ?_))
     clear bP1
     refine (HFi.out _ _ (HS.out.fact 0 rfl)).mono ?_
     rintro e X5 ⟨h5, rfl, hb, hn⟩
     unfold devV
     try simp only
     replace HS := LH (HS.out.gain hb hn)
     clear hb hn HFi
     have HS2 := LH ((HS.out.set 2 rfl (dvC h5 Inst.d5)).sub (H' := [(_, _, fun V => DH V h5 Inst.d5)]) (fun q hq => by rw [List.mem_singleton] at hq; subst hq; exact List.mem_cons_self))
     have bP1 := HS.out.get 2 rfl
     simp only at bP1
     go_upto_region 12 with (first
       | ((with_reducible show wpList _ _ _ _ _ _); refine wpList_store_row rfl 37 (.tmp 1) (.tmp 83) rfl P1 (dvC h5 Inst.d5) rfl rfl 37 (dvC h4 Inst.d4) ?_ ?_ ?_ ?_ ?_; exact bP1; exact (sDv h5 Inst.d5); exact (lDv h4 h5 Inst.d4 Inst.d5); exact (oDv h5 Inst.d5)))
     clear bP1
     refine gnH HS2.out (fun V205 HS1 => ?_)
     replace HS := LH HS1
     clear HS1 HS2
     have bP1 := HS.out.get 2 rfl
     simp only at bP1
     go_wp2_with (first
       | ((with_reducible show wpList _ _ _ _ _ _); refine LR rfl (t := 37) Tryz.underlying37 rfl (.tmp 1) rfl P1 rfl bP1 (sDv h5 Inst.d5) ?_))
     clear bP1
     refine (HCr.out _ _ (HS.out.fact 0 rfl)).mono ?_
     rintro e X6 ⟨h6, rfl, hb, hn⟩
     unfold devV
     try simp only
     replace HS := LH (HS.out.gain hb hn)
     clear hb hn HCr
     have HS2 := LH ((HS.out.set 2 rfl (dvC h6 Inst.d6)).sub (H' := [(_, _, fun V => DH V h6 Inst.d6)]) (fun q hq => by rw [List.mem_singleton] at hq; subst hq; exact List.mem_cons_self))
     have bP1 := HS.out.get 2 rfl
     simp only at bP1
     go_upto_region 13 with (first
       | ((with_reducible show wpList _ _ _ _ _ _); refine wpList_store_row rfl 37 (.tmp 1) (.tmp 88) rfl P1 (dvC h6 Inst.d6) rfl rfl 37 (dvC h5 Inst.d5) ?_ ?_ ?_ ?_ ?_; exact bP1; exact (sDv h6 Inst.d6); exact (lDv h5 h6 Inst.d5 Inst.d6); exact (oDv h6 Inst.d6)))
     clear bP1
     refine gnH HS2.out (fun V206 HS1 => ?_)
     replace HS := LH HS1
     clear HS1 HS2
     have bP1 := HS.out.get 2 rfl
     simp only at bP1
     go_wp2_with (first
       | ((with_reducible show wpList _ _ _ _ _ _); refine LR rfl (t := 37) Tryz.underlying37 rfl (.tmp 1) rfl P1 rfl bP1 (sDv h6 Inst.d6) ?_))
     clear bP1
     refine (HBo.out _ _ (HS.out.fact 0 rfl)).mono ?_
     rintro e X7 ⟨h7, rfl, hb, hn⟩
     unfold devV
     try simp only
     replace HS := LH (HS.out.gain hb hn)
     clear hb hn HBo
     have HS2 := LH ((HS.out.set 2 rfl (dvC h7 Inst.d7)).sub (H' := [(_, _, fun V => DH V h7 Inst.d7)]) (fun q hq => by rw [List.mem_singleton] at hq; subst hq; exact List.mem_cons_self))
     have bP1 := HS.out.get 2 rfl
     simp only at bP1
     go_upto_region 14 with (first
       | ((with_reducible show wpList _ _ _ _ _ _); refine wpList_store_row rfl 37 (.tmp 1) (.tmp 93) rfl P1 (dvC h7 Inst.d7) rfl rfl 37 (dvC h6 Inst.d6) ?_ ?_ ?_ ?_ ?_; exact bP1; exact (sDv h7 Inst.d7); exact (lDv h6 h7 Inst.d6 Inst.d7); exact (oDv h7 Inst.d7)))
     clear bP1
     refine gnH HS2.out (fun V207 HS1 => ?_)
     replace HS := LH HS1
     clear HS1 HS2
     have bP1 := HS.out.get 2 rfl
     simp only at bP1
     go_wp2_with (first
       | ((with_reducible show wpList _ _ _ _ _ _); refine LR rfl (t := 37) Tryz.underlying37 rfl (.tmp 1) rfl P1 rfl bP1 (sDv h7 Inst.d7) ?_))
     clear bP1
     refine (HCo.out _ _ (HS.out.fact 0 rfl)).mono ?_
     rintro e X8 ⟨h8, rfl, hb, hn⟩
     unfold devV
     try simp only
     replace HS := LH (HS.out.gain hb hn)
     clear hb hn HCo
     obtain ⟨P13, hP13⟩ : ∃ P, X8.heap.size = P := ⟨_, rfl⟩
     replace HS := LH (HS.out.alloc hP13 (dvC h8 Inst.d8) 37)
     go_upto_region 15 with ((with_reducible show wpList _ _ _ _ _ _); refine wSN rfl 37 (.tmp 13) (.tmp 98) rfl P13 (dvC h8 Inst.d8) rfl rfl 37 _ ?_ ?_ ?_ ?_ ?_; exact hP13.symm; exact (sDv _ _); exact (like_zdev _ _); exact (oDv _ _))
     refine gnH HS.out (fun V208 HS1 => ?_)
     replace HS := LH HS1
     clear HS1 hP13
     have c27 := cAt (k := 27) (v := .int .i64 Inst.d7.run) (HS.out.get 3 rfl) rfl
     simp only at c27
     rw [Inst.run7] at c27
     have c1 := cAt (k := 1) (v := .slice h7.a1 h7.n1 h7.c1) (HS.out.get 3 rfl) rfl
     simp only at c1
     have b7 := (HS.out.fact 1 rfl).b1
     have hn7 : h7.n1 = 64 := by rw [← b7.len]; exact Inst.len7
     have hc7 := b7.le
     have hcut : ∀ W, (Instr.slice 22 (.slice h7.a1 h7.n1 h7.c1) none (some (.int .i64 (9 : Int))) none).run Tryz.prog W = .ok (.slice h7.a1 9 h7.c1) W := fun W => rCh h7.a1 h7.n1 h7.c1 W 9 (by omega)
     have hst := (b7.head 9 (by omega)).string
     rw [Inst.slot7, show strOfNums Inst.im1 = { data := #[120, 101, 102, 103, 104, 97, 98, 99, 100] } by kernel_rfl] at hst
     have HCk : Hid (∀ W, DH W h8 Inst.d8 → Calls Tryz.prog 10 #[.agg (dvC h8 Inst.d8)] W fun e w' => e = .returned (.int .i64 0) ∧ Below W.heap.size W w') := fun W hd => by
       have := ckD h8 Inst.d8 W hd
       rw [Inst.ck8] at this
       exact this
     have HSm : Hid (∀ W, DH W h8 Inst.d8 → Calls Tryz.prog 11 #[.agg (dvC h8 Inst.d8), .agg (dvC h8 Inst.d8)] W fun e w' => e = .returned (.bool true) ∧ Below W.heap.size W w') := fun W hd => by
       have := sameD_any h8 h8 Inst.d8 Inst.d8 W hd hd
       rw [decide_eq_true rfl] at this
       exact this
     clear b7 hn7 hc7
     have bP13 := HS.out.get 0 rfl
     simp only at bP13
     go_wp2_with (first
       | ((with_reducible show wpList _ _ _ _ _ _); refine wLW (by rfl) 37 (.tmp 13) rfl P13 rfl 37 (dvC h8 Inst.d8) (0, 0) _ ?_ Tryz.underlying37 rfl ?_ ?_; exact bP13; exact (sDv h8 Inst.d8)))
     clear c27 c1 hcut hst bP13
     refine (HCk.out _ (HS.out.fact 0 rfl)).mono ?_
     rintro e Y1 ⟨rfl, hb⟩
     replace HS := LH (HS.out.later hb)
     clear hb
     have bP13 := HS.out.get 0 rfl
     simp only at bP13
     go_wp2_with (first
       | ((with_reducible show wpList _ _ _ _ _ _); refine wLW (by rfl) 37 (.tmp 13) rfl P13 rfl 37 (dvC h8 Inst.d8) (0, 0) _ ?_ Tryz.underlying37 rfl ?_ ?_; exact bP13; exact (sDv h8 Inst.d8)))
     clear bP13
     refine (HSm.out _ (HS.out.fact 0 rfl)).mono ?_
     rintro e Y2 ⟨rfl, hb⟩
     replace HS := LH (HS.out.later hb)
     clear hb
     go_wp2_with fail
     go_ret
     exact ⟨rfl, HS.out.below⟩
theorem tmod_pos (k n : Int) (hn : 0 < n) (h : 0 ≤ k.tmod n) : k.tmod n = k % n := by
 have e := Int.tmod_add_mul_tdiv k n
 have h2 := Int.tmod_lt_of_pos k hn
 conv => rhs; rw [← e, Int.add_mul_emod_self_left, Int.emod_eq_of_lt h h2]
theorem tmod_neg (k n : Int) (hn : 0 < n) (hn2 : n ≤ 9223372036854775807) (h : k.tmod n < 0) : wrap64 (k.tmod n + n) = k % n := by
 have e := Int.tmod_add_mul_tdiv k n
 have h2 := Int.lt_tmod_of_pos k hn
 have e2 : k % n = k.tmod n + n := by
   conv => lhs; rw [← e, Int.add_mul_emod_self_left, ← Int.add_emod_right, Int.emod_eq_of_lt (by omega) (by omega)]
 rw [e2]
 unfold wrap64
 omega
theorem ret_at {a b : Int} (h : a = b) : Ending.returned (.int .i64 a) = .returned (.int .i64 b) := by rw [h]
theorem at_any (k n : Int) (w : World) (hn : 0 < n) (hn2 : n ≤ 9223372036854775807) :
   Calls Tryz.prog 14 #[.int .i64 k, .int .i64 n] w fun e w' => e = .returned (.int .i64 (k % n)) ∧ w = w' := by
 have hz : (n == 0) = false := by simp; omega
 by_cases h0 : 0 ≤ k
 · have hm : k.tmod n = k % n := Int.tmod_eq_emod_of_nonneg h0
   have hm1 : 0 ≤ k % n := Int.emod_nonneg _ (by omega)
   have hm2 : k % n < n := Int.emod_lt_of_pos _ hn
   go_enter Tryz.func14, Tryz.ntmps14
   go_wp2
   go_ret
   exact ⟨rfl, rfl⟩
 · go_enter Tryz.func14, Tryz.ntmps14
   go_wp2
   · go_ret
     exact ⟨ret_at (tmod_neg k n hn hn2 ‹_›), rfl⟩
   · go_ret
     exact ⟨ret_at (tmod_pos k n hn ‹_›), rfl⟩
theorem image_any (a : Option Addr) (n c : Nat) (l : List Int) (w : World) (h : BS w a n c l) :
   Calls Tryz.prog 23 #[.slice a n c] w fun e w' => e = .returned (.slice a (min n 64) c) ∧ w = w' := by
 have h1 := h.le
 have h2 := h.max
 clear h
 by_cases hn : n ≤ 64
 · have hcut : ∀ W, (Instr.slice 22 (.slice a n c) none (some (.int .i64 (n : Int))) none).run Tryz.prog W = .ok (.slice a n c) W := fun W => rCh a n c W n h1
   have e1 : min n 64 = n := by omega
   have e2 : min (n : Int) 64 = n := by omega
   rw [e1]
   go_enter Tryz.func23, Tryz.ntmps23
   go_wp2
   go_ret
   exact ⟨rfl, rfl⟩
 · have hcut : ∀ W, (Instr.slice 22 (.slice a n c) none (some (.int .i64 64)) none).run Tryz.prog W = .ok (.slice a 64 c) W := fun W => rCh a n c W 64 (by omega)
   have e1 : min n 64 = 64 := by omega
   have e2 : min (n : Int) 64 = 64 := by omega
   rw [e1]
   go_enter Tryz.func23, Tryz.ntmps23
   go_wp2
   go_ret
   exact ⟨rfl, rfl⟩
def InC1 (w : World) (a0 : Option Addr) (N0 c0 PB : Nat) (a1 : Option Addr) (N1 c1 : Nat) (keep TO : Int) (s0 s2 : Value) (W : World) : Prop :=
 s0 = .slice a0 N0 c0 ∧ s2 = .int .i64 TO ∧ MH w [(PB + 1, #[.int .i64 keep], 3), (PB, #[.slice a1 N1 c1], 22)] [] W
theorem installs_walk (a0 : Option Addr) (n0 c0 : Nat) (l0 : List Int) (a1 : Option Addr) (n1 c1 : Nat) (l1 : List Int) (toz torn keep : Int) (w : World) (w0 : BS w a0 n0 c0 l0) (w1 : BS w a1 n1 c1 l1) (hM : MaxCell w) : Calls Tryz.prog 4 #[.slice a0 n0 c0, .slice a1 n1 c1, .int .i64 toz, .int .i64 torn, .int .i64 keep] w fun e w' => e = .returned (.bool true) ∧ Below w.heap.size w w' := by
 have HIn := LH (fun W hm => installed_any W hm)
 have HMx := LH hM
 clear hM
 obtain ⟨N0, hN0⟩ : ∃ N, min n0 64 = N := ⟨_, rfl⟩
 obtain ⟨N1, hN1⟩ : ∃ N, min n1 64 = N := ⟨_, rfl⟩
 obtain ⟨X, hX⟩ : ∃ X, l0.take N0 = X := ⟨_, rfl⟩
 obtain ⟨Y, hY⟩ : ∃ Y, l1.take N1 = Y := ⟨_, rfl⟩
 have HIm0 : Hid (∀ W, BS W a0 n0 c0 l0 → Calls Tryz.prog 23 #[.slice a0 n0 c0] W fun e w' => e = .returned (.slice a0 N0 c0) ∧ Below W.heap.size W w') := fun W h => (image_any a0 n0 c0 l0 W h).mono fun _ _ ⟨h1, h2⟩ => ⟨by rw [← hN0]; exact h1, h2 ▸ Below.refl _ _⟩
 have HIm1 : Hid (∀ W, BS W a1 n1 c1 l1 → Calls Tryz.prog 23 #[.slice a1 n1 c1] W fun e w' => e = .returned (.slice a1 N1 c1) ∧ Below W.heap.size W w') := fun W h => (image_any a1 n1 c1 l1 W h).mono fun _ _ ⟨h1, h2⟩ => ⟨by rw [← hN1]; exact h1, h2 ▸ Below.refl _ _⟩
 have HB0 := LH (w0.head N0 (by omega))
 have HB1 := LH (w1.head N1 (by omega))
 have HA0 := LH w0
 have HA1 := LH w1
 rw [hX] at HB0
 rw [hY] at HB1
 have h64 : N0 ≤ 64 ∧ N1 ≤ 64 := by omega
 clear w0 w1 hN0 hN1 hX hY
 have hXl := HB0.out.len
 have hYl := HB1.out.len
 obtain ⟨T0, hT0, hT00, hT01⟩ : ∃ T, toz % 30 = T ∧ 0 ≤ T ∧ T < 30 := ⟨_, rfl, by omega, by omega⟩
 obtain ⟨TO, hTO⟩ : ∃ T, (1 : Int) + T0 = T := ⟨_, rfl⟩
 have hTOb : 1 ≤ TO ∧ TO ≤ 30 := by omega
 obtain ⟨T8, hT8, hT80, hT81⟩ : ∃ T : Nat, torn % 8 = (T : Int) ∧ 0 ≤ T ∧ T < 8 := ⟨(torn % 8).toNat, by omega, by omega, by omega⟩
 obtain ⟨TN, hTN⟩ : ∃ T : Nat, 8 * T8 = T := ⟨_, rfl⟩
 have HAt : Hid (∀ W, Calls Tryz.prog 14 #[.int .i64 toz, .int .i64 30] W fun e w' => e = .returned (.int .i64 T0) ∧ Below W.heap.size W w') := fun W => by
   have := at_any toz 30 W (by omega) (by omega)
   rw [hT0] at this
   exact this.mono fun _ _ ⟨h1, h2⟩ => ⟨h1, h2 ▸ Below.refl _ _⟩
 have HA8 : Hid (∀ W, Calls Tryz.prog 14 #[.int .i64 torn, .int .i64 8] W fun e w' => e = .returned (.int .i64 (T8 : Int)) ∧ Below W.heap.size W w') := fun W => by
   have := at_any torn 8 W (by omega) (by omega)
   rw [hT8] at this
   exact this.mono fun _ _ ⟨h1, h2⟩ => ⟨h1, h2 ▸ Below.refl _ _⟩
 obtain ⟨D0, hD0, hR0⟩ := DevM.rest_new (old := X) (by omega)
 obtain ⟨p, hpm, hst, hcut⟩ := DevM.sent_is (old := X) (b := Y) (by omega) (by omega) hTOb
 have HNw : Hid (∀ W, BS W a0 N0 c0 X → Calls Tryz.prog 7 #[.slice a0 N0 c0] W (GDv (D0, 0) W)) := fun W hb => by
   have := newD_any a0 N0 c0 X W hb
   rwa [hD0] at this
 have HMk : Hid (∀ W, BS W a0 N0 c0 X → BS W a1 N1 c1 Y → Calls Tryz.prog 24 #[.int .i64 1, .int .i64 TO, .slice a0 N0 c0, .slice a1 N1 c1] W (GivesPt p W)) := fun W k0 k1 => makeT_any TO a0 a1 N0 c0 N1 c1 X Y p W k0 k1 h64.1 h64.2 (by unfold I64; omega) hpm
 generalize PackM.packL (PatM.putL p) = o at hst hcut
 have HCt : Hid (∀ ap np cp W, OS W ap np cp p.ops → Calls Tryz.prog 25 #[.agg (jbC ap np cp p)] W fun e w' => ∃ a c, e = .returned (.tuple #[.slice a (ChunkM.parts o) c, .int .i64 0]) ∧ Below W.heap.size W w' ∧ NewR W.heap.size w' (fun V => CS V a (ChunkM.parts o) c (ChunkM.cutL 1 TO o))) := fun ap np cp W ho => cutT_any ap np cp p TO o W ho hst.ok hcut
 have HCl : Hid (∀ PB PK PD PE PL la lc g tn d W, DevM.Rest X g d → g + 10 < 1000000 → ISt w PB PK PD PE PL a1 N1 c1 la (ChunkM.parts o) lc keep (ChunkM.cutL 1 TO o) d W → Calls Tryz.prog 26 #[.int .i64 tn, .pointer (some ⟨PL, 0, none⟩), .pointer (some ⟨PD, 0, none⟩), .pointer (some ⟨PE, 0, none⟩), .pointer (some ⟨PB, 0, none⟩), .pointer (some ⟨PK, 0, none⟩)] W fun e W' => e = .returned (.bool true) ∧ ∃ d, ISt w PB PK PD PE PL a1 N1 c1 la (ChunkM.parts o) lc keep (ChunkM.cutL 1 TO o) d W' ∧ IEnd X N1 p (g + 1) tn d) :=
   fun PB PK PD PE PL la lc g tn d W hr hg hS => inst_any w PB PK PD PE PL a1 N1 c1 la _ lc keep _ X Y o TO g tn p d W hst hr hg rfl rfl hYl h64.2 hS
 generalize ChunkM.parts o = ln at HCt HCl
 generalize ChunkM.cutL 1 TO o = cs at HCt HCl
 have HSt := LH hst
 have HR0 := LH hR0
 have HXl := LH hXl
 have HYl := LH hYl
 have HTN := LH hTN
 have hsz0 : N0 ≤ 64 := h64.1
 have hsz1 : N1 ≤ 64 := h64.2
 have hwTO : IntKind.i64.wrap TO = TO := IntWalk.i64_in _ (by omega)
 have hmul : (T8 : Int) * 8 = (TN : Int) := by omega
 have hwTN : IntKind.i64.wrap (TN : Int) = (TN : Int) := IntWalk.i64_in _ (by omega)
 have hTN64 : TN ≤ 56 := by omega
 clear hst hcut hpm hD0 hR0 hXl hYl h64 hT0 hT00 hT01 hTOb hT8 hT80 hT81 hTN
 obtain ⟨PB, hPB⟩ : ∃ P, w.heap.size = P := ⟨_, rfl⟩
 have HS := LH (((((MS.start w).alloc (p := PB) (by simp [hPB]) #[.slice a1 n1 c1] 22)).alloc (p := (PB + 1)) (by simp [hPB]) #[.int .i64 keep] 3))
 go_enter Tryz.func4, Tryz.ntmps4
 go_upto_region 1 with fail
 refine wp_gen HS.out (fun V0 HS1 => ?_)
 replace HS := LH HS1
 clear HS1 hPB
 replace HS := LH (MH.of HS.out)
 go_cut [0, 2] (fun s0 s2 wx => InC1 w a0 N0 c0 PB a1 N1 c1 keep TO s0 s2 wx)
 case first =>
   replace HS := LH HS.out.drew
   refine wp_region_way (S := (fun _ => True)) (.one 0 (.one 4 (.fork 1 (.call 2 (.call 3 (.call 5 (.one 6 (.one 7 (.call 8 (.one 9 .done))))))) 2 (.call 1 (.call 3 (.call 5 (.one 6 (.one 7 (.call 8 (.one 9 .done)))))))))) (by kernel_rfl) (by kernel_rfl) trivial ?_
   simp only [laid, Array.getD_eq_getD_getElem?, List.getElem?_toArray, List.getElem?_cons_zero, List.getElem?_cons_succ, Option.getD_some]
   refine gnY (fun V => MH w [(PB + 1, #[.int .i64 keep], 3), (PB, #[.slice a1 n1 c1], 22)] [] V) HS.out (fun V2 HS1 => ?_)
   replace HS := LH HS1
   clear HS1
   refine ySt ?_ (by rfl) (fun W9 hW9 => ?_) ?_
   rotate_left
   · (go_simp <;> with_reducible rfl)
   simp only [Act.put, sA, sB, sC]
   refine ySt ?_ (by rfl) (fun W9 hW9 => ?_) ?_
   rotate_left
   · (go_simp <;> with_reducible rfl)
   simp only [Act.put, sA, sB, sC]
   refine way_fork ?_ ?_
   · refine yCa (by rfl) (fun K hK => ?_)
     go_simp
     go_at_call 23
     with_reducible refine (HIm0.out _ (HA0.out.later HS.out.below)).mono ?_
     rintro e W101 ⟨rfl, hb⟩
     replace HS := LH (HS.out.later hb)
     clear hb
     try go_wp2_with fail
     refine hK.out _ _ _ (fun _ h => h) trivial ?_
     clear hK K
     try simp only [Act.put, sA, sB, sC]
     have cB := cAt (k := 0) (v := .slice a1 n1 c1) (HS.out.get 1 rfl) rfl
     try simp only at cB
     refine yCa (by rfl) (fun K hK => ?_)
     go_simp
     clear cB
     refine hK.out _ _ _ (fun _ h => h) trivial ?_
     clear hK K
     try simp only [Act.put, sA, sB, sC]
     refine yCa (by rfl) (fun K hK => ?_)
     go_simp
     go_at_call 23
     with_reducible refine (HIm1.out _ (HA1.out.later HS.out.below)).mono ?_
     rintro e W102 ⟨rfl, hb⟩
     replace HS := LH (HS.out.later hb)
     clear hb
     try go_wp2_with fail
     refine hK.out _ _ _ (fun _ h => h) trivial ?_
     clear hK K
     try simp only [Act.put, sA, sB, sC]
     refine yCa (by rfl) (fun K hK => ?_)
     go_simp
     go_at_call 14
     with_reducible refine (HAt.out _).mono ?_
     rintro e W103 ⟨rfl, hb⟩
     replace HS := LH (HS.out.later hb)
     clear hb
     try go_wp2_with fail
     refine hK.out _ _ _ (fun _ h => h) trivial ?_
     clear hK K
     try simp only [Act.put, sA, sB, sC]
     refine ySt ?_ (by rfl) (fun W9 hW9 => ?_) ?_
     rotate_left
     · (go_simp <;> with_reducible rfl)
     simp only [Act.put, sA, sB, sC]
     refine ySt ?_ (by rfl) (fun W9 hW9 => ?_) ?_
     rotate_left
     · (go_simp <;> with_reducible rfl)
     simp only [Act.put, List.setIfInBounds_toArray, List.set_cons_zero]
     have HS2 := LH (HS.out.cell (v := .slice a1 N1 c1) (c' := #[.slice a1 N1 c1]) (k := 0) 1 rfl rfl)
     have cB := cAt (k := 0) (v := .slice a1 n1 c1) (HS.out.get 1 rfl) rfl
     have zB := tAt (k := 0) (HS.out.get 1 rfl)
     try simp only at cB zB
     refine yCa (by rfl) (fun K hK => ?_)
     go_simp
     clear cB zB
     refine hK.out _ _ _ (fun _ h => h) trivial ?_
     clear hK K
     try simp only [Act.put]
     refine ySt ?_ (by rfl) (fun W9 hW9 => ?_) ?_
     rotate_left
     · (go_simp <;> with_reducible rfl)
     simp only [Act.put, sA, sB, sC]
     refine way_end ?_
     go_wp2_with fail
     go_meet
     exact ⟨rfl, rfl, HS2.out⟩
   · have cB := cAt (k := 0) (v := .slice a1 n1 c1) (HS.out.get 1 rfl) rfl
     try simp only at cB
     refine yCa (by rfl) (fun K hK => ?_)
     go_simp
     clear cB
     refine hK.out _ _ _ (fun _ h => h) trivial ?_
     clear hK K
     try simp only [Act.put, sA, sB, sC]
     refine yCa (by rfl) (fun K hK => ?_)
     go_simp
     go_at_call 23
     with_reducible refine (HIm0.out _ (HA0.out.later HS.out.below)).mono ?_
     rintro e W101 ⟨rfl, hb⟩
     replace HS := LH (HS.out.later hb)
     clear hb
     try go_wp2_with fail
     refine hK.out _ _ _ (fun _ h => h) trivial ?_
     clear hK K
     try simp only [Act.put, sA, sB, sC]
     refine yCa (by rfl) (fun K hK => ?_)
     go_simp
     go_at_call 23
     with_reducible refine (HIm1.out _ (HA1.out.later HS.out.below)).mono ?_
     rintro e W102 ⟨rfl, hb⟩
     replace HS := LH (HS.out.later hb)
     clear hb
     try go_wp2_with fail
     refine hK.out _ _ _ (fun _ h => h) trivial ?_
     clear hK K
     try simp only [Act.put, sA, sB, sC]
     refine yCa (by rfl) (fun K hK => ?_)
     go_simp
     go_at_call 14
     with_reducible refine (HAt.out _).mono ?_
     rintro e W103 ⟨rfl, hb⟩
     replace HS := LH (HS.out.later hb)
     clear hb
     try go_wp2_with fail
     refine hK.out _ _ _ (fun _ h => h) trivial ?_
     clear hK K
     try simp only [Act.put, sA, sB, sC]
     refine ySt ?_ (by rfl) (fun W9 hW9 => ?_) ?_
     rotate_left
     · (go_simp <;> with_reducible rfl)
     simp only [Act.put, sA, sB, sC]
     refine ySt ?_ (by rfl) (fun W9 hW9 => ?_) ?_
     rotate_left
     · (go_simp <;> with_reducible rfl)
     simp only [Act.put, List.setIfInBounds_toArray, List.set_cons_zero]
     have HS2 := LH (HS.out.cell (v := .slice a1 N1 c1) (c' := #[.slice a1 N1 c1]) (k := 0) 1 rfl rfl)
     have cB := cAt (k := 0) (v := .slice a1 n1 c1) (HS.out.get 1 rfl) rfl
     have zB := tAt (k := 0) (HS.out.get 1 rfl)
     try simp only at cB zB
     refine yCa (by rfl) (fun K hK => ?_)
     go_simp
     clear cB zB
     refine hK.out _ _ _ (fun _ h => h) trivial ?_
     clear hK K
     try simp only [Act.put]
     refine ySt ?_ (by rfl) (fun W9 hW9 => ?_) ?_
     rotate_left
     · (go_simp <;> with_reducible rfl)
     simp only [Act.put, sA, sB, sC]
     refine way_end ?_
     go_wp2_with fail
     go_meet
     exact ⟨rfl, rfl, HS2.out⟩
 case rest =>
   obtain ⟨rfl, rfl, hms⟩ := hcut
   replace HS := LH hms
   clear hms HIm0 HIm1 HAt HA0 HA1 hwTO hTO
   go_wp2_with fail
   refine (HNw.out _ (HB0.out.later HS.out.below)).mono ?_
   rintro e W3 ⟨h0, rfl, hb, hn⟩
   replace HS := LH (HS.out.gain hb hn)
   clear hb hn HNw
   unfold devV
   try simp only
   obtain ⟨PD, hPD⟩ : ∃ P, W3.heap.size = P := ⟨_, rfl⟩
   replace HS := LH (HS.out.alloc hPD zDev 37)
   replace HS := LH (HS.out.alloc (p := PD + 1) (by simp [hPD]) #[.int .i64 0] 40)
   have HS2 := LH (HS.out.set 1 rfl (dvC h0 D0))
   have bPD := HS.out.get 1 rfl
   simp only at bPD
   go_upto_region 3 with (first
     | ((with_reducible show wpList _ _ _ _ _ _); refine wpList_store_row rfl 37 (.tmp 11) (.tmp 30) rfl PD (dvC h0 D0) rfl rfl 37 zDev ?_ ?_ ?_ ?_ ?_; exact bPD; exact (sDv h0 D0); exact (like_zdev _ _); exact (oDv h0 D0); refine glH HS2.out (fun Va HSv => ?_); have e0 := cAt (k := 0) (v := .int .i64 0) (HSv.get 0 rfl) rfl; have z0 := tAt (k := 0) (HSv.get 0 rfl); try simp only at e0 z0; have HS3 := LH (HSv.cell (v := .int .i64 0) (c' := #[.int .i64 0]) (k := 0) 0 rfl rfl)))
   clear bPD
   refine gnH HS3.out (fun V3 HS1 => ?_)
   replace HS := LH HS1
   clear HS1 HS2 HS3 e0 z0 HSv hPD
   have cB := cAt (k := 0) (v := .slice a1 N1 c1) (HS.out.get 3 rfl) rfl
   try simp only at cB
   go_wp2_with fail
   clear cB
   refine (HMk.out _ (HB0.out.later HS.out.below) (HB1.out.later HS.out.below)).mono ?_
   rintro e W4 ⟨ap, np, cp, rfl, hb, hn⟩
   replace HS := LH (HS.out.gain hb hn)
   clear hb hn HMk
   obtain ⟨PP, hPP⟩ : ∃ P, W4.heap.size = P := ⟨_, rfl⟩
   replace HS := LH (HS.out.alloc hPP (jbC ap np cp p) 35)
   go_upto_region 4 with ((with_reducible show wpList _ _ _ _ _ _); refine wSN rfl 35 (.tmp 13) (.tmp 37) rfl PP (jbC ap np cp p) rfl rfl 35 _ ?_ ?_ ?_ ?_ ?_; exact hPP.symm; exact (sJb ap np cp p); exact rfl; exact (one_job ap np cp p))
   refine gnH HS.out (fun V4 HS1 => ?_)
   replace HS := LH HS1
   clear HS1 hPP
   have bPP := HS.out.get 0 rfl
   simp only at bPP
   go_wp2_with (first
     | ((with_reducible show wpList _ _ _ _ _ _); refine LR rfl (t := 35) Tryz.underlying35 rfl (.tmp 13) rfl PP rfl bPP (sJb ap np cp p) ?_))
   clear bPP
   refine (HCt.out ap np cp _ (HS.out.fact 0 rfl)).mono ?_
   rintro e W5 ⟨la, lc, rfl, hb, hn⟩
   replace HS := LH (HS.out.gain hb hn)
   clear hb hn HCt
   obtain ⟨PL, hPL⟩ : ∃ P, W5.heap.size = P := ⟨_, rfl⟩
   replace HS := LH (HS.out.alloc hPL #[.slice la ln lc] 32)
   go_upto_region 5 with fail
   refine gnH HS.out (fun V5 HS1 => ?_)
   replace HS := LH HS1
   clear HS1 hPL
   go_wp2_with fail
   refine (HIn.out _ (HMx.out.later HS.out.below)).mono ?_
   rintro e W6 ⟨rfl, hb⟩
   replace HS := LH (HS.out.later hb)
   clear hb HIn HMx
   have HT : Hid (ISt w PB (PB + 1) PD (PD + 1) PL a1 N1 c1 la ln lc keep cs D0 W6) := ⟨h0, _, _, _, _, (HS.out.subL (L' := [(PL, #[.slice la ln lc], 32), (PD + 1, #[.int .i64 0], 40), (PD, (dvC h0 D0), 37), (PB + 1, #[.int .i64 keep], 3), (PB, #[.slice a1 N1 c1], 22)]) (by repeat (first | exact List.Sublist.refl _ | apply List.Sublist.cons_cons | apply List.Sublist.cons))).sub (fun q hq => by
     rcases List.mem_cons.1 hq with rfl | hq
     · exact List.mem_cons_of_mem _ (List.mem_cons_of_mem _ List.mem_cons_self)
     · rw [List.mem_singleton] at hq
       subst hq
       exact List.mem_cons_self)⟩
   have e0 := cAt (k := 0) (v := .int .i64 0) (HS.out.get 2 rfl) rfl
   try simp only at e0
   have hmf : ∀ (fn : Fn) (first cap : Array Value) (w : World), (Instr.makeFunc fn first cap).run Tryz.prog w = .ok (.func fn first cap) w := fun _ _ _ _ => rfl
   go_wp2_with fail
   clear e0 hmf HS
   refine (HA8.out _).mono ?_
   rintro e W8 ⟨rfl, hb⟩
   replace HT : Hid (ISt w PB (PB + 1) PD (PD + 1) PL a1 N1 c1 la ln lc keep cs D0 W8) := by
     obtain ⟨h, lo, hi, lo', hi', hms⟩ := HT.out
     exact ⟨h, lo, hi, lo', hi', hms.later hb⟩
   clear hb HA8
   go_wp2_with fail
   refine (HCl.out _ _ _ _ _ _ _ 1 (TN : Int) D0 _ HR0.out (by omega) HT.out).mono ?_
   rintro e W9 ⟨rfl, d, hts, hend⟩
   clear HT HR0 hmul hwTN
   obtain ⟨h, lo, hi, lo', hi', hms⟩ := hts
   have HS := LH hms
   have HEn := LH hend
   clear hms hend
   have hat : DevM.At X (1 + 1) d := by
     rcases HEn.out with ⟨m, -, -, z⟩ | ⟨-, m, -, z⟩
     · exact z.at_
     · exact z.at_
   have cq0 := cAt (k := 0) (v := .slice h.a0 h.n0 h.c0) (HS.out.get 2 rfl) rfl
   try simp only at cq0
   have b7 := (HS.out.fact 0 rfl).b0
   have hn7 : h.n0 = 64 := by rw [← b7.len]; exact hat.long.1
   have hc7 := b7.le
   have hN64 : (0 : Int) ≤ (N0 : Int) := by omega
   have hcut0 : ∀ W, (Instr.slice 22 (.slice h.a0 h.n0 h.c0) none (some (.int .i64 (N0 : Int))) none).run Tryz.prog W = .ok (.slice h.a0 N0 h.c0) W := fun W => rCh h.a0 h.n0 h.c0 W N0 (by omega)
   have hbg := hat.begins
   rw [HXl.out] at hbg
   have HEq0 : Hid (∀ W, DH W h d → BS W a0 N0 c0 X → Calls Tryz.prog 27 #[.slice h.a0 N0 h.c0, .slice a0 N0 c0] W fun e w' => e = .returned (.bool true) ∧ Below W.heap.size W w') := fun W k1 k2 => by
     have b8 := k1.b0.head N0 (by rw [hn7]; omega)
     rw [hbg] at b8
     have := eqB _ _ _ _ _ _ _ _ W b8 k2
     rw [decide_eq_true (rfl : X = X)] at this
     exact this.mono fun _ _ ⟨h1, h2⟩ => ⟨h1, h2 ▸ Below.refl _ _⟩
   clear b7 hbg hat
   go_wp2_with fail
   clear cq0 hcut0 hn7 hc7
   refine (HEq0.out _ (HS.out.fact 0 rfl) (HB0.out.later HS.out.below)).mono ?_
   rintro e W10 ⟨rfl, hb⟩
   replace HS := LH (HS.out.later hb)
   clear hb HEq0
   have cB := cAt (k := 0) (v := .slice a1 N1 c1) (HS.out.get 4 rfl) rfl
   try simp only at cB
   have hTN0 : (0 : Int) ≤ (TN : Int) := by omega
   by_cases hlt : TN < N1
   · have hltI : (TN : Int) < (N1 : Int) := by omega
     have hdn : DevM.Down X (1 + 1) d := by
       rcases HEn.out with ⟨m, -, -, z⟩ | ⟨z, -⟩
       · exact z
       · exact absurd (by rw [HTN.out]) (z T8 (by rw [HTN.out]; exact hlt))
     clear HEn
     have c26 := cAt (k := 26) (v := .bool d.up) (HS.out.get 2 rfl) rfl
     try simp only at c26
     rw [hdn.up] at c26
     obtain ⟨x, hx, hrs, hrun⟩ := hdn.boot (by omega)
     have HRs := LH hrs
     clear hrs hdn
     have HBo : Hid (∀ h W, DH W h d → Calls Tryz.prog 21 #[.agg (dvC h d)] W (GDv (x, 0) W)) := fun h W hd => by
       have := bootD_any h d W hd
       rw [hx] at this
       exact this
     clear hx
     have bPD := HS.out.get 2 rfl
     simp only at bPD
     go_wp2_with (first
       | ((with_reducible show wpList _ _ _ _ _ _); refine LR rfl (t := 37) Tryz.underlying37 rfl (.tmp 11) rfl PD rfl bPD (sDv h d) ?_))
     clear cB c26 bPD
     refine (HBo.out _ _ (HS.out.fact 0 rfl)).mono ?_
     rintro e X14 ⟨h14, rfl, hb, hn⟩
     unfold devV
     try simp only
     replace HS := LH (HS.out.gain hb hn)
     clear hb hn
     have HS2 := LH (HS.out.set 2 rfl (dvC h14 x)).drop1
     have bPD := HS.out.get 2 rfl
     simp only at bPD
     go_upto_region 15 with (first
       | ((with_reducible show wpList _ _ _ _ _ _); refine wpList_store_row rfl 37 (.tmp 11) (.tmp 86) rfl PD (dvC h14 x) rfl rfl 37 (dvC h d) ?_ ?_ ?_ ?_ ?_; exact bPD; exact (sDv _ _); exact (lDv h h14 d x); exact (oDv _ _); refine glH HS2.out (fun Va HSv => ?_); have e0 := cAt (k := 0) (v := .int .i64 0) (HSv.get 1 rfl) rfl; have z0 := tAt (k := 0) (HSv.get 1 rfl); try simp only at e0 z0; have HS3 := LH (HSv.cell (v := .int .i64 0) (c' := #[.int .i64 0]) (k := 0) 1 rfl rfl)))
     clear bPD
     refine gnH HS3.out (fun V14 HS1 => ?_)
     replace HS := LH HS1
     clear HS1 HS2 HS3 e0 z0 HSv
     have e0 := cAt (k := 0) (v := .int .i64 0) (HS.out.get 1 rfl) rfl
     try simp only at e0
     have c27 := cAt (k := 27) (v := .int .i64 x.run) (HS.out.get 2 rfl) rfl
     have c29 := cAt (k := 29) (v := .bool x.busy) (HS.out.get 2 rfl) rfl
     try simp only at c27 c29
     rw [hrun] at c27
     rw [HRs.out.busy] at c29
     clear hrun HBo
     have HT : Hid (ISt w PB (PB + 1) PD (PD + 1) PL a1 N1 c1 la ln lc keep cs x V14) := ⟨_, _, _, _, _, HS.out⟩
     go_wp2_with fail
     clear e0 c27 c29
     clear HS
     refine (HCl.out _ _ _ _ _ _ _ (1 + 1 + 1) (-1) x _ HRs.out (by omega) HT.out).mono ?_
     rintro e W15 ⟨rfl, d2, hts, hend⟩
     clear HT HRs HCl
     obtain ⟨h2, lo2, hi2, lo3, hi3, hms⟩ := hts
     have HS := LH hms
     clear hms
     obtain ⟨m, hge, hwr⟩ : ∃ m, N1 ≤ 8 * m ∧ DevM.Writes X p (1 + 1 + 1 + 1) m d2 := by
       rcases hend with ⟨m, z, -⟩ | ⟨-, m, z1, z2⟩
       · exact absurd z (by omega)
       · exact ⟨m, z1, z2⟩
     have HWr := LH hwr
     clear hwr hend
     obtain ⟨x, hx, htr, hver, hsize, himg⟩ := HWr.out.fin HSt.out (by rw [HYl.out]; exact hge) (by omega)
     clear HWr hge
     have HFi : Hid (∀ h W, DH W h d2 → Calls Tryz.prog 18 #[.agg (dvC h d2), .bool false] W (GDv (x, 0) W)) := fun h W hd => by
       have := finishD_any h d2 false W hd
       rw [hx] at this
       exact this
     clear hx
     have bPD := HS.out.get 2 rfl
     simp only at bPD
     go_wp2_with (first
       | ((with_reducible show wpList _ _ _ _ _ _); refine LR rfl (t := 37) Tryz.underlying37 rfl (.tmp 11) rfl PD rfl bPD (sDv h2 d2) ?_))
     clear bPD
     refine (HFi.out _ _ (HS.out.fact 0 rfl)).mono ?_
     rintro e X17 ⟨h17, rfl, hb, hn⟩
     unfold devV
     try simp only
     replace HS := LH (HS.out.gain hb hn)
     clear hb hn
     have HS2 := LH (HS.out.set 2 rfl (dvC h17 x)).drop1
     have bPD := HS.out.get 2 rfl
     simp only at bPD
     go_upto_region 18 with (first
       | ((with_reducible show wpList _ _ _ _ _ _); refine wpList_store_row rfl 37 (.tmp 11) (.tmp 107) rfl PD (dvC h17 x) rfl rfl 37 (dvC h2 d2) ?_ ?_ ?_ ?_ ?_; exact bPD; exact (sDv _ _); exact (lDv h2 h17 d2 x); exact (oDv _ _); refine glH HS2.out (fun Va HSv => ?_); have e0 := cAt (k := 0) (v := .int .i64 0) (HSv.get 1 rfl) rfl; have z0 := tAt (k := 0) (HSv.get 1 rfl); try simp only at e0 z0; have HS3 := LH (HSv.cell (v := .int .i64 0) (c' := #[.int .i64 0]) (k := 0) 1 rfl rfl)))
     clear bPD
     refine gnH HS3.out (fun V17 HS1 => ?_)
     replace HS := LH HS1
     clear HS1 HS2 HS3 e0 z0 HSv
     have e0 := cAt (k := 0) (v := .int .i64 0) (HS.out.get 1 rfl) rfl
     try simp only at e0
     clear HFi e0
     have hok := htr.at_.ok
     have HRd : Hid (∀ W, Calls Tryz.prog 28 #[.agg (cpC x.c)] W fun e w' => e = .returned (.tuple #[.agg (rcC (DevM.rc x)), .int .i64 (RecM.newest x.c), .int .i64 0]) ∧ Below W.heap.size W w') := fun W => by
       have := rdR x.c W
       rw [RecM.readOf_ok hok.cops] at this
       exact this
     clear hok
     have bPD := HS.out.get 2 rfl
     simp only at bPD
     go_wp2_with (first
       | ((with_reducible show wpList _ _ _ _ _ _); refine wLP rfl 31 (.tmp 110) rfl PD 2 rfl (dvC h17 x) 37 (0, 0) ?_ (cpC x.c) ?_ _ Tryz.underlying31 rfl ?_ ?_; exact bPD; exact (part_cops h17 x); exact (sCp x.c)))
     clear bPD
     refine (HRd.out _).mono ?_
     rintro e W1 ⟨rfl, hb⟩
     replace HS := LH (HS.out.later hb)
     clear hb
     obtain ⟨P18, hP18⟩ : ∃ P, W1.heap.size = P := ⟨_, rfl⟩
     replace HS := LH (HS.out.alloc hP18 (rcC (DevM.rc x)) 28)
     go_upto_region 19 with ((with_reducible show wpList _ _ _ _ _ _); refine wSN rfl 28 (.tmp 18) (.tmp 113) rfl P18 (rcC (DevM.rc x)) rfl rfl 28 _ ?_ ?_ ?_ ?_ ?_; exact hP18.symm; exact (sRc (DevM.rc x)); exact (lRc (DevM.rc x)); exact (oRc (DevM.rc x)))
     refine gnH HS.out (fun V18 HS1 => ?_)
     replace HS := LH HS1
     clear HS1 hP18 HRd
     have f2 := htr.try_
     have f1 : (DevM.rc x).act = 0 := htr.at_.act0
     have f8 : (DevM.rc x).i1.ver = TO := by have := hver; unfold DevM.info RecM.inf at this; simpa using this
     have f9 : (DevM.rc x).i1.size = (N1 : Int) := by have := hsize; unfold DevM.info RecM.inf at this; rw [← HYl.out]; simpa using this
     have hat := htr.at_
     have hs1 : x.s1.take N1 = Y := by
       have := himg
       unfold DevM.image DevM.slot at this
       rw [hsize, Int.toNat_natCast, HYl.out] at this
       simpa using this
     have hl1 : x.s1.length = 64 := hat.ok.l1
     clear hver hsize himg htr
     have cq0 := cAt (k := 0) (v := .slice h17.a0 h17.n0 h17.c0) (HS.out.get 3 rfl) rfl
     try simp only at cq0
     have b7 := (HS.out.fact 0 rfl).b0
     have hn7 : h17.n0 = 64 := by rw [← b7.len]; exact hat.long.1
     have hc7 := b7.le
     have hN64 : (0 : Int) ≤ (N0 : Int) := by omega
     have hcut0 : ∀ W, (Instr.slice 22 (.slice h17.a0 h17.n0 h17.c0) none (some (.int .i64 (N0 : Int))) none).run Tryz.prog W = .ok (.slice h17.a0 N0 h17.c0) W := fun W => rCh h17.a0 h17.n0 h17.c0 W N0 (by omega)
     have hbg := hat.begins
     rw [HXl.out] at hbg
     have HEq0 : Hid (∀ W, DH W h17 x → BS W a0 N0 c0 X → Calls Tryz.prog 27 #[.slice h17.a0 N0 h17.c0, .slice a0 N0 c0] W fun e w' => e = .returned (.bool true) ∧ Below W.heap.size W w') := fun W k1 k2 => by
       have b8 := k1.b0.head N0 (by rw [hn7]; omega)
       rw [hbg] at b8
       have := eqB _ _ _ _ _ _ _ _ W b8 k2
       rw [decide_eq_true (rfl : X = X)] at this
       exact this.mono fun _ _ ⟨h1, h2⟩ => ⟨h1, h2 ▸ Below.refl _ _⟩
     clear b7 hbg hat cq0
     have b9 := (HS.out.fact 0 rfl).b1
     have hn9 : h17.n1 = 64 := by rw [← b9.len]; exact hl1
     have hc9 := b9.le
     have hN641 : (0 : Int) ≤ (N1 : Int) := by omega
     have hcut1 : ∀ W, (Instr.slice 22 (.slice h17.a1 h17.n1 h17.c1) none (some (.int .i64 (N1 : Int))) none).run Tryz.prog W = .ok (.slice h17.a1 N1 h17.c1) W := fun W => rCh h17.a1 h17.n1 h17.c1 W N1 (by omega)
     have HEq1 : Hid (∀ W, DH W h17 x → BS W a1 N1 c1 Y → Calls Tryz.prog 27 #[.slice h17.a1 N1 h17.c1, .slice a1 N1 c1] W fun e w' => e = .returned (.bool true) ∧ Below W.heap.size W w') := fun W k1 k2 => by
       have b8 := k1.b1.head N1 (by rw [hn9]; omega)
       rw [hs1] at b8
       have := eqB _ _ _ _ _ _ _ _ W b8 k2
       rw [decide_eq_true (rfl : Y = Y)] at this
       exact this.mono fun _ _ ⟨h1, h2⟩ => ⟨h1, h2 ▸ Below.refl _ _⟩
     clear b9 hs1 hl1 hn7 hc7 hn9 hc9
     refine rTu (S := MS w [(P18, (rcC (DevM.rc x)), 28), (PL, #[.slice la ln lc], 32), ((PD + 1), #[.int .i64 0], 40), (PD, (dvC h17 x), 37), ((PB + 1), #[.int .i64 keep], 3), (PB, #[.slice a1 N1 c1], 22)] [] []) [(0, false), (1, false), (2, false), (3, false), (4, false), (5, false), (6, false), (7, false), (8, false), (9, false), (10, false), (11, false), (12, false), (13, false), (14, false), (15, false), (16, false), (17, false), (18, false), (19, false), (20, false), (21, false), (22, false), (23, false), (24, false), (25, false), (26, false), (27, false), (28, false), (29, false), (30, false), (31, false), (32, false), (33, true), (34, false), (35, false), (36, false), (37, false), (38, false), (39, false), (40, false), (41, false), (42, false), (43, true), (44, false), (45, false)] false 9999 (by kernel_rfl) (by kernel_rfl) HS.out.ms.drew ?_
     simp only [turned, gA, gB, gC]
     replace HS := LH HS.out.drew
     have uPDp1_0 : ∀ W, MS w [(P18, (rcC (DevM.rc x)), 28), (PL, #[.slice la ln lc], 32), ((PD + 1), #[.int .i64 0], 40), (PD, (dvC h17 x), 37), ((PB + 1), #[.int .i64 keep], 3), (PB, #[.slice a1 N1 c1], 22)] [] [] W → W.cell? ⟨PD + 1, 0, none⟩ = some (.int .i64 0) := fun W hW => cAt (hW.get 2 rfl) rfl
     have uP18_2 : ∀ W, MS w [(P18, (rcC (DevM.rc x)), 28), (PL, #[.slice la ln lc], 32), ((PD + 1), #[.int .i64 0], 40), (PD, (dvC h17 x), 37), ((PB + 1), #[.int .i64 keep], 3), (PB, #[.slice a1 N1 c1], 22)] [] [] W → W.cell? ⟨P18, 2, none⟩ = some (.bool true) := fun W hW => by
       have := cAt (k := 2) (v := .bool (DevM.rc x).trying) (hW.get 0 rfl) rfl
       rwa [f2] at this
     have uP18_1 : ∀ W, MS w [(P18, (rcC (DevM.rc x)), 28), (PL, #[.slice la ln lc], 32), ((PD + 1), #[.int .i64 0], 40), (PD, (dvC h17 x), 37), ((PB + 1), #[.int .i64 keep], 3), (PB, #[.slice a1 N1 c1], 22)] [] [] W → W.cell? ⟨P18, 1, none⟩ = some (.int .i64 0) := fun W hW => by
       have := cAt (k := 1) (v := .int .i64 (DevM.rc x).act) (hW.get 0 rfl) rfl
       rwa [f1] at this
     have uP18_8 : ∀ W, MS w [(P18, (rcC (DevM.rc x)), 28), (PL, #[.slice la ln lc], 32), ((PD + 1), #[.int .i64 0], 40), (PD, (dvC h17 x), 37), ((PB + 1), #[.int .i64 keep], 3), (PB, #[.slice a1 N1 c1], 22)] [] [] W → W.cell? ⟨P18, 8, none⟩ = some (.int .i64 TO) := fun W hW => by
       have := cAt (k := 8) (v := .int .i64 (DevM.rc x).i1.ver) (hW.get 0 rfl) rfl
       rwa [f8] at this
     have uP18_9 : ∀ W, MS w [(P18, (rcC (DevM.rc x)), 28), (PL, #[.slice la ln lc], 32), ((PD + 1), #[.int .i64 0], 40), (PD, (dvC h17 x), 37), ((PB + 1), #[.int .i64 keep], 3), (PB, #[.slice a1 N1 c1], 22)] [] [] W → W.cell? ⟨P18, 9, none⟩ = some (.int .i64 (N1 : Int)) := fun W hW => by
       have := cAt (k := 9) (v := .int .i64 (DevM.rc x).i1.size) (hW.get 0 rfl) rfl
       rwa [f9] at this
     have uPD_1 : ∀ W, MS w [(P18, (rcC (DevM.rc x)), 28), (PL, #[.slice la ln lc], 32), ((PD + 1), #[.int .i64 0], 40), (PD, (dvC h17 x), 37), ((PB + 1), #[.int .i64 keep], 3), (PB, #[.slice a1 N1 c1], 22)] [] [] W → W.cell? ⟨PD, 1, none⟩ = some (.slice h17.a1 h17.n1 h17.c1) := fun W hW => cAt (hW.get 3 rfl) rfl
     have uPD_0 : ∀ W, MS w [(P18, (rcC (DevM.rc x)), 28), (PL, #[.slice la ln lc], 32), ((PD + 1), #[.int .i64 0], 40), (PD, (dvC h17 x), 37), ((PB + 1), #[.int .i64 keep], 3), (PB, #[.slice a1 N1 c1], 22)] [] [] W → W.cell? ⟨PD, 0, none⟩ = some (.slice h17.a0 h17.n0 h17.c0) := fun W hW => cAt (hW.get 3 rfl) rfl
     have uPB_0 : ∀ W, MS w [(P18, (rcC (DevM.rc x)), 28), (PL, #[.slice la ln lc], 32), ((PD + 1), #[.int .i64 0], 40), (PD, (dvC h17 x), 37), ((PB + 1), #[.int .i64 keep], 3), (PB, #[.slice a1 N1 c1], 22)] [] [] W → W.cell? ⟨PB, 0, none⟩ = some (.slice a1 N1 c1) := fun W hW => cAt (hW.get 5 rfl) rfl
     repeat (first
       | (refine tSt ?_ (by rfl) (fun W9 hW9 => ?_) ?_
          rotate_left
          · (go_simp <;> with_reducible rfl)
          simp only [Act.put, sA, sB, sC])
       | (refine tSk (by rfl) ?_; simp only [Act.put, sA, sB, sC]))
     refine tCa (fun K hK => ?_)
     go_simp
     go_at_call 27
     with_reducible refine (HEq1.out _ (HS.out.fact 0 rfl) (HB1.out.later HS.out.below)).mono ?_
     rintro e W2 ⟨rfl, hb⟩
     replace HS := LH (HS.out.later hb)
     clear hb
     try go_wp2_with fail
     refine hK.out _ _ HS.out.ms ?_
     clear hK K
     try simp only [Act.put, sA, sB, sC]
     repeat (first
       | (refine tSt ?_ (by rfl) (fun W9 hW9 => ?_) ?_
          rotate_left
          · (go_simp <;> with_reducible rfl)
          simp only [Act.put, sA, sB, sC])
       | (refine tSk (by rfl) ?_; simp only [Act.put, sA, sB, sC]))
     refine tCa (fun K hK => ?_)
     go_simp
     go_at_call 27
     with_reducible refine (HEq0.out _ (HS.out.fact 0 rfl) (HB0.out.later HS.out.below)).mono ?_
     rintro e W3 ⟨rfl, hb⟩
     replace HS := LH (HS.out.later hb)
     clear hb
     try go_wp2_with fail
     refine hK.out _ _ HS.out.ms ?_
     clear hK K
     try simp only [Act.put, sA, sB, sC]
     repeat (first
       | (refine tSt ?_ (by rfl) (fun W9 hW9 => ?_) ?_
          rotate_left
          · (go_simp <;> with_reducible rfl)
          simp only [Act.put, sA, sB, sC])
       | (refine tSk (by rfl) ?_; simp only [Act.put, sA, sB, sC]))
     clear uPDp1_0 uP18_2 uP18_1 uP18_8 uP18_9 uPD_1 uPD_0 uPB_0
     refine tEn ?_
     go_wp2_with fail
     go_ret
     exact ⟨rfl, HS.out.below⟩
   · have hltI : ¬ (TN : Int) < (N1 : Int) := by omega
     obtain ⟨m, hge, hwr⟩ : ∃ m, N1 ≤ 8 * m ∧ DevM.Writes X p (1 + 1) m d := by
       rcases HEn.out with ⟨m, z, z2, -⟩ | ⟨-, m, z1, z2⟩
       · exact absurd z (by omega)
       · exact ⟨m, z1, z2⟩
     have HWr := LH hwr
     clear hwr HEn HCl
     obtain ⟨x, hx, htr, hver, hsize, himg⟩ := HWr.out.fin HSt.out (by rw [HYl.out]; exact hge) (by omega)
     clear HWr hge
     have HFi : Hid (∀ h W, DH W h d → Calls Tryz.prog 18 #[.agg (dvC h d), .bool false] W (GDv (x, 0) W)) := fun h W hd => by
       have := finishD_any h d false W hd
       rw [hx] at this
       exact this
     clear hx
     have bPD := HS.out.get 2 rfl
     simp only at bPD
     go_wp2_with (first
       | ((with_reducible show wpList _ _ _ _ _ _); refine LR rfl (t := 37) Tryz.underlying37 rfl (.tmp 11) rfl PD rfl bPD (sDv h d) ?_))
     clear cB bPD
     refine (HFi.out _ _ (HS.out.fact 0 rfl)).mono ?_
     rintro e X17 ⟨h17, rfl, hb, hn⟩
     unfold devV
     try simp only
     replace HS := LH (HS.out.gain hb hn)
     clear hb hn
     have HS2 := LH (HS.out.set 2 rfl (dvC h17 x)).drop1
     have bPD := HS.out.get 2 rfl
     simp only at bPD
     go_upto_region 18 with (first
       | ((with_reducible show wpList _ _ _ _ _ _); refine wpList_store_row rfl 37 (.tmp 11) (.tmp 107) rfl PD (dvC h17 x) rfl rfl 37 (dvC h d) ?_ ?_ ?_ ?_ ?_; exact bPD; exact (sDv _ _); exact (lDv h h17 d x); exact (oDv _ _); refine glH HS2.out (fun Va HSv => ?_); have e0 := cAt (k := 0) (v := .int .i64 0) (HSv.get 1 rfl) rfl; have z0 := tAt (k := 0) (HSv.get 1 rfl); try simp only at e0 z0; have HS3 := LH (HSv.cell (v := .int .i64 0) (c' := #[.int .i64 0]) (k := 0) 1 rfl rfl)))
     clear bPD
     refine gnH HS3.out (fun V17 HS1 => ?_)
     replace HS := LH HS1
     clear HS1 HS2 HS3 e0 z0 HSv
     have e0 := cAt (k := 0) (v := .int .i64 0) (HS.out.get 1 rfl) rfl
     try simp only at e0
     clear HFi e0
     have hok := htr.at_.ok
     have HRd : Hid (∀ W, Calls Tryz.prog 28 #[.agg (cpC x.c)] W fun e w' => e = .returned (.tuple #[.agg (rcC (DevM.rc x)), .int .i64 (RecM.newest x.c), .int .i64 0]) ∧ Below W.heap.size W w') := fun W => by
       have := rdR x.c W
       rw [RecM.readOf_ok hok.cops] at this
       exact this
     clear hok
     have bPD := HS.out.get 2 rfl
     simp only at bPD
     go_wp2_with (first
       | ((with_reducible show wpList _ _ _ _ _ _); refine wLP rfl 31 (.tmp 110) rfl PD 2 rfl (dvC h17 x) 37 (0, 0) ?_ (cpC x.c) ?_ _ Tryz.underlying31 rfl ?_ ?_; exact bPD; exact (part_cops h17 x); exact (sCp x.c)))
     clear bPD
     refine (HRd.out _).mono ?_
     rintro e W1 ⟨rfl, hb⟩
     replace HS := LH (HS.out.later hb)
     clear hb
     obtain ⟨P18, hP18⟩ : ∃ P, W1.heap.size = P := ⟨_, rfl⟩
     replace HS := LH (HS.out.alloc hP18 (rcC (DevM.rc x)) 28)
     go_upto_region 19 with ((with_reducible show wpList _ _ _ _ _ _); refine wSN rfl 28 (.tmp 18) (.tmp 113) rfl P18 (rcC (DevM.rc x)) rfl rfl 28 _ ?_ ?_ ?_ ?_ ?_; exact hP18.symm; exact (sRc (DevM.rc x)); exact (lRc (DevM.rc x)); exact (oRc (DevM.rc x)))
     refine gnH HS.out (fun V18 HS1 => ?_)
     replace HS := LH HS1
     clear HS1 hP18 HRd
     have f2 := htr.try_
     have f1 : (DevM.rc x).act = 0 := htr.at_.act0
     have f8 : (DevM.rc x).i1.ver = TO := by have := hver; unfold DevM.info RecM.inf at this; simpa using this
     have f9 : (DevM.rc x).i1.size = (N1 : Int) := by have := hsize; unfold DevM.info RecM.inf at this; rw [← HYl.out]; simpa using this
     have hat := htr.at_
     have hs1 : x.s1.take N1 = Y := by
       have := himg
       unfold DevM.image DevM.slot at this
       rw [hsize, Int.toNat_natCast, HYl.out] at this
       simpa using this
     have hl1 : x.s1.length = 64 := hat.ok.l1
     clear hver hsize himg htr
     have cq0 := cAt (k := 0) (v := .slice h17.a0 h17.n0 h17.c0) (HS.out.get 3 rfl) rfl
     try simp only at cq0
     have b7 := (HS.out.fact 0 rfl).b0
     have hn7 : h17.n0 = 64 := by rw [← b7.len]; exact hat.long.1
     have hc7 := b7.le
     have hN64 : (0 : Int) ≤ (N0 : Int) := by omega
     have hcut0 : ∀ W, (Instr.slice 22 (.slice h17.a0 h17.n0 h17.c0) none (some (.int .i64 (N0 : Int))) none).run Tryz.prog W = .ok (.slice h17.a0 N0 h17.c0) W := fun W => rCh h17.a0 h17.n0 h17.c0 W N0 (by omega)
     have hbg := hat.begins
     rw [HXl.out] at hbg
     have HEq0 : Hid (∀ W, DH W h17 x → BS W a0 N0 c0 X → Calls Tryz.prog 27 #[.slice h17.a0 N0 h17.c0, .slice a0 N0 c0] W fun e w' => e = .returned (.bool true) ∧ Below W.heap.size W w') := fun W k1 k2 => by
       have b8 := k1.b0.head N0 (by rw [hn7]; omega)
       rw [hbg] at b8
       have := eqB _ _ _ _ _ _ _ _ W b8 k2
       rw [decide_eq_true (rfl : X = X)] at this
       exact this.mono fun _ _ ⟨h1, h2⟩ => ⟨h1, h2 ▸ Below.refl _ _⟩
     clear b7 hbg hat cq0
     have b9 := (HS.out.fact 0 rfl).b1
     have hn9 : h17.n1 = 64 := by rw [← b9.len]; exact hl1
     have hc9 := b9.le
     have hN641 : (0 : Int) ≤ (N1 : Int) := by omega
     have hcut1 : ∀ W, (Instr.slice 22 (.slice h17.a1 h17.n1 h17.c1) none (some (.int .i64 (N1 : Int))) none).run Tryz.prog W = .ok (.slice h17.a1 N1 h17.c1) W := fun W => rCh h17.a1 h17.n1 h17.c1 W N1 (by omega)
     have HEq1 : Hid (∀ W, DH W h17 x → BS W a1 N1 c1 Y → Calls Tryz.prog 27 #[.slice h17.a1 N1 h17.c1, .slice a1 N1 c1] W fun e w' => e = .returned (.bool true) ∧ Below W.heap.size W w') := fun W k1 k2 => by
       have b8 := k1.b1.head N1 (by rw [hn9]; omega)
       rw [hs1] at b8
       have := eqB _ _ _ _ _ _ _ _ W b8 k2
       rw [decide_eq_true (rfl : Y = Y)] at this
       exact this.mono fun _ _ ⟨h1, h2⟩ => ⟨h1, h2 ▸ Below.refl _ _⟩
     clear b9 hs1 hl1 hn7 hc7 hn9 hc9
     refine rTu (S := MS w [(P18, (rcC (DevM.rc x)), 28), (PL, #[.slice la ln lc], 32), ((PD + 1), #[.int .i64 0], 40), (PD, (dvC h17 x), 37), ((PB + 1), #[.int .i64 keep], 3), (PB, #[.slice a1 N1 c1], 22)] [] []) [(0, false), (1, false), (2, false), (3, false), (4, false), (5, false), (6, false), (7, false), (8, false), (9, false), (10, false), (11, false), (12, false), (13, false), (14, false), (15, false), (16, false), (17, false), (18, false), (19, false), (20, false), (21, false), (22, false), (23, false), (24, false), (25, false), (26, false), (27, false), (28, false), (29, false), (30, false), (31, false), (32, false), (33, true), (34, false), (35, false), (36, false), (37, false), (38, false), (39, false), (40, false), (41, false), (42, false), (43, true), (44, false), (45, false)] false 9999 (by kernel_rfl) (by kernel_rfl) HS.out.ms.drew ?_
     simp only [turned, gA, gB, gC]
     replace HS := LH HS.out.drew
     have uPDp1_0 : ∀ W, MS w [(P18, (rcC (DevM.rc x)), 28), (PL, #[.slice la ln lc], 32), ((PD + 1), #[.int .i64 0], 40), (PD, (dvC h17 x), 37), ((PB + 1), #[.int .i64 keep], 3), (PB, #[.slice a1 N1 c1], 22)] [] [] W → W.cell? ⟨PD + 1, 0, none⟩ = some (.int .i64 0) := fun W hW => cAt (hW.get 2 rfl) rfl
     have uP18_2 : ∀ W, MS w [(P18, (rcC (DevM.rc x)), 28), (PL, #[.slice la ln lc], 32), ((PD + 1), #[.int .i64 0], 40), (PD, (dvC h17 x), 37), ((PB + 1), #[.int .i64 keep], 3), (PB, #[.slice a1 N1 c1], 22)] [] [] W → W.cell? ⟨P18, 2, none⟩ = some (.bool true) := fun W hW => by
       have := cAt (k := 2) (v := .bool (DevM.rc x).trying) (hW.get 0 rfl) rfl
       rwa [f2] at this
     have uP18_1 : ∀ W, MS w [(P18, (rcC (DevM.rc x)), 28), (PL, #[.slice la ln lc], 32), ((PD + 1), #[.int .i64 0], 40), (PD, (dvC h17 x), 37), ((PB + 1), #[.int .i64 keep], 3), (PB, #[.slice a1 N1 c1], 22)] [] [] W → W.cell? ⟨P18, 1, none⟩ = some (.int .i64 0) := fun W hW => by
       have := cAt (k := 1) (v := .int .i64 (DevM.rc x).act) (hW.get 0 rfl) rfl
       rwa [f1] at this
     have uP18_8 : ∀ W, MS w [(P18, (rcC (DevM.rc x)), 28), (PL, #[.slice la ln lc], 32), ((PD + 1), #[.int .i64 0], 40), (PD, (dvC h17 x), 37), ((PB + 1), #[.int .i64 keep], 3), (PB, #[.slice a1 N1 c1], 22)] [] [] W → W.cell? ⟨P18, 8, none⟩ = some (.int .i64 TO) := fun W hW => by
       have := cAt (k := 8) (v := .int .i64 (DevM.rc x).i1.ver) (hW.get 0 rfl) rfl
       rwa [f8] at this
     have uP18_9 : ∀ W, MS w [(P18, (rcC (DevM.rc x)), 28), (PL, #[.slice la ln lc], 32), ((PD + 1), #[.int .i64 0], 40), (PD, (dvC h17 x), 37), ((PB + 1), #[.int .i64 keep], 3), (PB, #[.slice a1 N1 c1], 22)] [] [] W → W.cell? ⟨P18, 9, none⟩ = some (.int .i64 (N1 : Int)) := fun W hW => by
       have := cAt (k := 9) (v := .int .i64 (DevM.rc x).i1.size) (hW.get 0 rfl) rfl
       rwa [f9] at this
     have uPD_1 : ∀ W, MS w [(P18, (rcC (DevM.rc x)), 28), (PL, #[.slice la ln lc], 32), ((PD + 1), #[.int .i64 0], 40), (PD, (dvC h17 x), 37), ((PB + 1), #[.int .i64 keep], 3), (PB, #[.slice a1 N1 c1], 22)] [] [] W → W.cell? ⟨PD, 1, none⟩ = some (.slice h17.a1 h17.n1 h17.c1) := fun W hW => cAt (hW.get 3 rfl) rfl
     have uPD_0 : ∀ W, MS w [(P18, (rcC (DevM.rc x)), 28), (PL, #[.slice la ln lc], 32), ((PD + 1), #[.int .i64 0], 40), (PD, (dvC h17 x), 37), ((PB + 1), #[.int .i64 keep], 3), (PB, #[.slice a1 N1 c1], 22)] [] [] W → W.cell? ⟨PD, 0, none⟩ = some (.slice h17.a0 h17.n0 h17.c0) := fun W hW => cAt (hW.get 3 rfl) rfl
     have uPB_0 : ∀ W, MS w [(P18, (rcC (DevM.rc x)), 28), (PL, #[.slice la ln lc], 32), ((PD + 1), #[.int .i64 0], 40), (PD, (dvC h17 x), 37), ((PB + 1), #[.int .i64 keep], 3), (PB, #[.slice a1 N1 c1], 22)] [] [] W → W.cell? ⟨PB, 0, none⟩ = some (.slice a1 N1 c1) := fun W hW => cAt (hW.get 5 rfl) rfl
     repeat (first
       | (refine tSt ?_ (by rfl) (fun W9 hW9 => ?_) ?_
          rotate_left
          · (go_simp <;> with_reducible rfl)
          simp only [Act.put, sA, sB, sC])
       | (refine tSk (by rfl) ?_; simp only [Act.put, sA, sB, sC]))
     refine tCa (fun K hK => ?_)
     go_simp
     go_at_call 27
     with_reducible refine (HEq1.out _ (HS.out.fact 0 rfl) (HB1.out.later HS.out.below)).mono ?_
     rintro e W2 ⟨rfl, hb⟩
     replace HS := LH (HS.out.later hb)
     clear hb
     try go_wp2_with fail
     refine hK.out _ _ HS.out.ms ?_
     clear hK K
     try simp only [Act.put, sA, sB, sC]
     repeat (first
       | (refine tSt ?_ (by rfl) (fun W9 hW9 => ?_) ?_
          rotate_left
          · (go_simp <;> with_reducible rfl)
          simp only [Act.put, sA, sB, sC])
       | (refine tSk (by rfl) ?_; simp only [Act.put, sA, sB, sC]))
     refine tCa (fun K hK => ?_)
     go_simp
     go_at_call 27
     with_reducible refine (HEq0.out _ (HS.out.fact 0 rfl) (HB0.out.later HS.out.below)).mono ?_
     rintro e W3 ⟨rfl, hb⟩
     replace HS := LH (HS.out.later hb)
     clear hb
     try go_wp2_with fail
     refine hK.out _ _ HS.out.ms ?_
     clear hK K
     try simp only [Act.put, sA, sB, sC]
     repeat (first
       | (refine tSt ?_ (by rfl) (fun W9 hW9 => ?_) ?_
          rotate_left
          · (go_simp <;> with_reducible rfl)
          simp only [Act.put, sA, sB, sC])
       | (refine tSk (by rfl) ?_; simp only [Act.put, sA, sB, sC]))
     clear uPDp1_0 uP18_2 uP18_1 uP18_8 uP18_9 uPD_1 uPD_0 uPB_0
     refine tEn ?_
     go_wp2_with fail
     go_ret
     exact ⟨rfl, HS.out.below⟩
end Go.Proofs.YtmpmaljkmfgagacGreat
