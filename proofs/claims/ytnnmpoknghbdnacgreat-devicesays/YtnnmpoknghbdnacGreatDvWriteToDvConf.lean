/-
  Texts put into one: DvWrite, DvCrash, RecStart, DvBoot, RecConf, DvConf.
-/
import Derived.Test.YtnnmpoknghbdnacGreatPatLToPSame
import Derived.Test.YtnnmpoknghbdnacGreatCopyStToDifThree
import Derived.Test.YtnnmpoknghbdnacGreatDvUpToPackRes
import Derived.Test.YtnnmpoknghbdnacGreatDvOpenToDvHear
import Derived.Test.YtnnmpoknghbdnacGreatRowToChSt
import Derived.Test.YtnnmpoknghbdnacGreatUnpackToLawG
import Derived.Deep.DeepCutAuto
set_option maxRecDepth 100000
set_option maxHeartbeats 4000000
namespace Go.Proofs.YtnnmpoknghbdnacGreat
open Go.RowKit
theorem own_two {W : World} {m0 m1 m2 : Nat} {h : DevH} {d : DevR} (O : Nat) (hO : O < 2) (l1 : m0 ≤ m1) (l2 : m1 ≤ m2) (b0 : ∀ x ∈ d.s0, 0 ≤ x ∧ x ≤ 255) (b1 : ∀ x ∈ d.s1, 0 ≤ x ∧ x ≤ 255) (o0 : Has m0 m1 W (Own m0 h.a0 h.n0 h.c0 d.s0)) (o1 : Has m1 m2 W (Own m1 h.a1 h.n1 h.c1 d.s1)) :
 ∃ x0 x1 y0 y1, m0 ≤ x0 ∧ x0 ≤ x1 ∧ x1 ≤ m2 ∧ m0 ≤ y0 ∧ y0 ≤ y1 ∧ y1 ≤ m2 ∧ (x1 ≤ y0 ∨ y1 ≤ x0) ∧ Has x0 x1 W (Own x0 (slA h (O : Int)) (slN h (O : Int)) (slC h (O : Int)) (DevM.slot d (O : Int))) ∧ Has y0 y1 W (fun V => BS V (slA h (1 - (O : Int))) (slN h (1 - (O : Int))) (slC h (1 - (O : Int))) (DevM.slot d (1 - (O : Int)))) := by
 rcases (show O = 0 ∨ O = 1 by omega) with rfl | rfl
 · exact ⟨m0, m1, m1, m2, Nat.le_refl _, l1, l2, l1, l2, Nat.le_refl _, .inl (Nat.le_refl _), o0, o1.imp (fun V k => BS.of_own k b1)⟩
 · exact ⟨m1, m2, m0, m1, l1, l2, Nat.le_refl _, Nat.le_refl _, l1, l2, .inr (Nat.le_refl _), o1, o0.imp (fun V k => BS.of_own k b0)⟩
theorem set_dh {V : World} {h : DevH} {d : DevR} {l : List Int} (O : Nat) (hO : O < 2) (k0 : BS V (slA h (O : Int)) (slN h (O : Int)) (slC h (O : Int)) l) (k1 : BS V (slA h (1 - (O : Int))) (slN h (1 - (O : Int))) (slC h (1 - (O : Int))) (DevM.slot d (1 - (O : Int)))) :
 BS V h.a0 h.n0 h.c0 (DevM.setSlot d (O : Int) l).s0 ∧ BS V h.a1 h.n1 h.c1 (DevM.setSlot d (O : Int) l).s1 := by
 rcases (show O = 0 ∨ O = 1 by omega) with rfl | rfl
 · exact ⟨k0, k1⟩
 · exact ⟨k1, k0⟩
theorem cells_done (h : DevH) (d : DevR) (O : Nat) (hO : O < 2) (l : List Int) (z : Int) : dvC h { d with done := z } = dvC h { DevM.setSlot d (O : Int) l with done := z } := by
 rcases (show O = 0 ∨ O = 1 by omega) with rfl | rfl <;> rfl
theorem cells_off (h : DevH) (d : DevR) (O : Nat) (hO : O < 2) (l : List Int) : dvC h (DevM.off d) = dvC h (DevM.off (DevM.setSlot d (O : Int) l)) := by
 rcases (show O = 0 ∨ O = 1 by omega) with rfl | rfl <;> rfl
theorem writeD_bad (h : DevH) (d : DevR) (torn : Bool) (keep : Int) (w : World) (HD : DH w h d) (E : Int) (h0 : E ≠ 0) (HBg : Hid (∀ W, DH W h d → Calls Tryz.prog 74 #[.agg (dvC h d), .bool true] W fun e w' => e = .returned (.tuple #[.agg (rcC RecM.noRec), .int .i64 E]) ∧ Below W.heap.size W w')) : Calls Tryz.prog 21 #[devV h d, .bool torn, .int .i64 keep] w (GDv (DevM.noDev, E) w) := by
 have t0 : (E != 0) = true := by simp [h0]
 have HDh := LH HD; clear HD; unfold devV; obtain ⟨P1, hP1⟩ : ∃ P, w.heap.size = P := ⟨_, rfl⟩; have HS := LH (((((MS.start w).alloc (p := P1) (by simp [hP1]) (dvC h d) 37)).alloc (p := (P1 + 1)) (by simp [hP1]) zDev 37)); go_enter Tryz.func21, Tryz.ntmps21; go_upto_region 1 with fail; refine zau HS.out (fun V0 HS1 => ?_); replace HS := LH HS1; clear HS1 hP1; replace HS := LH (MH.of HS.out); have bP1 := HS.out.gt 1 rfl
 go_wp2_with (first
  | ((with_reducible show wpList _ _ _ _ _ _); refine LR rfl (t := 37) U37 rfl (.tmp 3) rfl P1 rfl bP1 (sDv h d) ?_))
 clear bP1; refine (HBg.out _ (HDh.out.later HS.out.below)).mono ?_; rintro e W1 ⟨rfl, hb⟩; replace HS := LH (HS.out.later hb); clear hb; obtain ⟨P3, hP3⟩ : ∃ P, W1.heap.size = P := ⟨_, rfl⟩; replace HS := LH (HS.out.alloc hP3 (rcC RecM.noRec) 28); go_upto_region 2 with ((with_reducible show wpList _ _ _ _ _ _); refine wSN rfl 28 (.tmp 8) (.tmp 15) rfl P3 (rcC RecM.noRec) rfl rfl 28 _ ?_ ?_ ?_ ?_ ?_; exact hP3.symm; exact (sRc RecM.noRec); exact (lRc RecM.noRec); exact (oRc RecM.noRec)); refine gnH HS.out (fun V1 HS1 => ?_); replace HS := LH HS1; clear HS1 hP3; have bP1p1 := HS.out.gt 1 rfl; have HG := LH (HS.out.set 1 rfl zDev)
 go_wp2_with (first
  | ((with_reducible show wpList _ _ _ _ _ _); refine wpList_store_row rfl 37 (.tmp 6) (.tmp 19) rfl (P1 + 1) zDev rfl rfl 37 zDev ?_ ?_ ?_ ?_ ?_; exact bP1p1; exact zac; exact zav; exact zaq))
 clear bP1p1; refine bodyPost_ret (v := .tuple #[.agg zDev, .int .i64 E]) ?_ rfl ?_
 · exact zam (fn := Tryz.f21) (p := 6) (a := 7) rfl rfl rfl (HG.out.get 1 rfl) U37 rfl zac
 · exact GDv.bad HG.out.below
theorem writeD_ok (h : DevH) (d : DevR) (torn : Bool) (keep : Int) (w : World) (HD : DH w h d) (HBg : Hid (∀ W, DH W h d → Calls Tryz.prog 74 #[.agg (dvC h d), .bool true] W fun e w' => e = .returned (.tuple #[.agg (rcC (DevM.rc d)), .int .i64 0]) ∧ Below W.heap.size W w')) (hok : DevM.Ok d) (hu : d.up = true) : Calls Tryz.prog 21 #[devV h d, .bool torn, .int .i64 keep] w (GDv (DevM.write d torn keep) w) := by
 have HOk := LH hok; have hbz := hok.up hu; have hrk := hok.rec_; have ha : (DevM.rc d).act = 0 ∨ (DevM.rc d).act = 1 := hok.act01; clear hu; have HDh := LH HD; clear HD; unfold devV; obtain ⟨P1, hP1⟩ : ∃ P, w.heap.size = P := ⟨_, rfl⟩; have HS := LH (((((MS.start w).alloc (p := P1) (by simp [hP1]) (dvC h d) 37)).alloc (p := (P1 + 1)) (by simp [hP1]) zDev 37)); go_enter Tryz.func21, Tryz.ntmps21; go_upto_region 1 with fail; refine zau HS.out (fun V0 HS1 => ?_); replace HS := LH HS1; clear HS1 hP1; replace HS := LH (MH.of HS.out); have bP1 := HS.out.gt 1 rfl
 go_wp2_with (first
  | ((with_reducible show wpList _ _ _ _ _ _); refine LR rfl (t := 37) U37 rfl (.tmp 3) rfl P1 rfl bP1 (sDv h d) ?_))
 clear bP1; refine (HBg.out _ (HDh.out.later HS.out.below)).mono ?_; rintro e W1 ⟨rfl, hb⟩; replace HS := LH (HS.out.later hb); clear hb; obtain ⟨P3, hP3⟩ : ∃ P, W1.heap.size = P := ⟨_, rfl⟩; replace HS := LH (HS.out.alloc hP3 (rcC (DevM.rc d)) 28); go_upto_region 2 with ((with_reducible show wpList _ _ _ _ _ _); refine wSN rfl 28 (.tmp 8) (.tmp 15) rfl P3 (rcC (DevM.rc d)) rfl rfl 28 _ ?_ ?_ ?_ ?_ ?_; exact hP3.symm; exact (sRc (DevM.rc d)); exact (lRc (DevM.rc d)); exact (oRc (DevM.rc d))); refine gnH HS.out (fun V1 HS1 => ?_); replace HS := LH HS1; clear HS1 hP3; have cP1_29 := HS.out.cel 2 29 (v := .bool d.busy) rfl rfl; have cP1_36 := HS.out.cel 2 36 (v := .int .i64 d.done) rfl rfl; have cP1_34 := HS.out.cel 2 34 (v := .int .i64 d.job.size) rfl rfl; by_cases hl : d.busy = false ∨ d.job.size ≤ d.done
 case pos =>
  have HR : Hid ((DevM.write d torn keep) = (DevM.noDev, 5)) := LH (if_pos hl); rcases Bool.eq_false_or_eq_true d.busy with hb | hb
  · have t2 : decide (d.done ≥ d.job.size) = true := by
     rcases hl with z | z
     · rw [hb] at z; cases z
     · simp [z]
    rw [hb] at cP1_29; clear hl hb hbz ha hrk hok; have bP1p1 := HS.out.gt 1 rfl; have HG := LH (HS.out.set 1 rfl zDev)
    go_wp2_with (first
     | ((with_reducible show wpList _ _ _ _ _ _); refine wpList_store_row rfl 37 (.tmp 6) (.tmp 32) rfl (P1 + 1) zDev rfl rfl 37 zDev ?_ ?_ ?_ ?_ ?_; exact bP1p1; exact zac; exact zav; exact zaq))
    clear cP1_29 cP1_36 cP1_34 bP1p1; refine bodyPost_ret (v := .tuple #[.agg zDev, .int .i64 5]) ?_ rfl ?_
    · exact zam (fn := Tryz.f21) (p := 6) (a := 7) rfl rfl rfl (HG.out.get 1 rfl) U37 rfl zac
    · rw [HR.out]
      exact GDv.bad HG.out.below
  · rw [hb] at cP1_29
    clear hl hb hbz ha hrk hok; have bP1p1 := HS.out.gt 1 rfl; have HG := LH (HS.out.set 1 rfl zDev)
    go_wp2_with (first
     | ((with_reducible show wpList _ _ _ _ _ _); refine wpList_store_row rfl 37 (.tmp 6) (.tmp 32) rfl (P1 + 1) zDev rfl rfl 37 zDev ?_ ?_ ?_ ?_ ?_; exact bP1p1; exact zac; exact zav; exact zaq))
    clear cP1_29 cP1_36 cP1_34 bP1p1; refine bodyPost_ret (v := .tuple #[.agg zDev, .int .i64 5]) ?_ rfl ?_
    · exact zam (fn := Tryz.f21) (p := 6) (a := 7) rfl rfl rfl (HG.out.get 1 rfl) U37 rfl zac
    · rw [HR.out]
      exact GDv.bad HG.out.below
 have hbu : d.busy = true := by
  cases q : d.busy with
  | true => rfl
  | false => exact absurd (.inl q) hl
 have hB := hbz.busy hbu; have hdo := DevM.done_ok hB.does; have hsz := DevM.size_le hdo.1; have hd0 := hB.d0; have hd8 := hB.d8
 have t2 : decide (d.done ≥ d.job.size) = false := by
  have : ¬ d.job.size ≤ d.done := fun q => hl (.inr q); simp; omega
 obtain ⟨D, hD, hD8⟩ : ∃ D : Nat, d.done = D ∧ D + 8 ≤ 64 := ⟨d.done.toNat, by omega, by have : ¬ d.job.size ≤ d.done := fun q => hl (.inr q); omega⟩; obtain ⟨O, hO, hO2⟩ := zb9 ha; have hOd : DevM.oth d = (O : Int) := hO; obtain ⟨xb, hxb⟩ : ∃ x, DevM.new d = x := ⟨_, rfl⟩; have hX : zaz d.job (DevM.image d (DevM.act d)) = (xb, 0) := Prod.ext hxb hB.does
 have hxl : xb.length ≤ 64 := by
  have h9 := hdo.2.2.2.1; rw [hX] at h9; simp only at h9; omega
 obtain ⟨M, hM, hM8⟩ : ∃ M : Nat, DevM.many torn keep = M ∧ M ≤ 8 := ⟨(DevM.many torn keep).toNat, by unfold DevM.many; split <;> omega, by unfold DevM.many; split <;> omega⟩; obtain ⟨Z, hZ, hZD⟩ : ∃ Z : Nat, (D : Int) + (M : Int) = Z ∧ Hid (Z = D + M) := ⟨D + M, by omega, LH rfl⟩
 have HR : Hid ((DevM.write d torn keep) = if torn then (DevM.off (DevM.setSlot d (O : Int) (DevM.over (DevM.slot d (O : Int)) xb D M)), 0) else ({ DevM.setSlot d (O : Int) (DevM.over (DevM.slot d (O : Int)) xb D M) with done := (Z : Int) }, 0)) := by
  show _ = _; unfold DevM.write; rw [if_neg hl, hOd, hxb, hD, Int.toNat_natCast]
  cases torn with
  | true =>
    rw [hM, Int.toNat_natCast]
    rfl
  | false =>
    obtain rfl : M = 8 := by
     have : (8 : Int) = M := hM; omega
    rw [← hZ]
    rfl
 have HZi : Hid (I64 (Z : Int)) := LH (by unfold I64; have := hZD.out; omega); have hms := (RecM.inf_nums (RecM.check_inf hrk (DevM.act d))).2.1; obtain ⟨m, hm⟩ : ∃ m : Nat, (RecM.inf (DevM.rc d) (DevM.act d)).size = m := ⟨(RecM.inf (DevM.rc d) (DevM.act d)).size.toNat, by omega⟩; have hm64 : m ≤ 64 := by omega
 have hsA := slB_len HDh.out hok ha; have hln := DevM.slot_len hok (DevM.oth d); rw [hOd] at hln; have HSl := LH hln; have HXl := LH hxl; have HO := othN_any _ O hO ha; have hO0 : (0 : Int) ≤ (O : Int) := by omega
 have hOI : (O : Int) < 2 := by omega
 have HI : Hid (∀ W, Calls Tryz.prog 80 #[.agg (dvC h d), .agg (rcC (DevM.rc d))] W fun e w' => e = .returned (.slice (slA h (DevM.rc d).act) m (slC h (DevM.rc d).act)) ∧ Below W.heap.size W w') := fun W => imageD_any h d (DevM.rc d) ha m hm (by omega) W
 have HDo : Hid (∀ W, DH W h d → Calls Tryz.prog 79 #[.agg (jbC h.oa h.on h.oc d.job), .slice (slA h (DevM.rc d).act) m (slC h (DevM.rc d).act)] W (zb1 (xb, 0) W)) := fun W hd => by
  have := doP_any _ _ _ _ _ _ W hd.job ((hd.slB ha).head m (by omega))
  rw [← show DevM.image d (DevM.act d) = (DevM.slot d (DevM.rc d).act).take m from by
   unfold DevM.image DevM.info; rw [hm, Int.toNat_natCast]
   rfl, hX] at this
  exact this
 have HCy := LH (fun W (x : DH W h d) => copiedD_any h d W x (DevM.few_of hok)); have HOf := LH (fun h W => offD_any h d W); unfold devV at HCy HOf
 have HFl : Hid (∀ W F ab nb cb, W.heap.size = F → BS W ab nb cb xb → Calls Tryz.prog 57 #[.slice ab nb cb] W fun e w' => e = .returned (.slice (some ⟨F, 0, none⟩) 64 64) ∧ w' = W.alloc (.cells (zaX xb) 5)) := fun W F ab nb cb hF hb => by
  subst hF; exact zbZ ab nb cb xb W hb (by have := hb.len; omega)
 rw [hbu] at cP1_29; rw [hD] at cP1_36 t2; have HDn := LH hD; have HMm := LH hM; clear hX hxb hbz hrk hdo hsz hd0 hd8 hms hm hm64 hsA hln hxl hO ha hok hbu hl hB hOd hD hM; go_wp2_with fail; clear cP1_29 cP1_36 cP1_34; clear t2; refine rTu (S := MS w [(P3, (rcC (DevM.rc d)), 28), ((P1 + 1), zDev, 37), (P1, (dvC h d), 37)] [] []) [(0, false), (1, false), (2, false), (3, false), (4, true), (5, true), (6, false), (7, false), (8, false), (9, false), (10, false)] false 9999 (by kernel_rfl) (by kernel_rfl) HS.out.ms.drew ?_; simp only [turned, gA, gB, gC]; replace HS := LH HS.out.drew
 repeat (first
  | ((refine turn_part (by rfl) 35 (.tmp 34) rfl P1 30 rfl 37 (dvC h d) (fun W hW => hW.get 2 rfl) (jbC h.oa h.on h.oc d.job) (zay h d) _ U35 rfl (sJb _ _ _ _) ?_); simp only [Act.put, sA, sB, sC])
  | ((refine zaw (by rfl) 37 (.tmp 3) rfl P1 rfl 37 (dvC h d) _ (fun W hW => hW.get 2 rfl) U37 rfl (sDv h d) ?_); simp only [Act.put, sA, sB, sC])
  | ((refine zaw (by rfl) 28 (.tmp 8) rfl P3 rfl 28 (rcC (DevM.rc d)) _ (fun W hW => hW.get 0 rfl) U28 rfl (sRc (DevM.rc d)) ?_); simp only [Act.put, sA, sB, sC])
  | (refine tSt ?_ (by rfl) (fun W9 hW9 => ?_) ?_
     rotate_left
     · (go_simp <;> with_reducible rfl)
     simp only [Act.put, sA, sB, sC])
  | (refine tSk (by rfl) ?_; simp only [Act.put, sA, sB, sC]))
 refine tCa (fun K hK => ?_); go_simp; go_at_call 80; with_reducible refine (HI.out _).mono ?_
 rintro e W2 ⟨rfl, hb⟩; replace HS := LH (HS.out.later hb); clear hb
 try go_wp2_with fail
 refine hK.out _ _ HS.out.ms ?_; clear hK K
 try simp only [Act.put, sA, sB, sC]
 refine tCa (fun K hK => ?_); go_simp; go_at_call 79; with_reducible refine (HDo.out _ (HDh.out.later HS.out.below)).mono ?_
 rintro e W3 ⟨ab, nb, cb, rfl, hbs, hb⟩; replace HS := LH (HS.out.later hb); have HXb := LH hbs.bytes; simp only at HXb hbs
 obtain ⟨lo, hi, q1, q2, q3, q4⟩ := bs_has HS.out.ms hbs (fun p hp => by
  simp only [List.mem_cons, List.not_mem_nil, or_false] at hp; rcases hp with rfl | rfl | rfl
  · exact noU8_rec _
  · exact noU8_zdev
  · exact noU8_dev _ _)
 replace HS := LH (HS.out.more q4 q1 q2); clear hb hbs q1 q2 q3 q4
 try go_wp2_with fail
 refine hK.out _ _ HS.out.ms ?_; clear hK K
 try simp only [Act.put, sA, sB, sC]
 repeat (first
  | (refine tSt ?_ (by rfl) (fun W9 hW9 => ?_) ?_
     rotate_left
     · (go_simp <;> with_reducible rfl)
     simp only [Act.put, sA, sB, sC])
  | (refine tSk (by rfl) ?_; simp only [Act.put, sA, sB, sC]))
 refine tEn ?_; clear HI HDo; have cP1_36 := HS.out.cel 2 36 (v := .int .i64 d.done) rfl rfl; rw [HDn.out] at cP1_36; go_upto_region 10 with fail; go_upto_if 49 with fail; go_cut [11] (fun s11 wx => s11 = .int .i64 (Z : Int) ∧ wx = W3)
 case first =>
  cases torn with
  | true =>
    have hk1 : (if keep ≤ 0 then 0 else keep) = max keep 0 := by split <;> omega
    have hk2 : min (max keep 0) 8 = (M : Int) := by
     rw [← HMm.out]; unfold DevM.many; rw [if_pos rfl]; omega
    go_wp2_with fail; go_meet; exact ⟨rfl, rfl⟩
  | false =>
    obtain rfl : M = 8 := by
     have : (8 : Int) = M := HMm.out; omega
    go_wp2_with fail; go_meet; exact ⟨by rw [← hZ]; rfl, rfl⟩
 case' rest =>
  obtain ⟨rfl, rfl⟩ := hcut
 have bP1 := HS.out.gt 2 rfl
 go_wp2_with (first
  | ((with_reducible show wpList _ _ _ _ _ _); refine LR rfl (t := 37) U37 rfl (.tmp 3) rfl P1 rfl bP1 (sDv h d) ?_))
 clear bP1
 try clear cP1_36
 have hlt : ∀ p ∈ [(P3, (rcC (DevM.rc d)), 28), ((P1 + 1), zDev, 37), (P1, (dvC h d), 37)], p.1 < wc.heap.size := fun p hp => HS.out.ms.lt hp; refine (HCy.out _ (HDh.out.later HS.out.below)).mono ?_; rintro e W4 ⟨h', m0, m1, m2, mB, m3, m4, rfl, hb, l0, l1, l2, l3, l4, l5, -, -, o0, o1, o2, o3⟩; obtain ⟨x0, x1, y0, y1, r0, r1, r2, r3, r4, r5, r6, ox, oy⟩ := own_two O hO2 l1 l2 HDh.out.b0.bytes HDh.out.b1.bytes o0 o1; clear o0 o1; replace hlt : ∀ p ∈ [(P3, (rcC (DevM.rc d)), 28), ((P1 + 1), zDev, 37), (P1, (dvC h d), 37)], p.1 < m0 := fun p hp => Nat.lt_of_lt_of_le (hlt p hp) l0; have hw0 : w.heap.size ≤ m0 := Nat.le_trans HS.out.below.size l0; have hhi : hi ≤ m0 := Nat.le_trans (HS.out.has _ (List.mem_cons_self ..)).1 l0; replace HS := LH (HS.out.later hb); replace HS := LH (HS.out.put o3 (by omega) (fun p hp => by have := hlt p hp; omega)); replace HS := LH (HS.out.put o2 (by omega) (fun p hp => by have := hlt p hp; omega)); replace HS := LH (HS.out.put oy (by omega) (fun p hp => by have := hlt p hp; omega)); replace HS := LH (HS.out.put ox (by omega) (fun p hp => by have := hlt p hp; omega)); clear hb o2 o3 ox oy; unfold devV
 have hn : (slN h' (O : Int)) = 64 := by
  have h9 := (HS.out.fact 0 rfl).1; simp only [List.length_map, Nat.mul_one] at h9; have := HSl.out; omega
 have HS2 := LH (HS.out.set 2 rfl (dvC h' d)); have bP1 := HS.out.gt 2 rfl; have HN := LH hn; clear hn; have HLt := LH hlt; clear hlt
 go_upto_region 13 with (first
  | ((with_reducible show wpList _ _ _ _ _ _); refine wpList_store_row rfl 37 (.tmp 3) (.tmp 57) rfl P1 (dvC h' d) rfl rfl 37 (dvC h d) ?_ ?_ ?_ ?_ ?_; exact bP1; exact (sDv h' d); exact (lDv h h' d d); exact (oDv h' d)))
 clear bP1; refine gnH HS2.out (fun V5 HS1 => ?_); replace HS := LH HS1; clear HS1 HS2; obtain ⟨gs, cur0, ea, q5, -, -, q8, -, -, -⟩ := own_lies (HS.out.has (x0, x1, Own x0 (slA h' (O : Int)) (slN h' (O : Int)) (slC h' (O : Int)) (DevM.slot d (O : Int))) (List.mem_cons_self ..)) (by rw [HN.out]; decide); clear cur0
 have hcut1 : ∀ W, (Instr.slice 22 (.slice (slA h' (O : Int)) (slN h' (O : Int)) (slC h' (O : Int))) (some (.int .i64 (D : Int))) none none).run Tryz.prog W = .ok (.slice (some ⟨gs, D, none⟩) ((slN h' (O : Int)) - D) ((slC h' (O : Int)) - D)) W := fun W => by
  have := HN.out; rw [ea, zaU _ _ _ W D (by omega), cutA_pos (by omega)]
 have hcut2 : ∀ F W, (Instr.slice 22 (.slice (some ⟨F, 0, none⟩) 64 64) (some (.int .i64 (D : Int))) (some (.int .i64 (Z : Int))) none).run Tryz.prog W = .ok (.slice (some ⟨F, D, none⟩) M (64 - D)) W := fun F W => by
  have := hZD.out; rw [za6 _ _ _ W D Z (by omega) (by omega), cutA_pos (by omega), show Z - D = M by omega]
 have HEa := LH ea; have HQ := LH (And.intro q5 q8); clear ea q5 q8; refine rTu (S := MS w [(P3, (rcC (DevM.rc d)), 28), ((P1 + 1), zDev, 37), (P1, (dvC h' d), 37)] [] []) [(0, false), (1, false), (3, false), (6, false), (7, false), (9, false), (11, false), (12, false), (13, false), (2, true), (4, false), (5, false), (8, false), (10, true), (14, false), (15, true)] false 9999 (by kernel_rfl) (by kernel_rfl) HS.out.ms.drew ?_; simp only [turned, gA, gB, gC]; replace HS := LH HS.out.drew; have uP3_1 : ∀ W, MS w [(P3, (rcC (DevM.rc d)), 28), ((P1 + 1), zDev, 37), (P1, (dvC h' d), 37)] [] [] W → W.cell? ⟨P3, 1, none⟩ = some (.int .i64 (DevM.rc d).act) := fun W hW => cAt (hW.get 0 rfl) rfl; have uP1_O : ∀ W, MS w [(P3, (rcC (DevM.rc d)), 28), ((P1 + 1), zDev, 37), (P1, (dvC h' d), 37)] [] [] W → W.cell? ⟨P1, O, none⟩ = some (.slice (slA h' (O : Int)) (slN h' (O : Int)) (slC h' (O : Int))) := fun W hW => cAt (hW.get 2 rfl) (zbQ h' d O hO2)
 have uP1_36 : ∀ W, MS w [(P3, (rcC (DevM.rc d)), 28), ((P1 + 1), zDev, 37), (P1, (dvC h' d), 37)] [] [] W → W.cell? ⟨P1, 36, none⟩ = some (.int .i64 (D : Int)) := fun W hW => by
  have := cAt (k := 36) (v := .int .i64 d.done) (hW.get 2 rfl) rfl
  rwa [HDn.out] at this
 repeat (first
  | (refine tSt ?_ (by rfl) (fun W9 hW9 => ?_) ?_
     rotate_left
     · (go_simp <;> with_reducible rfl)
     simp only [Act.put, sA, sB, sC])
  | (refine tSk (by rfl) ?_; simp only [Act.put, sA, sB, sC]))
 refine tCa (fun K hK => ?_); go_simp; go_at_call 81; with_reducible refine (HO.out _).mono ?_
 rintro e W5 ⟨rfl, hb⟩; replace HS := LH (HS.out.later hb); clear hb
 try go_wp2_with fail
 refine hK.out _ _ HS.out.ms ?_; clear hK K
 try simp only [Act.put, sA, sB, sC]
 repeat (first
  | (refine tSt ?_ (by rfl) (fun W9 hW9 => ?_) ?_
     rotate_left
     · (go_simp <;> with_reducible rfl)
     simp only [Act.put, sA, sB, sC])
  | (refine tSk (by rfl) ?_; simp only [Act.put, sA, sB, sC]))
 obtain ⟨F0, hF0⟩ : ∃ F, W5.heap.size = F := ⟨_, rfl⟩; refine tCa (fun K hK => ?_); go_simp; go_at_call 57; with_reducible refine (HFl.out _ F0 _ _ _ hF0 (HS.out.fact 4 rfl HS.out.below)).mono ?_
 rintro e W9 ⟨rfl, rfl⟩; replace HS := LH (HS.out.alloc hF0 (zaX xb) 5); clear hF0
 try go_wp2_with fail
 refine hK.out _ _ HS.out.ms.tail ?_; clear hK K
 try simp only [Act.put, sA, sB, sC]
 refine zaV HS.out (fun U0 HS1 => ?_); replace HS := LH HS1; clear HS1
 repeat (first
  | (refine tSt ?_ (by rfl) (fun W9 hW9 => ?_) ?_
     rotate_left
     · (go_simp <;> with_reducible rfl)
     simp only [Act.put, sA, sB, sC])
  | (refine tSk (by rfl) ?_; simp only [Act.put, sA, sB, sC]))
 have hown : Has x0 x1 U0 (Own x0 (slA h' (O : Int)) (slN h' (O : Int)) (slC h' (O : Int)) (DevM.slot d (O : Int))) := HS.out.has (x0, x1, Own x0 (slA h' (O : Int)) (slN h' (O : Int)) (slC h' (O : Int)) (DevM.slot d (O : Int))) (List.mem_cons_self ..); obtain ⟨gs', cur, ea, q5, q6, q7, q8, q9, q10, q11⟩ := own_lies hown (by rw [HN.out]; decide)
 obtain rfl : gs = gs' := by
  rw [HEa.out] at ea; injection ea with ea; injection ea
 have q6' : gs < x1 := by omega
 have hfl := DevM.fill_len HXl.out
 have hll : (((DevM.fill xb).drop D).take M).length = M := by
  rw [List.length_take, List.length_drop, hfl]; omega
 have hsrc : BS U0 (some ⟨F0, D, none⟩) M (64 - D) (((DevM.fill xb).drop D).take M) := by
  have h9 := (zb8 (HS.out.get 0 rfl) HXl.out HXb.out).mid D (D + M) (by omega) (by omega)
  rwa [cutA_pos (by omega), Nat.add_sub_cancel_left] at h9
 have hcp := cut_copy U0 gs D (slN h' (O : Int)) (slC h' (O : Int)) cur F0 M (64 - D) (((DevM.fill xb).drop D).take M) q7 q10 q8 hsrc (by rw [HN.out]; omega); have hsb : ∀ y ∈ (DevM.slot d (O : Int)), 0 ≤ y ∧ y ≤ 255 := (HDh.out.slB (by omega)).bytes
 have hr : Has x0 x1 (U0.setRow gs (overC cur D (((DevM.fill xb).drop D).take M))) (fun V => BS V (slA h' (O : Int)) (slN h' (O : Int)) (slC h' (O : Int)) (DevM.over (DevM.slot d (O : Int)) xb D M)) := by
  refine ⟨by rw [setRow_size]; exact hown.1, fun V _ hk => ?_⟩; have h9 := over_bs (V := V) q10 q9 q8 q11 (by rw [HSl.out, HN.out]) hsb hsrc.bytes (D := D) (by rw [hll, HN.out]; omega) (by rw [hk gs q5 q6']; exact setRow_heap U0 gs _ _ 5 _ q7); rw [hll] at h9; rw [ea]; exact h9
 have HS2 := LH (HS.out.wrote (H' := [(y0, y1, fun V => BS V (slA h' (1 - (O : Int))) (slN h' (1 - (O : Int))) (slC h' (1 - (O : Int))) (DevM.slot d (1 - (O : Int)))), (mB, m3, fun V => CS V h'.ga h'.gn h'.gc d.got), (m3, m4, fun V => OS V h'.oa h'.on h'.oc d.job.ops)]) (by omega) q5 q6' (fun p hp => HS.out.sep p hp (x0, x1, Own x0 (slA h' (O : Int)) (slN h' (O : Int)) (slC h' (O : Int)) (DevM.slot d (O : Int))) (List.mem_cons_self ..)) (fun q hq => by
  simp only [List.mem_cons, List.not_mem_nil, or_false] at hq; rcases hq with rfl | rfl | rfl
  · exact ⟨by simp, by simp only; omega⟩
  · exact ⟨by simp, by simp only; omega⟩
  · exact ⟨by simp, by simp only; omega⟩) _ hr)
 refine tCa (fun K hK => ?_); refine wp_copyO (by rfl) (.tmp 66) (.tmp 72) 22 22 rfl _ _ rfl rfl _ _ hcp ?_; refine hK.out _ _ HS2.out.ms.tail ?_; clear hK K hcp hr hsrc q7 q11 ea
 try simp only [Act.put]
 clear uP3_1 uP1_O uP1_36; refine tEn ?_; go_upto_region 14 with fail; refine gnH HS2.out (fun V6 HS1 => ?_); replace HS := LH HS1; clear HS1 HS2
 cases torn with
 | true =>
   have bP1 := HS.out.gt 3 rfl
   go_wp2_with (first
    | ((with_reducible show wpList _ _ _ _ _ _); refine LR rfl (t := 37) U37 rfl (.tmp 3) rfl P1 rfl bP1 (sDv h' d) ?_))
   clear bP1; refine (HOf.out h' _).mono ?_; rintro e W6 ⟨rfl, hb⟩; replace HS := LH (HS.out.later hb); clear hb; have bP1p1 := HS.out.gt 2 rfl; have HG := LH (HS.out.set 2 rfl (dvC (offH h') (DevM.off d)))
   go_wp2_with (first
    | ((with_reducible show wpList _ _ _ _ _ _); refine wpList_store_row rfl 37 (.tmp 6) (.tmp 76) rfl (P1 + 1) (dvC (offH h') (DevM.off d)) rfl rfl 37 zDev ?_ ?_ ?_ ?_ ?_; exact bP1p1; exact (sDv (offH h') (DevM.off d)); exact (zat (offH h') (DevM.off d)); exact (oDv (offH h') (DevM.off d))))
   clear bP1p1; refine bodyPost_ret (v := .tuple #[.agg (dvC (offH h') (DevM.off d)), .int .i64 0]) ?_ rfl ?_
   · exact zam (fn := Tryz.f21) (p := 6) (a := 7) rfl rfl rfl (HG.out.get 2 rfl) U37 rfl (sDv _ _)
   · rw [show DevM.write d true keep = (DevM.off (DevM.setSlot d (O : Int) (DevM.over (DevM.slot d (O : Int)) xb D M)), 0) from HR.out]
     obtain ⟨kc, -⟩ := DevM.set_fields d (O : Int) (DevM.over (DevM.slot d (O : Int)) xb D M); refine ⟨offH h', by unfold devV; rw [← cells_off _ _ O hO2], HG.out.below, fun V v1 v2 => ?_⟩; have k0 := HG.out.newR 0 rfl V v1 v2; have k1 := HG.out.newR 1 rfl V v1 v2; simp only at k0 k1; have kk := set_dh O hO2 k0 k1; exact ⟨kk.1, kk.2, CS.nil_ _, OS.nil_ _, (by show CopsW (DevM.setSlot d (O : Int) (DevM.over (DevM.slot d (O : Int)) xb D M)).c; rw [kc]; exact HDh.out.copsW), zaS, zbv, zaS⟩
 | false =>
   have HS2 := LH (HS.out.cell 3 rfl (zbe h' d (Z : Int))); have cP1_36 := HS.out.cel 3 36 (v := .int .i64 d.done) rfl rfl; have fP1_36 := HS.out.thw 3 36 rfl; go_upto_region 17 with fail; clear cP1_36 fP1_36; refine gnH HS2.out (fun V7 HS1 => ?_); replace HS := LH HS1; clear HS1 HS2; have bP1 := HS.out.gt 3 rfl; have bP1p1 := HS.out.gt 2 rfl; have HG := LH (HS.out.set 2 rfl (dvC h' ({ d with done := (Z : Int) } : DevR)))
   go_wp2_with (first
    | ((with_reducible show wpList _ _ _ _ _ _); refine LR rfl (t := 37) U37 rfl (.tmp 3) rfl P1 rfl bP1 (sDv h' ({ d with done := (Z : Int) } : DevR)) ?_)
    | ((with_reducible show wpList _ _ _ _ _ _); refine wpList_store_row rfl 37 (.tmp 6) (.tmp 79) rfl (P1 + 1) (dvC h' ({ d with done := (Z : Int) } : DevR)) rfl rfl 37 zDev ?_ ?_ ?_ ?_ ?_; exact bP1p1; exact (sDv h' ({ d with done := (Z : Int) } : DevR)); exact (zat h' ({ d with done := (Z : Int) } : DevR)); exact (oDv h' ({ d with done := (Z : Int) } : DevR))))
   clear bP1 bP1p1; refine bodyPost_ret (v := .tuple #[.agg (dvC h' ({ d with done := (Z : Int) } : DevR)), .int .i64 0]) ?_ rfl ?_
   · exact zam (fn := Tryz.f21) (p := 6) (a := 7) rfl rfl rfl (HG.out.get 2 rfl) U37 rfl (sDv _ _)
   · rw [show DevM.write d false keep = ({ (DevM.setSlot d (O : Int) (DevM.over (DevM.slot d (O : Int)) xb D M)) with done := (Z : Int) }, 0) from HR.out]
     obtain ⟨kc, -, kr, kg, -, kj, -⟩ := DevM.set_fields d (O : Int) (DevM.over (DevM.slot d (O : Int)) xb D M); refine ⟨h', by unfold devV; rw [← cells_done _ _ O hO2], HG.out.below, fun V v1 v2 => ?_⟩; have k0 := HG.out.newR 0 rfl V v1 v2; have k1 := HG.out.newR 1 rfl V v1 v2; simp only at k0 k1; have kk := set_dh O hO2 k0 k1; have k2 := HG.out.newR 2 rfl V v1 v2; have k3 := HG.out.newR 3 rfl V v1 v2; simp only at k2 k3; exact ⟨kk.1, kk.2, (by show CS V h'.ga h'.gn h'.gc (DevM.setSlot d (O : Int) (DevM.over (DevM.slot d (O : Int)) xb D M)).got; rw [kg]; exact k2), (by show OS V h'.oa h'.on h'.oc (DevM.setSlot d (O : Int) (DevM.over (DevM.slot d (O : Int)) xb D M)).job.ops; rw [kj]; exact k3), (by show CopsW (DevM.setSlot d (O : Int) (DevM.over (DevM.slot d (O : Int)) xb D M)).c; rw [kc]; exact HDh.out.copsW), (by show I64 (DevM.setSlot d (O : Int) (DevM.over (DevM.slot d (O : Int)) xb D M)).run; rw [kr]; exact HDh.out.runI), (by show JobW (DevM.setSlot d (O : Int) (DevM.over (DevM.slot d (O : Int)) xb D M)).job; rw [kj]; exact HDh.out.jobI), HZi.out⟩
theorem writeD_any (h : DevH) (d : DevR) (torn : Bool) (keep : Int) (w : World) (HD : DH w h d) : Calls Tryz.prog 21 #[devV h d, .bool torn, .int .i64 keep] w (GDv (DevM.told d true (DevM.write d torn keep)) w) := by
 have HBg := fun W (x : DH W h d) => zbn zbF h d true W x; unfold devV at HBg; rcases DevM.beg_cases d true with ⟨E, h0, hb, ht⟩ | ⟨hok, hu, hb, ht⟩
 · rw [ht]
   rw [hb] at HBg; exact writeD_bad h d torn keep w HD E h0 (LH HBg)
 · rw [ht]
   rw [hb] at HBg; exact writeD_ok h d torn keep w HD (LH HBg) hok hu
theorem crashD_bad (h : DevH) (d : DevR) (w : World) (HD : DH w h d) (E : Int) (h0 : E ≠ 0) (HBg : Hid (∀ W, DH W h d → Calls Tryz.prog 74 #[.agg (dvC h d), .bool true] W fun e w' => e = .returned (.tuple #[.agg (rcC RecM.noRec), .int .i64 E]) ∧ Below W.heap.size W w')) : Calls Tryz.prog 24 #[devV h d] w (GDv (DevM.noDev, E) w) := by
 have t0 : (E != 0) = true := by simp [h0]
 have HDh := LH HD; clear HD; unfold devV; obtain ⟨P1, hP1⟩ : ∃ P, w.heap.size = P := ⟨_, rfl⟩; have HS := LH (((((MS.start w).alloc (p := P1) (by simp [hP1]) (dvC h d) 37)).alloc (p := (P1 + 1)) (by simp [hP1]) zDev 37)); go_enter Tryz.func24, Tryz.ntmps24; go_upto_region 1 with fail; refine zau HS.out (fun V0 HS1 => ?_); replace HS := LH HS1; clear HS1 hP1; replace HS := LH (MH.of HS.out); have bP1 := HS.out.gt 1 rfl
 go_wp2_with (first
  | (refine wpList_load_row rfl 37 (.tmp 1) rfl P1 rfl 37 (dvC h d) (0, 0) _ bP1 U37 rfl (sDv h d) ?_))
 clear bP1; refine (HBg.out _ (HDh.out.later HS.out.below)).mono ?_; rintro e W1 ⟨rfl, hb⟩; replace HS := LH (HS.out.later hb); clear hb; obtain ⟨P3, hP3⟩ : ∃ P, W1.heap.size = P := ⟨_, rfl⟩; replace HS := LH (HS.out.alloc hP3 (rcC RecM.noRec) 28); go_upto_region 2 with (refine wSN rfl 28 (.tmp 4) (.tmp 9) rfl P3 (rcC RecM.noRec) rfl rfl 28 _ hP3.symm (sRc RecM.noRec) (lRc RecM.noRec) (oRc RecM.noRec) ?_); refine gnH HS.out (fun V1 HS1 => ?_); replace HS := LH HS1; clear HS1 hP3; have bP1p1 := HS.out.gt 1 rfl; have HG := LH (HS.out.set 1 rfl zDev)
 go_wp2_with (first
  | (refine wpList_store_row rfl 37 (.tmp 2) (.tmp 13) rfl (P1 + 1) zDev rfl rfl 37 _ bP1p1 zac zav zaq ?_))
 clear bP1p1; refine bodyPost_ret (v := .tuple #[.agg zDev, .int .i64 E]) ?_ rfl ?_
 · exact zam (fn := Tryz.f24) (p := 2) (a := 3) rfl rfl rfl (HG.out.get 1 rfl) U37 rfl zac
 · exact GDv.bad HG.out.below
theorem crashD_ok (h : DevH) (d : DevR) (w : World) (HD : DH w h d) (HBg : Hid (∀ W, DH W h d → Calls Tryz.prog 74 #[.agg (dvC h d), .bool true] W fun e w' => e = .returned (.tuple #[.agg (rcC (DevM.rc d)), .int .i64 0]) ∧ Below W.heap.size W w')) (hok : DevM.Ok d) (hu : d.up = true) : Calls Tryz.prog 24 #[devV h d] w (GDv (DevM.crash d) w) := by
 have _hk := hok; have _hv := hu; clear _hk _hv; have HO := LH (fun W => offD_any h d W); have HCy := LH (fun W (x : DH W h d) => za3 (offH h) (DevM.off d) W x.off (DevM.few_off (DevM.few_of hok))); unfold devV at HO HCy; clear hok hu; have HDh := LH HD; clear HD; unfold devV; obtain ⟨P1, hP1⟩ : ∃ P, w.heap.size = P := ⟨_, rfl⟩; have HS := LH (((((MS.start w).alloc (p := P1) (by simp [hP1]) (dvC h d) 37)).alloc (p := (P1 + 1)) (by simp [hP1]) zDev 37)); go_enter Tryz.func24, Tryz.ntmps24; go_upto_region 1 with fail; refine zau HS.out (fun V0 HS1 => ?_); replace HS := LH HS1; clear HS1 hP1; replace HS := LH (MH.of HS.out); have bP1 := HS.out.gt 1 rfl
 go_wp2_with (first
  | (refine wpList_load_row rfl 37 (.tmp 1) rfl P1 rfl 37 (dvC h d) (0, 0) _ bP1 U37 rfl (sDv h d) ?_))
 clear bP1; refine (HBg.out _ (HDh.out.later HS.out.below)).mono ?_; rintro e W1 ⟨rfl, hb⟩; replace HS := LH (HS.out.later hb); clear hb; obtain ⟨P3, hP3⟩ : ∃ P, W1.heap.size = P := ⟨_, rfl⟩; replace HS := LH (HS.out.alloc hP3 (rcC (DevM.rc d)) 28); go_upto_region 2 with (refine wSN rfl 28 (.tmp 4) (.tmp 9) rfl P3 (rcC (DevM.rc d)) rfl rfl 28 _ hP3.symm (sRc (DevM.rc d)) (lRc (DevM.rc d)) (oRc (DevM.rc d)) ?_); refine gnH HS.out (fun V1 HS1 => ?_); replace HS := LH HS1; clear HS1 hP3; have bP1 := HS.out.gt 2 rfl
 go_wp2_with (first
  | (refine wpList_load_row rfl 37 (.tmp 1) rfl P1 rfl 37 (dvC h d) (0, 0) _ bP1 U37 rfl (sDv h d) ?_))
 clear bP1; refine (HO.out _).mono ?_; rintro e W2 ⟨rfl, hb⟩; replace HS := LH (HS.out.later hb); clear hb; go_wp2_with fail; refine (HCy.out _ (HDh.out.later HS.out.below)).mono ?_; rintro e W5 ⟨h', rfl, hb, hn, -, -⟩; replace HS := LH (HS.out.gain hb hn); clear hb hn; unfold devV; have bP1p1 := HS.out.gt 1 rfl; have HG := LH (HS.out.set 1 rfl (dvC h' (DevM.off d)))
 go_wp2_with (first
  | (refine wpList_store_row rfl 37 (.tmp 2) (.tmp 17) rfl (P1 + 1) (dvC h' (DevM.off d)) rfl rfl 37 _ bP1p1 (sDv h' (DevM.off d)) (zat h' (DevM.off d)) (oDv h' (DevM.off d)) ?_))
 clear bP1p1; refine bodyPost_ret (v := .tuple #[.agg (dvC h' (DevM.off d)), .int .i64 0]) ?_ rfl ?_
 · exact zam (fn := Tryz.f24) (p := 2) (a := 3) rfl rfl rfl (HG.out.get 1 rfl) U37 rfl (sDv _ _)
 · exact ⟨h', rfl, HG.out.below, HG.out.newR 0 rfl⟩
theorem crashD_any (h : DevH) (d : DevR) (w : World) (HD : DH w h d) : Calls Tryz.prog 24 #[devV h d] w (GDv (DevM.told d true (DevM.crash d)) w) := by
 have HBg := fun W (x : DH W h d) => zbn zbF h d true W x; unfold devV at HBg; rcases DevM.beg_cases d true with ⟨E, h0, hb, ht⟩ | ⟨hok, hu, hb, ht⟩
 · rw [ht]
   rw [hb] at HBg; exact crashD_bad h d  w HD E h0 (LH HBg)
 · rw [ht]
   rw [hb] at HBg; exact crashD_ok h d  w HD (LH HBg) hok hu
theorem startR_any (r : RecR) (w : World) :
 Calls Tryz.prog 84 #[recV r] w fun e w' => e = .returned (.tuple #[.int .i64 (RecM.startOf r).1, recV (RecM.startOf r).2.1, .int .i64 (RecM.startOf r).2.2]) ∧ Below w.heap.size w w' := by
 have HC := LH (fun W => checkR_any r W); have HST := LH (RSt1.start w r); have hi := sRc r; have HS : Hid (RecM.startOf r = if RecM.check r ≠ 0 then (0, RecM.noRec, RecM.check r) else (RecM.slot r, RecM.after r, 0)) := rfl; have HV : Hid (∀ x, recV x = .agg (rcC x)) := fun _ => rfl; rw [HV.out] at HC; rw [HV.out]; have hc0 := HST.out.c0; go_enter Tryz.func84, Tryz.ntmps84; go_wp2_with (refine wpList_load_row rfl 28 (.tmp 1) rfl w.heap.size rfl 28 (rcC r) (0, 0) _ hc0 U28 rfl hi ?_); refine (HC.out _).mono ?_; rintro e W2 ⟨rfl, hb2⟩; have HST2 := LH (HST.out.later hb2); clear hb2 HST hc0 HC hi; by_cases e0 : RecM.check r = 0
 · replace HS := LH (HS.out.trans (if_neg (fun q => q e0)))
   have hn := RecM.check_nums e0; rw [e0]; clear e0; obtain ⟨q0, q1, q2, q3, q4, q5, q8, qf⟩ := HST2.out.cells; by_cases ht : r.trying = true ∧ r.tries ≠ 0
   · obtain ⟨ht1, ht2⟩ := ht
     rw [ht1] at q2; have hgt : (0 : Int) < r.tries := by omega
     obtain ⟨T, hT⟩ : ∃ T, r.tries - 1 = T := ⟨_, rfl⟩; have hw : IntKind.i64.wrap T = T := IntWalk.i64_in _ (by omega)
     have HAf : Hid (RecM.after r = { r with tries := T }) := by
      show _ = _; unfold RecM.after; rw [if_pos ⟨ht1, ht2⟩, hT]
     have HSl : Hid (RecM.slot r = 1 - r.act) := by
      show _ = _; unfold RecM.slot; rw [if_pos ⟨ht1, ht2⟩]
     have HST3 : Hid (RSt1 w { r with tries := T } (W2.setCell ⟨w.heap.size, 3, none⟩ (.int .i64 T))) := HST2.out.set rfl; have HO := LH (fun W => zbf r.act W hn.2.1); have qf3 := qf 3; clear qf q0 q4 q5 q8 q1; go_wp2_with fail; generalize W2.setCell ⟨w.heap.size, 3, none⟩ (.int .i64 T) = W3 at HST3 ⊢; clear ht1 ht2 hgt q2 q3; have HST4 := LH HST3.out.drew; have q1 := HST4.out.cells.2.1; have hc0 := HST4.out.c0; have hc1 := HST4.out.c1; have HG := LH HST4.out.give; have hi := sRc { r with tries := T }; have ha := oRc { r with tries := T }; refine wp_region_still_tail 5 (by kernel_rfl) (by kernel_rfl) ?_; simp only [List.take_succ_cons, List.take_zero, List.drop_succ_cons, List.drop_zero]
     change wpStill _ _ W3.drew _ _ _
     still_step
     still_step
     still_call ((HO.out _).mono fun _ _ ⟨h, e⟩ => ⟨h, e.symm⟩)
     refine zaA rfl 28 (.tmp 1) rfl w.heap.size rfl 28 (rcC { r with tries := T }) (0, 0) _ hc0 U28 rfl hi ?_
     still_step
     refine wpStill_nil ?_; go_wp2_with (refine wpList_store_row rfl 28 (.tmp 3) (.tmp 26) rfl (w.heap.size + 1) (rcC { r with tries := T }) rfl rfl 28 _ hc1 hi rfl ha ?_); refine bodyPost_ret (v := .tuple #[.int .i64 (1 - r.act), .agg (rcC { r with tries := T }), .int .i64 0]) ?_ rfl ?_
     · exact res_tct (fn := Tryz.f84) (p := 3) (a := 2) (b := 4) rfl rfl rfl rfl HG.out.1 U28 rfl hi
     · exact ⟨by rw [HS.out, HSl.out, HAf.out]; rfl, HG.out.2⟩
   · cases hb : r.trying
     · rw [hb] at q2
       have HST3 : Hid (RSt1 w { r with trying := false } (W2.setCell ⟨w.heap.size, 2, none⟩ (.bool false))) := HST2.out.set rfl; have qf2 := qf 2
       have HAf : Hid (RecM.after r = { r with trying := false }) := by
        show _ = _; unfold RecM.after; rw [if_neg ht]
       have HSl : Hid (RecM.slot r = r.act) := by
        show _ = _; unfold RecM.slot; rw [if_neg ht]
       clear qf q0 q4 q5 q8 q1; go_wp2_with fail; generalize W2.setCell ⟨w.heap.size, 2, none⟩ (.bool false) = W3 at HST3 ⊢; clear hb
       try clear hz
       have HST4 := LH HST3.out.drew; have q1 := HST4.out.cells.2.1; have hc0 := HST4.out.c0; have hc1 := HST4.out.c1; have HG := LH HST4.out.give; have hi := sRc { r with trying := false }; have ha := oRc { r with trying := false }; refine wp_region_still_tail 4 (by kernel_rfl) (by kernel_rfl) ?_; simp only [List.take_succ_cons, List.take_zero, List.drop_succ_cons, List.drop_zero]
       change wpStill _ _ W3.drew _ _ _
       still_step
       still_step
       refine zaA rfl 28 (.tmp 1) rfl w.heap.size rfl 28 (rcC { r with trying := false }) (0, 0) _ hc0 U28 rfl hi ?_
       still_step
       refine wpStill_nil ?_; go_wp2_with (refine wpList_store_row rfl 28 (.tmp 3) (.tmp 30) rfl (w.heap.size + 1) (rcC { r with trying := false }) rfl rfl 28 _ hc1 hi rfl ha ?_); refine bodyPost_ret (v := .tuple #[.int .i64 (r.act), .agg (rcC { r with trying := false }), .int .i64 0]) ?_ rfl ?_
       · exact res_tct (fn := Tryz.f84) (p := 3) (a := 2) (b := 4) rfl rfl rfl rfl HG.out.1 U28 rfl hi
       · exact ⟨by rw [HS.out, HSl.out, HAf.out]; rfl, HG.out.2⟩
     · have hz : r.tries = 0 := by
        rcases Classical.em (r.tries = 0) with q | q
        · exact q
        · exact absurd ⟨hb, q⟩ ht
       rw [hb] at q2; rw [hz] at q3; have HST3 : Hid (RSt1 w { r with trying := false } (W2.setCell ⟨w.heap.size, 2, none⟩ (.bool false))) := HST2.out.set rfl; have qf2 := qf 2
       have HAf : Hid (RecM.after r = { r with trying := false }) := by
        show _ = _; unfold RecM.after; rw [if_neg ht]
       have HSl : Hid (RecM.slot r = r.act) := by
        show _ = _; unfold RecM.slot; rw [if_neg ht]
       clear qf q0 q4 q5 q8 q1; go_wp2_with fail; generalize W2.setCell ⟨w.heap.size, 2, none⟩ (.bool false) = W3 at HST3 ⊢; clear hb
       try clear hz
       have HST4 := LH HST3.out.drew; have q1 := HST4.out.cells.2.1; have hc0 := HST4.out.c0; have hc1 := HST4.out.c1; have HG := LH HST4.out.give; have hi := sRc { r with trying := false }; have ha := oRc { r with trying := false }; refine wp_region_still_tail 4 (by kernel_rfl) (by kernel_rfl) ?_; simp only [List.take_succ_cons, List.take_zero, List.drop_succ_cons, List.drop_zero]
       change wpStill _ _ W3.drew _ _ _
       still_step
       still_step
       refine zaA rfl 28 (.tmp 1) rfl w.heap.size rfl 28 (rcC { r with trying := false }) (0, 0) _ hc0 U28 rfl hi ?_
       still_step
       refine wpStill_nil ?_; go_wp2_with (refine wpList_store_row rfl 28 (.tmp 3) (.tmp 30) rfl (w.heap.size + 1) (rcC { r with trying := false }) rfl rfl 28 _ hc1 hi rfl ha ?_); refine bodyPost_ret (v := .tuple #[.int .i64 (r.act), .agg (rcC { r with trying := false }), .int .i64 0]) ?_ rfl ?_
       · exact res_tct (fn := Tryz.f84) (p := 3) (a := 2) (b := 4) rfl rfl rfl rfl HG.out.1 U28 rfl hi
       · exact ⟨by rw [HS.out, HSl.out, HAf.out]; rfl, HG.out.2⟩
 · obtain ⟨E, hE⟩ : ∃ E, RecM.check r = E := ⟨_, rfl⟩
   replace HS := LH (HS.out.trans (if_pos e0)); rw [hE] at e0 HS ⊢; have t0 : (E != 0) = true := by simp [e0]
   clear hE; have hc1 := HST2.out.c1; have HG := LH HST2.out.nil_; have hi2 := za8; have ha := one_zero; unfold zaL at hi2 ha hc1; go_wp2_with (refine wpList_store_row rfl 28 (.tmp 3) (.tmp 10) rfl (w.heap.size + 1) #[.int .i64 0, .int .i64 0, .bool false, .int .i64 0, .int .i64 0, .int .i64 0, .int .i64 0, .int .i64 0, .int .i64 0, .int .i64 0, .int .i64 0] rfl rfl 28 _ hc1 hi2 rfl ha ?_); refine bodyPost_ret (v := .tuple #[.int .i64 0, .agg zaL, .int .i64 E]) ?_ rfl ?_
   · exact res_tct (fn := Tryz.f84) (p := 3) (a := 2) (b := 4) rfl rfl rfl rfl HG.out.1 U28 rfl za8
   · exact ⟨by rw [HS.out]; rfl, HG.out.2⟩
theorem bootD_bad (h : DevH) (d : DevR) (w : World) (HD : DH w h d) (E : Int) (h0 : E ≠ 0) (HBg : Hid (∀ W, DH W h d → Calls Tryz.prog 74 #[.agg (dvC h d), .bool false] W fun e w' => e = .returned (.tuple #[.agg (rcC RecM.noRec), .int .i64 E]) ∧ Below W.heap.size W w')) : Calls Tryz.prog 25 #[devV h d] w (GDv (DevM.noDev, E) w) := by
 have t0 : (E != 0) = true := by simp [h0]
 have HDh := LH HD; clear HD; unfold devV; obtain ⟨P1, hP1⟩ : ∃ P, w.heap.size = P := ⟨_, rfl⟩; have HS := LH (((((MS.start w).alloc (p := P1) (by simp [hP1]) (dvC h d) 37)).alloc (p := (P1 + 1)) (by simp [hP1]) zDev 37)); go_enter Tryz.func25, Tryz.ntmps25; go_upto_region 1 with fail; refine zau HS.out (fun V0 HS1 => ?_); replace HS := LH HS1; clear HS1 hP1; replace HS := LH (MH.of HS.out); have bP1 := HS.out.gt 1 rfl
 go_wp2_with (first
  | (refine wpList_load_row rfl 37 (.tmp 1) rfl P1 rfl 37 (dvC h d) (0, 0) _ bP1 U37 rfl (sDv h d) ?_))
 clear bP1; refine (HBg.out _ (HDh.out.later HS.out.below)).mono ?_; rintro e W1 ⟨rfl, hb⟩; replace HS := LH (HS.out.later hb); clear hb; obtain ⟨P3, hP3⟩ : ∃ P, W1.heap.size = P := ⟨_, rfl⟩; replace HS := LH (HS.out.alloc hP3 (rcC RecM.noRec) 28); go_upto_region 2 with (refine wSN rfl 28 (.tmp 4) (.tmp 11) rfl P3 (rcC RecM.noRec) rfl rfl 28 _ hP3.symm (sRc RecM.noRec) (lRc RecM.noRec) (oRc RecM.noRec) ?_); refine gnH HS.out (fun V1 HS1 => ?_); replace HS := LH HS1; clear HS1 hP3; have bP1p1 := HS.out.gt 1 rfl; have HG := LH (HS.out.set 1 rfl zDev)
 go_wp2_with (first
  | (refine wpList_store_row rfl 37 (.tmp 2) (.tmp 15) rfl (P1 + 1) zDev rfl rfl 37 _ bP1p1 zac zav zaq ?_))
 clear bP1p1; refine bodyPost_ret (v := .tuple #[.agg zDev, .int .i64 E]) ?_ rfl ?_
 · exact zam (fn := Tryz.f25) (p := 2) (a := 3) rfl rfl rfl (HG.out.get 1 rfl) U37 rfl zac
 · exact GDv.bad HG.out.below
theorem bootD_same (h : DevH) (d : DevR) (w : World) (HD : DH w h d) (HBg : Hid (∀ W, DH W h d → Calls Tryz.prog 74 #[.agg (dvC h d), .bool false] W fun e w' => e = .returned (.tuple #[.agg (rcC (DevM.rc d)), .int .i64 0]) ∧ Below W.heap.size W w')) (hok : DevM.Ok d) (hu : d.up = false) (hs : (RecM.after (DevM.rc d)) = DevM.rc d) : Calls Tryz.prog 25 #[devV h d] w (GDv ({ d with up := true, run := (RecM.slot (DevM.rc d)) }, 0) w) := by
 have _hk := hok; have _hv := hu; clear _hk _hv
 have HSt : Hid (∀ W, Calls Tryz.prog 84 #[.agg (rcC (DevM.rc d))] W fun e w' => e = .returned (.tuple #[.int .i64 (RecM.slot (DevM.rc d)), .agg (rcC (RecM.after (DevM.rc d))), .int .i64 0]) ∧ Below W.heap.size W w') := fun W => by
  have := startR_any (DevM.rc d) W; rw [RecM.startOf_ok hok.rec_] at this; exact this
 have hq : ∀ W, (binOp .neq 28 (.agg (rcC (RecM.after (DevM.rc d)))) (.agg (rcC (DevM.rc d)))).run Tryz.prog W = .ok (.bool false) W := fun W => by
  have := rec_neq (RecM.after (DevM.rc d)) (DevM.rc d) W; rw [decide_eq_true hs] at this; exact this
 have HSlW : Hid (I64 (RecM.slot (DevM.rc d))) := by
  show I64 _; have h1 := (RecM.check_nums hok.rec_).2.1; unfold RecM.slot I64; split <;> omega
 have HCy := LH (fun W (x : DH W h d) => za3 h d W x (DevM.few_of hok)); unfold devV at HCy; clear hok hu hs; have HDh := LH HD; clear HD; unfold devV; obtain ⟨P1, hP1⟩ : ∃ P, w.heap.size = P := ⟨_, rfl⟩; have HS := LH (((((MS.start w).alloc (p := P1) (by simp [hP1]) (dvC h d) 37)).alloc (p := (P1 + 1)) (by simp [hP1]) zDev 37)); go_enter Tryz.func25, Tryz.ntmps25; go_upto_region 1 with fail; refine zau HS.out (fun V0 HS1 => ?_); replace HS := LH HS1; clear HS1 hP1; replace HS := LH (MH.of HS.out); have bP1 := HS.out.gt 1 rfl
 go_wp2_with (first
  | (refine wpList_load_row rfl 37 (.tmp 1) rfl P1 rfl 37 (dvC h d) (0, 0) _ bP1 U37 rfl (sDv h d) ?_))
 clear bP1; refine (HBg.out _ (HDh.out.later HS.out.below)).mono ?_; rintro e W1 ⟨rfl, hb⟩; replace HS := LH (HS.out.later hb); clear hb; obtain ⟨P3, hP3⟩ : ∃ P, W1.heap.size = P := ⟨_, rfl⟩; replace HS := LH (HS.out.alloc hP3 (rcC (DevM.rc d)) 28); go_upto_region 2 with (refine wSN rfl 28 (.tmp 4) (.tmp 11) rfl P3 (rcC (DevM.rc d)) rfl rfl 28 _ hP3.symm (sRc (DevM.rc d)) (lRc (DevM.rc d)) (oRc (DevM.rc d)) ?_); refine gnH HS.out (fun V1 HS1 => ?_); replace HS := LH HS1; clear HS1 hP3; have bP3 := HS.out.gt 0 rfl
 go_wp2_with (first
  | (refine wpList_load_row rfl 28 (.tmp 4) rfl P3 rfl 28 (rcC (DevM.rc d)) (0, 0) _ bP3 U28 rfl (sRc (DevM.rc d)) ?_))
 clear bP3; refine (HSt.out _).mono ?_; rintro e W2 ⟨rfl, hb⟩; replace HS := LH (HS.out.later hb); clear hb; obtain ⟨P7, hP7⟩ : ∃ P, W2.heap.size = P := ⟨_, rfl⟩; replace HS := LH (HS.out.alloc hP7 (rcC (RecM.after (DevM.rc d))) 28); go_upto_region 5 with (refine wSN rfl 28 (.tmp 7) (.tmp 21) rfl P7 (rcC (RecM.after (DevM.rc d))) rfl rfl 28 _ hP7.symm (sRc (RecM.after (DevM.rc d))) (lRc (RecM.after (DevM.rc d))) (oRc (RecM.after (DevM.rc d))) ?_); refine gnH HS.out (fun V2 HS1 => ?_); replace HS := LH HS1; clear HS1 hP7; have bP1 := HS.out.gt 3 rfl
 go_wp2_with (first
  | (refine wpList_load_row rfl 37 (.tmp 1) rfl P1 rfl 37 (dvC h d) (0, 0) _ bP1 U37 rfl (sDv h d) ?_))
 clear bP1; refine (HCy.out _ (HDh.out.later HS.out.below)).mono ?_; rintro e W3 ⟨h', rfl, hb, hn, -, -⟩; replace HS := LH (HS.out.gain hb hn); clear hb hn; unfold devV; have HS2 := LH (HS.out.set 3 rfl (dvC h' d)); have bP1 := HS.out.gt 3 rfl
 go_upto_region 8 with (first
  | (refine wpList_store_row rfl 37 (.tmp 1) (.tmp 28) rfl P1 (dvC h' d) rfl rfl 37 _ bP1 (sDv h' d) (lDv h h' d d) (oDv h' d) ?_))
 clear bP1; refine gnH HS2.out (fun V3 HS1 => ?_); replace HS := LH HS1; clear HS1 HS2; have bP7 := HS.out.gt 0 rfl; have bP3 := HS.out.gt 1 rfl
 go_upto_region 12 with (first
  | (refine wpList_load_row rfl 28 (.tmp 7) rfl P7 rfl 28 (rcC (RecM.after (DevM.rc d))) (0, 0) _ bP7 U28 rfl (sRc (RecM.after (DevM.rc d))) ?_)
  | (refine wpList_load_row rfl 28 (.tmp 4) rfl P3 rfl 28 (rcC (DevM.rc d)) (0, 0) _ bP3 U28 rfl (sRc (DevM.rc d)) ?_))
 clear bP7 bP3; have cP1_26 := HS.out.cel 3 26 (v := .bool d.up) rfl rfl; have fP1_26 := HS.out.thw 3 26 rfl; have cP1_27 := HS.out.cel 3 27 (v := .int .i64 d.run) rfl rfl; have fP1_27 := HS.out.thw 3 27 rfl; have HS2 := LH ((HS.out.cell 3 rfl (put_up h' d true)).cell 3 rfl (put_run h' ({ d with up := true } : DevR) (RecM.slot (DevM.rc d)))); go_upto_region 13 with fail; clear cP1_26 fP1_26 cP1_27 fP1_27; refine gnH HS2.out (fun V6 HS1 => ?_); replace HS := LH HS1; clear HS1 HS2; have bP1 := HS.out.gt 3 rfl; have bP1p1 := HS.out.gt 2 rfl; have HG := LH (HS.out.set 2 rfl (dvC h' ({ d with up := true, run := (RecM.slot (DevM.rc d)) } : DevR)))
 go_wp2_with (first
  | (refine wpList_load_row rfl 37 (.tmp 1) rfl P1 rfl 37 (dvC h' ({ d with up := true, run := (RecM.slot (DevM.rc d)) } : DevR)) (0, 0) _ bP1 U37 rfl (sDv h' ({ d with up := true, run := (RecM.slot (DevM.rc d)) } : DevR)) ?_)
  | (refine wpList_store_row rfl 37 (.tmp 2) (.tmp 47) rfl (P1 + 1) (dvC h' ({ d with up := true, run := (RecM.slot (DevM.rc d)) } : DevR)) rfl rfl 37 _ bP1p1 (sDv h' ({ d with up := true, run := (RecM.slot (DevM.rc d)) } : DevR)) (zat h' ({ d with up := true, run := (RecM.slot (DevM.rc d)) } : DevR)) (oDv h' ({ d with up := true, run := (RecM.slot (DevM.rc d)) } : DevR)) ?_))
 clear bP1 bP1p1; refine bodyPost_ret (v := .tuple #[.agg (dvC h' ({ d with up := true, run := (RecM.slot (DevM.rc d)) } : DevR)), .int .i64 0]) ?_ rfl ?_
 · exact zam (fn := Tryz.f25) (p := 2) (a := 3) rfl rfl rfl (HG.out.get 2 rfl) U37 rfl (sDv _ _)
 · refine ⟨h', rfl, HG.out.below, fun V v1 v2 => ?_⟩
   have k1 := HG.out.newR 0 rfl V v1 v2; simp only at k1; exact ⟨k1.b0, k1.b1, k1.got, k1.ops, k1.copsW, HSlW.out, k1.jobI, k1.doneI⟩
theorem bootD_err (h : DevH) (d : DevR) (w : World) (HD : DH w h d) (HBg : Hid (∀ W, DH W h d → Calls Tryz.prog 74 #[.agg (dvC h d), .bool false] W fun e w' => e = .returned (.tuple #[.agg (rcC (DevM.rc d)), .int .i64 0]) ∧ Below W.heap.size W w')) (hok : DevM.Ok d) (hu : d.up = false) (hs : (RecM.after (DevM.rc d)) ≠ DevM.rc d) (L : CopsR) (E : Int) (hW : RecM.writeOf d.c (RecM.after (DevM.rc d)) false = (L, E)) (hE : E ≠ 0) : Calls Tryz.prog 25 #[devV h d] w (GDv (DevM.noDev, E) w) := by
 have _hk := hok; have _hv := hu; clear _hk _hv
 have HSt : Hid (∀ W, Calls Tryz.prog 84 #[.agg (rcC (DevM.rc d))] W fun e w' => e = .returned (.tuple #[.int .i64 (RecM.slot (DevM.rc d)), .agg (rcC (RecM.after (DevM.rc d))), .int .i64 0]) ∧ Below W.heap.size W w') := fun W => by
  have := startR_any (DevM.rc d) W; rw [RecM.startOf_ok hok.rec_] at this; exact this
 have hq : ∀ W, (binOp .neq 28 (.agg (rcC (RecM.after (DevM.rc d)))) (.agg (rcC (DevM.rc d)))).run Tryz.prog W = .ok (.bool true) W := fun W => by
  have := rec_neq (RecM.after (DevM.rc d)) (DevM.rc d) W; rw [decide_eq_false hs] at this; exact this
 have HWr : Hid (∀ W, Calls Tryz.prog 82 #[.agg (cpC d.c), .agg (rcC (RecM.after (DevM.rc d))), .bool false] W fun e w' => e = .returned (.tuple #[.agg (cpC L), .int .i64 E]) ∧ Below W.heap.size W w') := fun W => by
  have := zbA d.c (RecM.after (DevM.rc d)) false W; rw [hW] at this; exact this
 have t2 : (E != 0) = true := by simp [hE]
 have HSlW : Hid (I64 (RecM.slot (DevM.rc d))) := by
  show I64 _; have h1 := (RecM.check_nums hok.rec_).2.1; unfold RecM.slot I64; split <;> omega
 have HCy := LH (fun W (x : DH W h d) => za3 h d W x (DevM.few_of hok)); unfold devV at HCy; clear hok hu hs hW hE; have HDh := LH HD; clear HD; unfold devV; obtain ⟨P1, hP1⟩ : ∃ P, w.heap.size = P := ⟨_, rfl⟩; have HS := LH (((((MS.start w).alloc (p := P1) (by simp [hP1]) (dvC h d) 37)).alloc (p := (P1 + 1)) (by simp [hP1]) zDev 37)); go_enter Tryz.func25, Tryz.ntmps25; go_upto_region 1 with fail; refine zau HS.out (fun V0 HS1 => ?_); replace HS := LH HS1; clear HS1 hP1; replace HS := LH (MH.of HS.out); have bP1 := HS.out.gt 1 rfl
 go_wp2_with (first
  | (refine wpList_load_row rfl 37 (.tmp 1) rfl P1 rfl 37 (dvC h d) (0, 0) _ bP1 U37 rfl (sDv h d) ?_))
 clear bP1; refine (HBg.out _ (HDh.out.later HS.out.below)).mono ?_; rintro e W1 ⟨rfl, hb⟩; replace HS := LH (HS.out.later hb); clear hb; obtain ⟨P3, hP3⟩ : ∃ P, W1.heap.size = P := ⟨_, rfl⟩; replace HS := LH (HS.out.alloc hP3 (rcC (DevM.rc d)) 28); go_upto_region 2 with (refine wSN rfl 28 (.tmp 4) (.tmp 11) rfl P3 (rcC (DevM.rc d)) rfl rfl 28 _ hP3.symm (sRc (DevM.rc d)) (lRc (DevM.rc d)) (oRc (DevM.rc d)) ?_); refine gnH HS.out (fun V1 HS1 => ?_); replace HS := LH HS1; clear HS1 hP3; have bP3 := HS.out.gt 0 rfl
 go_wp2_with (first
  | (refine wpList_load_row rfl 28 (.tmp 4) rfl P3 rfl 28 (rcC (DevM.rc d)) (0, 0) _ bP3 U28 rfl (sRc (DevM.rc d)) ?_))
 clear bP3; refine (HSt.out _).mono ?_; rintro e W2 ⟨rfl, hb⟩; replace HS := LH (HS.out.later hb); clear hb; obtain ⟨P7, hP7⟩ : ∃ P, W2.heap.size = P := ⟨_, rfl⟩; replace HS := LH (HS.out.alloc hP7 (rcC (RecM.after (DevM.rc d))) 28); go_upto_region 5 with (refine wSN rfl 28 (.tmp 7) (.tmp 21) rfl P7 (rcC (RecM.after (DevM.rc d))) rfl rfl 28 _ hP7.symm (sRc (RecM.after (DevM.rc d))) (lRc (RecM.after (DevM.rc d))) (oRc (RecM.after (DevM.rc d))) ?_); refine gnH HS.out (fun V2 HS1 => ?_); replace HS := LH HS1; clear HS1 hP7; have bP1 := HS.out.gt 3 rfl
 go_wp2_with (first
  | (refine wpList_load_row rfl 37 (.tmp 1) rfl P1 rfl 37 (dvC h d) (0, 0) _ bP1 U37 rfl (sDv h d) ?_))
 clear bP1; refine (HCy.out _ (HDh.out.later HS.out.below)).mono ?_; rintro e W3 ⟨h', rfl, hb, hn, -, -⟩; replace HS := LH (HS.out.gain hb hn); clear hb hn; unfold devV; have HS2 := LH (HS.out.set 3 rfl (dvC h' d)); have bP1 := HS.out.gt 3 rfl
 go_upto_region 8 with (first
  | (refine wpList_store_row rfl 37 (.tmp 1) (.tmp 28) rfl P1 (dvC h' d) rfl rfl 37 _ bP1 (sDv h' d) (lDv h h' d d) (oDv h' d) ?_))
 clear bP1; refine gnH HS2.out (fun V3 HS1 => ?_); replace HS := LH HS1; clear HS1 HS2; have bP7 := HS.out.gt 0 rfl; have bP3 := HS.out.gt 1 rfl; have bP1 := HS.out.gt 3 rfl
 go_wp2_with (first
  | (refine wpList_load_row rfl 28 (.tmp 7) rfl P7 rfl 28 (rcC (RecM.after (DevM.rc d))) (0, 0) _ bP7 U28 rfl (sRc (RecM.after (DevM.rc d))) ?_)
  | (refine wpList_load_row rfl 28 (.tmp 4) rfl P3 rfl 28 (rcC (DevM.rc d)) (0, 0) _ bP3 U28 rfl (sRc (DevM.rc d)) ?_)
  | (refine wLP rfl 31 (.tmp 33) rfl P1 2 rfl (dvC h' d) 37 (0, 0) bP1 (cpC d.c) (zai h' d) _ U31 rfl (sCp d.c) ?_))
 clear bP7 bP3 bP1; refine (HWr.out _).mono ?_; rintro e W4 ⟨rfl, hb⟩; replace HS := LH (HS.out.later hb); clear hb; have HS2 := LH (HS.out.cells 3 rfl (zbr h' d L))
 go_upto_region 10 with (first
  | (refine wpList_store_mid rfl 31 (.tmp 39) (.tmp 37) rfl P1 2 (cpC L) rfl rfl (HS.out.ms.there 3 rfl (by show 26 ≤ 37; decide)) (sCp L) (zbT L) ?_; refine glH HS2.out (fun V4 HS1 => ?_)))
 replace HS := LH HS1; clear HS1 HS2; have bP1p1 := HS.out.gt 2 rfl; have HG := LH (HS.out.set 2 rfl zDev)
 go_wp2_with (first
  | (refine wpList_store_row rfl 37 (.tmp 2) (.tmp 42) rfl (P1 + 1) zDev rfl rfl 37 _ bP1p1 zac zav zaq ?_))
 clear bP1p1; refine bodyPost_ret (v := .tuple #[.agg zDev, .int .i64 E]) ?_ rfl ?_
 · exact zam (fn := Tryz.f25) (p := 2) (a := 3) rfl rfl rfl (HG.out.get 2 rfl) U37 rfl zac
 · exact GDv.bad HG.out.below
theorem bootD_fine (h : DevH) (d : DevR) (w : World) (HD : DH w h d) (HBg : Hid (∀ W, DH W h d → Calls Tryz.prog 74 #[.agg (dvC h d), .bool false] W fun e w' => e = .returned (.tuple #[.agg (rcC (DevM.rc d)), .int .i64 0]) ∧ Below W.heap.size W w')) (hok : DevM.Ok d) (hu : d.up = false) (hs : (RecM.after (DevM.rc d)) ≠ DevM.rc d) (L : CopsR) (E : Int) (hW : RecM.writeOf d.c (RecM.after (DevM.rc d)) false = (L, E)) (hE : E = 0) (hL : RecM.copies L = 0) : Calls Tryz.prog 25 #[devV h d] w (GDv ({ d with c := L, up := true, run := (RecM.slot (DevM.rc d)) }, 0) w) := by
 have _hk := hok; have _hv := hu; clear _hk _hv
 have HSt : Hid (∀ W, Calls Tryz.prog 84 #[.agg (rcC (DevM.rc d))] W fun e w' => e = .returned (.tuple #[.int .i64 (RecM.slot (DevM.rc d)), .agg (rcC (RecM.after (DevM.rc d))), .int .i64 0]) ∧ Below W.heap.size W w') := fun W => by
  have := startR_any (DevM.rc d) W; rw [RecM.startOf_ok hok.rec_] at this; exact this
 have hq : ∀ W, (binOp .neq 28 (.agg (rcC (RecM.after (DevM.rc d)))) (.agg (rcC (DevM.rc d)))).run Tryz.prog W = .ok (.bool true) W := fun W => by
  have := rec_neq (RecM.after (DevM.rc d)) (DevM.rc d) W; rw [decide_eq_false hs] at this; exact this
 have HWr : Hid (∀ W, Calls Tryz.prog 82 #[.agg (cpC d.c), .agg (rcC (RecM.after (DevM.rc d))), .bool false] W fun e w' => e = .returned (.tuple #[.agg (cpC L), .int .i64 E]) ∧ Below W.heap.size W w') := fun W => by
  have := zbA d.c (RecM.after (DevM.rc d)) false W; rw [hW] at this; exact this
 have HLW := LH (cops_w hL); subst hE
 have HSlW : Hid (I64 (RecM.slot (DevM.rc d))) := by
  show I64 _; have h1 := (RecM.check_nums hok.rec_).2.1; unfold RecM.slot I64; split <;> omega
 have HCy := LH (fun W (x : DH W h d) => za3 h d W x (DevM.few_of hok)); unfold devV at HCy; clear hok hu hs hW hL; have HDh := LH HD; clear HD; unfold devV; obtain ⟨P1, hP1⟩ : ∃ P, w.heap.size = P := ⟨_, rfl⟩; have HS := LH (((((MS.start w).alloc (p := P1) (by simp [hP1]) (dvC h d) 37)).alloc (p := (P1 + 1)) (by simp [hP1]) zDev 37)); go_enter Tryz.func25, Tryz.ntmps25; go_upto_region 1 with fail; refine zau HS.out (fun V0 HS1 => ?_); replace HS := LH HS1; clear HS1 hP1; replace HS := LH (MH.of HS.out); have bP1 := HS.out.gt 1 rfl
 go_wp2_with (first
  | (refine wpList_load_row rfl 37 (.tmp 1) rfl P1 rfl 37 (dvC h d) (0, 0) _ bP1 U37 rfl (sDv h d) ?_))
 clear bP1; refine (HBg.out _ (HDh.out.later HS.out.below)).mono ?_; rintro e W1 ⟨rfl, hb⟩; replace HS := LH (HS.out.later hb); clear hb; obtain ⟨P3, hP3⟩ : ∃ P, W1.heap.size = P := ⟨_, rfl⟩; replace HS := LH (HS.out.alloc hP3 (rcC (DevM.rc d)) 28); go_upto_region 2 with (refine wSN rfl 28 (.tmp 4) (.tmp 11) rfl P3 (rcC (DevM.rc d)) rfl rfl 28 _ hP3.symm (sRc (DevM.rc d)) (lRc (DevM.rc d)) (oRc (DevM.rc d)) ?_); refine gnH HS.out (fun V1 HS1 => ?_); replace HS := LH HS1; clear HS1 hP3; have bP3 := HS.out.gt 0 rfl
 go_wp2_with (first
  | (refine wpList_load_row rfl 28 (.tmp 4) rfl P3 rfl 28 (rcC (DevM.rc d)) (0, 0) _ bP3 U28 rfl (sRc (DevM.rc d)) ?_))
 clear bP3; refine (HSt.out _).mono ?_; rintro e W2 ⟨rfl, hb⟩; replace HS := LH (HS.out.later hb); clear hb; obtain ⟨P7, hP7⟩ : ∃ P, W2.heap.size = P := ⟨_, rfl⟩; replace HS := LH (HS.out.alloc hP7 (rcC (RecM.after (DevM.rc d))) 28); go_upto_region 5 with (refine wSN rfl 28 (.tmp 7) (.tmp 21) rfl P7 (rcC (RecM.after (DevM.rc d))) rfl rfl 28 _ hP7.symm (sRc (RecM.after (DevM.rc d))) (lRc (RecM.after (DevM.rc d))) (oRc (RecM.after (DevM.rc d))) ?_); refine gnH HS.out (fun V2 HS1 => ?_); replace HS := LH HS1; clear HS1 hP7; have bP1 := HS.out.gt 3 rfl
 go_wp2_with (first
  | (refine wpList_load_row rfl 37 (.tmp 1) rfl P1 rfl 37 (dvC h d) (0, 0) _ bP1 U37 rfl (sDv h d) ?_))
 clear bP1; refine (HCy.out _ (HDh.out.later HS.out.below)).mono ?_; rintro e W3 ⟨h', rfl, hb, hn, -, -⟩; replace HS := LH (HS.out.gain hb hn); clear hb hn; unfold devV; have HS2 := LH (HS.out.set 3 rfl (dvC h' d)); have bP1 := HS.out.gt 3 rfl
 go_upto_region 8 with (first
  | (refine wpList_store_row rfl 37 (.tmp 1) (.tmp 28) rfl P1 (dvC h' d) rfl rfl 37 _ bP1 (sDv h' d) (lDv h h' d d) (oDv h' d) ?_))
 clear bP1; refine gnH HS2.out (fun V3 HS1 => ?_); replace HS := LH HS1; clear HS1 HS2; have bP7 := HS.out.gt 0 rfl; have bP3 := HS.out.gt 1 rfl; have bP1 := HS.out.gt 3 rfl
 go_wp2_with (first
  | (refine wpList_load_row rfl 28 (.tmp 7) rfl P7 rfl 28 (rcC (RecM.after (DevM.rc d))) (0, 0) _ bP7 U28 rfl (sRc (RecM.after (DevM.rc d))) ?_)
  | (refine wpList_load_row rfl 28 (.tmp 4) rfl P3 rfl 28 (rcC (DevM.rc d)) (0, 0) _ bP3 U28 rfl (sRc (DevM.rc d)) ?_)
  | (refine wLP rfl 31 (.tmp 33) rfl P1 2 rfl (dvC h' d) 37 (0, 0) bP1 (cpC d.c) (zai h' d) _ U31 rfl (sCp d.c) ?_))
 clear bP7 bP3 bP1; refine (HWr.out _).mono ?_; rintro e W4 ⟨rfl, hb⟩; replace HS := LH (HS.out.later hb); clear hb; have HS2 := LH (HS.out.cells 3 rfl (zbr h' d L))
 go_upto_region 10 with (first
  | (refine wpList_store_mid rfl 31 (.tmp 39) (.tmp 37) rfl P1 2 (cpC L) rfl rfl (HS.out.ms.there 3 rfl (by show 26 ≤ 37; decide)) (sCp L) (zbT L) ?_; refine glH HS2.out (fun V4 HS1 => ?_)))
 replace HS := LH HS1; clear HS1 HS2; go_upto_region 12 with fail; have cP1_26 := HS.out.cel 3 26 (v := .bool d.up) rfl rfl; have fP1_26 := HS.out.thw 3 26 rfl; have cP1_27 := HS.out.cel 3 27 (v := .int .i64 d.run) rfl rfl; have fP1_27 := HS.out.thw 3 27 rfl; have HS2 := LH ((HS.out.cell 3 rfl (put_up h' ({ d with c := L } : DevR) true)).cell 3 rfl (put_run h' ({ d with c := L, up := true } : DevR) (RecM.slot (DevM.rc d)))); go_upto_region 13 with fail; clear cP1_26 fP1_26 cP1_27 fP1_27; refine gnH HS2.out (fun V6 HS1 => ?_); replace HS := LH HS1; clear HS1 HS2; have bP1 := HS.out.gt 3 rfl; have bP1p1 := HS.out.gt 2 rfl; have HG := LH (HS.out.set 2 rfl (dvC h' ({ d with c := L, up := true, run := (RecM.slot (DevM.rc d)) } : DevR)))
 go_wp2_with (first
  | (refine wpList_load_row rfl 37 (.tmp 1) rfl P1 rfl 37 (dvC h' ({ d with c := L, up := true, run := (RecM.slot (DevM.rc d)) } : DevR)) (0, 0) _ bP1 U37 rfl (sDv h' ({ d with c := L, up := true, run := (RecM.slot (DevM.rc d)) } : DevR)) ?_)
  | (refine wpList_store_row rfl 37 (.tmp 2) (.tmp 47) rfl (P1 + 1) (dvC h' ({ d with c := L, up := true, run := (RecM.slot (DevM.rc d)) } : DevR)) rfl rfl 37 _ bP1p1 (sDv h' ({ d with c := L, up := true, run := (RecM.slot (DevM.rc d)) } : DevR)) (zat h' ({ d with c := L, up := true, run := (RecM.slot (DevM.rc d)) } : DevR)) (oDv h' ({ d with c := L, up := true, run := (RecM.slot (DevM.rc d)) } : DevR)) ?_))
 clear bP1 bP1p1; refine bodyPost_ret (v := .tuple #[.agg (dvC h' ({ d with c := L, up := true, run := (RecM.slot (DevM.rc d)) } : DevR)), .int .i64 0]) ?_ rfl ?_
 · exact zam (fn := Tryz.f25) (p := 2) (a := 3) rfl rfl rfl (HG.out.get 2 rfl) U37 rfl (sDv _ _)
 · refine ⟨h', rfl, HG.out.below, fun V v1 v2 => ?_⟩
   have k1 := HG.out.newR 0 rfl V v1 v2; simp only at k1; exact ⟨k1.b0, k1.b1, k1.got, k1.ops, HLW.out, HSlW.out, k1.jobI, k1.doneI⟩
theorem bootD_ok (h : DevH) (d : DevR) (w : World) (HD : DH w h d) (HBg : Hid (∀ W, DH W h d → Calls Tryz.prog 74 #[.agg (dvC h d), .bool false] W fun e w' => e = .returned (.tuple #[.agg (rcC (DevM.rc d)), .int .i64 0]) ∧ Below W.heap.size W w')) (hok : DevM.Ok d) (hu : d.up = false) : Calls Tryz.prog 25 #[devV h d] w (GDv (DevM.boot d) w) := by
 unfold DevM.boot; by_cases hs : RecM.after (DevM.rc d) = DevM.rc d
 · rw [if_pos hs]
   exact bootD_same h d w HD HBg hok hu hs
 · rw [if_neg hs]
   obtain ⟨⟨L, E⟩, hW⟩ : ∃ x, RecM.writeOf d.c (RecM.after (DevM.rc d)) false = x := ⟨_, rfl⟩; rw [hW]; unfold DevM.wrong; by_cases hE : E = 0
   · rw [if_neg (fun q => q hE)]
     exact bootD_fine h d w HD HBg hok hu hs L E hW hE (by
      have := (RecM.writeOf_zero hok.cops (r := RecM.after (DevM.rc d)) (torn := false) (by rw [hW]; exact hE)).2.1
      rwa [hW] at this)
   · rw [if_pos hE]
     exact bootD_err h d w HD HBg hok hu hs L E hW hE
theorem bootD_any (h : DevH) (d : DevR) (w : World) (HD : DH w h d) : Calls Tryz.prog 25 #[devV h d] w (GDv (DevM.told d false (DevM.boot d)) w) := by
 have HBg := fun W (x : DH W h d) => zbn zbF h d false W x; unfold devV at HBg; rcases DevM.beg_cases d false with ⟨E, h0, hb, ht⟩ | ⟨hok, hu, hb, ht⟩
 · rw [ht]
   rw [hb] at HBg; exact bootD_bad h d  w HD E h0 (LH HBg)
 · rw [ht]
   rw [hb] at HBg; exact bootD_ok h d  w HD (LH HBg) hok hu
theorem confR_any (r : RecR) (w : World) :
 Calls Tryz.prog 83 #[recV r] w fun e w' => e = .returned (.tuple #[recV (RecM.confOf r).1, .int .i64 (RecM.confOf r).2]) ∧ Below w.heap.size w w' := by
 have HC := LH (fun W => checkR_any r W); have HST := LH (RSt1.start w r); have hi := sRc r; have HS : Hid (RecM.confOf r = if RecM.check r ≠ 0 then (RecM.noRec, RecM.check r) else if r.trying = false then (RecM.noRec, 5) else (RecM.conf r, 0)) := rfl; have HV : Hid (∀ x, recV x = .agg (rcC x)) := fun _ => rfl; rw [HV.out] at HC; rw [HV.out]; have hc0 := HST.out.c0; go_enter Tryz.func83, Tryz.ntmps83; go_wp2_with (refine wpList_load_row rfl 28 (.tmp 1) rfl w.heap.size rfl 28 (rcC r) (0, 0) _ hc0 U28 rfl hi ?_); refine (HC.out _).mono ?_; rintro e W2 ⟨rfl, hb2⟩; have HST2 := LH (HST.out.later hb2); clear hb2 HST hc0 HC hi; have HG := LH HST2.out.nil_; by_cases e0 : RecM.check r = 0
 · replace HS := LH (HS.out.trans (if_neg (fun q => q e0)))
   have hn := RecM.check_nums e0; have hr := RecM.check_rec e0; rw [e0]; clear e0; obtain ⟨q0, q1, q2, q3, q4, q5, q8, qf⟩ := HST2.out.cells
   cases ht : r.trying
   · rw [ht] at q2
     replace HS := LH (HS.out.trans (if_pos ht)); have hc1 := HST2.out.c1; have hi2 := za8; have ha := one_zero; unfold zaL at hi2 ha hc1; clear hn hr qf ht; go_wp2_with (refine wpList_store_row rfl 28 (.tmp 2) (.tmp 14) rfl (w.heap.size + 1) #[.int .i64 0, .int .i64 0, .bool false, .int .i64 0, .int .i64 0, .int .i64 0, .int .i64 0, .int .i64 0, .int .i64 0, .int .i64 0, .int .i64 0] rfl rfl 28 _ hc1 hi2 rfl ha ?_); refine bodyPost_ret (v := .tuple #[.agg zaL, .int .i64 5]) ?_ rfl ?_
     · exact zam (fn := Tryz.f83) (p := 2) (a := 3) rfl rfl rfl HG.out.1 U28 rfl za8
     · exact ⟨by rw [HS.out]; rfl, HG.out.2⟩
   rw [ht] at q2; replace HS := LH (HS.out.trans (if_neg (by rw [ht]; simp))); rcases hn.2.1 with ha | ha
   · rw [ha] at q1
     have HO : Hid (∀ W, Calls Tryz.prog 144 #[.int .i64 0] W fun e w' => e = .returned (.int .i64 1) ∧ W = w') := fun W => by simpa using zbf 0 W (by decide)
     have HST3 : Hid (RSt1 w { r with act := 1, trying := false, tries := 0 } (((W2.setCell ⟨w.heap.size, 1, none⟩ (.int .i64 1)).setCell ⟨w.heap.size, 2, none⟩ (.bool false)).setCell ⟨w.heap.size, 3, none⟩ (.int .i64 0))) := ((HST2.out.set (r' := { r with act := 1 }) rfl).set (r' := { r with act := 1, trying := false }) rfl).set rfl
     have hfl : r.floor ≤ r.i1.ver := by
      have := hr.2.1 ht; rw [ha] at this; exact this
     have HCf : Hid (RecM.conf r = ⟨r.gen, 1, false, 0, r.i1.ver, r.i0, r.i1⟩) := by
      show _ = _; unfold RecM.conf; have e : (RecM.inf r (1 - r.act)).ver = r.i1.ver := by rw [ha]; rfl
      rw [e, ha, Int.max_eq_right hfl]
      rfl
     have m1 : (if r.floor < r.i1.ver then r.i1.ver else r.floor) = r.i1.ver := by split <;> omega
     have m2 : (if r.i1.ver < r.floor then r.floor else r.i1.ver) = r.i1.ver := by split <;> omega
     have m3 : max r.floor r.i1.ver = r.i1.ver := by omega
     have m4 : max r.i1.ver r.floor = r.i1.ver := by omega
     have qf1 := qf 1; have qf2 := qf 2; have qf3 := qf 3; clear qf hr hn ha; go_wp2_with fail; refine (HO.out _).mono ?_; rintro e w' ⟨rfl, rfl⟩; go_wp2_with fail; generalize ((W2.setCell ⟨w.heap.size, 1, none⟩ (.int .i64 1)).setCell ⟨w.heap.size, 2, none⟩ (.bool false)).setCell ⟨w.heap.size, 3, none⟩ (.int .i64 0) = W3 at HST3 ⊢; clear ht q0 q1 q2 q3 q4 q5 q8 qf1 qf2 qf3 hfl HST2; have HST4 := LH HST3.out.drew; obtain ⟨p0, p1, p2, p3, p4, p5, p8, pf⟩ := HST4.out.cells; have pf4 := pf 4; clear pf p0 p2 p3; have HST5 : Hid (RSt1 w ⟨r.gen, 1, false, 0, r.i1.ver, r.i0, r.i1⟩ (W3.drew.setCell ⟨w.heap.size, 4, none⟩ (.int .i64 r.i1.ver))) := HST4.out.set rfl; go_still_tail 10, (by kernel_rfl)
     change wpList _ _ _ _ _ W3.drew
     have hc0 := HST5.out.c0; have hc1 := HST5.out.c1; replace HG := LH HST5.out.give; have hi := sRc ⟨r.gen, 1, false, 0, r.i1.ver, r.i0, r.i1⟩; have ha := oRc ⟨r.gen, 1, false, 0, r.i1.ver, r.i0, r.i1⟩
     go_wp2_with (first
      | (refine wpList_load_row rfl 28 (.tmp 1) rfl w.heap.size rfl 28 (rcC ⟨r.gen, 1, false, 0, r.i1.ver, r.i0, r.i1⟩) (0, 0) _ hc0 U28 rfl hi ?_)
      | (refine wpList_store_row rfl 28 (.tmp 2) (.tmp 31) rfl (w.heap.size + 1) (rcC ⟨r.gen, 1, false, 0, r.i1.ver, r.i0, r.i1⟩) rfl rfl 28 _ hc1 hi rfl ha ?_))
     refine bodyPost_ret (v := .tuple #[.agg (rcC ⟨r.gen, 1, false, 0, r.i1.ver, r.i0, r.i1⟩), .int .i64 0]) ?_ rfl ?_
     · exact zam (fn := Tryz.f83) (p := 2) (a := 3) rfl rfl rfl HG.out.1 U28 rfl hi
     · exact ⟨by rw [HS.out, HCf.out]; rfl, HG.out.2⟩
   · rw [ha] at q1
     have HO : Hid (∀ W, Calls Tryz.prog 144 #[.int .i64 1] W fun e w' => e = .returned (.int .i64 0) ∧ W = w') := fun W => by simpa using zbf 1 W (by decide)
     have HST3 : Hid (RSt1 w { r with act := 0, trying := false, tries := 0 } (((W2.setCell ⟨w.heap.size, 1, none⟩ (.int .i64 0)).setCell ⟨w.heap.size, 2, none⟩ (.bool false)).setCell ⟨w.heap.size, 3, none⟩ (.int .i64 0))) := ((HST2.out.set (r' := { r with act := 0 }) rfl).set (r' := { r with act := 0, trying := false }) rfl).set rfl
     have hfl : r.floor ≤ r.i0.ver := by
      have := hr.2.1 ht; rw [ha] at this; exact this
     have HCf : Hid (RecM.conf r = ⟨r.gen, 0, false, 0, r.i0.ver, r.i0, r.i1⟩) := by
      show _ = _; unfold RecM.conf; have e : (RecM.inf r (1 - r.act)).ver = r.i0.ver := by rw [ha]; rfl
      rw [e, ha, Int.max_eq_right hfl]
      rfl
     have m1 : (if r.floor < r.i0.ver then r.i0.ver else r.floor) = r.i0.ver := by split <;> omega
     have m2 : (if r.i0.ver < r.floor then r.floor else r.i0.ver) = r.i0.ver := by split <;> omega
     have m3 : max r.floor r.i0.ver = r.i0.ver := by omega
     have m4 : max r.i0.ver r.floor = r.i0.ver := by omega
     have qf1 := qf 1; have qf2 := qf 2; have qf3 := qf 3; clear qf hr hn ha; go_wp2_with fail; refine (HO.out _).mono ?_; rintro e w' ⟨rfl, rfl⟩; go_wp2_with fail; generalize ((W2.setCell ⟨w.heap.size, 1, none⟩ (.int .i64 0)).setCell ⟨w.heap.size, 2, none⟩ (.bool false)).setCell ⟨w.heap.size, 3, none⟩ (.int .i64 0) = W3 at HST3 ⊢; clear ht q0 q1 q2 q3 q4 q5 q8 qf1 qf2 qf3 hfl HST2; have HST4 := LH HST3.out.drew; obtain ⟨p0, p1, p2, p3, p4, p5, p8, pf⟩ := HST4.out.cells; have pf4 := pf 4; clear pf p0 p2 p3; have HST5 : Hid (RSt1 w ⟨r.gen, 0, false, 0, r.i0.ver, r.i0, r.i1⟩ (W3.drew.setCell ⟨w.heap.size, 4, none⟩ (.int .i64 r.i0.ver))) := HST4.out.set rfl; go_still_tail 10, (by kernel_rfl)
     change wpList _ _ _ _ _ W3.drew
     have hc0 := HST5.out.c0; have hc1 := HST5.out.c1; replace HG := LH HST5.out.give; have hi := sRc ⟨r.gen, 0, false, 0, r.i0.ver, r.i0, r.i1⟩; have ha := oRc ⟨r.gen, 0, false, 0, r.i0.ver, r.i0, r.i1⟩
     go_wp2_with (first
      | (refine wpList_load_row rfl 28 (.tmp 1) rfl w.heap.size rfl 28 (rcC ⟨r.gen, 0, false, 0, r.i0.ver, r.i0, r.i1⟩) (0, 0) _ hc0 U28 rfl hi ?_)
      | (refine wpList_store_row rfl 28 (.tmp 2) (.tmp 31) rfl (w.heap.size + 1) (rcC ⟨r.gen, 0, false, 0, r.i0.ver, r.i0, r.i1⟩) rfl rfl 28 _ hc1 hi rfl ha ?_))
     refine bodyPost_ret (v := .tuple #[.agg (rcC ⟨r.gen, 0, false, 0, r.i0.ver, r.i0, r.i1⟩), .int .i64 0]) ?_ rfl ?_
     · exact zam (fn := Tryz.f83) (p := 2) (a := 3) rfl rfl rfl HG.out.1 U28 rfl hi
     · exact ⟨by rw [HS.out, HCf.out]; rfl, HG.out.2⟩
 · obtain ⟨E, hE⟩ : ∃ E, RecM.check r = E := ⟨_, rfl⟩
   replace HS := LH (HS.out.trans (if_pos e0)); rw [hE] at e0 HS ⊢; have t0 : (E != 0) = true := by simp [e0]
   clear hE; have hc1 := HST2.out.c1; have hi2 := za8; have ha := one_zero; unfold zaL at hi2 ha hc1; go_wp2_with (refine wpList_store_row rfl 28 (.tmp 2) (.tmp 9) rfl (w.heap.size + 1) #[.int .i64 0, .int .i64 0, .bool false, .int .i64 0, .int .i64 0, .int .i64 0, .int .i64 0, .int .i64 0, .int .i64 0, .int .i64 0, .int .i64 0] rfl rfl 28 _ hc1 hi2 rfl ha ?_); refine bodyPost_ret (v := .tuple #[.agg zaL, .int .i64 E]) ?_ rfl ?_
   · exact zam (fn := Tryz.f83) (p := 2) (a := 3) rfl rfl rfl HG.out.1 U28 rfl za8
   · exact ⟨by rw [HS.out]; rfl, HG.out.2⟩
theorem confirmD_bad (h : DevH) (d : DevR) (w : World) (HD : DH w h d) (E : Int) (h0 : E ≠ 0) (HBg : Hid (∀ W, DH W h d → Calls Tryz.prog 74 #[.agg (dvC h d), .bool true] W fun e w' => e = .returned (.tuple #[.agg (rcC RecM.noRec), .int .i64 E]) ∧ Below W.heap.size W w')) : Calls Tryz.prog 23 #[devV h d] w (GDv (DevM.noDev, E) w) := by
 have t0 : (E != 0) = true := by simp [h0]
 have HDh := LH HD; clear HD; unfold devV; obtain ⟨P1, hP1⟩ : ∃ P, w.heap.size = P := ⟨_, rfl⟩; have HS := LH (((((MS.start w).alloc (p := P1) (by simp [hP1]) (dvC h d) 37)).alloc (p := (P1 + 1)) (by simp [hP1]) zDev 37)); go_enter Tryz.func23, Tryz.ntmps23; go_upto_region 1 with fail; refine zau HS.out (fun V0 HS1 => ?_); replace HS := LH HS1; clear HS1 hP1; replace HS := LH (MH.of HS.out); have bP1 := HS.out.gt 1 rfl
 go_wp2_with (first
  | (refine wpList_load_row rfl 37 (.tmp 1) rfl P1 rfl 37 (dvC h d) (0, 0) _ bP1 U37 rfl (sDv h d) ?_))
 clear bP1; refine (HBg.out _ (HDh.out.later HS.out.below)).mono ?_; rintro e W1 ⟨rfl, hb⟩; replace HS := LH (HS.out.later hb); clear hb; obtain ⟨P3, hP3⟩ : ∃ P, W1.heap.size = P := ⟨_, rfl⟩; replace HS := LH (HS.out.alloc hP3 (rcC RecM.noRec) 28); go_upto_region 2 with (refine wSN rfl 28 (.tmp 4) (.tmp 10) rfl P3 (rcC RecM.noRec) rfl rfl 28 _ hP3.symm (sRc RecM.noRec) (lRc RecM.noRec) (oRc RecM.noRec) ?_); refine gnH HS.out (fun V1 HS1 => ?_); replace HS := LH HS1; clear HS1 hP3; have bP1p1 := HS.out.gt 1 rfl; have HG := LH (HS.out.set 1 rfl zDev)
 go_wp2_with (first
  | (refine wpList_store_row rfl 37 (.tmp 2) (.tmp 14) rfl (P1 + 1) zDev rfl rfl 37 _ bP1p1 zac zav zaq ?_))
 clear bP1p1; refine bodyPost_ret (v := .tuple #[.agg zDev, .int .i64 E]) ?_ rfl ?_
 · exact zam (fn := Tryz.f23) (p := 2) (a := 3) rfl rfl rfl (HG.out.get 1 rfl) U37 rfl zac
 · exact GDv.bad HG.out.below
theorem confirmD_same (h : DevH) (d : DevR) (w : World) (HD : DH w h d) (HBg : Hid (∀ W, DH W h d → Calls Tryz.prog 74 #[.agg (dvC h d), .bool true] W fun e w' => e = .returned (.tuple #[.agg (rcC (DevM.rc d)), .int .i64 0]) ∧ Below W.heap.size W w')) (hok : DevM.Ok d) (hu : d.up = true) (hrn : d.run = (DevM.rc d).act) : Calls Tryz.prog 23 #[devV h d] w (GDv (DevM.noDev, 5) w) := by
 have _hk := hok; have _hv := hu; clear _hk _hv; have t1 : (d.run == (DevM.rc d).act) = true := by simpa using hrn
 clear hok hu hrn; have HDh := LH HD; clear HD; unfold devV; obtain ⟨P1, hP1⟩ : ∃ P, w.heap.size = P := ⟨_, rfl⟩; have HS := LH (((((MS.start w).alloc (p := P1) (by simp [hP1]) (dvC h d) 37)).alloc (p := (P1 + 1)) (by simp [hP1]) zDev 37)); go_enter Tryz.func23, Tryz.ntmps23; go_upto_region 1 with fail; refine zau HS.out (fun V0 HS1 => ?_); replace HS := LH HS1; clear HS1 hP1; replace HS := LH (MH.of HS.out); have bP1 := HS.out.gt 1 rfl
 go_wp2_with (first
  | (refine wpList_load_row rfl 37 (.tmp 1) rfl P1 rfl 37 (dvC h d) (0, 0) _ bP1 U37 rfl (sDv h d) ?_))
 clear bP1; refine (HBg.out _ (HDh.out.later HS.out.below)).mono ?_; rintro e W1 ⟨rfl, hb⟩; replace HS := LH (HS.out.later hb); clear hb; obtain ⟨P3, hP3⟩ : ∃ P, W1.heap.size = P := ⟨_, rfl⟩; replace HS := LH (HS.out.alloc hP3 (rcC (DevM.rc d)) 28); go_upto_region 2 with (refine wSN rfl 28 (.tmp 4) (.tmp 10) rfl P3 (rcC (DevM.rc d)) rfl rfl 28 _ hP3.symm (sRc (DevM.rc d)) (lRc (DevM.rc d)) (oRc (DevM.rc d)) ?_); refine gnH HS.out (fun V1 HS1 => ?_); replace HS := LH HS1; clear HS1 hP3; have cP1_27 := HS.out.cel 2 27 (v := .int .i64 d.run) rfl rfl; have cP3_1 := HS.out.cel 0 1 (v := .int .i64 (DevM.rc d).act) rfl rfl; have bP1p1 := HS.out.gt 1 rfl; have HG := LH (HS.out.set 1 rfl zDev)
 go_wp2_with (first
  | (refine wpList_store_row rfl 37 (.tmp 2) (.tmp 21) rfl (P1 + 1) zDev rfl rfl 37 _ bP1p1 zac zav zaq ?_))
 clear cP1_27 cP3_1 bP1p1; refine bodyPost_ret (v := .tuple #[.agg zDev, .int .i64 5]) ?_ rfl ?_
 · exact zam (fn := Tryz.f23) (p := 2) (a := 3) rfl rfl rfl (HG.out.get 1 rfl) U37 rfl zac
 · exact GDv.bad HG.out.below
theorem confirmD_err (h : DevH) (d : DevR) (w : World) (HD : DH w h d) (HBg : Hid (∀ W, DH W h d → Calls Tryz.prog 74 #[.agg (dvC h d), .bool true] W fun e w' => e = .returned (.tuple #[.agg (rcC (DevM.rc d)), .int .i64 0]) ∧ Below W.heap.size W w')) (hok : DevM.Ok d) (hu : d.up = true) (hrn : d.run ≠ (DevM.rc d).act) (ht : (DevM.rc d).trying = true) (L : CopsR) (E : Int) (hW : RecM.writeOf d.c (RecM.conf (DevM.rc d)) false = (L, E)) (hE : E ≠ 0) : Calls Tryz.prog 23 #[devV h d] w (GDv (DevM.noDev, E) w) := by
 have _hk := hok; have _hv := hu; clear _hk _hv; have t1 : (d.run == (DevM.rc d).act) = false := by simpa using hrn
 have HCf : Hid (∀ W, Calls Tryz.prog 83 #[.agg (rcC (DevM.rc d))] W fun e w' => e = .returned (.tuple #[.agg (rcC (RecM.conf (DevM.rc d))), .int .i64 0]) ∧ Below W.heap.size W w') := fun W => by
  have := confR_any (DevM.rc d) W; rw [RecM.confOf_ok hok.rec_ ht] at this; exact this
 have HWr : Hid (∀ W, Calls Tryz.prog 82 #[.agg (cpC d.c), .agg (rcC (RecM.conf (DevM.rc d))), .bool false] W fun e w' => e = .returned (.tuple #[.agg (cpC L), .int .i64 E]) ∧ Below W.heap.size W w') := fun W => by
  have := zbA d.c (RecM.conf (DevM.rc d)) false W; rw [hW] at this; exact this
 have t2 : (E != 0) = true := by simp [hE]
 clear hok hu hrn ht hW hE; have HDh := LH HD; clear HD; unfold devV; obtain ⟨P1, hP1⟩ : ∃ P, w.heap.size = P := ⟨_, rfl⟩; have HS := LH (((((MS.start w).alloc (p := P1) (by simp [hP1]) (dvC h d) 37)).alloc (p := (P1 + 1)) (by simp [hP1]) zDev 37)); go_enter Tryz.func23, Tryz.ntmps23; go_upto_region 1 with fail; refine zau HS.out (fun V0 HS1 => ?_); replace HS := LH HS1; clear HS1 hP1; replace HS := LH (MH.of HS.out); have bP1 := HS.out.gt 1 rfl
 go_wp2_with (first
  | (refine wpList_load_row rfl 37 (.tmp 1) rfl P1 rfl 37 (dvC h d) (0, 0) _ bP1 U37 rfl (sDv h d) ?_))
 clear bP1; refine (HBg.out _ (HDh.out.later HS.out.below)).mono ?_; rintro e W1 ⟨rfl, hb⟩; replace HS := LH (HS.out.later hb); clear hb; obtain ⟨P3, hP3⟩ : ∃ P, W1.heap.size = P := ⟨_, rfl⟩; replace HS := LH (HS.out.alloc hP3 (rcC (DevM.rc d)) 28); go_upto_region 2 with (refine wSN rfl 28 (.tmp 4) (.tmp 10) rfl P3 (rcC (DevM.rc d)) rfl rfl 28 _ hP3.symm (sRc (DevM.rc d)) (lRc (DevM.rc d)) (oRc (DevM.rc d)) ?_); refine gnH HS.out (fun V1 HS1 => ?_); replace HS := LH HS1; clear HS1 hP3; have cP1_27 := HS.out.cel 2 27 (v := .int .i64 d.run) rfl rfl; have cP3_1 := HS.out.cel 0 1 (v := .int .i64 (DevM.rc d).act) rfl rfl; have bP3 := HS.out.gt 0 rfl
 go_wp2_with (first
  | (refine wpList_load_row rfl 28 (.tmp 4) rfl P3 rfl 28 (rcC (DevM.rc d)) (0, 0) _ bP3 U28 rfl (sRc (DevM.rc d)) ?_))
 clear cP1_27 cP3_1 bP3; refine (HCf.out _).mono ?_; rintro e W2 ⟨rfl, hb⟩; replace HS := LH (HS.out.later hb); clear hb; have HS2 := LH (HS.out.set 0 rfl (rcC (RecM.conf (DevM.rc d)))); have bP3 := HS.out.gt 0 rfl
 go_upto_region 7 with (first
  | (refine wpList_store_row rfl 28 (.tmp 4) (.tmp 25) rfl P3 (rcC (RecM.conf (DevM.rc d))) rfl rfl 28 _ bP3 (sRc (RecM.conf (DevM.rc d))) (like_rr (DevM.rc d) (RecM.conf (DevM.rc d))) (oRc (RecM.conf (DevM.rc d))) ?_))
 clear bP3; refine gnH HS2.out (fun V2 HS1 => ?_); replace HS := LH HS1; clear HS1 HS2; have bP1 := HS.out.gt 2 rfl; have bP3 := HS.out.gt 0 rfl
 go_wp2_with (first
  | (refine wLP rfl 31 (.tmp 32) rfl P1 2 rfl (dvC h d) 37 (0, 0) bP1 (cpC d.c) (zai h d) _ U31 rfl (sCp d.c) ?_)
  | (refine wpList_load_row rfl 28 (.tmp 4) rfl P3 rfl 28 (rcC (RecM.conf (DevM.rc d))) (0, 0) _ bP3 U28 rfl (sRc (RecM.conf (DevM.rc d))) ?_))
 clear bP1 bP3; refine (HWr.out _).mono ?_; rintro e W3 ⟨rfl, hb⟩; replace HS := LH (HS.out.later hb); clear hb; obtain ⟨P6, hP6⟩ : ∃ P, W3.heap.size = P := ⟨_, rfl⟩; replace HS := LH (HS.out.alloc hP6 (cpC L) 31); go_upto_region 10 with (refine wSN rfl 31 (.tmp 6) (.tmp 36) rfl P6 (cpC L) rfl rfl 31 _ hP6.symm (sCp L) (zbS L) (za5 L) ?_); refine gnH HS.out (fun V3 HS1 => ?_); replace HS := LH HS1; clear HS1 hP6; have bP1p1 := HS.out.gt 2 rfl; have HG := LH (HS.out.set 2 rfl zDev)
 go_wp2_with (first
  | (refine wpList_store_row rfl 37 (.tmp 2) (.tmp 40) rfl (P1 + 1) zDev rfl rfl 37 _ bP1p1 zac zav zaq ?_))
 clear bP1p1; refine bodyPost_ret (v := .tuple #[.agg zDev, .int .i64 E]) ?_ rfl ?_
 · exact zam (fn := Tryz.f23) (p := 2) (a := 3) rfl rfl rfl (HG.out.get 2 rfl) U37 rfl zac
 · exact GDv.bad HG.out.below
theorem confirmD_fine (h : DevH) (d : DevR) (w : World) (HD : DH w h d) (HBg : Hid (∀ W, DH W h d → Calls Tryz.prog 74 #[.agg (dvC h d), .bool true] W fun e w' => e = .returned (.tuple #[.agg (rcC (DevM.rc d)), .int .i64 0]) ∧ Below W.heap.size W w')) (hok : DevM.Ok d) (hu : d.up = true) (hrn : d.run ≠ (DevM.rc d).act) (ht : (DevM.rc d).trying = true) (L : CopsR) (E : Int) (hW : RecM.writeOf d.c (RecM.conf (DevM.rc d)) false = (L, E)) (hE : E = 0) (hL : RecM.copies L = 0) : Calls Tryz.prog 23 #[devV h d] w (GDv ({ d with c := L }, 0) w) := by
 have _hk := hok; have _hv := hu; clear _hk _hv; have t1 : (d.run == (DevM.rc d).act) = false := by simpa using hrn
 have HCf : Hid (∀ W, Calls Tryz.prog 83 #[.agg (rcC (DevM.rc d))] W fun e w' => e = .returned (.tuple #[.agg (rcC (RecM.conf (DevM.rc d))), .int .i64 0]) ∧ Below W.heap.size W w') := fun W => by
  have := confR_any (DevM.rc d) W; rw [RecM.confOf_ok hok.rec_ ht] at this; exact this
 have HWr : Hid (∀ W, Calls Tryz.prog 82 #[.agg (cpC d.c), .agg (rcC (RecM.conf (DevM.rc d))), .bool false] W fun e w' => e = .returned (.tuple #[.agg (cpC L), .int .i64 E]) ∧ Below W.heap.size W w') := fun W => by
  have := zbA d.c (RecM.conf (DevM.rc d)) false W; rw [hW] at this; exact this
 have HLW := LH (cops_w hL); have HCy := LH (fun W (x : DH W h d) => za3 h d W x (DevM.few_of hok)); unfold devV at HCy; subst hE; clear hok hu hrn ht hW hL; have HDh := LH HD; clear HD; unfold devV; obtain ⟨P1, hP1⟩ : ∃ P, w.heap.size = P := ⟨_, rfl⟩; have HS := LH (((((MS.start w).alloc (p := P1) (by simp [hP1]) (dvC h d) 37)).alloc (p := (P1 + 1)) (by simp [hP1]) zDev 37)); go_enter Tryz.func23, Tryz.ntmps23; go_upto_region 1 with fail; refine zau HS.out (fun V0 HS1 => ?_); replace HS := LH HS1; clear HS1 hP1; replace HS := LH (MH.of HS.out); have bP1 := HS.out.gt 1 rfl
 go_wp2_with (first
  | (refine wpList_load_row rfl 37 (.tmp 1) rfl P1 rfl 37 (dvC h d) (0, 0) _ bP1 U37 rfl (sDv h d) ?_))
 clear bP1; refine (HBg.out _ (HDh.out.later HS.out.below)).mono ?_; rintro e W1 ⟨rfl, hb⟩; replace HS := LH (HS.out.later hb); clear hb; obtain ⟨P3, hP3⟩ : ∃ P, W1.heap.size = P := ⟨_, rfl⟩; replace HS := LH (HS.out.alloc hP3 (rcC (DevM.rc d)) 28); go_upto_region 2 with (refine wSN rfl 28 (.tmp 4) (.tmp 10) rfl P3 (rcC (DevM.rc d)) rfl rfl 28 _ hP3.symm (sRc (DevM.rc d)) (lRc (DevM.rc d)) (oRc (DevM.rc d)) ?_); refine gnH HS.out (fun V1 HS1 => ?_); replace HS := LH HS1; clear HS1 hP3; have cP1_27 := HS.out.cel 2 27 (v := .int .i64 d.run) rfl rfl; have cP3_1 := HS.out.cel 0 1 (v := .int .i64 (DevM.rc d).act) rfl rfl; have bP3 := HS.out.gt 0 rfl
 go_wp2_with (first
  | (refine wpList_load_row rfl 28 (.tmp 4) rfl P3 rfl 28 (rcC (DevM.rc d)) (0, 0) _ bP3 U28 rfl (sRc (DevM.rc d)) ?_))
 clear cP1_27 cP3_1 bP3; refine (HCf.out _).mono ?_; rintro e W2 ⟨rfl, hb⟩; replace HS := LH (HS.out.later hb); clear hb; have HS2 := LH (HS.out.set 0 rfl (rcC (RecM.conf (DevM.rc d)))); have bP3 := HS.out.gt 0 rfl
 go_upto_region 7 with (first
  | (refine wpList_store_row rfl 28 (.tmp 4) (.tmp 25) rfl P3 (rcC (RecM.conf (DevM.rc d))) rfl rfl 28 _ bP3 (sRc (RecM.conf (DevM.rc d))) (like_rr (DevM.rc d) (RecM.conf (DevM.rc d))) (oRc (RecM.conf (DevM.rc d))) ?_))
 clear bP3; refine gnH HS2.out (fun V2 HS1 => ?_); replace HS := LH HS1; clear HS1 HS2; have bP1 := HS.out.gt 2 rfl; have bP3 := HS.out.gt 0 rfl
 go_wp2_with (first
  | (refine wLP rfl 31 (.tmp 32) rfl P1 2 rfl (dvC h d) 37 (0, 0) bP1 (cpC d.c) (zai h d) _ U31 rfl (sCp d.c) ?_)
  | (refine wpList_load_row rfl 28 (.tmp 4) rfl P3 rfl 28 (rcC (RecM.conf (DevM.rc d))) (0, 0) _ bP3 U28 rfl (sRc (RecM.conf (DevM.rc d))) ?_))
 clear bP1 bP3; refine (HWr.out _).mono ?_; rintro e W3 ⟨rfl, hb⟩; replace HS := LH (HS.out.later hb); clear hb; obtain ⟨P6, hP6⟩ : ∃ P, W3.heap.size = P := ⟨_, rfl⟩; replace HS := LH (HS.out.alloc hP6 (cpC L) 31); go_upto_region 10 with (refine wSN rfl 31 (.tmp 6) (.tmp 36) rfl P6 (cpC L) rfl rfl 31 _ hP6.symm (sCp L) (zbS L) (za5 L) ?_); refine gnH HS.out (fun V3 HS1 => ?_); replace HS := LH HS1; clear HS1 hP6; have bP1 := HS.out.gt 3 rfl
 go_wp2_with (first
  | (refine wpList_load_row rfl 37 (.tmp 1) rfl P1 rfl 37 (dvC h d) (0, 0) _ bP1 U37 rfl (sDv h d) ?_))
 clear bP1; refine (HCy.out _ (HDh.out.later HS.out.below)).mono ?_; rintro e W4 ⟨h', rfl, hb, hn, -, -⟩; replace HS := LH (HS.out.gain hb hn); clear hb hn; unfold devV; have HS2 := LH (HS.out.set 3 rfl (dvC h' d)); have bP1 := HS.out.gt 3 rfl
 go_upto_region 13 with (first
  | (refine wpList_store_row rfl 37 (.tmp 1) (.tmp 43) rfl P1 (dvC h' d) rfl rfl 37 _ bP1 (sDv h' d) (lDv h h' d d) (oDv h' d) ?_))
 clear bP1; refine gnH HS2.out (fun V4 HS1 => ?_); replace HS := LH HS1; clear HS1 HS2; have HS2 := LH (HS.out.cells 3 rfl (zbr h' d L)); have bP6 := HS.out.gt 0 rfl
 go_upto_region 14 with (first
  | (refine wpList_load_row rfl 31 (.tmp 6) rfl P6 rfl 31 (cpC L) (0, 0) _ bP6 U31 rfl (sCp L) ?_)
  | (refine wpList_store_mid rfl 31 (.tmp 45) (.tmp 44) rfl P1 2 (cpC L) rfl rfl (HS.out.ms.there 3 rfl (by show 26 ≤ 37; decide)) (sCp L) (zbT L) ?_; refine glH HS2.out (fun V5 HS1 => ?_)))
 clear bP6; replace HS := LH HS1; clear HS1 HS2; have bP1 := HS.out.gt 3 rfl; have bP1p1 := HS.out.gt 2 rfl; have HG := LH (HS.out.set 2 rfl (dvC h' ({ d with c := L } : DevR)))
 go_wp2_with (first
  | (refine wpList_load_row rfl 37 (.tmp 1) rfl P1 rfl 37 (dvC h' ({ d with c := L } : DevR)) (0, 0) _ bP1 U37 rfl (sDv h' ({ d with c := L } : DevR)) ?_)
  | (refine wpList_store_row rfl 37 (.tmp 2) (.tmp 46) rfl (P1 + 1) (dvC h' ({ d with c := L } : DevR)) rfl rfl 37 _ bP1p1 (sDv h' ({ d with c := L } : DevR)) (zat h' ({ d with c := L } : DevR)) (oDv h' ({ d with c := L } : DevR)) ?_))
 clear bP1 bP1p1; refine bodyPost_ret (v := .tuple #[.agg (dvC h' ({ d with c := L } : DevR)), .int .i64 0]) ?_ rfl ?_
 · exact zam (fn := Tryz.f23) (p := 2) (a := 3) rfl rfl rfl (HG.out.get 2 rfl) U37 rfl (sDv _ _)
 · refine ⟨h', rfl, HG.out.below, fun V v1 v2 => ?_⟩
   have k1 := HG.out.newR 0 rfl V v1 v2; simp only at k1; exact ⟨k1.b0, k1.b1, k1.got, k1.ops, HLW.out, k1.runI, k1.jobI, k1.doneI⟩
theorem confirmD_ok (h : DevH) (d : DevR) (w : World) (HD : DH w h d) (HBg : Hid (∀ W, DH W h d → Calls Tryz.prog 74 #[.agg (dvC h d), .bool true] W fun e w' => e = .returned (.tuple #[.agg (rcC (DevM.rc d)), .int .i64 0]) ∧ Below W.heap.size W w')) (hok : DevM.Ok d) (hu : d.up = true) : Calls Tryz.prog 23 #[devV h d] w (GDv (DevM.confirm d) w) := by
 unfold DevM.confirm; by_cases hrn : d.run = DevM.act d
 · rw [if_pos (.inl hrn)]
   exact confirmD_same h d w HD HBg hok hu hrn
 · have ht : (DevM.rc d).trying = true := by
    cases e : (DevM.rc d).trying with
    | true => rfl
    | false => exact absurd ((hok.up hu).still e) hrn
   rw [if_neg (by rintro (q | q); exact hrn q; rw [ht] at q; cases q)]; obtain ⟨⟨L, E⟩, hW⟩ : ∃ x, RecM.writeOf d.c (RecM.conf (DevM.rc d)) false = x := ⟨_, rfl⟩; rw [hW]; unfold DevM.wrong; by_cases hE : E = 0
   · rw [if_neg (fun q => q hE)]
     exact confirmD_fine h d w HD HBg hok hu hrn ht L E hW hE (by
      have := (RecM.writeOf_zero hok.cops (r := RecM.conf (DevM.rc d)) (torn := false) (by rw [hW]; exact hE)).2.1
      rwa [hW] at this)
   · rw [if_pos hE]
     exact confirmD_err h d w HD HBg hok hu hrn ht L E hW hE
theorem confirmD_any (h : DevH) (d : DevR) (w : World) (HD : DH w h d) : Calls Tryz.prog 23 #[devV h d] w (GDv (DevM.told d true (DevM.confirm d)) w) := by
 have HBg := fun W (x : DH W h d) => zbn zbF h d true W x; unfold devV at HBg; rcases DevM.beg_cases d true with ⟨E, h0, hb, ht⟩ | ⟨hok, hu, hb, ht⟩
 · rw [ht]
   rw [hb] at HBg; exact confirmD_bad h d  w HD E h0 (LH HBg)
 · rw [ht]
   rw [hb] at HBg; exact confirmD_ok h d  w HD (LH HBg) hok hu
end Go.Proofs.YtnnmpoknghbdnacGreat
