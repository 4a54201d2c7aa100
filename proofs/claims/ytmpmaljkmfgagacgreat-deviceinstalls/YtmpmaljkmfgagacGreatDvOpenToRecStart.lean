/-
  Texts put into one: DvOpen, DvSlot, DvWrite, RecStart.
-/
import Derived.Test.YtmpmaljkmfgagacGreatDvFinToJoinL
import Derived.Test.YtmpmaljkmfgagacGreatMemStToStep
import Derived.Test.YtmpmaljkmfgagacGreatDvSame1ToDvHear
import Derived.Test.YtmpmaljkmfgagacGreatDiffedToLawG
import Derived.Test.YtmpmaljkmfgagacGreatUnpackToCJoin
import Derived.Test.YtmpmaljkmfgagacGreatRowToNewR
set_option maxRecDepth 100000
set_option maxHeartbeats 4000000
namespace Go.Proofs.YtmpmaljkmfgagacGreat
open Go.RowKit
theorem like_zjob (oa : Option Addr) (on oc : Nat) (p : PatR) : (#[.int .i64 0, .int .i64 0, .int .i64 0, .int .i64 0, .int .i64 0, .slice none 0 0] : Array Value).size = (jbC oa on oc p).size := by kernel_rfl
theorem put_got' (h : DevH) (d : DevR) (ga : Option Addr) (gn gc : Nat) (l : List ChR) : (dvC h d).setIfInBounds 28 (.slice ga gn gc) = dvC { h with ga := ga, gn := gn, gc := gc } { d with got := l } := by kernel_rfl
def GivesJc (p : PatR) (E : Int) (w : World) (e : Ending) (w' : World) : Prop :=
 ∃ oa on oc, e = .returned (.tuple #[.agg (jbC oa on oc p), .int .i64 E]) ∧ NewR w.heap.size w' (fun V => OS V oa on oc p.ops) ∧ JobW p ∧ Below w.heap.size w w'
theorem joinC_c (a : Option Addr) (n c : Nat) (l : List ChR) (p : PatR) (E : Int) (hJ : ChunkM.joinOf l = (p, E)) (w : World) (hl : CS w a n c l) : Calls Tryz.prog 58 #[.slice a n c] w (GivesJc p E w) := by
 refine (joinC_n a n c l w hl).mono ?_
 rintro e w' ⟨r, h1, v, rfl, h3, h4⟩
 have hr : r = (p, E) := h1.of.trans hJ
 subst hr
 obtain ⟨oa, on, oc, rfl, -, hI⟩ := h3.here
 refine ⟨oa, on, oc, rfl, fun V v1 v2 => ?_, hI, h4⟩
 obtain ⟨oa', on', oc', he, ho, -⟩ := h3 V v1 v2
 simp only [Value.agg.injEq, Array.mk.injEq, List.cons.injEq, Value.slice.injEq, true_and, and_true] at he
 obtain ⟨rfl, rfl, rfl⟩ := he
 exact ho
theorem put_is {r : RecR} (O : Nat) (ha : 1 - r.act = (O : Int)) (hO : O < 2) (i : InfR) : DevM.put r i = r.setI O i := by
 unfold DevM.put RecR.setI
 by_cases h : O = 0
 · rw [if_pos h, if_neg (by omega)]
 · rw [if_neg h, if_pos (by omega)]
theorem slB_len {W : World} {h : DevH} {d : DevR} (x : DH W h d) (hok : DevM.Ok d) {k : Int} (hk : k = 0 ∨ k = 1) : slN h k = 64 ∧ slN h k ≤ slC h k := by
 rcases hk with rfl | rfl
 · have e1 := x.b0.len
   have e2 := x.b0.le
   have e3 := hok.l0
   exact ⟨by show h.n0 = 64; omega, e2⟩
 · have e1 := x.b1.len
   have e2 := x.b1.le
   have e3 := hok.l1
   exact ⟨by show h.n1 = 64; omega, e2⟩
theorem DH.slB {W : World} {h : DevH} {d : DevR} (x : DH W h d) {k : Int} (hk : k = 0 ∨ k = 1) : BS W (slA h k) (slN h k) (slC h k) (DevM.slot d k) := by
 rcases hk with rfl | rfl
 · exact x.b0
 · exact x.b1
theorem openD_bad (h : DevH) (d : DevR) (w : World) (HD : DH w h d) (E : Int) (h0 : E ≠ 0) (HBg : Hid (∀ W, DH W h d → Calls Tryz.prog 55 #[.agg (dvC h d), .bool true] W fun e w' => e = .returned (.tuple #[.agg (rcC RecM.noRec), .int .i64 E]) ∧ Below W.heap.size W w')) : Calls Tryz.prog 16 #[devV h d] w (GDv (DevM.noDev, E) w) := by
 have t0 : (E != 0) = true := by simp [h0]
 have HDh := LH HD
 clear HD
 unfold devV
 obtain ⟨P1, hP1⟩ : ∃ P, w.heap.size = P := ⟨_, rfl⟩
 have HS := LH (((((MS.start w).alloc (p := P1) (by simp [hP1]) (dvC h d) 37)).alloc (p := (P1 + 1)) (by simp [hP1]) zDev 37))
 go_enter Tryz.func16, Tryz.ntmps16
 go_upto_region 1 with fail
 refine wp_gen HS.out (fun V0 HS1 => ?_)
 replace HS := LH HS1
 clear HS1 hP1
 replace HS := LH (MH.of HS.out)
 have bP1 := HS.out.get 1 rfl
 simp only at bP1
 go_wp2_with (first
   | ((with_reducible show wpList _ _ _ _ _ _); refine LR rfl (t := 37) Tryz.underlying37 rfl (.tmp 1) rfl P1 rfl bP1 (sDv h d) ?_))
 clear bP1
 refine (HBg.out _ (HDh.out.later HS.out.below)).mono ?_
 rintro e W1 ⟨rfl, hb⟩
 replace HS := LH (HS.out.later hb)
 clear hb
 obtain ⟨P3, hP3⟩ : ∃ P, W1.heap.size = P := ⟨_, rfl⟩
 replace HS := LH (HS.out.alloc hP3 (rcC RecM.noRec) 28)
 go_upto_region 2 with ((with_reducible show wpList _ _ _ _ _ _); refine wSN rfl 28 (.tmp 4) (.tmp 13) rfl P3 (rcC RecM.noRec) rfl rfl 28 _ ?_ ?_ ?_ ?_ ?_; exact hP3.symm; exact (sRc RecM.noRec); exact (lRc RecM.noRec); exact (oRc RecM.noRec))
 refine gnH HS.out (fun V1 HS1 => ?_)
 replace HS := LH HS1
 clear HS1 hP3
 have bP1p1 := HS.out.get 1 rfl
 simp only at bP1p1
 have HG := LH (HS.out.set 1 rfl zDev)
 go_wp2_with (first
   | ((with_reducible show wpList _ _ _ _ _ _); refine wpList_store_row rfl 37 (.tmp 2) (.tmp 17) rfl (P1 + 1) zDev rfl rfl 37 zDev ?_ ?_ ?_ ?_ ?_; exact bP1p1; exact size_zdev; exact like_zz; exact one_zdev))
 clear bP1p1
 refine bodyPost_ret (v := .tuple #[.agg zDev, .int .i64 E]) ?_ rfl ?_
 · exact res_ct (fn := Tryz.f16) (p := 2) (a := 3) rfl rfl rfl (HG.out.get 1 rfl) Tryz.underlying37 rfl size_zdev
 · exact GDv.bad HG.out.below
theorem openD_ok (h : DevH) (d : DevR) (w : World) (HD : DH w h d) (HBg : Hid (∀ W, DH W h d → Calls Tryz.prog 55 #[.agg (dvC h d), .bool true] W fun e w' => e = .returned (.tuple #[.agg (rcC (DevM.rc d)), .int .i64 0]) ∧ Below W.heap.size W w')) (hok : DevM.Ok d) (hu : d.up = true) : Calls Tryz.prog 16 #[devV h d] w (GDv (DevM.open_ d) w) := by
 have HR0 : Hid (DevM.open_ d = if d.busy = true ∨ (DevM.rc d).trying = true then (DevM.noDev, 5) else DevM.wrong (ChunkM.joinOf d.got).2
     (if (ChunkM.joinOf d.got).1.from_ ≠ (DevM.info d (DevM.act d)).ver ∨ (ChunkM.joinOf d.got).1.to_ < (DevM.rc d).floor then (DevM.noDev, 4)
      else DevM.wrong (doneOf (ChunkM.joinOf d.got).1 (DevM.image d (DevM.act d))).2
       (DevM.wrong (RecM.writeOf d.c (DevM.put (DevM.rc d) RecM.noInf) false).2
         ({ d with c := (RecM.writeOf d.c (DevM.put (DevM.rc d) RecM.noInf) false).1, busy := true, job := (ChunkM.joinOf d.got).1, done := 0, got := [] }, 0)))) := by
   show _ = _
   unfold DevM.open_
   rfl
 have HOk := LH hok
 have _hv := hu
 have ha := hok.act01
 unfold DevM.act at ha
 obtain ⟨O, hO, hO2⟩ := oth_nat ha
 have HO := othN_any _ O hO ha
 have hO0 : (0 : Int) ≤ (O : Int) := by omega
 have hOI : (O : Int) < 2 := by omega
 have HPt := LH (put_is O hO hO2 RecM.noInf)
 have hin := (RecM.inf_nums (RecM.check_inf hok.rec_ (DevM.rc d).act)).2.1
 have hlen := slB_len HD hok ha
 obtain ⟨m, hm⟩ : ∃ m : Nat, (RecM.inf (DevM.rc d) (DevM.rc d).act).size = m := ⟨_, (Int.toNat_of_nonneg hin.1).symm⟩
 have hm64 : m ≤ 64 := by omega
 obtain ⟨⟨p, J⟩, hJ⟩ : ∃ x, ChunkM.joinOf d.got = x := ⟨_, rfl⟩
 obtain ⟨⟨xb, X⟩, hX⟩ : ∃ x, doneOf p ((DevM.slot d (DevM.rc d).act).take m) = x := ⟨_, rfl⟩
 obtain ⟨⟨L, E⟩, hW⟩ : ∃ x, RecM.writeOf d.c ((DevM.rc d).setI O RecM.noInf) false = x := ⟨_, rfl⟩
 have HR : Hid (DevM.open_ d = if d.busy = true ∨ (DevM.rc d).trying = true then (DevM.noDev, 5) else DevM.wrong J
     (if p.from_ ≠ (RecM.inf (DevM.rc d) (DevM.rc d).act).ver ∨ p.to_ < (DevM.rc d).floor then (DevM.noDev, 4)
      else DevM.wrong X (DevM.wrong E ({ d with c := L, busy := true, job := p, done := 0, got := [] }, 0)))) := by
   show _ = _
   have e1 : DevM.image d (DevM.act d) = (DevM.slot d (DevM.rc d).act).take m := by
     unfold DevM.image DevM.info DevM.act
     rw [hm, Int.toNat_natCast]
   rw [HR0.out, hJ, e1, hX, HPt.out, hW]
   rfl
 have HJn := LH (fun W (x : DH W h d) => joinC_c _ _ _ _ p J hJ W x.got)
 have HI : Hid (∀ W, Calls Tryz.prog 61 #[.agg (dvC h d), .agg (rcC (DevM.rc d))] W fun e w' => e = .returned (.slice (slA h (DevM.rc d).act) m (slC h (DevM.rc d).act)) ∧ Below W.heap.size W w') := fun W => imageD_any h d (DevM.rc d) ha m hm (by omega) W
 have HDo : Hid (∀ oa on oc W, DH W h d → OS W oa on oc p.ops → JobW p → Calls Tryz.prog 60 #[.agg (jbC oa on oc p), .slice (slA h (DevM.rc d).act) m (slC h (DevM.rc d).act)] W (GivesBE (xb, X) W)) := fun oa on oc W hd ho hI => by
   have := doP_any _ p _ _ _ _ W ⟨oa, on, oc, rfl, ho, hI⟩ ((hd.slB ha).head m (by omega))
   rw [hX] at this
   exact this
 have HSu := LH (fun oa on oc W => suitsD_any oa on oc p (DevM.rc d) ha W)
 have HCz := LH (fun q : E = 0 => cops_w (RecM.writeOf_zero HOk.out.cops (r := (DevM.rc d).setI O RecM.noInf) (torn := false) (by rw [hW]; exact q)).2.1)
 rw [hW] at HCz
 clear hok hu _hv ha hO hin hm hm64 hlen hJ hX HPt HR0
 have HWr : Hid (∀ W, Calls Tryz.prog 63 #[.agg (cpC d.c), .agg (rcC ((DevM.rc d).setI O RecM.noInf)), .bool false] W fun e w' => e = .returned (.tuple #[.agg (cpC L), .int .i64 E]) ∧ Below W.heap.size W w') := fun W => by
   have := writeR_any d.c ((DevM.rc d).setI O RecM.noInf) false W
   rw [hW] at this
   exact this
 have HCy := LH (fun W (x : DH W h d) => copiedD_new h d W x (DevM.few_of HOk.out))
 unfold devV at HCy
 clear hW HOk
 generalize hr : DevM.rc d = r at HBg HO HR HI HDo HSu HCz HWr
 clear hr
 have HDh := LH HD
 clear HD
 unfold devV
 obtain ⟨P1, hP1⟩ : ∃ P, w.heap.size = P := ⟨_, rfl⟩
 have HS := LH (((((MS.start w).alloc (p := P1) (by simp [hP1]) (dvC h d) 37)).alloc (p := (P1 + 1)) (by simp [hP1]) zDev 37))
 go_enter Tryz.func16, Tryz.ntmps16
 go_upto_region 1 with fail
 refine wp_gen HS.out (fun V0 HS1 => ?_)
 replace HS := LH HS1
 clear HS1 hP1
 replace HS := LH (MH.of HS.out)
 have bP1 := HS.out.get 1 rfl
 simp only at bP1
 go_wp2_with (first
   | ((with_reducible show wpList _ _ _ _ _ _); refine LR rfl (t := 37) Tryz.underlying37 rfl (.tmp 1) rfl P1 rfl bP1 (sDv h d) ?_))
 clear bP1
 refine (HBg.out _ (HDh.out.later HS.out.below)).mono ?_
 rintro e W1 ⟨rfl, hb⟩
 replace HS := LH (HS.out.later hb)
 clear hb
 obtain ⟨P3, hP3⟩ : ∃ P, W1.heap.size = P := ⟨_, rfl⟩
 replace HS := LH (HS.out.alloc hP3 (rcC r) 28)
 go_upto_region 2 with ((with_reducible show wpList _ _ _ _ _ _); refine wSN rfl 28 (.tmp 4) (.tmp 13) rfl P3 (rcC r) rfl rfl 28 _ ?_ ?_ ?_ ?_ ?_; exact hP3.symm; exact (sRc r); exact (lRc r); exact (oRc r))
 refine gnH HS.out (fun V1 HS1 => ?_)
 replace HS := LH HS1
 clear HS1 hP3
 have cP1_29 := cAt (k := 29) (v := .bool d.busy) (HS.out.get 2 rfl) rfl
 simp only at cP1_29
 have cP3_2 := cAt (k := 2) (v := .bool r.trying) (HS.out.get 0 rfl) rfl
 simp only at cP3_2
 by_cases hl : d.busy = true ∨ r.trying = true
 · have HR2 : Hid (DevM.open_ d = (DevM.noDev, 5)) := by
     show _ = _
     rw [HR.out, if_pos hl]
   have HG := LH (HS.out.set 1 rfl zDev)
   have bP1p1 := HS.out.get 1 rfl
   simp only at bP1p1
   cases hb : d.busy with
   | true =>
     rw [hb] at cP1_29
     clear hb hl
     go_wp2_with (first
       | ((with_reducible show wpList _ _ _ _ _ _); refine wpList_store_row rfl 37 (.tmp 2) (.tmp 25) rfl (P1 + 1) zDev rfl rfl 37 zDev ?_ ?_ ?_ ?_ ?_; exact bP1p1; exact size_zdev; exact like_zz; exact one_zdev))
     refine bodyPost_ret (v := .tuple #[.agg zDev, .int .i64 5]) ?_ rfl ?_
     · exact res_ct (fn := Tryz.f16) (p := 2) (a := 3) rfl rfl rfl (HG.out.get 1 rfl) Tryz.underlying37 rfl size_zdev
     · rw [HR2.out]
       exact GDv.bad HG.out.below
   | false =>
     have ht : r.trying = true := by
       rcases hl with q | q
       · rw [hb] at q; cases q
       · exact q
     rw [hb] at cP1_29
     rw [ht] at cP3_2
     clear hb hl ht
     go_wp2_with (first
       | ((with_reducible show wpList _ _ _ _ _ _); refine wpList_store_row rfl 37 (.tmp 2) (.tmp 25) rfl (P1 + 1) zDev rfl rfl 37 zDev ?_ ?_ ?_ ?_ ?_; exact bP1p1; exact size_zdev; exact like_zz; exact one_zdev))
     refine bodyPost_ret (v := .tuple #[.agg zDev, .int .i64 5]) ?_ rfl ?_
     · exact res_ct (fn := Tryz.f16) (p := 2) (a := 3) rfl rfl rfl (HG.out.get 1 rfl) Tryz.underlying37 rfl size_zdev
     · rw [HR2.out]
       exact GDv.bad HG.out.below
 · have hb : d.busy = false := by
     cases q : d.busy with
     | true => exact absurd (.inl q) hl
     | false => rfl
   have ht : r.trying = false := by
     cases q : r.trying with
     | true => exact absurd (.inr q) hl
     | false => rfl
   rw [hb] at cP1_29
   rw [ht] at cP3_2
   replace HR : Hid (DevM.open_ d = DevM.wrong J
       (if p.from_ ≠ (RecM.inf r r.act).ver ∨ p.to_ < r.floor then (DevM.noDev, 4)
        else DevM.wrong X (DevM.wrong E ({ d with c := L, busy := true, job := p, done := 0, got := [] }, 0)))) := by
     show _ = _
     rw [HR.out, if_neg hl]
   clear hb ht hl
   have cP1_28 := cAt (k := 28) (v := .slice h.ga h.gn h.gc) (HS.out.get 2 rfl) rfl
   simp only at cP1_28
   go_wp2_with fail
   clear cP1_29 cP3_2 cP1_28
   refine (HJn.out _ (HDh.out.later HS.out.below)).mono ?_
   rintro e W2 ⟨oa, on, oc, rfl, hn, hI, hb⟩
   replace HS := LH (HS.out.gain hb hn)
   clear hb hn HJn
   obtain ⟨P6, hP6⟩ : ∃ P, W2.heap.size = P := ⟨_, rfl⟩
   replace HS := LH (HS.out.alloc hP6 (jbC oa on oc p) 35)
   go_upto_region 7 with ((with_reducible show wpList _ _ _ _ _ _); refine wSN rfl 35 (.tmp 6) (.tmp 30) rfl P6 (jbC oa on oc p) rfl rfl 35 _ ?_ ?_ ?_ ?_ ?_; exact hP6.symm; exact (sJb oa on oc p); exact (like_zjob oa on oc p); exact (one_job oa on oc p))
   refine gnH HS.out (fun V2 HS1 => ?_)
   replace HS := LH HS1
   clear HS1 hP6
   by_cases hJ0 : J = 0
   · subst hJ0
     rw [DevM.wrong.eq_1, if_neg (fun q => q rfl)] at HR
     have bP6 := HS.out.get 0 rfl
     simp only at bP6
     have bP3 := HS.out.get 1 rfl
     simp only at bP3
     go_wp2_with (first
       | ((with_reducible show wpList _ _ _ _ _ _); refine LR rfl (t := 35) Tryz.underlying35 rfl (.tmp 6) rfl P6 rfl bP6 (sJb oa on oc p) ?_)
       | ((with_reducible show wpList _ _ _ _ _ _); refine LR rfl (t := 28) Tryz.underlying28 rfl (.tmp 4) rfl P3 rfl bP3 (sRc r) ?_))
     clear bP6 bP3
     by_cases hs : p.from_ = (RecM.inf r r.act).ver ∧ r.floor ≤ p.to_
     · rw [if_neg (by omega)] at HR
       rw [decide_eq_true hs] at HSu
       clear hs
       refine (HSu.out _ _ _ _).mono ?_
       rintro e W3 ⟨rfl, hb⟩
       replace HS := LH (HS.out.later hb)
       clear hb
       go_wp2_with fail
       clear HSu
       refine rTu (S := MS w [(P6, (jbC oa on oc p), 35), (P3, (rcC r), 28), ((P1 + 1), zDev, 37), (P1, (dvC h d), 37)] [] []) [(0, false), (1, false), (2, false), (3, true), (4, true), (5, false), (6, false), (7, false), (8, false), (9, false)] false 9999 (by kernel_rfl) (by kernel_rfl) HS.out.ms.drew ?_
       simp only [turned, gA, gB, gC]
       replace HS := LH HS.out.drew
       repeat (first
         | ((refine turn_row (by rfl) 35 (.tmp 6) rfl P6 rfl 35 (jbC oa on oc p) _ (fun W hW => hW.get 0 rfl) Tryz.underlying35 rfl (sJb oa on oc p) ?_); simp only [Act.put, sA, sB, sC])
         | ((refine turn_row (by rfl) 37 (.tmp 1) rfl P1 rfl 37 (dvC h d) _ (fun W hW => hW.get 3 rfl) Tryz.underlying37 rfl (sDv h d) ?_); simp only [Act.put, sA, sB, sC])
         | ((refine turn_row (by rfl) 28 (.tmp 4) rfl P3 rfl 28 (rcC r) _ (fun W hW => hW.get 1 rfl) Tryz.underlying28 rfl (sRc r) ?_); simp only [Act.put, sA, sB, sC])
         | (refine tSt ?_ (by rfl) (fun W9 hW9 => ?_) ?_
            rotate_left
            · (go_simp <;> with_reducible rfl)
            simp only [Act.put, sA, sB, sC])
         | (refine tSk (by rfl) ?_; simp only [Act.put, sA, sB, sC]))
       refine tCa (fun K hK => ?_)
       go_simp
       go_at_call 61
       with_reducible refine (HI.out _).mono ?_
       rintro e W4 ⟨rfl, hb⟩
       replace HS := LH (HS.out.later hb)
       clear hb
       try go_wp2_with fail
       refine hK.out _ _ HS.out.ms ?_
       clear hK K
       try simp only [Act.put, sA, sB, sC]
       refine tCa (fun K hK => ?_)
       go_simp
       go_at_call 60
       with_reducible refine (HDo.out _ _ _ _ (HDh.out.later HS.out.below) (HS.out.fact 0 rfl) hI).mono ?_
       rintro e W5 ⟨ab, nb, cb, rfl, -, hb⟩
       replace HS := LH (HS.out.later hb)
       clear hb
       try go_wp2_with fail
       refine hK.out _ _ HS.out.ms ?_
       clear hK K
       try simp only [Act.put, sA, sB, sC]
       repeat (first
         | (refine tSt ?_ (by rfl) (fun W9 hW9 => ?_) ?_
            rotate_left
            · (go_simp <;> with_reducible rfl)
            simp only [Act.put, sA, sB, sC])
         | (refine tSk (by rfl) ?_; simp only [Act.put, sA, sB, sC]))
       refine tEn ?_
       clear HI HDo
       by_cases hX0 : X = 0
       · subst hX0
         rw [DevM.wrong.eq_1, if_neg (fun q => q rfl)] at HR
         have cP3_1 := cAt (k := 1) (v := .int .i64 r.act) (HS.out.get 1 rfl) rfl
         simp only at cP3_1
         go_wp2_with fail
         clear cP3_1
         refine (HO.out _).mono ?_
         rintro e W6 ⟨rfl, hb⟩
         replace HS := LH (HS.out.later hb)
         clear hb
         have HS2 := LH (HS.out.cells 1 rfl (put_infV r O RecM.noInf hO2))
         go_upto_region 15 with (first
           | ((with_reducible show wpList _ _ _ _ _ _); refine wpList_store_mid rfl 25 (.tmp 58) (.tmp 56) rfl P3 (5 + O * 3) #[Value.int .i64 RecM.noInf.ver, .int .i64 RecM.noInf.size, .int .i64 RecM.noInf.sum] rfl rfl ?_ ?_ ?_ ?_; exact HS.out.ms.there 1 rfl (by show 5 + O * 3 + 3 ≤ 11; omega); exact size_inf _; exact one_inf _; refine glH HS2.out (fun V3 HS1 => ?_)))
         replace HS := LH HS1
         clear HS1 HS2
         have bP1 := HS.out.get 3 rfl
         simp only at bP1
         have bP3 := HS.out.get 1 rfl
         simp only at bP3
         go_wp2_with (first
           | ((with_reducible show wpList _ _ _ _ _ _); refine wLP rfl 31 (.tmp 60) rfl P1 2 rfl (dvC h d) 37 (0, 0) ?_ (cpC d.c) ?_ _ Tryz.underlying31 rfl ?_ ?_; exact bP1; exact (part_cops h d); exact (sCp d.c))
           | ((with_reducible show wpList _ _ _ _ _ _); refine LR rfl (t := 28) Tryz.underlying28 rfl (.tmp 4) rfl P3 rfl bP3 (sRc (r.setI O RecM.noInf)) ?_))
         clear bP1 bP3
         refine (HWr.out _).mono ?_
         rintro e W7 ⟨rfl, hb⟩
         replace HS := LH (HS.out.later hb)
         clear hb
         obtain ⟨P9, hP9⟩ : ∃ P, W7.heap.size = P := ⟨_, rfl⟩
         replace HS := LH (HS.out.alloc hP9 (cpC L) 31)
         go_upto_region 16 with ((with_reducible show wpList _ _ _ _ _ _); refine wSN rfl 31 (.tmp 9) (.tmp 64) rfl P9 (cpC L) rfl rfl 31 _ ?_ ?_ ?_ ?_ ?_; exact hP9.symm; exact (sCp L); exact (like_copsL L); exact (one_cops L))
         refine gnH HS.out (fun V4 HS1 => ?_)
         replace HS := LH HS1
         clear HS1 hP9 HWr HO
         by_cases hE : E = 0
         · subst hE
           rw [DevM.wrong.eq_1, if_neg (fun q => q rfl)] at HR
           have HLW := LH (HCz.out rfl)
           have bP1 := HS.out.get 4 rfl
           simp only at bP1
           go_wp2_with (first
             | ((with_reducible show wpList _ _ _ _ _ _); refine LR rfl (t := 37) Tryz.underlying37 rfl (.tmp 1) rfl P1 rfl bP1 (sDv h d) ?_))
           clear bP1
           refine (HCy.out _ (HDh.out.later HS.out.below)).mono ?_
           rintro e W8 ⟨h', rfl, hb, hn, -, -⟩
           replace HS := LH (HS.out.gain hb hn)
           clear hb hn
           unfold devV
           have HS2 := LH (HS.out.set 4 rfl (dvC h' d))
           have bP1 := HS.out.get 4 rfl
           simp only at bP1
           go_upto_region 19 with (first
             | ((with_reducible show wpList _ _ _ _ _ _); refine wpList_store_row rfl 37 (.tmp 1) (.tmp 71) rfl P1 (dvC h' d) rfl rfl 37 (dvC h d) ?_ ?_ ?_ ?_ ?_; exact bP1; exact (sDv h' d); exact (lDv h h' d d); exact (oDv h' d)))
           clear bP1
           refine gnH HS2.out (fun V5 HS1 => ?_)
           replace HS := LH HS1
           clear HS1 HS2
           replace HS := LH HS.out.drew
           refine rTu (S := MS w [(P9, (cpC L), 31), (P6, (jbC oa on oc p), 35), (P3, (rcC (r.setI O RecM.noInf)), 28), ((P1 + 1), zDev, 37)] [] []) [(0, false), (1, false), (2, false), (3, true), (4, false), (5, true), (6, false), (7, true), (8, false), (9, true), (10, false), (11, true)] false 9999 (by kernel_rfl) (by kernel_rfl) (HS.out.ms.sub (List.sublist_append_left [(P9, (cpC L), 31), (P6, (jbC oa on oc p), 35), (P3, (rcC (r.setI O RecM.noInf)), 28), ((P1 + 1), zDev, 37)] [(P1, _, 37)])) ?_
           simp only [turned, gA, gB, gC]
           repeat (first
             | ((refine turn_row (by rfl) 31 (.tmp 9) rfl P9 rfl 31 (cpC L) _ (fun W hW => hW.get 0 rfl) Tryz.underlying31 rfl (sCp L) ?_); simp only [Act.put, sA, sB, sC])
             | ((refine turn_row (by rfl) 35 (.tmp 6) rfl P6 rfl 35 (jbC oa on oc p) _ (fun W hW => hW.get 1 rfl) Tryz.underlying35 rfl (sJb _ _ _ _) ?_); simp only [Act.put, sA, sB, sC])
             | (refine tSt ?_ (by rfl) (fun W9 hW9 => ?_) ?_
                rotate_left
                · (go_simp <;> with_reducible rfl)
                simp only [Act.put, sA, sB, sC])
             | (refine tSk (by rfl) ?_; simp only [Act.put, sA, sB, sC]))
           have HS2 := LH (HS.out.cells 4 rfl (put_cops h' d L))
           refine tCa (fun K hK => ?_)
           refine wp_store_cellsO (by rfl) 31 (.tmp 74) (.tmp 72) rfl P1 2 (cpC L) rfl rfl (HS.out.ms.there 4 rfl (by show 26 ≤ 37; decide)) (sCp L) (one_copsA L) ?_
           refine hK.out _ _ (HS2.out.ms.sub (List.sublist_append_left [(P9, (cpC L), 31), (P6, (jbC oa on oc p), 35), (P3, (rcC (r.setI O RecM.noInf)), 28), ((P1 + 1), zDev, 37)] [(P1, _, 37)])) ?_
           clear hK K
           try simp only [Act.put]
           refine turn_gen HS2.out (fun U0 HS1 => ?_)
           replace HS := LH HS1
           clear HS1 HS2
           skip
           repeat (first
             | (refine tSt ?_ (by rfl) (fun W9 hW9 => ?_) ?_
                rotate_left
                · (go_simp <;> with_reducible rfl)
                simp only [Act.put, sA, sB, sC])
             | (refine tSk (by rfl) ?_; simp only [Act.put, sA, sB, sC]))
           have HS2 := LH (HS.out.cell 4 rfl (put_got' h' ({ d with c := L } : DevR) none 0 0 []))
           have cP1_28 := cAt (k := 28) (v := .slice h'.ga h'.gn h'.gc) (HS.out.get 4 rfl) rfl
           simp only at cP1_28
           have fP1_28 := tAt (k := 28) (HS.out.get 4 rfl)
           simp only at fP1_28
           refine tCa (fun K hK => ?_)
           go_simp
           refine hK.out _ _ (HS2.out.ms.sub (List.sublist_append_left [(P9, (cpC L), 31), (P6, (jbC oa on oc p), 35), (P3, (rcC (r.setI O RecM.noInf)), 28), ((P1 + 1), zDev, 37)] [(P1, _, 37)])) ?_
           clear hK K
           try simp only [Act.put]
           refine turn_gen HS2.out (fun U1 HS1 => ?_)
           replace HS := LH HS1
           clear HS1 HS2
           clear cP1_28 fP1_28
           skip
           repeat (first
             | (refine tSt ?_ (by rfl) (fun W9 hW9 => ?_) ?_
                rotate_left
                · (go_simp <;> with_reducible rfl)
                simp only [Act.put, sA, sB, sC])
             | (refine tSk (by rfl) ?_; simp only [Act.put, sA, sB, sC]))
           have HS2 := LH (HS.out.cell 4 rfl (put_busy ({ h' with ga := none, gn := 0, gc := 0 } : DevH) ({ d with c := L, got := [] } : DevR) true))
           have cP1_29 := cAt (k := 29) (v := .bool d.busy) (HS.out.get 4 rfl) rfl
           simp only at cP1_29
           have fP1_29 := tAt (k := 29) (HS.out.get 4 rfl)
           simp only at fP1_29
           refine tCa (fun K hK => ?_)
           go_simp
           refine hK.out _ _ (HS2.out.ms.sub (List.sublist_append_left [(P9, (cpC L), 31), (P6, (jbC oa on oc p), 35), (P3, (rcC (r.setI O RecM.noInf)), 28), ((P1 + 1), zDev, 37)] [(P1, _, 37)])) ?_
           clear hK K
           try simp only [Act.put]
           refine turn_gen HS2.out (fun U2 HS1 => ?_)
           replace HS := LH HS1
           clear HS1 HS2
           clear cP1_29 fP1_29
           skip
           repeat (first
             | (refine tSt ?_ (by rfl) (fun W9 hW9 => ?_) ?_
                rotate_left
                · (go_simp <;> with_reducible rfl)
                simp only [Act.put, sA, sB, sC])
             | (refine tSk (by rfl) ?_; simp only [Act.put, sA, sB, sC]))
           have HS2 := LH (HS.out.cells 4 rfl (put_job ({ h' with ga := none, gn := 0, gc := 0 } : DevH) ({ d with c := L, got := [], busy := true } : DevR) oa on oc p))
           refine tCa (fun K hK => ?_)
           refine wp_store_cellsO (by rfl) 35 (.tmp 77) (.tmp 73) rfl P1 30 (jbC oa on oc p) rfl rfl (HS.out.ms.there 4 rfl (by show 36 ≤ 37; decide)) (sJb _ _ _ _) (one_job _ _ _ _) ?_
           refine hK.out _ _ (HS2.out.ms.sub (List.sublist_append_left [(P9, (cpC L), 31), (P6, (jbC oa on oc p), 35), (P3, (rcC (r.setI O RecM.noInf)), 28), ((P1 + 1), zDev, 37)] [(P1, _, 37)])) ?_
           clear hK K
           try simp only [Act.put]
           refine turn_gen HS2.out (fun U3 HS1 => ?_)
           replace HS := LH HS1
           clear HS1 HS2
           skip
           repeat (first
             | (refine tSt ?_ (by rfl) (fun W9 hW9 => ?_) ?_
                rotate_left
                · (go_simp <;> with_reducible rfl)
                simp only [Act.put, sA, sB, sC])
             | (refine tSk (by rfl) ?_; simp only [Act.put, sA, sB, sC]))
           have HS2 := LH (HS.out.cell 4 rfl (put_done ({ h' with ga := none, gn := 0, gc := 0, oa := oa, on := on, oc := oc } : DevH) ({ d with c := L, got := [], busy := true, job := p } : DevR) 0))
           have cP1_36 := cAt (k := 36) (v := .int .i64 d.done) (HS.out.get 4 rfl) rfl
           simp only at cP1_36
           have fP1_36 := tAt (k := 36) (HS.out.get 4 rfl)
           simp only at fP1_36
           refine tCa (fun K hK => ?_)
           go_simp
           refine hK.out _ _ (HS2.out.ms.sub (List.sublist_append_left [(P9, (cpC L), 31), (P6, (jbC oa on oc p), 35), (P3, (rcC (r.setI O RecM.noInf)), 28), ((P1 + 1), zDev, 37)] [(P1, _, 37)])) ?_
           clear hK K
           try simp only [Act.put]
           refine turn_gen HS2.out (fun U4 HS1 => ?_)
           replace HS := LH HS1
           clear HS1 HS2
           clear cP1_36 fP1_36
           refine tEn ?_
           have bP1 := HS.out.get 4 rfl
           simp only at bP1
           have bP1p1 := HS.out.get 3 rfl
           simp only at bP1p1
           have HG := LH (HS.out.set 3 rfl (dvC ({ h' with ga := none, gn := 0, gc := 0, oa := oa, on := on, oc := oc } : DevH) ({ d with c := L, got := [], busy := true, job := p, done := 0 } : DevR)))
           go_wp2_with (first
             | ((with_reducible show wpList _ _ _ _ _ _); refine LR rfl (t := 37) Tryz.underlying37 rfl (.tmp 1) rfl P1 rfl bP1 (sDv ({ h' with ga := none, gn := 0, gc := 0, oa := oa, on := on, oc := oc } : DevH) ({ d with c := L, got := [], busy := true, job := p, done := 0 } : DevR)) ?_)
             | ((with_reducible show wpList _ _ _ _ _ _); refine wpList_store_row rfl 37 (.tmp 2) (.tmp 79) rfl (P1 + 1) (dvC ({ h' with ga := none, gn := 0, gc := 0, oa := oa, on := on, oc := oc } : DevH) ({ d with c := L, got := [], busy := true, job := p, done := 0 } : DevR)) rfl rfl 37 zDev ?_ ?_ ?_ ?_ ?_; exact bP1p1; exact (sDv ({ h' with ga := none, gn := 0, gc := 0, oa := oa, on := on, oc := oc } : DevH) ({ d with c := L, got := [], busy := true, job := p, done := 0 } : DevR)); exact (like_zdev ({ h' with ga := none, gn := 0, gc := 0, oa := oa, on := on, oc := oc } : DevH) ({ d with c := L, got := [], busy := true, job := p, done := 0 } : DevR)); exact (oDv ({ h' with ga := none, gn := 0, gc := 0, oa := oa, on := on, oc := oc } : DevH) ({ d with c := L, got := [], busy := true, job := p, done := 0 } : DevR))))
           clear bP1 bP1p1
           refine bodyPost_ret (v := .tuple #[.agg (dvC ({ h' with ga := none, gn := 0, gc := 0, oa := oa, on := on, oc := oc } : DevH) ({ d with c := L, got := [], busy := true, job := p, done := 0 } : DevR)), .int .i64 0]) ?_ rfl ?_
           · exact res_ct (fn := Tryz.f16) (p := 2) (a := 3) rfl rfl rfl (HG.out.get 3 rfl) Tryz.underlying37 rfl (sDv _ _)
           · rw [HR.out]
             refine ⟨({ h' with ga := none, gn := 0, gc := 0, oa := oa, on := on, oc := oc } : DevH), rfl, HG.out.below, fun V v1 v2 => ?_⟩
             have k1 := HG.out.newR 0 rfl V v1 v2
             have k2 := HG.out.newR 1 rfl V v1 v2
             simp only at k1 k2
             exact ⟨k1.b0, k1.b1, CS.nil_ _, k2, HLW.out, k1.runI, hI, i64_zero⟩
         · have t3 : (E != 0) = true := by simp [hE]
           have HR2 : Hid (DevM.open_ d = (DevM.noDev, E)) := by
             show _ = _
             rw [HR.out, DevM.wrong.eq_1, if_pos hE]
           clear hE
           have bP1p1 := HS.out.get 3 rfl
           simp only at bP1p1
           have HG := LH (HS.out.set 3 rfl zDev)
           go_wp2_with (first
             | ((with_reducible show wpList _ _ _ _ _ _); refine wpList_store_row rfl 37 (.tmp 2) (.tmp 68) rfl (P1 + 1) zDev rfl rfl 37 zDev ?_ ?_ ?_ ?_ ?_; exact bP1p1; exact size_zdev; exact like_zz; exact one_zdev))
           clear bP1p1
           refine bodyPost_ret (v := .tuple #[.agg zDev, .int .i64 E]) ?_ rfl ?_
           · exact res_ct (fn := Tryz.f16) (p := 2) (a := 3) rfl rfl rfl (HG.out.get 3 rfl) Tryz.underlying37 rfl size_zdev
           · rw [HR2.out]
             exact GDv.bad HG.out.below
       · have t2 : (X != 0) = true := by simp [hX0]
         have HR2 : Hid (DevM.open_ d = (DevM.noDev, X)) := by
           show _ = _
           rw [HR.out, DevM.wrong.eq_1, if_pos hX0]
         clear hX0
         have bP1p1 := HS.out.get 2 rfl
         simp only at bP1p1
         have HG := LH (HS.out.set 2 rfl zDev)
         go_wp2_with (first
           | ((with_reducible show wpList _ _ _ _ _ _); refine wpList_store_row rfl 37 (.tmp 2) (.tmp 51) rfl (P1 + 1) zDev rfl rfl 37 zDev ?_ ?_ ?_ ?_ ?_; exact bP1p1; exact size_zdev; exact like_zz; exact one_zdev))
         clear bP1p1
         refine bodyPost_ret (v := .tuple #[.agg zDev, .int .i64 X]) ?_ rfl ?_
         · exact res_ct (fn := Tryz.f16) (p := 2) (a := 3) rfl rfl rfl (HG.out.get 2 rfl) Tryz.underlying37 rfl size_zdev
         · rw [HR2.out]
           exact GDv.bad HG.out.below
     · have HR2 : Hid (DevM.open_ d = (DevM.noDev, 4)) := by
         show _ = _
         rw [HR.out, if_pos (by omega)]
       rw [decide_eq_false hs] at HSu
       clear hs
       refine (HSu.out _ _ _ _).mono ?_
       rintro e W3 ⟨rfl, hb⟩
       replace HS := LH (HS.out.later hb)
       clear hb
       have bP1p1 := HS.out.get 2 rfl
       simp only at bP1p1
       have HG := LH (HS.out.set 2 rfl zDev)
       go_wp2_with (first
         | ((with_reducible show wpList _ _ _ _ _ _); refine wpList_store_row rfl 37 (.tmp 2) (.tmp 40) rfl (P1 + 1) zDev rfl rfl 37 zDev ?_ ?_ ?_ ?_ ?_; exact bP1p1; exact size_zdev; exact like_zz; exact one_zdev))
       clear bP1p1
       refine bodyPost_ret (v := .tuple #[.agg zDev, .int .i64 4]) ?_ rfl ?_
       · exact res_ct (fn := Tryz.f16) (p := 2) (a := 3) rfl rfl rfl (HG.out.get 2 rfl) Tryz.underlying37 rfl size_zdev
       · rw [HR2.out]
         exact GDv.bad HG.out.below
   · have t1 : (J != 0) = true := by simp [hJ0]
     have HR2 : Hid (DevM.open_ d = (DevM.noDev, J)) := by
       show _ = _
       rw [HR.out, DevM.wrong.eq_1, if_pos hJ0]
     clear hJ0
     have bP1p1 := HS.out.get 2 rfl
     simp only at bP1p1
     have HG := LH (HS.out.set 2 rfl zDev)
     go_wp2_with (first
       | ((with_reducible show wpList _ _ _ _ _ _); refine wpList_store_row rfl 37 (.tmp 2) (.tmp 34) rfl (P1 + 1) zDev rfl rfl 37 zDev ?_ ?_ ?_ ?_ ?_; exact bP1p1; exact size_zdev; exact like_zz; exact one_zdev))
     clear bP1p1
     refine bodyPost_ret (v := .tuple #[.agg zDev, .int .i64 J]) ?_ rfl ?_
     · exact res_ct (fn := Tryz.f16) (p := 2) (a := 3) rfl rfl rfl (HG.out.get 2 rfl) Tryz.underlying37 rfl size_zdev
     · rw [HR2.out]
       exact GDv.bad HG.out.below
theorem openD_any (h : DevH) (d : DevR) (w : World) (HD : DH w h d) : Calls Tryz.prog 16 #[devV h d] w (GDv (DevM.told d true (DevM.open_ d)) w) := by
 have HBg := fun W (x : DH W h d) => beginD_any checkD_ok h d true W x
 unfold devV at HBg
 rcases DevM.beg_cases d true with ⟨E, h0, hb, ht⟩ | ⟨hok, hu, hb, ht⟩
 · rw [ht]
   rw [hb] at HBg
   exact openD_bad h d  w HD E h0 (LH HBg)
 · rw [ht]
   rw [hb] at HBg
   exact openD_ok h d  w HD (LH HBg) hok hu
def noU8 (cs : Array Value) : Bool := cs.all fun v => match v with | .int .u8 _ => false | _ => true
theorem noU8_dev (h : DevH) (d : DevR) : noU8 (dvC h d) = true := by kernel_rfl
theorem noU8_zdev : noU8 zDev = true := by kernel_rfl
theorem noU8_rec (r : RecR) : noU8 (rcC r) = true := by kernel_rfl
theorem BS.notIn {W : World} {b off n c : Nat} {l : List Int} (h : BS W (some ⟨b, off, none⟩) n c l) (hn : 0 < n) {cs : Array Value} {t : TypeId} {fz : Nat × Nat} (hg : W.heap[b]? = some (.cells cs t fz)) (hu : noU8 cs = true) : False := by
 obtain ⟨b', off', e, hc⟩ := h.cells hn
 cases e
 have h0 := hc 0 hn
 simp only [World.cell?, hg, Nat.add_zero] at h0
 simp only [Option.isSome_none, Bool.false_eq_true, if_false] at h0
 obtain ⟨hi, he⟩ := Array.getElem?_eq_some_iff.1 h0
 have := (Array.all_eq_true.1 hu) off hi
 rw [he] at this
 cases this
theorem bs_has {w W : World} {L : List (Nat × Array Value × TypeId)} (h : MS w L [] [] W) {a : Option Addr} {n c : Nat} {l : List Int} (hx : BS W a n c l) (hL : ∀ p ∈ L, noU8 p.2.1 = true) :
   ∃ lo hi, w.heap.size ≤ lo ∧ (∀ p ∈ L, p.1 < lo ∨ hi ≤ p.1) ∧ hi ≤ W.heap.size ∧ Has lo hi W (fun V => Below w.heap.size w V → BS V a n c l) := by
 have hsz := h.below.size
 by_cases hn : n = 0
 · refine ⟨W.heap.size, W.heap.size, hsz, fun p hp => .inl (h.lt hp), Nat.le_refl _, Nat.le_refl _, fun V _ _ _ => ⟨hx.len, hx.le, hx.max, hx.bytes, fun q => absurd q (by omega), hx.none_⟩⟩
 · obtain ⟨b, off, rfl, hc⟩ := hx.cells (by omega)
   have hbl : b < W.heap.size := by
     have h0 := hc 0 (by omega)
     rcases Nat.lt_or_ge b W.heap.size with q | q
     · exact q
     · simp [World.cell?, Array.getElem?_eq_none q] at h0
   have key : ∀ V : World, V.heap[b]? = W.heap[b]? → BS V (some ⟨b, off, none⟩) n c l := fun V hV => hx.keepBlk (fun p hp => by cases hp; exact hV)
   rcases Nat.lt_or_ge b w.heap.size with q | q
   · refine ⟨W.heap.size, W.heap.size, hsz, fun p hp => .inl (h.lt hp), Nat.le_refl _, Nat.le_refl _, fun V _ _ hV => key V ?_⟩
     rw [hV.block b q, h.below.block b q]
   · refine ⟨b, b + 1, q, fun p hp => ?_, hbl, hbl, fun V _ hV _ => key V (hV b (Nat.le_refl _) (by omega))⟩
     have hne : p.1 ≠ b := by
       rintro rfl
       exact hx.notIn (by omega) (h.has p hp) (hL p hp)
     omega
theorem MH.more {w W : World} {L : List (Nat × Array Value × TypeId)} {H : Hlds} (h : MH w L H W) {lo hi : Nat} {r : World → Prop} (hr : Has lo hi W r) (hl : w.heap.size ≤ lo) (hL : ∀ p ∈ L, p.1 < lo ∨ hi ≤ p.1) : MH w L ((lo, hi, r) :: H) W := by
 refine ⟨h.ms, fun q hq => ?_, fun q hq => ?_, fun p hp q hq => ?_⟩
 · rcases List.mem_cons.1 hq with rfl | hq
   · exact hr
   · exact h.has q hq
 · rcases List.mem_cons.1 hq with rfl | hq
   · exact hl
   · exact h.lo q hq
 · rcases List.mem_cons.1 hq with rfl | hq
   · exact hL p hp
   · exact h.sep p hp q hq
theorem MS.wrote {w W : World} {L : List (Nat × Array Value × TypeId)} (h : MS w L [] [] W) {g : Nat} (hw : w.heap.size ≤ g) (hg : ∀ p ∈ L, p.1 ≠ g) (cs : Array Value) : MS w L [] [] (W.setRow g cs) :=
 ⟨fun q hq => (setRow_other W g q.1 cs (hg q hq)).trans (h.has q hq), h.srt, h.base, below_setRow h.below hw cs, (fun _ q => by cases q), (fun _ q => by cases q)⟩
theorem MH.wrote {w W : World} {L : List (Nat × Array Value × TypeId)} {H H' : Hlds} (h : MH w L H W) {g lo hi : Nat} {r : World → Prop} (hw : w.heap.size ≤ lo) (h1 : lo ≤ g) (h2 : g < hi) (hL : ∀ p ∈ L, p.1 < lo ∨ hi ≤ p.1) (hH : ∀ q ∈ H', q ∈ H ∧ (g < q.1 ∨ q.2.1 ≤ g)) (cs : Array Value) (hr : Has lo hi (W.setRow g cs) r) : MH w L ((lo, hi, r) :: H') (W.setRow g cs) := by
 refine ⟨h.ms.wrote (by omega) (fun p hp => by have := hL p hp; omega) cs, fun q hq => ?_, fun q hq => ?_, fun p hp q hq => ?_⟩
 · rcases List.mem_cons.1 hq with rfl | hq
   · exact hr
   · exact (h.has q (hH q hq).1).row (hH q hq).2 cs
 · rcases List.mem_cons.1 hq with rfl | hq
   · exact hw
   · exact h.lo q (hH q hq).1
 · rcases List.mem_cons.1 hq with rfl | hq
   · exact hL p hp
   · exact h.sep p hp q (hH q hq).1
theorem own_lies {m lo hi : Nat} {W : World} {a : Option Addr} {n c : Nat} {l : List Int} (h : Has lo hi W (Own m a n c l)) (hn : 0 < n) :
   ∃ g cur, a = some ⟨g, 0, none⟩ ∧ m ≤ g ∧ (g < lo ∨ g < hi) ∧ W.heap[g]? = some (.cells cur 5 (0, 0)) ∧ n ≤ c ∧ c ≤ 9223372036854775807 ∧ cur.size = c ∧ cur.toList.take n = l.map (Value.int .u8) := by
 have key : ∀ V, Own m a n c l V → ∃ g cur, a = some ⟨g, 0, none⟩ ∧ m ≤ g ∧ V.heap[g]? = some (.cells cur 5 (0, 0)) ∧ n ≤ c ∧ c ≤ maxLen ∧ cur.size = c ∧ cur.toList.take n = l.map (Value.int .u8) := by
   intro V hV
   rcases hV.2 with ⟨-, q⟩ | ⟨g, cap, cur, e, k1, k2, k3, k4, k5, k6⟩
   · omega
   · injection e with e1 e2 e3
     subst e3
     exact ⟨g, cur, e1, k1, k2, k3, k4, by omega, by rw [← k6, Nat.mul_one]⟩
 obtain ⟨g, cur, e, k1, k2, k3, k4, k5, k6⟩ := key W h.here
 refine ⟨g, cur, e, k1, ?_, k2, k3, by unfold maxLen at k4; omega, k5, k6⟩
 rcases Nat.lt_or_ge g hi with q | q
 · exact .inr q
 · exfalso
   obtain ⟨g', cur', e', -, k2', k3', -, k5', -⟩ := key (W.setRow g #[]) (h.2 _ (by rw [setRow_size]; exact h.1) (fun k _ hk => setRow_other W g k _ (by omega)))
   rw [e] at e'
   obtain rfl : g = g' := by injection e' with e'; injection e'
   rw [setRow_heap W g _ _ 5 _ k2] at k2'
   injection k2' with k2'
   injection k2' with k2'
   rw [← k2'] at k5'
   simp at k5'
   omega
def overC (cur : Array Value) (D : Nat) (l : List Int) : Array Value := (cur.toList.take D ++ l.map (Value.int .u8) ++ cur.toList.drop (D + (l.map (Value.int .u8)).length)).toArray
theorem over_bs {V : World} {g n c : Nat} {cur : Array Value} {s l : List Int} {D : Nat} (hc : cur.size = c) (hm : c ≤ 9223372036854775807) (hn : n ≤ c) (hs : cur.toList.take n = s.map (Value.int .u8)) (hsn : s.length = n) (hsb : ∀ x ∈ s, 0 ≤ x ∧ x ≤ 255) (hlb : ∀ x ∈ l, 0 ≤ x ∧ x ≤ 255) (hD : D + l.length ≤ n)
   (h : V.heap[g]? = some (.cells (overC cur D l) 5 (0, 0))) : BS V (some ⟨g, 0, none⟩) n c (s.take D ++ l ++ s.drop (D + l.length)) := by
 have hlen : (s.take D ++ l ++ s.drop (D + l.length)).length = n := by simp; omega
 refine ⟨hlen, hn, hm, fun x hx => ?_, fun _ => ⟨g, 0, rfl, fun i hi => ?_⟩, fun q => by cases q⟩
 · rcases List.mem_append.1 hx with q | q
   · rcases List.mem_append.1 q with q | q
     · exact hsb x (List.mem_of_mem_take q)
     · exact hlb x q
   · exact hsb x (List.mem_of_mem_drop q)
 · have e : ∀ j, j < n → cur.toList[j]? = (s.map (Value.int .u8))[j]? := fun j hj => by
     rw [← hs, List.getElem?_take_of_lt hj]
   have hcl : cur.toList.length = c := by simpa using hc
   rw [Nat.zero_add]
   simp only [World.cell?, h]
   simp only [Option.isSome_none, Bool.false_eq_true, if_false, overC, List.getElem?_toArray]
   have e2 : (cur.toList.take D ++ l.map (Value.int .u8) ++ cur.toList.drop (D + (l.map (Value.int .u8)).length))[i]? = ((s.take D ++ l ++ s.drop (D + l.length)).map (Value.int .u8))[i]? := by
     simp only [List.map_append, List.length_map]
     simp only [List.getElem?_append, List.length_take, List.length_map, List.length_append, hcl, hsn, List.getElem?_take, List.getElem?_drop, List.map_take, List.map_drop]
     rw [show min D c = D by omega, show min D n = D by omega]
     by_cases q1 : i < D + l.length
     · rw [if_pos q1, if_pos q1]
       by_cases q2 : i < D
       · rw [if_pos q2, if_pos q2, if_pos q2, if_pos q2, e i hi]
       · rw [if_neg q2, if_neg q2]
     · rw [if_neg q1, if_neg q1, e _ (by omega)]
   rw [e2, List.getElem?_map, List.getElem?_eq_getElem (by omega)]
   rfl
theorem cut_copy (W : World) (g D n c : Nat) (cur : Array Value) (F sn sc : Nat) (l : List Int) (hg : W.heap[g]? = some (.cells cur 5 (0, 0))) (hcs : cur.size = c) (hnc : n ≤ c) (hs : BS W (some ⟨F, D, none⟩) sn sc l) (hD : D + sn ≤ n) :
   (Builtin.copy_ #[22, 22] 3 #[.slice (some ⟨g, D, none⟩) (n - D) (c - D), .slice (some ⟨F, D, none⟩) sn sc]).run Tryz.prog W = .ok (goInt (l.map (Value.int .u8)).length) (W.setRow g (overC cur D l)) := by
 have hsz : (Tryz.prog.info? 5).map (·.size) = some 1 := by kernel_rfl
 have hl := hs.len
 exact run_copy_row (P := Tryz.prog) W 22 22 3 5 g D (n - D) (c - D) ⟨F, D, none⟩ sn sc cur 5 (l.map (Value.int .u8)) Tryz.underlying22 hsz hg (by rw [List.length_map, hl]; show sn = min sn (n - D); omega) hs.news (by rw [List.length_map, hl]; omega) (oneCell_u8 _)
theorem cutA_pos {g c D : Nat} (h : D < c) : cutA (some ⟨g, 0, none⟩) c D = some ⟨g, D, none⟩ := by
 unfold cutA
 rw [if_neg (by omega), Option.map_some, addr_add, Nat.zero_add]
theorem wp_copyO {P : Program} {o : Oper} {a : Act} {w : World} {K : Act → World → Prop} {Q : Exit → Act → World → Prop} {E : Prop} {ops : Array Oper} (hw : Region.wanted o (yielded ops a.tmps) = true) (d s : Operand) (dT sT : TypeId)
   (ho : o.op = .call { callee := .builtin .copy, args := #[d, s], argTypes := #[dT, sT] }) (vd vs : Value) (hd : a.eval d = vd) (hs : a.eval s = vs) (v' : Value) (w' : World) (hr : (Builtin.copy_ #[dT, sT] o.type #[vd, vs]).run P w = .ok v' w') (h : K (a.put o.dst v') w') : if Region.wanted o (yielded ops a.tmps) = true then Oper.wp P o a w K Q else E := by
 rw [if_pos hw]
 unfold Oper.wp
 simp [execOp, ho, resolve, invoke, builtin, hd, hs, hr, Result.andThen]
 exact h
theorem writeD_bad (h : DevH) (d : DevR) (torn : Bool) (keep : Int) (w : World) (HD : DH w h d) (E : Int) (h0 : E ≠ 0) (HBg : Hid (∀ W, DH W h d → Calls Tryz.prog 55 #[.agg (dvC h d), .bool true] W fun e w' => e = .returned (.tuple #[.agg (rcC RecM.noRec), .int .i64 E]) ∧ Below W.heap.size W w')) : Calls Tryz.prog 17 #[devV h d, .bool torn, .int .i64 keep] w (GDv (DevM.noDev, E) w) := by
 have t0 : (E != 0) = true := by simp [h0]
 have HDh := LH HD
 clear HD
 unfold devV
 obtain ⟨P1, hP1⟩ : ∃ P, w.heap.size = P := ⟨_, rfl⟩
 have HS := LH (((((MS.start w).alloc (p := P1) (by simp [hP1]) (dvC h d) 37)).alloc (p := (P1 + 1)) (by simp [hP1]) zDev 37))
 go_enter Tryz.func17, Tryz.ntmps17
 go_upto_region 1 with fail
 refine wp_gen HS.out (fun V0 HS1 => ?_)
 replace HS := LH HS1
 clear HS1 hP1
 replace HS := LH (MH.of HS.out)
 have bP1 := HS.out.get 1 rfl
 simp only at bP1
 go_wp2_with (first
   | ((with_reducible show wpList _ _ _ _ _ _); refine LR rfl (t := 37) Tryz.underlying37 rfl (.tmp 3) rfl P1 rfl bP1 (sDv h d) ?_))
 clear bP1
 refine (HBg.out _ (HDh.out.later HS.out.below)).mono ?_
 rintro e W1 ⟨rfl, hb⟩
 replace HS := LH (HS.out.later hb)
 clear hb
 obtain ⟨P3, hP3⟩ : ∃ P, W1.heap.size = P := ⟨_, rfl⟩
 replace HS := LH (HS.out.alloc hP3 (rcC RecM.noRec) 28)
 go_upto_region 2 with ((with_reducible show wpList _ _ _ _ _ _); refine wSN rfl 28 (.tmp 8) (.tmp 15) rfl P3 (rcC RecM.noRec) rfl rfl 28 _ ?_ ?_ ?_ ?_ ?_; exact hP3.symm; exact (sRc RecM.noRec); exact (lRc RecM.noRec); exact (oRc RecM.noRec))
 refine gnH HS.out (fun V1 HS1 => ?_)
 replace HS := LH HS1
 clear HS1 hP3
 have bP1p1 := HS.out.get 1 rfl
 simp only at bP1p1
 have HG := LH (HS.out.set 1 rfl zDev)
 go_wp2_with (first
   | ((with_reducible show wpList _ _ _ _ _ _); refine wpList_store_row rfl 37 (.tmp 6) (.tmp 19) rfl (P1 + 1) zDev rfl rfl 37 zDev ?_ ?_ ?_ ?_ ?_; exact bP1p1; exact size_zdev; exact like_zz; exact one_zdev))
 clear bP1p1
 refine bodyPost_ret (v := .tuple #[.agg zDev, .int .i64 E]) ?_ rfl ?_
 · exact res_ct (fn := Tryz.f17) (p := 6) (a := 7) rfl rfl rfl (HG.out.get 1 rfl) Tryz.underlying37 rfl size_zdev
 · exact GDv.bad HG.out.below
theorem writeD_idle (h : DevH) (d : DevR) (torn : Bool) (keep : Int) (w : World) (HD : DH w h d) (HBg : Hid (∀ W, DH W h d → Calls Tryz.prog 55 #[.agg (dvC h d), .bool true] W fun e w' => e = .returned (.tuple #[.agg (rcC (DevM.rc d)), .int .i64 0]) ∧ Below W.heap.size W w')) (hok : DevM.Ok d) (hu : d.up = true) (hbu : d.busy = false) : Calls Tryz.prog 17 #[devV h d, .bool torn, .int .i64 keep] w (GDv (DevM.noDev, 5) w) := by
 have _hk := hok
 have _hv := hu
 clear _hk _hv
 clear hok hu
 have HDh := LH HD
 clear HD
 unfold devV
 obtain ⟨P1, hP1⟩ : ∃ P, w.heap.size = P := ⟨_, rfl⟩
 have HS := LH (((((MS.start w).alloc (p := P1) (by simp [hP1]) (dvC h d) 37)).alloc (p := (P1 + 1)) (by simp [hP1]) zDev 37))
 go_enter Tryz.func17, Tryz.ntmps17
 go_upto_region 1 with fail
 refine wp_gen HS.out (fun V0 HS1 => ?_)
 replace HS := LH HS1
 clear HS1 hP1
 replace HS := LH (MH.of HS.out)
 have bP1 := HS.out.get 1 rfl
 simp only at bP1
 go_wp2_with (first
   | ((with_reducible show wpList _ _ _ _ _ _); refine LR rfl (t := 37) Tryz.underlying37 rfl (.tmp 3) rfl P1 rfl bP1 (sDv h d) ?_))
 clear bP1
 refine (HBg.out _ (HDh.out.later HS.out.below)).mono ?_
 rintro e W1 ⟨rfl, hb⟩
 replace HS := LH (HS.out.later hb)
 clear hb
 obtain ⟨P3, hP3⟩ : ∃ P, W1.heap.size = P := ⟨_, rfl⟩
 replace HS := LH (HS.out.alloc hP3 (rcC (DevM.rc d)) 28)
 go_upto_region 2 with ((with_reducible show wpList _ _ _ _ _ _); refine wSN rfl 28 (.tmp 8) (.tmp 15) rfl P3 (rcC (DevM.rc d)) rfl rfl 28 _ ?_ ?_ ?_ ?_ ?_; exact hP3.symm; exact (sRc (DevM.rc d)); exact (lRc (DevM.rc d)); exact (oRc (DevM.rc d)))
 refine gnH HS.out (fun V1 HS1 => ?_)
 replace HS := LH HS1
 clear HS1 hP3
 have cP1_29 := cAt (k := 29) (v := .bool d.busy) (HS.out.get 2 rfl) rfl
 simp only at cP1_29
 rw [hbu] at cP1_29
 clear hbu
 have cP1_36 := cAt (k := 36) (v := .int .i64 d.done) (HS.out.get 2 rfl) rfl
 simp only at cP1_36
 have cP1_34 := cAt (k := 34) (v := .int .i64 d.job.size) (HS.out.get 2 rfl) rfl
 simp only at cP1_34
 have bP1p1 := HS.out.get 1 rfl
 simp only at bP1p1
 have HG := LH (HS.out.set 1 rfl zDev)
 go_wp2_with (first
   | ((with_reducible show wpList _ _ _ _ _ _); refine wpList_store_row rfl 37 (.tmp 6) (.tmp 32) rfl (P1 + 1) zDev rfl rfl 37 zDev ?_ ?_ ?_ ?_ ?_; exact bP1p1; exact size_zdev; exact like_zz; exact one_zdev))
 clear cP1_29 cP1_36 cP1_34 bP1p1
 refine bodyPost_ret (v := .tuple #[.agg zDev, .int .i64 5]) ?_ rfl ?_
 · exact res_ct (fn := Tryz.f17) (p := 6) (a := 7) rfl rfl rfl (HG.out.get 1 rfl) Tryz.underlying37 rfl size_zdev
 · exact GDv.bad HG.out.below
theorem writeD_over (h : DevH) (d : DevR) (torn : Bool) (keep : Int) (w : World) (HD : DH w h d) (HBg : Hid (∀ W, DH W h d → Calls Tryz.prog 55 #[.agg (dvC h d), .bool true] W fun e w' => e = .returned (.tuple #[.agg (rcC (DevM.rc d)), .int .i64 0]) ∧ Below W.heap.size W w')) (hok : DevM.Ok d) (hu : d.up = true) (hbu : d.busy = true) (hge : d.job.size ≤ d.done) : Calls Tryz.prog 17 #[devV h d, .bool torn, .int .i64 keep] w (GDv (DevM.noDev, 5) w) := by
 have _hk := hok
 have _hv := hu
 clear _hk _hv
 have t2 : decide (d.done ≥ d.job.size) = true := by simp [hge]
 clear hok hu hge
 have HDh := LH HD
 clear HD
 unfold devV
 obtain ⟨P1, hP1⟩ : ∃ P, w.heap.size = P := ⟨_, rfl⟩
 have HS := LH (((((MS.start w).alloc (p := P1) (by simp [hP1]) (dvC h d) 37)).alloc (p := (P1 + 1)) (by simp [hP1]) zDev 37))
 go_enter Tryz.func17, Tryz.ntmps17
 go_upto_region 1 with fail
 refine wp_gen HS.out (fun V0 HS1 => ?_)
 replace HS := LH HS1
 clear HS1 hP1
 replace HS := LH (MH.of HS.out)
 have bP1 := HS.out.get 1 rfl
 simp only at bP1
 go_wp2_with (first
   | ((with_reducible show wpList _ _ _ _ _ _); refine LR rfl (t := 37) Tryz.underlying37 rfl (.tmp 3) rfl P1 rfl bP1 (sDv h d) ?_))
 clear bP1
 refine (HBg.out _ (HDh.out.later HS.out.below)).mono ?_
 rintro e W1 ⟨rfl, hb⟩
 replace HS := LH (HS.out.later hb)
 clear hb
 obtain ⟨P3, hP3⟩ : ∃ P, W1.heap.size = P := ⟨_, rfl⟩
 replace HS := LH (HS.out.alloc hP3 (rcC (DevM.rc d)) 28)
 go_upto_region 2 with ((with_reducible show wpList _ _ _ _ _ _); refine wSN rfl 28 (.tmp 8) (.tmp 15) rfl P3 (rcC (DevM.rc d)) rfl rfl 28 _ ?_ ?_ ?_ ?_ ?_; exact hP3.symm; exact (sRc (DevM.rc d)); exact (lRc (DevM.rc d)); exact (oRc (DevM.rc d)))
 refine gnH HS.out (fun V1 HS1 => ?_)
 replace HS := LH HS1
 clear HS1 hP3
 have cP1_29 := cAt (k := 29) (v := .bool d.busy) (HS.out.get 2 rfl) rfl
 simp only at cP1_29
 rw [hbu] at cP1_29
 clear hbu
 have cP1_36 := cAt (k := 36) (v := .int .i64 d.done) (HS.out.get 2 rfl) rfl
 simp only at cP1_36
 have cP1_34 := cAt (k := 34) (v := .int .i64 d.job.size) (HS.out.get 2 rfl) rfl
 simp only at cP1_34
 have bP1p1 := HS.out.get 1 rfl
 simp only at bP1p1
 have HG := LH (HS.out.set 1 rfl zDev)
 go_wp2_with (first
   | ((with_reducible show wpList _ _ _ _ _ _); refine wpList_store_row rfl 37 (.tmp 6) (.tmp 32) rfl (P1 + 1) zDev rfl rfl 37 zDev ?_ ?_ ?_ ?_ ?_; exact bP1p1; exact size_zdev; exact like_zz; exact one_zdev))
 clear cP1_29 cP1_36 cP1_34 bP1p1
 refine bodyPost_ret (v := .tuple #[.agg zDev, .int .i64 5]) ?_ rfl ?_
 · exact res_ct (fn := Tryz.f17) (p := 6) (a := 7) rfl rfl rfl (HG.out.get 1 rfl) Tryz.underlying37 rfl size_zdev
 · exact GDv.bad HG.out.below
theorem writeD_fine0 (h : DevH) (d : DevR) (torn : Bool) (keep : Int) (w : World) (HD : DH w h d) (g n f : Int) (tr : Bool) (i0 i1 : InfR) (HBg : Hid (∀ W, DH W h d → Calls Tryz.prog 55 #[.agg (dvC h d), .bool true] W fun e w' => e = .returned (.tuple #[.agg (rcC (⟨g, 0, tr, n, f, i0, i1⟩ : RecR)), .int .i64 0]) ∧ Below W.heap.size W w')) (hok : DevM.Ok d) (hu : d.up = true) (hbu : d.busy = true) (hlt : d.done < d.job.size) (m : Nat) (hm : i0.size = m) (hmn : m ≤ h.n0) (hc : h.n0 ≤ h.c0) (xb : List Int) (hX : doneOf d.job (d.s0.take m) = (xb, 0)) (hxb : xb.length ≤ 64) (D : Nat) (hD : d.done = D) (hD8 : D + 8 ≤ 64) (hto : torn = false) : Calls Tryz.prog 17 #[devV h d, .bool torn, .int .i64 keep] w (GDv ({ d with s1 := DevM.over d.s1 xb D 8, done := (D : Int) + 8 }, 0) w) := by
 have _hk := hok
 have _hv := hu
 clear _hk _hv
 have t2 : decide ((D : Int) ≥ d.job.size) = false := by simp; omega
 have HO : Hid (∀ W, Calls Tryz.prog 62 #[.int .i64 0] W fun e w' => e = .returned (.int .i64 1) ∧ Below W.heap.size W w') := fun W => (show Calls Tryz.prog 62 #[.int .i64 0] W fun e w' => e = .returned (.int .i64 1) ∧ W = w' by simpa using otherD_any 0 W (by decide)).mono (fun _ _ ⟨h1, h2⟩ => ⟨h1, h2 ▸ Below.refl _ _⟩)
 have HI : Hid (∀ W, Calls Tryz.prog 61 #[.agg (dvC h d), .agg (rcC (⟨g, 0, tr, n, f, i0, i1⟩ : RecR))] W fun e w' => e = .returned (.slice h.a0 m h.c0) ∧ Below W.heap.size W w') := fun W => imageD_any h d (⟨g, 0, tr, n, f, i0, i1⟩ : RecR) (.inl rfl) m hm (Nat.le_trans hmn hc) W
 have HDo : Hid (∀ W, DH W h d → Calls Tryz.prog 60 #[.agg (jbC h.oa h.on h.oc d.job), .slice h.a0 m h.c0] W (GivesBE (xb, 0) W)) := fun W hd => by
   have := doP_any _ d.job _ _ _ _ W ⟨h.oa, h.on, h.oc, rfl, hd.ops, hd.jobI⟩ (hd.b0.head m hmn)
   rw [hX] at this
   exact this
 have HCy := LH (fun W (x : DH W h d) => copiedD_any h d W x (DevM.few_of hok))
 unfold devV at HCy
 have HFl : Hid (∀ W F ab nb cb, W.heap.size = F → BS W ab nb cb xb → Calls Tryz.prog 37 #[.slice ab nb cb] W fun e w' => e = .returned (.slice (some ⟨F, 0, none⟩) 64 64) ∧ w' = W.alloc (.cells (fillC xb) 5)) := fun W F ab nb cb hF hb => by
   subst hF
   exact filledD_any ab nb cb xb W hb (by have := hb.len; omega)
 have HSl := LH hok.l1
 have HXl := LH hxb
 have t3 := hto
 obtain ⟨Z, hZ, hZD⟩ : ∃ Z : Nat, (D : Int) + 8 = Z ∧ Hid (Z = D + 8) := ⟨D + 8, by omega, LH rfl⟩
 rw [hZ]
 have hZi : Hid (I64 (Z : Int)) := LH (by unfold I64; have := hZD.out; omega)
 clear hto hX hmn hc hm hok hu hlt hxb
 have HDh := LH HD
 clear HD
 unfold devV
 obtain ⟨P1, hP1⟩ : ∃ P, w.heap.size = P := ⟨_, rfl⟩
 have HS := LH (((((MS.start w).alloc (p := P1) (by simp [hP1]) (dvC h d) 37)).alloc (p := (P1 + 1)) (by simp [hP1]) zDev 37))
 go_enter Tryz.func17, Tryz.ntmps17
 go_upto_region 1 with fail
 refine wp_gen HS.out (fun V0 HS1 => ?_)
 replace HS := LH HS1
 clear HS1 hP1
 replace HS := LH (MH.of HS.out)
 have bP1 := HS.out.get 1 rfl
 simp only at bP1
 go_wp2_with (first
   | ((with_reducible show wpList _ _ _ _ _ _); refine LR rfl (t := 37) Tryz.underlying37 rfl (.tmp 3) rfl P1 rfl bP1 (sDv h d) ?_))
 clear bP1
 refine (HBg.out _ (HDh.out.later HS.out.below)).mono ?_
 rintro e W1 ⟨rfl, hb⟩
 replace HS := LH (HS.out.later hb)
 clear hb
 obtain ⟨P3, hP3⟩ : ∃ P, W1.heap.size = P := ⟨_, rfl⟩
 replace HS := LH (HS.out.alloc hP3 (rcC (⟨g, 0, tr, n, f, i0, i1⟩ : RecR)) 28)
 go_upto_region 2 with ((with_reducible show wpList _ _ _ _ _ _); refine wSN rfl 28 (.tmp 8) (.tmp 15) rfl P3 (rcC (⟨g, 0, tr, n, f, i0, i1⟩ : RecR)) rfl rfl 28 _ ?_ ?_ ?_ ?_ ?_; exact hP3.symm; exact (sRc (⟨g, 0, tr, n, f, i0, i1⟩ : RecR)); exact (lRc (⟨g, 0, tr, n, f, i0, i1⟩ : RecR)); exact (oRc (⟨g, 0, tr, n, f, i0, i1⟩ : RecR)))
 refine gnH HS.out (fun V1 HS1 => ?_)
 replace HS := LH HS1
 clear HS1 hP3
 have cP1_29 := cAt (k := 29) (v := .bool d.busy) (HS.out.get 2 rfl) rfl
 simp only at cP1_29
 rw [hbu] at cP1_29
 clear hbu
 have cP1_36 := cAt (k := 36) (v := .int .i64 d.done) (HS.out.get 2 rfl) rfl
 simp only at cP1_36
 rw [hD] at cP1_36
 have cP1_34 := cAt (k := 34) (v := .int .i64 d.job.size) (HS.out.get 2 rfl) rfl
 simp only at cP1_34
 go_wp2_with fail
 clear cP1_29 cP1_36 cP1_34
 refine rTu (S := MS w [(P3, (rcC (⟨g, 0, tr, n, f, i0, i1⟩ : RecR)), 28), ((P1 + 1), zDev, 37), (P1, (dvC h d), 37)] [] []) [(0, false), (1, false), (2, false), (3, false), (4, true), (5, true), (6, false), (7, false), (8, false), (9, false), (10, false)] false 9999 (by kernel_rfl) (by kernel_rfl) HS.out.ms.drew ?_
 simp only [turned, gA, gB, gC]
 replace HS := LH HS.out.drew
 repeat (first
   | ((refine turn_part (by rfl) 35 (.tmp 34) rfl P1 30 rfl 37 (dvC h d) (fun W hW => hW.get 2 rfl) (jbC h.oa h.on h.oc d.job) (part_job h d) _ Tryz.underlying35 rfl (sJb _ _ _ _) ?_); simp only [Act.put, sA, sB, sC])
   | ((refine turn_row (by rfl) 37 (.tmp 3) rfl P1 rfl 37 (dvC h d) _ (fun W hW => hW.get 2 rfl) Tryz.underlying37 rfl (sDv h d) ?_); simp only [Act.put, sA, sB, sC])
   | ((refine turn_row (by rfl) 28 (.tmp 8) rfl P3 rfl 28 (rcC (⟨g, 0, tr, n, f, i0, i1⟩ : RecR)) _ (fun W hW => hW.get 0 rfl) Tryz.underlying28 rfl (sRc (⟨g, 0, tr, n, f, i0, i1⟩ : RecR)) ?_); simp only [Act.put, sA, sB, sC])
   | (refine tSt ?_ (by rfl) (fun W9 hW9 => ?_) ?_
      rotate_left
      · (go_simp <;> with_reducible rfl)
      simp only [Act.put, sA, sB, sC])
   | (refine tSk (by rfl) ?_; simp only [Act.put, sA, sB, sC]))
 refine tCa (fun K hK => ?_)
 go_simp
 go_at_call 61
 with_reducible refine (HI.out _).mono ?_
 rintro e W2 ⟨rfl, hb⟩
 replace HS := LH (HS.out.later hb)
 clear hb
 try go_wp2_with fail
 refine hK.out _ _ HS.out.ms ?_
 clear hK K
 try simp only [Act.put, sA, sB, sC]
 refine tCa (fun K hK => ?_)
 go_simp
 go_at_call 60
 with_reducible refine (HDo.out _ (HDh.out.later HS.out.below)).mono ?_
 rintro e W3 ⟨ab, nb, cb, rfl, hbs, hb⟩
 replace HS := LH (HS.out.later hb)
 have HXb := LH hbs.bytes
 simp only at HXb hbs
 obtain ⟨lo, hi, q1, q2, q3, q4⟩ := bs_has HS.out.ms hbs (fun p hp => by
   simp only [List.mem_cons, List.not_mem_nil, or_false] at hp
   rcases hp with rfl | rfl | rfl
   · exact noU8_rec _
   · exact noU8_zdev
   · exact noU8_dev _ _)
 replace HS := LH (HS.out.more q4 q1 q2)
 clear hb hbs q1 q2 q3 q4
 try go_wp2_with fail
 refine hK.out _ _ HS.out.ms ?_
 clear hK K
 try simp only [Act.put, sA, sB, sC]
 repeat (first
   | (refine tSt ?_ (by rfl) (fun W9 hW9 => ?_) ?_
      rotate_left
      · (go_simp <;> with_reducible rfl)
      simp only [Act.put, sA, sB, sC])
   | (refine tSk (by rfl) ?_; simp only [Act.put, sA, sB, sC]))
 refine tEn ?_
 have cP1_36 := cAt (k := 36) (v := .int .i64 d.done) (HS.out.get 2 rfl) rfl
 simp only at cP1_36
 rw [hD] at cP1_36
 have bP1 := HS.out.get 2 rfl
 simp only at bP1
 go_wp2_with (first
   | ((with_reducible show wpList _ _ _ _ _ _); refine LR rfl (t := 37) Tryz.underlying37 rfl (.tmp 3) rfl P1 rfl bP1 (sDv h d) ?_))
 clear cP1_36 bP1
 have hlt : ∀ p ∈ [(P3, (rcC (⟨g, 0, tr, n, f, i0, i1⟩ : RecR)), 28), ((P1 + 1), zDev, 37), (P1, (dvC h d), 37)], p.1 < W3.heap.size := fun p hp => HS.out.ms.lt hp
 refine (HCy.out _ (HDh.out.later HS.out.below)).mono ?_
 rintro e W4 ⟨h', m0, m1, m2, mB, m3, m4, rfl, hb, l0, l1, l2, l3, l4, l5, -, -, o0, o1, o2, o3⟩
 replace hlt : ∀ p ∈ [(P3, (rcC (⟨g, 0, tr, n, f, i0, i1⟩ : RecR)), 28), ((P1 + 1), zDev, 37), (P1, (dvC h d), 37)], p.1 < m0 := fun p hp => Nat.lt_of_lt_of_le (hlt p hp) l0
 have hw0 : w.heap.size ≤ m0 := Nat.le_trans HS.out.below.size l0
 have hhi : hi ≤ m0 := Nat.le_trans (HS.out.has _ (List.mem_cons_self ..)).1 l0
 replace HS := LH (HS.out.later hb)
 replace HS := LH (HS.out.put o3 (by omega) (fun p hp => by have := hlt p hp; omega))
 replace HS := LH (HS.out.put o2 (by omega) (fun p hp => by have := hlt p hp; omega))
 replace HS := LH (HS.out.put o0 (by omega) (fun p hp => by have := hlt p hp; omega))
 replace HS := LH (HS.out.put o1 (by omega) (fun p hp => by have := hlt p hp; omega))
 clear hb o0 o1 o2 o3
 unfold devV
 have hn : h'.n1 = 64 := by
   have h9 := (HS.out.fact 0 rfl).1
   simp only [List.length_map, Nat.mul_one] at h9
   have := HSl.out
   omega
 have HS2 := LH (HS.out.set 2 rfl (dvC h' d))
 have bP1 := HS.out.get 2 rfl
 simp only at bP1
 have HN := LH hn
 clear hn
 have HLt := LH hlt
 clear hlt
 go_upto_region 13 with (first
   | ((with_reducible show wpList _ _ _ _ _ _); refine wpList_store_row rfl 37 (.tmp 3) (.tmp 57) rfl P1 (dvC h' d) rfl rfl 37 (dvC h d) ?_ ?_ ?_ ?_ ?_; exact bP1; exact (sDv h' d); exact (lDv h h' d d); exact (oDv h' d)))
 clear bP1
 refine gnH HS2.out (fun V5 HS1 => ?_)
 replace HS := LH HS1
 clear HS1 HS2
 obtain ⟨gs, cur0, ea, q5, -, -, q8, -, -, -⟩ := own_lies (HS.out.has (m1, m2, Own m1 h'.a1 h'.n1 h'.c1 d.s1) (List.mem_cons_self ..)) (by rw [HN.out]; decide)
 clear cur0
 have hcut1 : ∀ W, (Instr.slice 22 (.slice h'.a1 h'.n1 h'.c1) (some (.int .i64 (D : Int))) none none).run Tryz.prog W = .ok (.slice (some ⟨gs, D, none⟩) (h'.n1 - D) (h'.c1 - D)) W := fun W => by
   have := HN.out
   rw [ea, run_cut_l _ _ _ W D (by omega), cutA_pos (by omega)]
 have hcut2 : ∀ F W, (Instr.slice 22 (.slice (some ⟨F, 0, none⟩) 64 64) (some (.int .i64 (D : Int))) (some (.int .i64 (Z : Int))) none).run Tryz.prog W = .ok (.slice (some ⟨F, D, none⟩) 8 (64 - D)) W := fun F W => by
   have := hZD.out
   rw [run_cut_lh _ _ _ W D Z (by omega) (by omega), cutA_pos (by omega), show Z - D = 8 by omega]
 have HEa := LH ea
 have HQ := LH (And.intro q5 q8)
 clear ea q5 q8
 refine rTu (S := MS w [(P3, (rcC (⟨g, 0, tr, n, f, i0, i1⟩ : RecR)), 28), ((P1 + 1), zDev, 37), (P1, (dvC h' d), 37)] [] []) [(0, false), (1, false), (3, false), (6, false), (7, false), (9, false), (11, false), (12, false), (13, false), (2, true), (4, false), (5, false), (8, false), (10, true), (14, false), (15, true)] false 9999 (by kernel_rfl) (by kernel_rfl) HS.out.ms.drew ?_
 simp only [turned, gA, gB, gC]
 replace HS := LH HS.out.drew
 have uP3_1 : ∀ W, MS w [(P3, (rcC (⟨g, 0, tr, n, f, i0, i1⟩ : RecR)), 28), ((P1 + 1), zDev, 37), (P1, (dvC h' d), 37)] [] [] W → W.cell? ⟨P3, 1, none⟩ = some (.int .i64 0) := fun W hW => cAt (hW.get 0 rfl) rfl
 have uP1_1 : ∀ W, MS w [(P3, (rcC (⟨g, 0, tr, n, f, i0, i1⟩ : RecR)), 28), ((P1 + 1), zDev, 37), (P1, (dvC h' d), 37)] [] [] W → W.cell? ⟨P1, 1, none⟩ = some (.slice h'.a1 h'.n1 h'.c1) := fun W hW => cAt (hW.get 2 rfl) rfl
 have uP1_36 : ∀ W, MS w [(P3, (rcC (⟨g, 0, tr, n, f, i0, i1⟩ : RecR)), 28), ((P1 + 1), zDev, 37), (P1, (dvC h' d), 37)] [] [] W → W.cell? ⟨P1, 36, none⟩ = some (.int .i64 (D : Int)) := fun W hW => by
   have := cAt (k := 36) (v := .int .i64 d.done) (hW.get 2 rfl) rfl
   rwa [hD] at this
 repeat (first
   | (refine tSt ?_ (by rfl) (fun W9 hW9 => ?_) ?_
      rotate_left
      · (go_simp <;> with_reducible rfl)
      simp only [Act.put, sA, sB, sC])
   | (refine tSk (by rfl) ?_; simp only [Act.put, sA, sB, sC]))
 refine tCa (fun K hK => ?_)
 go_simp
 go_at_call 62
 with_reducible refine (HO.out _).mono ?_
 rintro e W5 ⟨rfl, hb⟩
 replace HS := LH (HS.out.later hb)
 clear hb
 try go_wp2_with fail
 refine hK.out _ _ HS.out.ms ?_
 clear hK K
 try simp only [Act.put, sA, sB, sC]
 repeat (first
   | (refine tSt ?_ (by rfl) (fun W9 hW9 => ?_) ?_
      rotate_left
      · (go_simp <;> with_reducible rfl)
      simp only [Act.put, sA, sB, sC])
   | (refine tSk (by rfl) ?_; simp only [Act.put, sA, sB, sC]))
 obtain ⟨F0, hF0⟩ : ∃ F, W5.heap.size = F := ⟨_, rfl⟩
 refine tCa (fun K hK => ?_)
 go_simp
 go_at_call 37
 with_reducible refine (HFl.out _ F0 _ _ _ hF0 (HS.out.fact 4 rfl HS.out.below)).mono ?_
 rintro e W9 ⟨rfl, rfl⟩
 replace HS := LH (HS.out.alloc hF0 (fillC xb) 5)
 clear hF0
 try go_wp2_with fail
 refine hK.out _ _ HS.out.ms.tail ?_
 clear hK K
 try simp only [Act.put, sA, sB, sC]
 refine turn_gen HS.out (fun U0 HS1 => ?_)
 replace HS := LH HS1
 clear HS1
 repeat (first
   | (refine tSt ?_ (by rfl) (fun W9 hW9 => ?_) ?_
      rotate_left
      · (go_simp <;> with_reducible rfl)
      simp only [Act.put, sA, sB, sC])
   | (refine tSk (by rfl) ?_; simp only [Act.put, sA, sB, sC]))
 have hown : Has m1 m2 U0 (Own m1 h'.a1 h'.n1 h'.c1 d.s1) := HS.out.has (m1, m2, Own m1 h'.a1 h'.n1 h'.c1 d.s1) (List.mem_cons_self ..)
 obtain ⟨gs', cur, ea, q5, q6, q7, q8, q9, q10, q11⟩ := own_lies hown (by rw [HN.out]; decide)
 obtain rfl : gs = gs' := by
   rw [HEa.out] at ea
   injection ea with ea
   injection ea
 have q6' : gs < m2 := by omega
 have hfl := DevM.fill_len HXl.out
 have hll : (((DevM.fill xb).drop D).take 8).length = 8 := by
   rw [List.length_take, List.length_drop, hfl]
   omega
 have hsrc : BS U0 (some ⟨F0, D, none⟩) 8 (64 - D) (((DevM.fill xb).drop D).take 8) := by
   have h9 := (fillC_bs (HS.out.get 0 rfl) HXl.out HXb.out).mid D (D + 8) (by omega) (by omega)
   rwa [cutA_pos (by omega), Nat.add_sub_cancel_left] at h9
 have hcp := cut_copy U0 gs D h'.n1 h'.c1 cur F0 8 (64 - D) (((DevM.fill xb).drop D).take 8) q7 q10 q8 hsrc (by rw [HN.out]; omega)
 have hsb := HDh.out.b1.bytes
 have hr : Has m1 m2 (U0.setRow gs (overC cur D (((DevM.fill xb).drop D).take 8))) (fun V => BS V h'.a1 h'.n1 h'.c1 (DevM.over d.s1 xb D 8)) := by
   refine ⟨by rw [setRow_size]; exact hown.1, fun V _ hk => ?_⟩
   have h9 := over_bs (V := V) q10 q9 q8 q11 (by rw [HSl.out, HN.out]) hsb hsrc.bytes (D := D) (by rw [hll, HN.out]; omega) (by rw [hk gs q5 q6']; exact setRow_heap U0 gs _ _ 5 _ q7)
   rw [hll] at h9
   rw [ea]
   exact h9
 have HS2 := LH (HS.out.wrote (H' := [(m0, m1, Own m0 h'.a0 h'.n0 h'.c0 d.s0), (mB, m3, fun V => CS V h'.ga h'.gn h'.gc d.got), (m3, m4, fun V => OS V h'.oa h'.on h'.oc d.job.ops)]) (by omega) q5 q6' (fun p hp => HS.out.sep p hp (m1, m2, Own m1 h'.a1 h'.n1 h'.c1 d.s1) (List.mem_cons_self ..)) (fun q hq => by
   simp only [List.mem_cons, List.not_mem_nil, or_false] at hq
   rcases hq with rfl | rfl | rfl
   · exact ⟨by simp, by simp only; omega⟩
   · exact ⟨by simp, by simp only; omega⟩
   · exact ⟨by simp, by simp only; omega⟩) _ hr)
 refine tCa (fun K hK => ?_)
 refine wp_copyO (by rfl) (.tmp 66) (.tmp 72) 22 22 rfl _ _ rfl rfl _ _ hcp ?_
 refine hK.out _ _ HS2.out.ms.tail ?_
 clear hK K hcp hr hsrc q7 q11 ea
 try simp only [Act.put]
 clear uP3_1 uP1_1 uP1_36
 refine tEn ?_
 go_upto_region 14 with fail
 refine gnH HS2.out (fun V6 HS1 => ?_)
 replace HS := LH HS1
 clear HS1 HS2
 have HS2 := LH (HS.out.cell 3 rfl (put_done h' d (Z : Int)))
 have cP1_36 := cAt (k := 36) (v := .int .i64 d.done) (HS.out.get 3 rfl) rfl
 simp only at cP1_36
 have fP1_36 := tAt (k := 36) (HS.out.get 3 rfl)
 simp only at fP1_36
 go_upto_region 17 with fail
 clear cP1_36 fP1_36
 refine gnH HS2.out (fun V7 HS1 => ?_)
 replace HS := LH HS1
 clear HS1 HS2
 have bP1 := HS.out.get 3 rfl
 simp only at bP1
 have bP1p1 := HS.out.get 2 rfl
 simp only at bP1p1
 have HG := LH (HS.out.set 2 rfl (dvC h' ({ d with done := (Z : Int) } : DevR)))
 go_wp2_with (first
   | ((with_reducible show wpList _ _ _ _ _ _); refine LR rfl (t := 37) Tryz.underlying37 rfl (.tmp 3) rfl P1 rfl bP1 (sDv h' ({ d with done := (Z : Int) } : DevR)) ?_)
   | ((with_reducible show wpList _ _ _ _ _ _); refine wpList_store_row rfl 37 (.tmp 6) (.tmp 79) rfl (P1 + 1) (dvC h' ({ d with done := (Z : Int) } : DevR)) rfl rfl 37 zDev ?_ ?_ ?_ ?_ ?_; exact bP1p1; exact (sDv h' ({ d with done := (Z : Int) } : DevR)); exact (like_zdev h' ({ d with done := (Z : Int) } : DevR)); exact (oDv h' ({ d with done := (Z : Int) } : DevR))))
 clear bP1 bP1p1
 refine bodyPost_ret (v := .tuple #[.agg (dvC h' ({ d with done := (Z : Int) } : DevR)), .int .i64 0]) ?_ rfl ?_
 · exact res_ct (fn := Tryz.f17) (p := 6) (a := 7) rfl rfl rfl (HG.out.get 2 rfl) Tryz.underlying37 rfl (sDv _ _)
 · refine ⟨h', rfl, HG.out.below, fun V v1 v2 => ?_⟩
   have k0 := HG.out.newR 0 rfl V v1 v2
   have k1 := HG.out.newR 1 rfl V v1 v2
   have k2 := HG.out.newR 2 rfl V v1 v2
   have k3 := HG.out.newR 3 rfl V v1 v2
   simp only at k0 k1 k2 k3
   exact ⟨BS.of_own k1 HDh.out.b0.bytes, k0, k2, k3, HDh.out.copsW, HDh.out.runI, HDh.out.jobI, hZi.out⟩
theorem writeD_torn0 (h : DevH) (d : DevR) (torn : Bool) (keep : Int) (w : World) (HD : DH w h d) (g n f : Int) (tr : Bool) (i0 i1 : InfR) (HBg : Hid (∀ W, DH W h d → Calls Tryz.prog 55 #[.agg (dvC h d), .bool true] W fun e w' => e = .returned (.tuple #[.agg (rcC (⟨g, 0, tr, n, f, i0, i1⟩ : RecR)), .int .i64 0]) ∧ Below W.heap.size W w')) (hok : DevM.Ok d) (hu : d.up = true) (hbu : d.busy = true) (hlt : d.done < d.job.size) (m : Nat) (hm : i0.size = m) (hmn : m ≤ h.n0) (hc : h.n0 ≤ h.c0) (xb : List Int) (hX : doneOf d.job (d.s0.take m) = (xb, 0)) (hxb : xb.length ≤ 64) (D : Nat) (hD : d.done = D) (hD8 : D + 8 ≤ 64) (M : Nat) (hM : DevM.many true keep = M) (hto : torn = true) : Calls Tryz.prog 17 #[devV h d, .bool torn, .int .i64 keep] w (GDv (DevM.off { d with s1 := DevM.over d.s1 xb D M }, 0) w) := by
 have _hk := hok
 have _hv := hu
 clear _hk _hv
 have t2 : decide ((D : Int) ≥ d.job.size) = false := by simp; omega
 have HO : Hid (∀ W, Calls Tryz.prog 62 #[.int .i64 0] W fun e w' => e = .returned (.int .i64 1) ∧ Below W.heap.size W w') := fun W => (show Calls Tryz.prog 62 #[.int .i64 0] W fun e w' => e = .returned (.int .i64 1) ∧ W = w' by simpa using otherD_any 0 W (by decide)).mono (fun _ _ ⟨h1, h2⟩ => ⟨h1, h2 ▸ Below.refl _ _⟩)
 have HI : Hid (∀ W, Calls Tryz.prog 61 #[.agg (dvC h d), .agg (rcC (⟨g, 0, tr, n, f, i0, i1⟩ : RecR))] W fun e w' => e = .returned (.slice h.a0 m h.c0) ∧ Below W.heap.size W w') := fun W => imageD_any h d (⟨g, 0, tr, n, f, i0, i1⟩ : RecR) (.inl rfl) m hm (Nat.le_trans hmn hc) W
 have HDo : Hid (∀ W, DH W h d → Calls Tryz.prog 60 #[.agg (jbC h.oa h.on h.oc d.job), .slice h.a0 m h.c0] W (GivesBE (xb, 0) W)) := fun W hd => by
   have := doP_any _ d.job _ _ _ _ W ⟨h.oa, h.on, h.oc, rfl, hd.ops, hd.jobI⟩ (hd.b0.head m hmn)
   rw [hX] at this
   exact this
 have HCy := LH (fun W (x : DH W h d) => copiedD_any h d W x (DevM.few_of hok))
 unfold devV at HCy
 have HFl : Hid (∀ W F ab nb cb, W.heap.size = F → BS W ab nb cb xb → Calls Tryz.prog 37 #[.slice ab nb cb] W fun e w' => e = .returned (.slice (some ⟨F, 0, none⟩) 64 64) ∧ w' = W.alloc (.cells (fillC xb) 5)) := fun W F ab nb cb hF hb => by
   subst hF
   exact filledD_any ab nb cb xb W hb (by have := hb.len; omega)
 have HSl := LH hok.l1
 have HXl := LH hxb
 have HOf := LH (fun h W => offD_any h d W)
 unfold devV at HOf
 have hk2 : min (max keep 0) 8 = (M : Int) := by
   rw [← hM]
   unfold DevM.many
   rw [if_pos rfl]
   omega
 have hM8 : M ≤ 8 := by omega
 have t3 := hto
 obtain ⟨Z, hZ, hZD⟩ : ∃ Z : Nat, (D : Int) + M = Z ∧ Hid (Z = D + M) := ⟨D + M, by omega, LH rfl⟩
 clear hto hM hX hmn hc hm hok hu hlt hxb
 have HDh := LH HD
 clear HD
 unfold devV
 obtain ⟨P1, hP1⟩ : ∃ P, w.heap.size = P := ⟨_, rfl⟩
 have HS := LH (((((MS.start w).alloc (p := P1) (by simp [hP1]) (dvC h d) 37)).alloc (p := (P1 + 1)) (by simp [hP1]) zDev 37))
 go_enter Tryz.func17, Tryz.ntmps17
 go_upto_region 1 with fail
 refine wp_gen HS.out (fun V0 HS1 => ?_)
 replace HS := LH HS1
 clear HS1 hP1
 replace HS := LH (MH.of HS.out)
 have bP1 := HS.out.get 1 rfl
 simp only at bP1
 go_wp2_with (first
   | ((with_reducible show wpList _ _ _ _ _ _); refine LR rfl (t := 37) Tryz.underlying37 rfl (.tmp 3) rfl P1 rfl bP1 (sDv h d) ?_))
 clear bP1
 refine (HBg.out _ (HDh.out.later HS.out.below)).mono ?_
 rintro e W1 ⟨rfl, hb⟩
 replace HS := LH (HS.out.later hb)
 clear hb
 obtain ⟨P3, hP3⟩ : ∃ P, W1.heap.size = P := ⟨_, rfl⟩
 replace HS := LH (HS.out.alloc hP3 (rcC (⟨g, 0, tr, n, f, i0, i1⟩ : RecR)) 28)
 go_upto_region 2 with ((with_reducible show wpList _ _ _ _ _ _); refine wSN rfl 28 (.tmp 8) (.tmp 15) rfl P3 (rcC (⟨g, 0, tr, n, f, i0, i1⟩ : RecR)) rfl rfl 28 _ ?_ ?_ ?_ ?_ ?_; exact hP3.symm; exact (sRc (⟨g, 0, tr, n, f, i0, i1⟩ : RecR)); exact (lRc (⟨g, 0, tr, n, f, i0, i1⟩ : RecR)); exact (oRc (⟨g, 0, tr, n, f, i0, i1⟩ : RecR)))
 refine gnH HS.out (fun V1 HS1 => ?_)
 replace HS := LH HS1
 clear HS1 hP3
 have cP1_29 := cAt (k := 29) (v := .bool d.busy) (HS.out.get 2 rfl) rfl
 simp only at cP1_29
 rw [hbu] at cP1_29
 clear hbu
 have cP1_36 := cAt (k := 36) (v := .int .i64 d.done) (HS.out.get 2 rfl) rfl
 simp only at cP1_36
 rw [hD] at cP1_36
 have cP1_34 := cAt (k := 34) (v := .int .i64 d.job.size) (HS.out.get 2 rfl) rfl
 simp only at cP1_34
 go_wp2_with fail
 clear cP1_29 cP1_36 cP1_34
 refine rTu (S := MS w [(P3, (rcC (⟨g, 0, tr, n, f, i0, i1⟩ : RecR)), 28), ((P1 + 1), zDev, 37), (P1, (dvC h d), 37)] [] []) [(0, false), (1, false), (2, false), (3, false), (4, true), (5, true), (6, false), (7, false), (8, false), (9, false), (10, false)] false 9999 (by kernel_rfl) (by kernel_rfl) HS.out.ms.drew ?_
 simp only [turned, gA, gB, gC]
 replace HS := LH HS.out.drew
 repeat (first
   | ((refine turn_part (by rfl) 35 (.tmp 34) rfl P1 30 rfl 37 (dvC h d) (fun W hW => hW.get 2 rfl) (jbC h.oa h.on h.oc d.job) (part_job h d) _ Tryz.underlying35 rfl (sJb _ _ _ _) ?_); simp only [Act.put, sA, sB, sC])
   | ((refine turn_row (by rfl) 37 (.tmp 3) rfl P1 rfl 37 (dvC h d) _ (fun W hW => hW.get 2 rfl) Tryz.underlying37 rfl (sDv h d) ?_); simp only [Act.put, sA, sB, sC])
   | ((refine turn_row (by rfl) 28 (.tmp 8) rfl P3 rfl 28 (rcC (⟨g, 0, tr, n, f, i0, i1⟩ : RecR)) _ (fun W hW => hW.get 0 rfl) Tryz.underlying28 rfl (sRc (⟨g, 0, tr, n, f, i0, i1⟩ : RecR)) ?_); simp only [Act.put, sA, sB, sC])
   | (refine tSt ?_ (by rfl) (fun W9 hW9 => ?_) ?_
      rotate_left
      · (go_simp <;> with_reducible rfl)
      simp only [Act.put, sA, sB, sC])
   | (refine tSk (by rfl) ?_; simp only [Act.put, sA, sB, sC]))
 refine tCa (fun K hK => ?_)
 go_simp
 go_at_call 61
 with_reducible refine (HI.out _).mono ?_
 rintro e W2 ⟨rfl, hb⟩
 replace HS := LH (HS.out.later hb)
 clear hb
 try go_wp2_with fail
 refine hK.out _ _ HS.out.ms ?_
 clear hK K
 try simp only [Act.put, sA, sB, sC]
 refine tCa (fun K hK => ?_)
 go_simp
 go_at_call 60
 with_reducible refine (HDo.out _ (HDh.out.later HS.out.below)).mono ?_
 rintro e W3 ⟨ab, nb, cb, rfl, hbs, hb⟩
 replace HS := LH (HS.out.later hb)
 have HXb := LH hbs.bytes
 simp only at HXb hbs
 obtain ⟨lo, hi, q1, q2, q3, q4⟩ := bs_has HS.out.ms hbs (fun p hp => by
   simp only [List.mem_cons, List.not_mem_nil, or_false] at hp
   rcases hp with rfl | rfl | rfl
   · exact noU8_rec _
   · exact noU8_zdev
   · exact noU8_dev _ _)
 replace HS := LH (HS.out.more q4 q1 q2)
 clear hb hbs q1 q2 q3 q4
 try go_wp2_with fail
 refine hK.out _ _ HS.out.ms ?_
 clear hK K
 try simp only [Act.put, sA, sB, sC]
 repeat (first
   | (refine tSt ?_ (by rfl) (fun W9 hW9 => ?_) ?_
      rotate_left
      · (go_simp <;> with_reducible rfl)
      simp only [Act.put, sA, sB, sC])
   | (refine tSk (by rfl) ?_; simp only [Act.put, sA, sB, sC]))
 refine tEn ?_
 have cP1_36 := cAt (k := 36) (v := .int .i64 d.done) (HS.out.get 2 rfl) rfl
 simp only at cP1_36
 rw [hD] at cP1_36
 have bP1 := HS.out.get 2 rfl
 simp only at bP1
 go_wp2_with (first
   | ((with_reducible show wpList _ _ _ _ _ _); refine LR rfl (t := 37) Tryz.underlying37 rfl (.tmp 3) rfl P1 rfl bP1 (sDv h d) ?_))
 clear cP1_36 bP1
 have hlt : ∀ p ∈ [(P3, (rcC (⟨g, 0, tr, n, f, i0, i1⟩ : RecR)), 28), ((P1 + 1), zDev, 37), (P1, (dvC h d), 37)], p.1 < W3.heap.size := fun p hp => HS.out.ms.lt hp
 refine (HCy.out _ (HDh.out.later HS.out.below)).mono ?_
 rintro e W4 ⟨h', m0, m1, m2, mB, m3, m4, rfl, hb, l0, l1, l2, l3, l4, l5, -, -, o0, o1, o2, o3⟩
 replace hlt : ∀ p ∈ [(P3, (rcC (⟨g, 0, tr, n, f, i0, i1⟩ : RecR)), 28), ((P1 + 1), zDev, 37), (P1, (dvC h d), 37)], p.1 < m0 := fun p hp => Nat.lt_of_lt_of_le (hlt p hp) l0
 have hw0 : w.heap.size ≤ m0 := Nat.le_trans HS.out.below.size l0
 have hhi : hi ≤ m0 := Nat.le_trans (HS.out.has _ (List.mem_cons_self ..)).1 l0
 replace HS := LH (HS.out.later hb)
 replace HS := LH (HS.out.put o3 (by omega) (fun p hp => by have := hlt p hp; omega))
 replace HS := LH (HS.out.put o2 (by omega) (fun p hp => by have := hlt p hp; omega))
 replace HS := LH (HS.out.put o0 (by omega) (fun p hp => by have := hlt p hp; omega))
 replace HS := LH (HS.out.put o1 (by omega) (fun p hp => by have := hlt p hp; omega))
 clear hb o0 o1 o2 o3
 unfold devV
 have hn : h'.n1 = 64 := by
   have h9 := (HS.out.fact 0 rfl).1
   simp only [List.length_map, Nat.mul_one] at h9
   have := HSl.out
   omega
 have HS2 := LH (HS.out.set 2 rfl (dvC h' d))
 have bP1 := HS.out.get 2 rfl
 simp only at bP1
 have HN := LH hn
 clear hn
 have HLt := LH hlt
 clear hlt
 go_upto_region 13 with (first
   | ((with_reducible show wpList _ _ _ _ _ _); refine wpList_store_row rfl 37 (.tmp 3) (.tmp 57) rfl P1 (dvC h' d) rfl rfl 37 (dvC h d) ?_ ?_ ?_ ?_ ?_; exact bP1; exact (sDv h' d); exact (lDv h h' d d); exact (oDv h' d)))
 clear bP1
 refine gnH HS2.out (fun V5 HS1 => ?_)
 replace HS := LH HS1
 clear HS1 HS2
 obtain ⟨gs, cur0, ea, q5, -, -, q8, -, -, -⟩ := own_lies (HS.out.has (m1, m2, Own m1 h'.a1 h'.n1 h'.c1 d.s1) (List.mem_cons_self ..)) (by rw [HN.out]; decide)
 clear cur0
 have hcut1 : ∀ W, (Instr.slice 22 (.slice h'.a1 h'.n1 h'.c1) (some (.int .i64 (D : Int))) none none).run Tryz.prog W = .ok (.slice (some ⟨gs, D, none⟩) (h'.n1 - D) (h'.c1 - D)) W := fun W => by
   have := HN.out
   rw [ea, run_cut_l _ _ _ W D (by omega), cutA_pos (by omega)]
 have hcut2 : ∀ F W, (Instr.slice 22 (.slice (some ⟨F, 0, none⟩) 64 64) (some (.int .i64 (D : Int))) (some (.int .i64 (Z : Int))) none).run Tryz.prog W = .ok (.slice (some ⟨F, D, none⟩) M (64 - D)) W := fun F W => by
   have := hZD.out
   rw [run_cut_lh _ _ _ W D Z (by omega) (by omega), cutA_pos (by omega), show Z - D = M by omega]
 have HEa := LH ea
 have HQ := LH (And.intro q5 q8)
 clear ea q5 q8
 refine rTu (S := MS w [(P3, (rcC (⟨g, 0, tr, n, f, i0, i1⟩ : RecR)), 28), ((P1 + 1), zDev, 37), (P1, (dvC h' d), 37)] [] []) [(0, false), (1, false), (3, false), (6, false), (7, false), (9, false), (11, false), (12, false), (13, false), (2, true), (4, false), (5, false), (8, false), (10, true), (14, false), (15, true)] false 9999 (by kernel_rfl) (by kernel_rfl) HS.out.ms.drew ?_
 simp only [turned, gA, gB, gC]
 replace HS := LH HS.out.drew
 have uP3_1 : ∀ W, MS w [(P3, (rcC (⟨g, 0, tr, n, f, i0, i1⟩ : RecR)), 28), ((P1 + 1), zDev, 37), (P1, (dvC h' d), 37)] [] [] W → W.cell? ⟨P3, 1, none⟩ = some (.int .i64 0) := fun W hW => cAt (hW.get 0 rfl) rfl
 have uP1_1 : ∀ W, MS w [(P3, (rcC (⟨g, 0, tr, n, f, i0, i1⟩ : RecR)), 28), ((P1 + 1), zDev, 37), (P1, (dvC h' d), 37)] [] [] W → W.cell? ⟨P1, 1, none⟩ = some (.slice h'.a1 h'.n1 h'.c1) := fun W hW => cAt (hW.get 2 rfl) rfl
 have uP1_36 : ∀ W, MS w [(P3, (rcC (⟨g, 0, tr, n, f, i0, i1⟩ : RecR)), 28), ((P1 + 1), zDev, 37), (P1, (dvC h' d), 37)] [] [] W → W.cell? ⟨P1, 36, none⟩ = some (.int .i64 (D : Int)) := fun W hW => by
   have := cAt (k := 36) (v := .int .i64 d.done) (hW.get 2 rfl) rfl
   rwa [hD] at this
 repeat (first
   | (refine tSt ?_ (by rfl) (fun W9 hW9 => ?_) ?_
      rotate_left
      · (go_simp <;> with_reducible rfl)
      simp only [Act.put, sA, sB, sC])
   | (refine tSk (by rfl) ?_; simp only [Act.put, sA, sB, sC]))
 refine tCa (fun K hK => ?_)
 go_simp
 go_at_call 62
 with_reducible refine (HO.out _).mono ?_
 rintro e W5 ⟨rfl, hb⟩
 replace HS := LH (HS.out.later hb)
 clear hb
 try go_wp2_with fail
 refine hK.out _ _ HS.out.ms ?_
 clear hK K
 try simp only [Act.put, sA, sB, sC]
 repeat (first
   | (refine tSt ?_ (by rfl) (fun W9 hW9 => ?_) ?_
      rotate_left
      · (go_simp <;> with_reducible rfl)
      simp only [Act.put, sA, sB, sC])
   | (refine tSk (by rfl) ?_; simp only [Act.put, sA, sB, sC]))
 obtain ⟨F0, hF0⟩ : ∃ F, W5.heap.size = F := ⟨_, rfl⟩
 refine tCa (fun K hK => ?_)
 go_simp
 go_at_call 37
 with_reducible refine (HFl.out _ F0 _ _ _ hF0 (HS.out.fact 4 rfl HS.out.below)).mono ?_
 rintro e W9 ⟨rfl, rfl⟩
 replace HS := LH (HS.out.alloc hF0 (fillC xb) 5)
 clear hF0
 try go_wp2_with fail
 refine hK.out _ _ HS.out.ms.tail ?_
 clear hK K
 try simp only [Act.put, sA, sB, sC]
 refine turn_gen HS.out (fun U0 HS1 => ?_)
 replace HS := LH HS1
 clear HS1
 repeat (first
   | (refine tSt ?_ (by rfl) (fun W9 hW9 => ?_) ?_
      rotate_left
      · (go_simp <;> with_reducible rfl)
      simp only [Act.put, sA, sB, sC])
   | (refine tSk (by rfl) ?_; simp only [Act.put, sA, sB, sC]))
 have hown : Has m1 m2 U0 (Own m1 h'.a1 h'.n1 h'.c1 d.s1) := HS.out.has (m1, m2, Own m1 h'.a1 h'.n1 h'.c1 d.s1) (List.mem_cons_self ..)
 obtain ⟨gs', cur, ea, q5, q6, q7, q8, q9, q10, q11⟩ := own_lies hown (by rw [HN.out]; decide)
 obtain rfl : gs = gs' := by
   rw [HEa.out] at ea
   injection ea with ea
   injection ea
 have q6' : gs < m2 := by omega
 have hfl := DevM.fill_len HXl.out
 have hll : (((DevM.fill xb).drop D).take M).length = M := by
   rw [List.length_take, List.length_drop, hfl]
   omega
 have hsrc : BS U0 (some ⟨F0, D, none⟩) M (64 - D) (((DevM.fill xb).drop D).take M) := by
   have h9 := (fillC_bs (HS.out.get 0 rfl) HXl.out HXb.out).mid D (D + M) (by omega) (by omega)
   rwa [cutA_pos (by omega), Nat.add_sub_cancel_left] at h9
 have hcp := cut_copy U0 gs D h'.n1 h'.c1 cur F0 M (64 - D) (((DevM.fill xb).drop D).take M) q7 q10 q8 hsrc (by rw [HN.out]; omega)
 have hsb := HDh.out.b1.bytes
 have hr : Has m1 m2 (U0.setRow gs (overC cur D (((DevM.fill xb).drop D).take M))) (fun V => BS V h'.a1 h'.n1 h'.c1 (DevM.over d.s1 xb D M)) := by
   refine ⟨by rw [setRow_size]; exact hown.1, fun V _ hk => ?_⟩
   have h9 := over_bs (V := V) q10 q9 q8 q11 (by rw [HSl.out, HN.out]) hsb hsrc.bytes (D := D) (by rw [hll, HN.out]; omega) (by rw [hk gs q5 q6']; exact setRow_heap U0 gs _ _ 5 _ q7)
   rw [hll] at h9
   rw [ea]
   exact h9
 have HS2 := LH (HS.out.wrote (H' := [(m0, m1, Own m0 h'.a0 h'.n0 h'.c0 d.s0), (mB, m3, fun V => CS V h'.ga h'.gn h'.gc d.got), (m3, m4, fun V => OS V h'.oa h'.on h'.oc d.job.ops)]) (by omega) q5 q6' (fun p hp => HS.out.sep p hp (m1, m2, Own m1 h'.a1 h'.n1 h'.c1 d.s1) (List.mem_cons_self ..)) (fun q hq => by
   simp only [List.mem_cons, List.not_mem_nil, or_false] at hq
   rcases hq with rfl | rfl | rfl
   · exact ⟨by simp, by simp only; omega⟩
   · exact ⟨by simp, by simp only; omega⟩
   · exact ⟨by simp, by simp only; omega⟩) _ hr)
 refine tCa (fun K hK => ?_)
 refine wp_copyO (by rfl) (.tmp 66) (.tmp 72) 22 22 rfl _ _ rfl rfl _ _ hcp ?_
 refine hK.out _ _ HS2.out.ms.tail ?_
 clear hK K hcp hr hsrc q7 q11 ea
 try simp only [Act.put]
 clear uP3_1 uP1_1 uP1_36
 refine tEn ?_
 go_upto_region 14 with fail
 refine gnH HS2.out (fun V6 HS1 => ?_)
 replace HS := LH HS1
 clear HS1 HS2
 have bP1 := HS.out.get 3 rfl
 simp only at bP1
 go_wp2_with (first
   | ((with_reducible show wpList _ _ _ _ _ _); refine LR rfl (t := 37) Tryz.underlying37 rfl (.tmp 3) rfl P1 rfl bP1 (sDv h' d) ?_))
 clear bP1
 refine (HOf.out h' _).mono ?_
 rintro e W6 ⟨rfl, hb⟩
 replace HS := LH (HS.out.later hb)
 clear hb
 have bP1p1 := HS.out.get 2 rfl
 simp only at bP1p1
 have HG := LH (HS.out.set 2 rfl (dvC (offH h') (DevM.off d)))
 go_wp2_with (first
   | ((with_reducible show wpList _ _ _ _ _ _); refine wpList_store_row rfl 37 (.tmp 6) (.tmp 76) rfl (P1 + 1) (dvC (offH h') (DevM.off d)) rfl rfl 37 zDev ?_ ?_ ?_ ?_ ?_; exact bP1p1; exact (sDv (offH h') (DevM.off d)); exact (like_zdev (offH h') (DevM.off d)); exact (oDv (offH h') (DevM.off d))))
 clear bP1p1
 refine bodyPost_ret (v := .tuple #[.agg (dvC (offH h') (DevM.off d)), .int .i64 0]) ?_ rfl ?_
 · exact res_ct (fn := Tryz.f17) (p := 6) (a := 7) rfl rfl rfl (HG.out.get 2 rfl) Tryz.underlying37 rfl (sDv _ _)
 · refine ⟨(offH h'), rfl, HG.out.below, fun V v1 v2 => ?_⟩
   have k0 := HG.out.newR 0 rfl V v1 v2
   have k1 := HG.out.newR 1 rfl V v1 v2
   simp only at k0 k1
   exact ⟨BS.of_own k1 HDh.out.b0.bytes, k0, CS.nil_ _, OS.nil_ _, HDh.out.copsW, i64_zero, noPat_w, i64_zero⟩
theorem writeD_fine1 (h : DevH) (d : DevR) (torn : Bool) (keep : Int) (w : World) (HD : DH w h d) (g n f : Int) (tr : Bool) (i0 i1 : InfR) (HBg : Hid (∀ W, DH W h d → Calls Tryz.prog 55 #[.agg (dvC h d), .bool true] W fun e w' => e = .returned (.tuple #[.agg (rcC (⟨g, 1, tr, n, f, i0, i1⟩ : RecR)), .int .i64 0]) ∧ Below W.heap.size W w')) (hok : DevM.Ok d) (hu : d.up = true) (hbu : d.busy = true) (hlt : d.done < d.job.size) (m : Nat) (hm : i1.size = m) (hmn : m ≤ h.n1) (hc : h.n1 ≤ h.c1) (xb : List Int) (hX : doneOf d.job (d.s1.take m) = (xb, 0)) (hxb : xb.length ≤ 64) (D : Nat) (hD : d.done = D) (hD8 : D + 8 ≤ 64) (hto : torn = false) : Calls Tryz.prog 17 #[devV h d, .bool torn, .int .i64 keep] w (GDv ({ d with s0 := DevM.over d.s0 xb D 8, done := (D : Int) + 8 }, 0) w) := by
 have _hk := hok
 have _hv := hu
 clear _hk _hv
 have t2 : decide ((D : Int) ≥ d.job.size) = false := by simp; omega
 have HO : Hid (∀ W, Calls Tryz.prog 62 #[.int .i64 1] W fun e w' => e = .returned (.int .i64 0) ∧ Below W.heap.size W w') := fun W => (show Calls Tryz.prog 62 #[.int .i64 1] W fun e w' => e = .returned (.int .i64 0) ∧ W = w' by simpa using otherD_any 1 W (by decide)).mono (fun _ _ ⟨h1, h2⟩ => ⟨h1, h2 ▸ Below.refl _ _⟩)
 have HI : Hid (∀ W, Calls Tryz.prog 61 #[.agg (dvC h d), .agg (rcC (⟨g, 1, tr, n, f, i0, i1⟩ : RecR))] W fun e w' => e = .returned (.slice h.a1 m h.c1) ∧ Below W.heap.size W w') := fun W => imageD_any h d (⟨g, 1, tr, n, f, i0, i1⟩ : RecR) (.inr rfl) m hm (Nat.le_trans hmn hc) W
 have HDo : Hid (∀ W, DH W h d → Calls Tryz.prog 60 #[.agg (jbC h.oa h.on h.oc d.job), .slice h.a1 m h.c1] W (GivesBE (xb, 0) W)) := fun W hd => by
   have := doP_any _ d.job _ _ _ _ W ⟨h.oa, h.on, h.oc, rfl, hd.ops, hd.jobI⟩ (hd.b1.head m hmn)
   rw [hX] at this
   exact this
 have HCy := LH (fun W (x : DH W h d) => copiedD_any h d W x (DevM.few_of hok))
 unfold devV at HCy
 have HFl : Hid (∀ W F ab nb cb, W.heap.size = F → BS W ab nb cb xb → Calls Tryz.prog 37 #[.slice ab nb cb] W fun e w' => e = .returned (.slice (some ⟨F, 0, none⟩) 64 64) ∧ w' = W.alloc (.cells (fillC xb) 5)) := fun W F ab nb cb hF hb => by
   subst hF
   exact filledD_any ab nb cb xb W hb (by have := hb.len; omega)
 have HSl := LH hok.l0
 have HXl := LH hxb
 have t3 := hto
 obtain ⟨Z, hZ, hZD⟩ : ∃ Z : Nat, (D : Int) + 8 = Z ∧ Hid (Z = D + 8) := ⟨D + 8, by omega, LH rfl⟩
 rw [hZ]
 have hZi : Hid (I64 (Z : Int)) := LH (by unfold I64; have := hZD.out; omega)
 clear hto hX hmn hc hm hok hu hlt hxb
 have HDh := LH HD
 clear HD
 unfold devV
 obtain ⟨P1, hP1⟩ : ∃ P, w.heap.size = P := ⟨_, rfl⟩
 have HS := LH (((((MS.start w).alloc (p := P1) (by simp [hP1]) (dvC h d) 37)).alloc (p := (P1 + 1)) (by simp [hP1]) zDev 37))
 go_enter Tryz.func17, Tryz.ntmps17
 go_upto_region 1 with fail
 refine wp_gen HS.out (fun V0 HS1 => ?_)
 replace HS := LH HS1
 clear HS1 hP1
 replace HS := LH (MH.of HS.out)
 have bP1 := HS.out.get 1 rfl
 simp only at bP1
 go_wp2_with (first
   | ((with_reducible show wpList _ _ _ _ _ _); refine LR rfl (t := 37) Tryz.underlying37 rfl (.tmp 3) rfl P1 rfl bP1 (sDv h d) ?_))
 clear bP1
 refine (HBg.out _ (HDh.out.later HS.out.below)).mono ?_
 rintro e W1 ⟨rfl, hb⟩
 replace HS := LH (HS.out.later hb)
 clear hb
 obtain ⟨P3, hP3⟩ : ∃ P, W1.heap.size = P := ⟨_, rfl⟩
 replace HS := LH (HS.out.alloc hP3 (rcC (⟨g, 1, tr, n, f, i0, i1⟩ : RecR)) 28)
 go_upto_region 2 with ((with_reducible show wpList _ _ _ _ _ _); refine wSN rfl 28 (.tmp 8) (.tmp 15) rfl P3 (rcC (⟨g, 1, tr, n, f, i0, i1⟩ : RecR)) rfl rfl 28 _ ?_ ?_ ?_ ?_ ?_; exact hP3.symm; exact (sRc (⟨g, 1, tr, n, f, i0, i1⟩ : RecR)); exact (lRc (⟨g, 1, tr, n, f, i0, i1⟩ : RecR)); exact (oRc (⟨g, 1, tr, n, f, i0, i1⟩ : RecR)))
 refine gnH HS.out (fun V1 HS1 => ?_)
 replace HS := LH HS1
 clear HS1 hP3
 have cP1_29 := cAt (k := 29) (v := .bool d.busy) (HS.out.get 2 rfl) rfl
 simp only at cP1_29
 rw [hbu] at cP1_29
 clear hbu
 have cP1_36 := cAt (k := 36) (v := .int .i64 d.done) (HS.out.get 2 rfl) rfl
 simp only at cP1_36
 rw [hD] at cP1_36
 have cP1_34 := cAt (k := 34) (v := .int .i64 d.job.size) (HS.out.get 2 rfl) rfl
 simp only at cP1_34
 go_wp2_with fail
 clear cP1_29 cP1_36 cP1_34
 refine rTu (S := MS w [(P3, (rcC (⟨g, 1, tr, n, f, i0, i1⟩ : RecR)), 28), ((P1 + 1), zDev, 37), (P1, (dvC h d), 37)] [] []) [(0, false), (1, false), (2, false), (3, false), (4, true), (5, true), (6, false), (7, false), (8, false), (9, false), (10, false)] false 9999 (by kernel_rfl) (by kernel_rfl) HS.out.ms.drew ?_
 simp only [turned, gA, gB, gC]
 replace HS := LH HS.out.drew
 repeat (first
   | ((refine turn_part (by rfl) 35 (.tmp 34) rfl P1 30 rfl 37 (dvC h d) (fun W hW => hW.get 2 rfl) (jbC h.oa h.on h.oc d.job) (part_job h d) _ Tryz.underlying35 rfl (sJb _ _ _ _) ?_); simp only [Act.put, sA, sB, sC])
   | ((refine turn_row (by rfl) 37 (.tmp 3) rfl P1 rfl 37 (dvC h d) _ (fun W hW => hW.get 2 rfl) Tryz.underlying37 rfl (sDv h d) ?_); simp only [Act.put, sA, sB, sC])
   | ((refine turn_row (by rfl) 28 (.tmp 8) rfl P3 rfl 28 (rcC (⟨g, 1, tr, n, f, i0, i1⟩ : RecR)) _ (fun W hW => hW.get 0 rfl) Tryz.underlying28 rfl (sRc (⟨g, 1, tr, n, f, i0, i1⟩ : RecR)) ?_); simp only [Act.put, sA, sB, sC])
   | (refine tSt ?_ (by rfl) (fun W9 hW9 => ?_) ?_
      rotate_left
      · (go_simp <;> with_reducible rfl)
      simp only [Act.put, sA, sB, sC])
   | (refine tSk (by rfl) ?_; simp only [Act.put, sA, sB, sC]))
 refine tCa (fun K hK => ?_)
 go_simp
 go_at_call 61
 with_reducible refine (HI.out _).mono ?_
 rintro e W2 ⟨rfl, hb⟩
 replace HS := LH (HS.out.later hb)
 clear hb
 try go_wp2_with fail
 refine hK.out _ _ HS.out.ms ?_
 clear hK K
 try simp only [Act.put, sA, sB, sC]
 refine tCa (fun K hK => ?_)
 go_simp
 go_at_call 60
 with_reducible refine (HDo.out _ (HDh.out.later HS.out.below)).mono ?_
 rintro e W3 ⟨ab, nb, cb, rfl, hbs, hb⟩
 replace HS := LH (HS.out.later hb)
 have HXb := LH hbs.bytes
 simp only at HXb hbs
 obtain ⟨lo, hi, q1, q2, q3, q4⟩ := bs_has HS.out.ms hbs (fun p hp => by
   simp only [List.mem_cons, List.not_mem_nil, or_false] at hp
   rcases hp with rfl | rfl | rfl
   · exact noU8_rec _
   · exact noU8_zdev
   · exact noU8_dev _ _)
 replace HS := LH (HS.out.more q4 q1 q2)
 clear hb hbs q1 q2 q3 q4
 try go_wp2_with fail
 refine hK.out _ _ HS.out.ms ?_
 clear hK K
 try simp only [Act.put, sA, sB, sC]
 repeat (first
   | (refine tSt ?_ (by rfl) (fun W9 hW9 => ?_) ?_
      rotate_left
      · (go_simp <;> with_reducible rfl)
      simp only [Act.put, sA, sB, sC])
   | (refine tSk (by rfl) ?_; simp only [Act.put, sA, sB, sC]))
 refine tEn ?_
 have cP1_36 := cAt (k := 36) (v := .int .i64 d.done) (HS.out.get 2 rfl) rfl
 simp only at cP1_36
 rw [hD] at cP1_36
 have bP1 := HS.out.get 2 rfl
 simp only at bP1
 go_wp2_with (first
   | ((with_reducible show wpList _ _ _ _ _ _); refine LR rfl (t := 37) Tryz.underlying37 rfl (.tmp 3) rfl P1 rfl bP1 (sDv h d) ?_))
 clear cP1_36 bP1
 have hlt : ∀ p ∈ [(P3, (rcC (⟨g, 1, tr, n, f, i0, i1⟩ : RecR)), 28), ((P1 + 1), zDev, 37), (P1, (dvC h d), 37)], p.1 < W3.heap.size := fun p hp => HS.out.ms.lt hp
 refine (HCy.out _ (HDh.out.later HS.out.below)).mono ?_
 rintro e W4 ⟨h', m0, m1, m2, mB, m3, m4, rfl, hb, l0, l1, l2, l3, l4, l5, -, -, o0, o1, o2, o3⟩
 replace hlt : ∀ p ∈ [(P3, (rcC (⟨g, 1, tr, n, f, i0, i1⟩ : RecR)), 28), ((P1 + 1), zDev, 37), (P1, (dvC h d), 37)], p.1 < m0 := fun p hp => Nat.lt_of_lt_of_le (hlt p hp) l0
 have hw0 : w.heap.size ≤ m0 := Nat.le_trans HS.out.below.size l0
 have hhi : hi ≤ m0 := Nat.le_trans (HS.out.has _ (List.mem_cons_self ..)).1 l0
 replace HS := LH (HS.out.later hb)
 replace HS := LH (HS.out.put o3 (by omega) (fun p hp => by have := hlt p hp; omega))
 replace HS := LH (HS.out.put o2 (by omega) (fun p hp => by have := hlt p hp; omega))
 replace HS := LH (HS.out.put o1 (by omega) (fun p hp => by have := hlt p hp; omega))
 replace HS := LH (HS.out.put o0 (by omega) (fun p hp => by have := hlt p hp; omega))
 clear hb o0 o1 o2 o3
 unfold devV
 have hn : h'.n0 = 64 := by
   have h9 := (HS.out.fact 0 rfl).1
   simp only [List.length_map, Nat.mul_one] at h9
   have := HSl.out
   omega
 have HS2 := LH (HS.out.set 2 rfl (dvC h' d))
 have bP1 := HS.out.get 2 rfl
 simp only at bP1
 have HN := LH hn
 clear hn
 have HLt := LH hlt
 clear hlt
 go_upto_region 13 with (first
   | ((with_reducible show wpList _ _ _ _ _ _); refine wpList_store_row rfl 37 (.tmp 3) (.tmp 57) rfl P1 (dvC h' d) rfl rfl 37 (dvC h d) ?_ ?_ ?_ ?_ ?_; exact bP1; exact (sDv h' d); exact (lDv h h' d d); exact (oDv h' d)))
 clear bP1
 refine gnH HS2.out (fun V5 HS1 => ?_)
 replace HS := LH HS1
 clear HS1 HS2
 obtain ⟨gs, cur0, ea, q5, -, -, q8, -, -, -⟩ := own_lies (HS.out.has (m0, m1, Own m0 h'.a0 h'.n0 h'.c0 d.s0) (List.mem_cons_self ..)) (by rw [HN.out]; decide)
 clear cur0
 have hcut1 : ∀ W, (Instr.slice 22 (.slice h'.a0 h'.n0 h'.c0) (some (.int .i64 (D : Int))) none none).run Tryz.prog W = .ok (.slice (some ⟨gs, D, none⟩) (h'.n0 - D) (h'.c0 - D)) W := fun W => by
   have := HN.out
   rw [ea, run_cut_l _ _ _ W D (by omega), cutA_pos (by omega)]
 have hcut2 : ∀ F W, (Instr.slice 22 (.slice (some ⟨F, 0, none⟩) 64 64) (some (.int .i64 (D : Int))) (some (.int .i64 (Z : Int))) none).run Tryz.prog W = .ok (.slice (some ⟨F, D, none⟩) 8 (64 - D)) W := fun F W => by
   have := hZD.out
   rw [run_cut_lh _ _ _ W D Z (by omega) (by omega), cutA_pos (by omega), show Z - D = 8 by omega]
 have HEa := LH ea
 have HQ := LH (And.intro q5 q8)
 clear ea q5 q8
 refine rTu (S := MS w [(P3, (rcC (⟨g, 1, tr, n, f, i0, i1⟩ : RecR)), 28), ((P1 + 1), zDev, 37), (P1, (dvC h' d), 37)] [] []) [(0, false), (1, false), (3, false), (6, false), (7, false), (9, false), (11, false), (12, false), (13, false), (2, true), (4, false), (5, false), (8, false), (10, true), (14, false), (15, true)] false 9999 (by kernel_rfl) (by kernel_rfl) HS.out.ms.drew ?_
 simp only [turned, gA, gB, gC]
 replace HS := LH HS.out.drew
 have uP3_1 : ∀ W, MS w [(P3, (rcC (⟨g, 1, tr, n, f, i0, i1⟩ : RecR)), 28), ((P1 + 1), zDev, 37), (P1, (dvC h' d), 37)] [] [] W → W.cell? ⟨P3, 1, none⟩ = some (.int .i64 1) := fun W hW => cAt (hW.get 0 rfl) rfl
 have uP1_0 : ∀ W, MS w [(P3, (rcC (⟨g, 1, tr, n, f, i0, i1⟩ : RecR)), 28), ((P1 + 1), zDev, 37), (P1, (dvC h' d), 37)] [] [] W → W.cell? ⟨P1, 0, none⟩ = some (.slice h'.a0 h'.n0 h'.c0) := fun W hW => cAt (hW.get 2 rfl) rfl
 have uP1_36 : ∀ W, MS w [(P3, (rcC (⟨g, 1, tr, n, f, i0, i1⟩ : RecR)), 28), ((P1 + 1), zDev, 37), (P1, (dvC h' d), 37)] [] [] W → W.cell? ⟨P1, 36, none⟩ = some (.int .i64 (D : Int)) := fun W hW => by
   have := cAt (k := 36) (v := .int .i64 d.done) (hW.get 2 rfl) rfl
   rwa [hD] at this
 repeat (first
   | (refine tSt ?_ (by rfl) (fun W9 hW9 => ?_) ?_
      rotate_left
      · (go_simp <;> with_reducible rfl)
      simp only [Act.put, sA, sB, sC])
   | (refine tSk (by rfl) ?_; simp only [Act.put, sA, sB, sC]))
 refine tCa (fun K hK => ?_)
 go_simp
 go_at_call 62
 with_reducible refine (HO.out _).mono ?_
 rintro e W5 ⟨rfl, hb⟩
 replace HS := LH (HS.out.later hb)
 clear hb
 try go_wp2_with fail
 refine hK.out _ _ HS.out.ms ?_
 clear hK K
 try simp only [Act.put, sA, sB, sC]
 repeat (first
   | (refine tSt ?_ (by rfl) (fun W9 hW9 => ?_) ?_
      rotate_left
      · (go_simp <;> with_reducible rfl)
      simp only [Act.put, sA, sB, sC])
   | (refine tSk (by rfl) ?_; simp only [Act.put, sA, sB, sC]))
 obtain ⟨F0, hF0⟩ : ∃ F, W5.heap.size = F := ⟨_, rfl⟩
 refine tCa (fun K hK => ?_)
 go_simp
 go_at_call 37
 with_reducible refine (HFl.out _ F0 _ _ _ hF0 (HS.out.fact 4 rfl HS.out.below)).mono ?_
 rintro e W9 ⟨rfl, rfl⟩
 replace HS := LH (HS.out.alloc hF0 (fillC xb) 5)
 clear hF0
 try go_wp2_with fail
 refine hK.out _ _ HS.out.ms.tail ?_
 clear hK K
 try simp only [Act.put, sA, sB, sC]
 refine turn_gen HS.out (fun U0 HS1 => ?_)
 replace HS := LH HS1
 clear HS1
 repeat (first
   | (refine tSt ?_ (by rfl) (fun W9 hW9 => ?_) ?_
      rotate_left
      · (go_simp <;> with_reducible rfl)
      simp only [Act.put, sA, sB, sC])
   | (refine tSk (by rfl) ?_; simp only [Act.put, sA, sB, sC]))
 have hown : Has m0 m1 U0 (Own m0 h'.a0 h'.n0 h'.c0 d.s0) := HS.out.has (m0, m1, Own m0 h'.a0 h'.n0 h'.c0 d.s0) (List.mem_cons_self ..)
 obtain ⟨gs', cur, ea, q5, q6, q7, q8, q9, q10, q11⟩ := own_lies hown (by rw [HN.out]; decide)
 obtain rfl : gs = gs' := by
   rw [HEa.out] at ea
   injection ea with ea
   injection ea
 have q6' : gs < m1 := by omega
 have hfl := DevM.fill_len HXl.out
 have hll : (((DevM.fill xb).drop D).take 8).length = 8 := by
   rw [List.length_take, List.length_drop, hfl]
   omega
 have hsrc : BS U0 (some ⟨F0, D, none⟩) 8 (64 - D) (((DevM.fill xb).drop D).take 8) := by
   have h9 := (fillC_bs (HS.out.get 0 rfl) HXl.out HXb.out).mid D (D + 8) (by omega) (by omega)
   rwa [cutA_pos (by omega), Nat.add_sub_cancel_left] at h9
 have hcp := cut_copy U0 gs D h'.n0 h'.c0 cur F0 8 (64 - D) (((DevM.fill xb).drop D).take 8) q7 q10 q8 hsrc (by rw [HN.out]; omega)
 have hsb := HDh.out.b0.bytes
 have hr : Has m0 m1 (U0.setRow gs (overC cur D (((DevM.fill xb).drop D).take 8))) (fun V => BS V h'.a0 h'.n0 h'.c0 (DevM.over d.s0 xb D 8)) := by
   refine ⟨by rw [setRow_size]; exact hown.1, fun V _ hk => ?_⟩
   have h9 := over_bs (V := V) q10 q9 q8 q11 (by rw [HSl.out, HN.out]) hsb hsrc.bytes (D := D) (by rw [hll, HN.out]; omega) (by rw [hk gs q5 q6']; exact setRow_heap U0 gs _ _ 5 _ q7)
   rw [hll] at h9
   rw [ea]
   exact h9
 have HS2 := LH (HS.out.wrote (H' := [(m1, m2, Own m1 h'.a1 h'.n1 h'.c1 d.s1), (mB, m3, fun V => CS V h'.ga h'.gn h'.gc d.got), (m3, m4, fun V => OS V h'.oa h'.on h'.oc d.job.ops)]) (by omega) q5 q6' (fun p hp => HS.out.sep p hp (m0, m1, Own m0 h'.a0 h'.n0 h'.c0 d.s0) (List.mem_cons_self ..)) (fun q hq => by
   simp only [List.mem_cons, List.not_mem_nil, or_false] at hq
   rcases hq with rfl | rfl | rfl
   · exact ⟨by simp, by simp only; omega⟩
   · exact ⟨by simp, by simp only; omega⟩
   · exact ⟨by simp, by simp only; omega⟩) _ hr)
 refine tCa (fun K hK => ?_)
 refine wp_copyO (by rfl) (.tmp 66) (.tmp 72) 22 22 rfl _ _ rfl rfl _ _ hcp ?_
 refine hK.out _ _ HS2.out.ms.tail ?_
 clear hK K hcp hr hsrc q7 q11 ea
 try simp only [Act.put]
 clear uP3_1 uP1_0 uP1_36
 refine tEn ?_
 go_upto_region 14 with fail
 refine gnH HS2.out (fun V6 HS1 => ?_)
 replace HS := LH HS1
 clear HS1 HS2
 have HS2 := LH (HS.out.cell 3 rfl (put_done h' d (Z : Int)))
 have cP1_36 := cAt (k := 36) (v := .int .i64 d.done) (HS.out.get 3 rfl) rfl
 simp only at cP1_36
 have fP1_36 := tAt (k := 36) (HS.out.get 3 rfl)
 simp only at fP1_36
 go_upto_region 17 with fail
 clear cP1_36 fP1_36
 refine gnH HS2.out (fun V7 HS1 => ?_)
 replace HS := LH HS1
 clear HS1 HS2
 have bP1 := HS.out.get 3 rfl
 simp only at bP1
 have bP1p1 := HS.out.get 2 rfl
 simp only at bP1p1
 have HG := LH (HS.out.set 2 rfl (dvC h' ({ d with done := (Z : Int) } : DevR)))
 go_wp2_with (first
   | ((with_reducible show wpList _ _ _ _ _ _); refine LR rfl (t := 37) Tryz.underlying37 rfl (.tmp 3) rfl P1 rfl bP1 (sDv h' ({ d with done := (Z : Int) } : DevR)) ?_)
   | ((with_reducible show wpList _ _ _ _ _ _); refine wpList_store_row rfl 37 (.tmp 6) (.tmp 79) rfl (P1 + 1) (dvC h' ({ d with done := (Z : Int) } : DevR)) rfl rfl 37 zDev ?_ ?_ ?_ ?_ ?_; exact bP1p1; exact (sDv h' ({ d with done := (Z : Int) } : DevR)); exact (like_zdev h' ({ d with done := (Z : Int) } : DevR)); exact (oDv h' ({ d with done := (Z : Int) } : DevR))))
 clear bP1 bP1p1
 refine bodyPost_ret (v := .tuple #[.agg (dvC h' ({ d with done := (Z : Int) } : DevR)), .int .i64 0]) ?_ rfl ?_
 · exact res_ct (fn := Tryz.f17) (p := 6) (a := 7) rfl rfl rfl (HG.out.get 2 rfl) Tryz.underlying37 rfl (sDv _ _)
 · refine ⟨h', rfl, HG.out.below, fun V v1 v2 => ?_⟩
   have k0 := HG.out.newR 0 rfl V v1 v2
   have k1 := HG.out.newR 1 rfl V v1 v2
   have k2 := HG.out.newR 2 rfl V v1 v2
   have k3 := HG.out.newR 3 rfl V v1 v2
   simp only at k0 k1 k2 k3
   exact ⟨k0, BS.of_own k1 HDh.out.b1.bytes, k2, k3, HDh.out.copsW, HDh.out.runI, HDh.out.jobI, hZi.out⟩
theorem writeD_torn1 (h : DevH) (d : DevR) (torn : Bool) (keep : Int) (w : World) (HD : DH w h d) (g n f : Int) (tr : Bool) (i0 i1 : InfR) (HBg : Hid (∀ W, DH W h d → Calls Tryz.prog 55 #[.agg (dvC h d), .bool true] W fun e w' => e = .returned (.tuple #[.agg (rcC (⟨g, 1, tr, n, f, i0, i1⟩ : RecR)), .int .i64 0]) ∧ Below W.heap.size W w')) (hok : DevM.Ok d) (hu : d.up = true) (hbu : d.busy = true) (hlt : d.done < d.job.size) (m : Nat) (hm : i1.size = m) (hmn : m ≤ h.n1) (hc : h.n1 ≤ h.c1) (xb : List Int) (hX : doneOf d.job (d.s1.take m) = (xb, 0)) (hxb : xb.length ≤ 64) (D : Nat) (hD : d.done = D) (hD8 : D + 8 ≤ 64) (M : Nat) (hM : DevM.many true keep = M) (hto : torn = true) : Calls Tryz.prog 17 #[devV h d, .bool torn, .int .i64 keep] w (GDv (DevM.off { d with s0 := DevM.over d.s0 xb D M }, 0) w) := by
 have _hk := hok
 have _hv := hu
 clear _hk _hv
 have t2 : decide ((D : Int) ≥ d.job.size) = false := by simp; omega
 have HO : Hid (∀ W, Calls Tryz.prog 62 #[.int .i64 1] W fun e w' => e = .returned (.int .i64 0) ∧ Below W.heap.size W w') := fun W => (show Calls Tryz.prog 62 #[.int .i64 1] W fun e w' => e = .returned (.int .i64 0) ∧ W = w' by simpa using otherD_any 1 W (by decide)).mono (fun _ _ ⟨h1, h2⟩ => ⟨h1, h2 ▸ Below.refl _ _⟩)
 have HI : Hid (∀ W, Calls Tryz.prog 61 #[.agg (dvC h d), .agg (rcC (⟨g, 1, tr, n, f, i0, i1⟩ : RecR))] W fun e w' => e = .returned (.slice h.a1 m h.c1) ∧ Below W.heap.size W w') := fun W => imageD_any h d (⟨g, 1, tr, n, f, i0, i1⟩ : RecR) (.inr rfl) m hm (Nat.le_trans hmn hc) W
 have HDo : Hid (∀ W, DH W h d → Calls Tryz.prog 60 #[.agg (jbC h.oa h.on h.oc d.job), .slice h.a1 m h.c1] W (GivesBE (xb, 0) W)) := fun W hd => by
   have := doP_any _ d.job _ _ _ _ W ⟨h.oa, h.on, h.oc, rfl, hd.ops, hd.jobI⟩ (hd.b1.head m hmn)
   rw [hX] at this
   exact this
 have HCy := LH (fun W (x : DH W h d) => copiedD_any h d W x (DevM.few_of hok))
 unfold devV at HCy
 have HFl : Hid (∀ W F ab nb cb, W.heap.size = F → BS W ab nb cb xb → Calls Tryz.prog 37 #[.slice ab nb cb] W fun e w' => e = .returned (.slice (some ⟨F, 0, none⟩) 64 64) ∧ w' = W.alloc (.cells (fillC xb) 5)) := fun W F ab nb cb hF hb => by
   subst hF
   exact filledD_any ab nb cb xb W hb (by have := hb.len; omega)
 have HSl := LH hok.l0
 have HXl := LH hxb
 have HOf := LH (fun h W => offD_any h d W)
 unfold devV at HOf
 have hk2 : min (max keep 0) 8 = (M : Int) := by
   rw [← hM]
   unfold DevM.many
   rw [if_pos rfl]
   omega
 have hM8 : M ≤ 8 := by omega
 have t3 := hto
 obtain ⟨Z, hZ, hZD⟩ : ∃ Z : Nat, (D : Int) + M = Z ∧ Hid (Z = D + M) := ⟨D + M, by omega, LH rfl⟩
 clear hto hM hX hmn hc hm hok hu hlt hxb
 have HDh := LH HD
 clear HD
 unfold devV
 obtain ⟨P1, hP1⟩ : ∃ P, w.heap.size = P := ⟨_, rfl⟩
 have HS := LH (((((MS.start w).alloc (p := P1) (by simp [hP1]) (dvC h d) 37)).alloc (p := (P1 + 1)) (by simp [hP1]) zDev 37))
 go_enter Tryz.func17, Tryz.ntmps17
 go_upto_region 1 with fail
 refine wp_gen HS.out (fun V0 HS1 => ?_)
 replace HS := LH HS1
 clear HS1 hP1
 replace HS := LH (MH.of HS.out)
 have bP1 := HS.out.get 1 rfl
 simp only at bP1
 go_wp2_with (first
   | ((with_reducible show wpList _ _ _ _ _ _); refine LR rfl (t := 37) Tryz.underlying37 rfl (.tmp 3) rfl P1 rfl bP1 (sDv h d) ?_))
 clear bP1
 refine (HBg.out _ (HDh.out.later HS.out.below)).mono ?_
 rintro e W1 ⟨rfl, hb⟩
 replace HS := LH (HS.out.later hb)
 clear hb
 obtain ⟨P3, hP3⟩ : ∃ P, W1.heap.size = P := ⟨_, rfl⟩
 replace HS := LH (HS.out.alloc hP3 (rcC (⟨g, 1, tr, n, f, i0, i1⟩ : RecR)) 28)
 go_upto_region 2 with ((with_reducible show wpList _ _ _ _ _ _); refine wSN rfl 28 (.tmp 8) (.tmp 15) rfl P3 (rcC (⟨g, 1, tr, n, f, i0, i1⟩ : RecR)) rfl rfl 28 _ ?_ ?_ ?_ ?_ ?_; exact hP3.symm; exact (sRc (⟨g, 1, tr, n, f, i0, i1⟩ : RecR)); exact (lRc (⟨g, 1, tr, n, f, i0, i1⟩ : RecR)); exact (oRc (⟨g, 1, tr, n, f, i0, i1⟩ : RecR)))
 refine gnH HS.out (fun V1 HS1 => ?_)
 replace HS := LH HS1
 clear HS1 hP3
 have cP1_29 := cAt (k := 29) (v := .bool d.busy) (HS.out.get 2 rfl) rfl
 simp only at cP1_29
 rw [hbu] at cP1_29
 clear hbu
 have cP1_36 := cAt (k := 36) (v := .int .i64 d.done) (HS.out.get 2 rfl) rfl
 simp only at cP1_36
 rw [hD] at cP1_36
 have cP1_34 := cAt (k := 34) (v := .int .i64 d.job.size) (HS.out.get 2 rfl) rfl
 simp only at cP1_34
 go_wp2_with fail
 clear cP1_29 cP1_36 cP1_34
 refine rTu (S := MS w [(P3, (rcC (⟨g, 1, tr, n, f, i0, i1⟩ : RecR)), 28), ((P1 + 1), zDev, 37), (P1, (dvC h d), 37)] [] []) [(0, false), (1, false), (2, false), (3, false), (4, true), (5, true), (6, false), (7, false), (8, false), (9, false), (10, false)] false 9999 (by kernel_rfl) (by kernel_rfl) HS.out.ms.drew ?_
 simp only [turned, gA, gB, gC]
 replace HS := LH HS.out.drew
 repeat (first
   | ((refine turn_part (by rfl) 35 (.tmp 34) rfl P1 30 rfl 37 (dvC h d) (fun W hW => hW.get 2 rfl) (jbC h.oa h.on h.oc d.job) (part_job h d) _ Tryz.underlying35 rfl (sJb _ _ _ _) ?_); simp only [Act.put, sA, sB, sC])
   | ((refine turn_row (by rfl) 37 (.tmp 3) rfl P1 rfl 37 (dvC h d) _ (fun W hW => hW.get 2 rfl) Tryz.underlying37 rfl (sDv h d) ?_); simp only [Act.put, sA, sB, sC])
   | ((refine turn_row (by rfl) 28 (.tmp 8) rfl P3 rfl 28 (rcC (⟨g, 1, tr, n, f, i0, i1⟩ : RecR)) _ (fun W hW => hW.get 0 rfl) Tryz.underlying28 rfl (sRc (⟨g, 1, tr, n, f, i0, i1⟩ : RecR)) ?_); simp only [Act.put, sA, sB, sC])
   | (refine tSt ?_ (by rfl) (fun W9 hW9 => ?_) ?_
      rotate_left
      · (go_simp <;> with_reducible rfl)
      simp only [Act.put, sA, sB, sC])
   | (refine tSk (by rfl) ?_; simp only [Act.put, sA, sB, sC]))
 refine tCa (fun K hK => ?_)
 go_simp
 go_at_call 61
 with_reducible refine (HI.out _).mono ?_
 rintro e W2 ⟨rfl, hb⟩
 replace HS := LH (HS.out.later hb)
 clear hb
 try go_wp2_with fail
 refine hK.out _ _ HS.out.ms ?_
 clear hK K
 try simp only [Act.put, sA, sB, sC]
 refine tCa (fun K hK => ?_)
 go_simp
 go_at_call 60
 with_reducible refine (HDo.out _ (HDh.out.later HS.out.below)).mono ?_
 rintro e W3 ⟨ab, nb, cb, rfl, hbs, hb⟩
 replace HS := LH (HS.out.later hb)
 have HXb := LH hbs.bytes
 simp only at HXb hbs
 obtain ⟨lo, hi, q1, q2, q3, q4⟩ := bs_has HS.out.ms hbs (fun p hp => by
   simp only [List.mem_cons, List.not_mem_nil, or_false] at hp
   rcases hp with rfl | rfl | rfl
   · exact noU8_rec _
   · exact noU8_zdev
   · exact noU8_dev _ _)
 replace HS := LH (HS.out.more q4 q1 q2)
 clear hb hbs q1 q2 q3 q4
 try go_wp2_with fail
 refine hK.out _ _ HS.out.ms ?_
 clear hK K
 try simp only [Act.put, sA, sB, sC]
 repeat (first
   | (refine tSt ?_ (by rfl) (fun W9 hW9 => ?_) ?_
      rotate_left
      · (go_simp <;> with_reducible rfl)
      simp only [Act.put, sA, sB, sC])
   | (refine tSk (by rfl) ?_; simp only [Act.put, sA, sB, sC]))
 refine tEn ?_
 have cP1_36 := cAt (k := 36) (v := .int .i64 d.done) (HS.out.get 2 rfl) rfl
 simp only at cP1_36
 rw [hD] at cP1_36
 have bP1 := HS.out.get 2 rfl
 simp only at bP1
 go_wp2_with (first
   | ((with_reducible show wpList _ _ _ _ _ _); refine LR rfl (t := 37) Tryz.underlying37 rfl (.tmp 3) rfl P1 rfl bP1 (sDv h d) ?_))
 clear cP1_36 bP1
 have hlt : ∀ p ∈ [(P3, (rcC (⟨g, 1, tr, n, f, i0, i1⟩ : RecR)), 28), ((P1 + 1), zDev, 37), (P1, (dvC h d), 37)], p.1 < W3.heap.size := fun p hp => HS.out.ms.lt hp
 refine (HCy.out _ (HDh.out.later HS.out.below)).mono ?_
 rintro e W4 ⟨h', m0, m1, m2, mB, m3, m4, rfl, hb, l0, l1, l2, l3, l4, l5, -, -, o0, o1, o2, o3⟩
 replace hlt : ∀ p ∈ [(P3, (rcC (⟨g, 1, tr, n, f, i0, i1⟩ : RecR)), 28), ((P1 + 1), zDev, 37), (P1, (dvC h d), 37)], p.1 < m0 := fun p hp => Nat.lt_of_lt_of_le (hlt p hp) l0
 have hw0 : w.heap.size ≤ m0 := Nat.le_trans HS.out.below.size l0
 have hhi : hi ≤ m0 := Nat.le_trans (HS.out.has _ (List.mem_cons_self ..)).1 l0
 replace HS := LH (HS.out.later hb)
 replace HS := LH (HS.out.put o3 (by omega) (fun p hp => by have := hlt p hp; omega))
 replace HS := LH (HS.out.put o2 (by omega) (fun p hp => by have := hlt p hp; omega))
 replace HS := LH (HS.out.put o1 (by omega) (fun p hp => by have := hlt p hp; omega))
 replace HS := LH (HS.out.put o0 (by omega) (fun p hp => by have := hlt p hp; omega))
 clear hb o0 o1 o2 o3
 unfold devV
 have hn : h'.n0 = 64 := by
   have h9 := (HS.out.fact 0 rfl).1
   simp only [List.length_map, Nat.mul_one] at h9
   have := HSl.out
   omega
 have HS2 := LH (HS.out.set 2 rfl (dvC h' d))
 have bP1 := HS.out.get 2 rfl
 simp only at bP1
 have HN := LH hn
 clear hn
 have HLt := LH hlt
 clear hlt
 go_upto_region 13 with (first
   | ((with_reducible show wpList _ _ _ _ _ _); refine wpList_store_row rfl 37 (.tmp 3) (.tmp 57) rfl P1 (dvC h' d) rfl rfl 37 (dvC h d) ?_ ?_ ?_ ?_ ?_; exact bP1; exact (sDv h' d); exact (lDv h h' d d); exact (oDv h' d)))
 clear bP1
 refine gnH HS2.out (fun V5 HS1 => ?_)
 replace HS := LH HS1
 clear HS1 HS2
 obtain ⟨gs, cur0, ea, q5, -, -, q8, -, -, -⟩ := own_lies (HS.out.has (m0, m1, Own m0 h'.a0 h'.n0 h'.c0 d.s0) (List.mem_cons_self ..)) (by rw [HN.out]; decide)
 clear cur0
 have hcut1 : ∀ W, (Instr.slice 22 (.slice h'.a0 h'.n0 h'.c0) (some (.int .i64 (D : Int))) none none).run Tryz.prog W = .ok (.slice (some ⟨gs, D, none⟩) (h'.n0 - D) (h'.c0 - D)) W := fun W => by
   have := HN.out
   rw [ea, run_cut_l _ _ _ W D (by omega), cutA_pos (by omega)]
 have hcut2 : ∀ F W, (Instr.slice 22 (.slice (some ⟨F, 0, none⟩) 64 64) (some (.int .i64 (D : Int))) (some (.int .i64 (Z : Int))) none).run Tryz.prog W = .ok (.slice (some ⟨F, D, none⟩) M (64 - D)) W := fun F W => by
   have := hZD.out
   rw [run_cut_lh _ _ _ W D Z (by omega) (by omega), cutA_pos (by omega), show Z - D = M by omega]
 have HEa := LH ea
 have HQ := LH (And.intro q5 q8)
 clear ea q5 q8
 refine rTu (S := MS w [(P3, (rcC (⟨g, 1, tr, n, f, i0, i1⟩ : RecR)), 28), ((P1 + 1), zDev, 37), (P1, (dvC h' d), 37)] [] []) [(0, false), (1, false), (3, false), (6, false), (7, false), (9, false), (11, false), (12, false), (13, false), (2, true), (4, false), (5, false), (8, false), (10, true), (14, false), (15, true)] false 9999 (by kernel_rfl) (by kernel_rfl) HS.out.ms.drew ?_
 simp only [turned, gA, gB, gC]
 replace HS := LH HS.out.drew
 have uP3_1 : ∀ W, MS w [(P3, (rcC (⟨g, 1, tr, n, f, i0, i1⟩ : RecR)), 28), ((P1 + 1), zDev, 37), (P1, (dvC h' d), 37)] [] [] W → W.cell? ⟨P3, 1, none⟩ = some (.int .i64 1) := fun W hW => cAt (hW.get 0 rfl) rfl
 have uP1_0 : ∀ W, MS w [(P3, (rcC (⟨g, 1, tr, n, f, i0, i1⟩ : RecR)), 28), ((P1 + 1), zDev, 37), (P1, (dvC h' d), 37)] [] [] W → W.cell? ⟨P1, 0, none⟩ = some (.slice h'.a0 h'.n0 h'.c0) := fun W hW => cAt (hW.get 2 rfl) rfl
 have uP1_36 : ∀ W, MS w [(P3, (rcC (⟨g, 1, tr, n, f, i0, i1⟩ : RecR)), 28), ((P1 + 1), zDev, 37), (P1, (dvC h' d), 37)] [] [] W → W.cell? ⟨P1, 36, none⟩ = some (.int .i64 (D : Int)) := fun W hW => by
   have := cAt (k := 36) (v := .int .i64 d.done) (hW.get 2 rfl) rfl
   rwa [hD] at this
 repeat (first
   | (refine tSt ?_ (by rfl) (fun W9 hW9 => ?_) ?_
      rotate_left
      · (go_simp <;> with_reducible rfl)
      simp only [Act.put, sA, sB, sC])
   | (refine tSk (by rfl) ?_; simp only [Act.put, sA, sB, sC]))
 refine tCa (fun K hK => ?_)
 go_simp
 go_at_call 62
 with_reducible refine (HO.out _).mono ?_
 rintro e W5 ⟨rfl, hb⟩
 replace HS := LH (HS.out.later hb)
 clear hb
 try go_wp2_with fail
 refine hK.out _ _ HS.out.ms ?_
 clear hK K
 try simp only [Act.put, sA, sB, sC]
 repeat (first
   | (refine tSt ?_ (by rfl) (fun W9 hW9 => ?_) ?_
      rotate_left
      · (go_simp <;> with_reducible rfl)
      simp only [Act.put, sA, sB, sC])
   | (refine tSk (by rfl) ?_; simp only [Act.put, sA, sB, sC]))
 obtain ⟨F0, hF0⟩ : ∃ F, W5.heap.size = F := ⟨_, rfl⟩
 refine tCa (fun K hK => ?_)
 go_simp
 go_at_call 37
 with_reducible refine (HFl.out _ F0 _ _ _ hF0 (HS.out.fact 4 rfl HS.out.below)).mono ?_
 rintro e W9 ⟨rfl, rfl⟩
 replace HS := LH (HS.out.alloc hF0 (fillC xb) 5)
 clear hF0
 try go_wp2_with fail
 refine hK.out _ _ HS.out.ms.tail ?_
 clear hK K
 try simp only [Act.put, sA, sB, sC]
 refine turn_gen HS.out (fun U0 HS1 => ?_)
 replace HS := LH HS1
 clear HS1
 repeat (first
   | (refine tSt ?_ (by rfl) (fun W9 hW9 => ?_) ?_
      rotate_left
      · (go_simp <;> with_reducible rfl)
      simp only [Act.put, sA, sB, sC])
   | (refine tSk (by rfl) ?_; simp only [Act.put, sA, sB, sC]))
 have hown : Has m0 m1 U0 (Own m0 h'.a0 h'.n0 h'.c0 d.s0) := HS.out.has (m0, m1, Own m0 h'.a0 h'.n0 h'.c0 d.s0) (List.mem_cons_self ..)
 obtain ⟨gs', cur, ea, q5, q6, q7, q8, q9, q10, q11⟩ := own_lies hown (by rw [HN.out]; decide)
 obtain rfl : gs = gs' := by
   rw [HEa.out] at ea
   injection ea with ea
   injection ea
 have q6' : gs < m1 := by omega
 have hfl := DevM.fill_len HXl.out
 have hll : (((DevM.fill xb).drop D).take M).length = M := by
   rw [List.length_take, List.length_drop, hfl]
   omega
 have hsrc : BS U0 (some ⟨F0, D, none⟩) M (64 - D) (((DevM.fill xb).drop D).take M) := by
   have h9 := (fillC_bs (HS.out.get 0 rfl) HXl.out HXb.out).mid D (D + M) (by omega) (by omega)
   rwa [cutA_pos (by omega), Nat.add_sub_cancel_left] at h9
 have hcp := cut_copy U0 gs D h'.n0 h'.c0 cur F0 M (64 - D) (((DevM.fill xb).drop D).take M) q7 q10 q8 hsrc (by rw [HN.out]; omega)
 have hsb := HDh.out.b0.bytes
 have hr : Has m0 m1 (U0.setRow gs (overC cur D (((DevM.fill xb).drop D).take M))) (fun V => BS V h'.a0 h'.n0 h'.c0 (DevM.over d.s0 xb D M)) := by
   refine ⟨by rw [setRow_size]; exact hown.1, fun V _ hk => ?_⟩
   have h9 := over_bs (V := V) q10 q9 q8 q11 (by rw [HSl.out, HN.out]) hsb hsrc.bytes (D := D) (by rw [hll, HN.out]; omega) (by rw [hk gs q5 q6']; exact setRow_heap U0 gs _ _ 5 _ q7)
   rw [hll] at h9
   rw [ea]
   exact h9
 have HS2 := LH (HS.out.wrote (H' := [(m1, m2, Own m1 h'.a1 h'.n1 h'.c1 d.s1), (mB, m3, fun V => CS V h'.ga h'.gn h'.gc d.got), (m3, m4, fun V => OS V h'.oa h'.on h'.oc d.job.ops)]) (by omega) q5 q6' (fun p hp => HS.out.sep p hp (m0, m1, Own m0 h'.a0 h'.n0 h'.c0 d.s0) (List.mem_cons_self ..)) (fun q hq => by
   simp only [List.mem_cons, List.not_mem_nil, or_false] at hq
   rcases hq with rfl | rfl | rfl
   · exact ⟨by simp, by simp only; omega⟩
   · exact ⟨by simp, by simp only; omega⟩
   · exact ⟨by simp, by simp only; omega⟩) _ hr)
 refine tCa (fun K hK => ?_)
 refine wp_copyO (by rfl) (.tmp 66) (.tmp 72) 22 22 rfl _ _ rfl rfl _ _ hcp ?_
 refine hK.out _ _ HS2.out.ms.tail ?_
 clear hK K hcp hr hsrc q7 q11 ea
 try simp only [Act.put]
 clear uP3_1 uP1_0 uP1_36
 refine tEn ?_
 go_upto_region 14 with fail
 refine gnH HS2.out (fun V6 HS1 => ?_)
 replace HS := LH HS1
 clear HS1 HS2
 have bP1 := HS.out.get 3 rfl
 simp only at bP1
 go_wp2_with (first
   | ((with_reducible show wpList _ _ _ _ _ _); refine LR rfl (t := 37) Tryz.underlying37 rfl (.tmp 3) rfl P1 rfl bP1 (sDv h' d) ?_))
 clear bP1
 refine (HOf.out h' _).mono ?_
 rintro e W6 ⟨rfl, hb⟩
 replace HS := LH (HS.out.later hb)
 clear hb
 have bP1p1 := HS.out.get 2 rfl
 simp only at bP1p1
 have HG := LH (HS.out.set 2 rfl (dvC (offH h') (DevM.off d)))
 go_wp2_with (first
   | ((with_reducible show wpList _ _ _ _ _ _); refine wpList_store_row rfl 37 (.tmp 6) (.tmp 76) rfl (P1 + 1) (dvC (offH h') (DevM.off d)) rfl rfl 37 zDev ?_ ?_ ?_ ?_ ?_; exact bP1p1; exact (sDv (offH h') (DevM.off d)); exact (like_zdev (offH h') (DevM.off d)); exact (oDv (offH h') (DevM.off d))))
 clear bP1p1
 refine bodyPost_ret (v := .tuple #[.agg (dvC (offH h') (DevM.off d)), .int .i64 0]) ?_ rfl ?_
 · exact res_ct (fn := Tryz.f17) (p := 6) (a := 7) rfl rfl rfl (HG.out.get 2 rfl) Tryz.underlying37 rfl (sDv _ _)
 · refine ⟨(offH h'), rfl, HG.out.below, fun V v1 v2 => ?_⟩
   have k0 := HG.out.newR 0 rfl V v1 v2
   have k1 := HG.out.newR 1 rfl V v1 v2
   simp only at k0 k1
   exact ⟨k0, BS.of_own k1 HDh.out.b1.bytes, CS.nil_ _, OS.nil_ _, HDh.out.copsW, i64_zero, noPat_w, i64_zero⟩
theorem writeD_ok (h : DevH) (d : DevR) (torn : Bool) (keep : Int) (w : World) (HD : DH w h d) (HBg : Hid (∀ W, DH W h d → Calls Tryz.prog 55 #[.agg (dvC h d), .bool true] W fun e w' => e = .returned (.tuple #[.agg (rcC (DevM.rc d)), .int .i64 0]) ∧ Below W.heap.size W w')) (hok : DevM.Ok d) (hu : d.up = true) : Calls Tryz.prog 17 #[devV h d, .bool torn, .int .i64 keep] w (GDv (DevM.write d torn keep) w) := by
 unfold DevM.write
 by_cases hb : d.busy = false
 · rw [if_pos (.inl hb)]
   exact writeD_idle h d torn keep w HD HBg hok hu hb
 have hbu : d.busy = true := by simpa using hb
 by_cases hge : d.job.size ≤ d.done
 · rw [if_pos (.inr hge)]
   exact writeD_over h d torn keep w HD HBg hok hu hbu hge
 rw [if_neg (by rintro (q | q); exact hb q; exact hge q)]
 have hB := (hok.up hu).busy hbu
 have hdo := DevM.done_ok hB.does
 have hsz := DevM.size_le hdo.1
 have hlt : d.done < d.job.size := by omega
 have hd8 : d.done + 8 ≤ 64 := by
   have := hB.d8
   have := hB.d0
   omega
 obtain ⟨D, hD⟩ : ∃ D : Nat, d.done = D := ⟨d.done.toNat, by have := hB.d0; omega⟩
 have n0 : h.n0 = 64 := by have := HD.b0.len; have := hok.l0; omega
 have n1 : h.n1 = 64 := by have := HD.b1.len; have := hok.l1; omega
 have e0 := HD.b0.le
 have e1 := HD.b1.le
 have hrk := hok.rec_
 have ha := hok.act01
 have hi0 := (RecM.inf_nums (RecM.check_inf hrk 0)).2.1
 have hi1 := (RecM.inf_nums (RecM.check_inf hrk 1)).2.1
 obtain ⟨xb, hxb⟩ : ∃ x, DevM.new d = x := ⟨_, rfl⟩
 have hX : doneOf d.job (DevM.image d (DevM.act d)) = (xb, 0) := Prod.ext hxb hB.does
 have hxl : xb.length ≤ 64 := by
   have h9 := hdo.2.2.2.1
   rw [hX] at h9
   simp only at h9
   omega
 rw [hxb, hD, Int.toNat_natCast]
 unfold DevM.image DevM.info DevM.act at hX
 unfold DevM.oth
 unfold DevM.act at ha
 clear hxb hdo hB
 generalize DevM.rc d = r at HBg ha hi0 hi1 hX ⊢
 obtain ⟨g, a, tr, n, f, i0, i1⟩ := r
 simp only at ha
 have z0 : RecM.inf (⟨g, a, tr, n, f, i0, i1⟩ : RecR) 0 = i0 := rfl
 have z1 : RecM.inf (⟨g, a, tr, n, f, i0, i1⟩ : RecR) 1 = i1 := rfl
 rw [z0] at hi0
 rw [z1] at hi1
 have hD8 : D + 8 ≤ 64 := by omega
 rcases ha with rfl | rfl
 · replace hX : doneOf d.job (d.s0.take i0.size.toNat) = (xb, 0) := hX
   cases torn with
   | false =>
     exact writeD_fine0 h d false keep w HD g n f tr i0 i1 HBg hok hu hbu hlt i0.size.toNat (by omega) (by omega) (by omega) xb hX hxl D hD hD8 rfl
   | true =>
     obtain ⟨M, hM⟩ : ∃ M : Nat, DevM.many true keep = M := ⟨(DevM.many true keep).toNat, by unfold DevM.many; rw [if_pos rfl]; omega⟩
     rw [hM, Int.toNat_natCast]
     exact writeD_torn0 h d true keep w HD g n f tr i0 i1 HBg hok hu hbu hlt i0.size.toNat (by omega) (by omega) (by omega) xb hX hxl D hD hD8 M hM rfl
 · replace hX : doneOf d.job (d.s1.take i1.size.toNat) = (xb, 0) := hX
   cases torn with
   | false =>
     exact writeD_fine1 h d false keep w HD g n f tr i0 i1 HBg hok hu hbu hlt i1.size.toNat (by omega) (by omega) (by omega) xb hX hxl D hD hD8 rfl
   | true =>
     obtain ⟨M, hM⟩ : ∃ M : Nat, DevM.many true keep = M := ⟨(DevM.many true keep).toNat, by unfold DevM.many; rw [if_pos rfl]; omega⟩
     rw [hM, Int.toNat_natCast]
     exact writeD_torn1 h d true keep w HD g n f tr i0 i1 HBg hok hu hbu hlt i1.size.toNat (by omega) (by omega) (by omega) xb hX hxl D hD hD8 M hM rfl
theorem writeD_any (h : DevH) (d : DevR) (torn : Bool) (keep : Int) (w : World) (HD : DH w h d) : Calls Tryz.prog 17 #[devV h d, .bool torn, .int .i64 keep] w (GDv (DevM.told d true (DevM.write d torn keep)) w) := by
 have HBg := fun W (x : DH W h d) => beginD_any checkD_ok h d true W x
 unfold devV at HBg
 rcases DevM.beg_cases d true with ⟨E, h0, hb, ht⟩ | ⟨hok, hu, hb, ht⟩
 · rw [ht]
   rw [hb] at HBg
   exact writeD_bad h d torn keep w HD E h0 (LH HBg)
 · rw [ht]
   rw [hb] at HBg
   exact writeD_ok h d torn keep w HD (LH HBg) hok hu
theorem startR_any (r : RecR) (w : World) :
   Calls Tryz.prog 65 #[recV r] w fun e w' => e = .returned (.tuple #[.int .i64 (RecM.startOf r).1, recV (RecM.startOf r).2.1, .int .i64 (RecM.startOf r).2.2]) ∧ Below w.heap.size w w' := by
 have HC := LH (fun W => checkR_any r W)
 have HST := LH (RSt1.start w r)
 have hi := sRc r
 have HS : Hid (RecM.startOf r = if RecM.check r ≠ 0 then (0, RecM.noRec, RecM.check r) else (RecM.slot r, RecM.after r, 0)) := rfl
 have HV : Hid (∀ x, recV x = .agg (rcC x)) := fun _ => rfl
 rw [HV.out] at HC
 rw [HV.out]
 have hc0 := HST.out.c0
 go_enter Tryz.func65, Tryz.ntmps65
 go_wp2_with (refine wpList_load_row rfl 28 (.tmp 1) rfl w.heap.size rfl 28 (rcC r) (0, 0) _ hc0 Tryz.underlying28 rfl hi ?_)
 refine (HC.out _).mono ?_
 rintro e W2 ⟨rfl, hb2⟩
 have HST2 := LH (HST.out.later hb2)
 clear hb2 HST hc0 HC hi
 by_cases e0 : RecM.check r = 0
 · replace HS := LH (HS.out.trans (if_neg (fun q => q e0)))
   have hn := RecM.check_nums e0
   rw [e0]
   clear e0
   obtain ⟨q0, q1, q2, q3, q4, q5, q8, qf⟩ := HST2.out.cells
   by_cases ht : r.trying = true ∧ r.tries ≠ 0
   · obtain ⟨ht1, ht2⟩ := ht
     rw [ht1] at q2
     have hgt : (0 : Int) < r.tries := by omega
     obtain ⟨T, hT⟩ : ∃ T, r.tries - 1 = T := ⟨_, rfl⟩
     have hw : IntKind.i64.wrap T = T := IntWalk.i64_in _ (by omega)
     have HAf : Hid (RecM.after r = { r with tries := T }) := by
       show _ = _
       unfold RecM.after
       rw [if_pos ⟨ht1, ht2⟩, hT]
     have HSl : Hid (RecM.slot r = 1 - r.act) := by
       show _ = _
       unfold RecM.slot
       rw [if_pos ⟨ht1, ht2⟩]
     have HST3 : Hid (RSt1 w { r with tries := T } (W2.setCell ⟨w.heap.size, 3, none⟩ (.int .i64 T))) := HST2.out.set rfl
     have HO := LH (fun W => other_any r.act W hn.2.1)
     have qf3 := qf 3
     clear qf q0 q4 q5 q8 q1
     go_wp2_with fail
     generalize W2.setCell ⟨w.heap.size, 3, none⟩ (.int .i64 T) = W3 at HST3 ⊢
     clear ht1 ht2 hgt q2 q3
     have HST4 := LH HST3.out.drew
     have q1 := HST4.out.cells.2.1
     have hc0 := HST4.out.c0
     have hc1 := HST4.out.c1
     have HG := LH HST4.out.give
     have hi := sRc { r with tries := T }
     have ha := oRc { r with tries := T }
     refine wp_region_still_tail 5 (by kernel_rfl) (by kernel_rfl) ?_
     simp only [List.take_succ_cons, List.take_zero, List.drop_succ_cons, List.drop_zero]
     change wpStill _ _ W3.drew _ _ _
     still_step
     still_step
     still_call ((HO.out _).mono fun _ _ ⟨h, e⟩ => ⟨h, e.symm⟩)
     refine wpStill_load_row rfl 28 (.tmp 1) rfl w.heap.size rfl 28 (rcC { r with tries := T }) (0, 0) _ hc0 Tryz.underlying28 rfl hi ?_
     still_step
     refine wpStill_nil ?_
     go_wp2_with (refine wpList_store_row rfl 28 (.tmp 3) (.tmp 26) rfl (w.heap.size + 1) (rcC { r with tries := T }) rfl rfl 28 _ hc1 hi rfl ha ?_)
     refine bodyPost_ret (v := .tuple #[.int .i64 (1 - r.act), .agg (rcC { r with tries := T }), .int .i64 0]) ?_ rfl ?_
     · exact res_tct (fn := Tryz.f65) (p := 3) (a := 2) (b := 4) rfl rfl rfl rfl HG.out.1 Tryz.underlying28 rfl hi
     · exact ⟨by rw [HS.out, HSl.out, HAf.out]; rfl, HG.out.2⟩
   · cases hb : r.trying
     · rw [hb] at q2
       have HST3 : Hid (RSt1 w { r with trying := false } (W2.setCell ⟨w.heap.size, 2, none⟩ (.bool false))) := HST2.out.set rfl
       have qf2 := qf 2
       have HAf : Hid (RecM.after r = { r with trying := false }) := by
         show _ = _
         unfold RecM.after
         rw [if_neg ht]
       have HSl : Hid (RecM.slot r = r.act) := by
         show _ = _
         unfold RecM.slot
         rw [if_neg ht]
       clear qf q0 q4 q5 q8 q1
       go_wp2_with fail
       generalize W2.setCell ⟨w.heap.size, 2, none⟩ (.bool false) = W3 at HST3 ⊢
       clear hb
       try clear hz
       have HST4 := LH HST3.out.drew
       have q1 := HST4.out.cells.2.1
       have hc0 := HST4.out.c0
       have hc1 := HST4.out.c1
       have HG := LH HST4.out.give
       have hi := sRc { r with trying := false }
       have ha := oRc { r with trying := false }
       refine wp_region_still_tail 4 (by kernel_rfl) (by kernel_rfl) ?_
       simp only [List.take_succ_cons, List.take_zero, List.drop_succ_cons, List.drop_zero]
       change wpStill _ _ W3.drew _ _ _
       still_step
       still_step
       refine wpStill_load_row rfl 28 (.tmp 1) rfl w.heap.size rfl 28 (rcC { r with trying := false }) (0, 0) _ hc0 Tryz.underlying28 rfl hi ?_
       still_step
       refine wpStill_nil ?_
       go_wp2_with (refine wpList_store_row rfl 28 (.tmp 3) (.tmp 30) rfl (w.heap.size + 1) (rcC { r with trying := false }) rfl rfl 28 _ hc1 hi rfl ha ?_)
       refine bodyPost_ret (v := .tuple #[.int .i64 (r.act), .agg (rcC { r with trying := false }), .int .i64 0]) ?_ rfl ?_
       · exact res_tct (fn := Tryz.f65) (p := 3) (a := 2) (b := 4) rfl rfl rfl rfl HG.out.1 Tryz.underlying28 rfl hi
       · exact ⟨by rw [HS.out, HSl.out, HAf.out]; rfl, HG.out.2⟩
     · have hz : r.tries = 0 := by
         rcases Classical.em (r.tries = 0) with q | q
         · exact q
         · exact absurd ⟨hb, q⟩ ht
       rw [hb] at q2
       rw [hz] at q3
       have HST3 : Hid (RSt1 w { r with trying := false } (W2.setCell ⟨w.heap.size, 2, none⟩ (.bool false))) := HST2.out.set rfl
       have qf2 := qf 2
       have HAf : Hid (RecM.after r = { r with trying := false }) := by
         show _ = _
         unfold RecM.after
         rw [if_neg ht]
       have HSl : Hid (RecM.slot r = r.act) := by
         show _ = _
         unfold RecM.slot
         rw [if_neg ht]
       clear qf q0 q4 q5 q8 q1
       go_wp2_with fail
       generalize W2.setCell ⟨w.heap.size, 2, none⟩ (.bool false) = W3 at HST3 ⊢
       clear hb
       try clear hz
       have HST4 := LH HST3.out.drew
       have q1 := HST4.out.cells.2.1
       have hc0 := HST4.out.c0
       have hc1 := HST4.out.c1
       have HG := LH HST4.out.give
       have hi := sRc { r with trying := false }
       have ha := oRc { r with trying := false }
       refine wp_region_still_tail 4 (by kernel_rfl) (by kernel_rfl) ?_
       simp only [List.take_succ_cons, List.take_zero, List.drop_succ_cons, List.drop_zero]
       change wpStill _ _ W3.drew _ _ _
       still_step
       still_step
       refine wpStill_load_row rfl 28 (.tmp 1) rfl w.heap.size rfl 28 (rcC { r with trying := false }) (0, 0) _ hc0 Tryz.underlying28 rfl hi ?_
       still_step
       refine wpStill_nil ?_
       go_wp2_with (refine wpList_store_row rfl 28 (.tmp 3) (.tmp 30) rfl (w.heap.size + 1) (rcC { r with trying := false }) rfl rfl 28 _ hc1 hi rfl ha ?_)
       refine bodyPost_ret (v := .tuple #[.int .i64 (r.act), .agg (rcC { r with trying := false }), .int .i64 0]) ?_ rfl ?_
       · exact res_tct (fn := Tryz.f65) (p := 3) (a := 2) (b := 4) rfl rfl rfl rfl HG.out.1 Tryz.underlying28 rfl hi
       · exact ⟨by rw [HS.out, HSl.out, HAf.out]; rfl, HG.out.2⟩
 · obtain ⟨E, hE⟩ : ∃ E, RecM.check r = E := ⟨_, rfl⟩
   replace HS := LH (HS.out.trans (if_pos e0))
   rw [hE] at e0 HS ⊢
   have t0 : (E != 0) = true := by simp [e0]
   clear hE
   have hc1 := HST2.out.c1
   have HG := LH HST2.out.nil_
   have hi2 := size_zero
   have ha := one_zero
   unfold zeroRec at hi2 ha hc1
   go_wp2_with (refine wpList_store_row rfl 28 (.tmp 3) (.tmp 10) rfl (w.heap.size + 1) #[.int .i64 0, .int .i64 0, .bool false, .int .i64 0, .int .i64 0, .int .i64 0, .int .i64 0, .int .i64 0, .int .i64 0, .int .i64 0, .int .i64 0] rfl rfl 28 _ hc1 hi2 rfl ha ?_)
   refine bodyPost_ret (v := .tuple #[.int .i64 0, .agg zeroRec, .int .i64 E]) ?_ rfl ?_
   · exact res_tct (fn := Tryz.f65) (p := 3) (a := 2) (b := 4) rfl rfl rfl rfl HG.out.1 Tryz.underlying28 rfl size_zero
   · exact ⟨by rw [HS.out]; rfl, HG.out.2⟩
end Go.Proofs.YtmpmaljkmfgagacGreat
