/-
  Texts put into one: DvOpen, RfDevU, RfDev, SameCh, RfSame, RfWr, RfActC, RfWo, RfActX, DvImgs, IdxC, CAdd, DvHear.
-/
import Derived.Test.YtnnmpoknghbdnacGreatDvUpToPackRes
import Derived.Test.YtnnmpoknghbdnacGreatCopyStToDifThree
import Derived.Test.YtnnmpoknghbdnacGreatPatLToPSame
import Derived.Test.YtnnmpoknghbdnacGreatRowToChSt
import Derived.Test.YtnnmpoknghbdnacGreatUnpackToLawG
import Derived.Deep.DeepCutAuto
import Derived.Deep.Cut
import Derived.Deep.RegionHeld3
import Derived.BigQuiet
set_option maxRecDepth 100000
set_option maxHeartbeats 4000000
namespace Go.Proofs.YtnnmpoknghbdnacGreat
open Go.RowKit
theorem like_zjob (oa : Option Addr) (on oc : Nat) (p : PatR) : (#[.int .i64 0, .int .i64 0, .int .i64 0, .int .i64 0, .int .i64 0, .slice none 0 0] : Array Value).size = (jbC oa on oc p).size := by kernel_rfl
theorem put_got' (h : DevH) (d : DevR) (ga : Option Addr) (gn gc : Nat) (l : List ChR) : (dvC h d).setIfInBounds 28 (.slice ga gn gc) = dvC { h with ga := ga, gn := gn, gc := gc } { d with got := l } := by kernel_rfl
def GivesJc (p : PatR) (E : Int) (w : World) (e : Ending) (w' : World) : Prop :=
 ∃ oa on oc, e = .returned (.tuple #[.agg (jbC oa on oc p), .int .i64 E]) ∧ NewR w.heap.size w' (fun V => OS V oa on oc p.ops) ∧ JobW p ∧ Below w.heap.size w w'
theorem joinC_c (a : Option Addr) (n c : Nat) (l : List ChR) (p : PatR) (E : Int) (hJ : ChunkM.joinOf l = (p, E)) (w : World) (hl : CS w a n c l) : Calls Tryz.prog 77 #[.slice a n c] w (GivesJc p E w) := by
 refine (joinC_n a n c l w hl).mono ?_; rintro e w' ⟨r, h1, v, rfl, h3, h4⟩; have hr : r = (p, E) := h1.of.trans hJ; subst hr; obtain ⟨oa, on, oc, rfl, -, hI⟩ := h3.here; refine ⟨oa, on, oc, rfl, fun V v1 v2 => ?_, hI, h4⟩; obtain ⟨oa', on', oc', he, ho, -⟩ := h3 V v1 v2; simp only [Value.agg.injEq, Array.mk.injEq, List.cons.injEq, Value.slice.injEq, true_and, and_true] at he; obtain ⟨rfl, rfl, rfl⟩ := he; exact ho
theorem put_is {r : RecR} (O : Nat) (ha : 1 - r.act = (O : Int)) (hO : O < 2) (i : InfR) : DevM.put r i = r.setI O i := by
 unfold DevM.put RecR.setI; by_cases h : O = 0
 · rw [if_pos h, if_neg (by omega)]
 · rw [if_neg h, if_pos (by omega)]
theorem slB_len {W : World} {h : DevH} {d : DevR} (x : DH W h d) (hok : DevM.Ok d) {k : Int} (hk : k = 0 ∨ k = 1) : slN h k = 64 ∧ slN h k ≤ slC h k := by
 rcases hk with rfl | rfl
 · have e1 := x.b0.len
   have e2 := x.b0.le; have e3 := hok.l0; exact ⟨by show h.n0 = 64; omega, e2⟩
 · have e1 := x.b1.len
   have e2 := x.b1.le; have e3 := hok.l1; exact ⟨by show h.n1 = 64; omega, e2⟩
theorem DH.slB {W : World} {h : DevH} {d : DevR} (x : DH W h d) {k : Int} (hk : k = 0 ∨ k = 1) : BS W (slA h k) (slN h k) (slC h k) (DevM.slot d k) := by
 rcases hk with rfl | rfl
 · exact x.b0
 · exact x.b1
theorem openD_bad (h : DevH) (d : DevR) (w : World) (HD : DH w h d) (E : Int) (h0 : E ≠ 0) (HBg : Hid (∀ W, DH W h d → Calls Tryz.prog 74 #[.agg (dvC h d), .bool true] W fun e w' => e = .returned (.tuple #[.agg (rcC RecM.noRec), .int .i64 E]) ∧ Below W.heap.size W w')) : Calls Tryz.prog 20 #[devV h d] w (GDv (DevM.noDev, E) w) := by
 have t0 : (E != 0) = true := by simp [h0]
 have HDh := LH HD; clear HD; unfold devV; obtain ⟨P1, hP1⟩ : ∃ P, w.heap.size = P := ⟨_, rfl⟩; have HS := LH (((((MS.start w).alloc (p := P1) (by simp [hP1]) (dvC h d) 37)).alloc (p := (P1 + 1)) (by simp [hP1]) zDev 37)); go_enter Tryz.func20, Tryz.ntmps20; go_upto_region 1 with fail; refine zau HS.out (fun V0 HS1 => ?_); replace HS := LH HS1; clear HS1 hP1; replace HS := LH (MH.of HS.out); have bP1 := HS.out.gt 1 rfl
 go_wp2_with (first
  | ((with_reducible show wpList _ _ _ _ _ _); refine LR rfl (t := 37) U37 rfl (.tmp 1) rfl P1 rfl bP1 (sDv h d) ?_))
 clear bP1; refine (HBg.out _ (HDh.out.later HS.out.below)).mono ?_; rintro e W1 ⟨rfl, hb⟩; replace HS := LH (HS.out.later hb); clear hb; obtain ⟨P3, hP3⟩ : ∃ P, W1.heap.size = P := ⟨_, rfl⟩; replace HS := LH (HS.out.alloc hP3 (rcC RecM.noRec) 28); go_upto_region 2 with ((with_reducible show wpList _ _ _ _ _ _); refine wSN rfl 28 (.tmp 4) (.tmp 13) rfl P3 (rcC RecM.noRec) rfl rfl 28 _ ?_ ?_ ?_ ?_ ?_; exact hP3.symm; exact (sRc RecM.noRec); exact (lRc RecM.noRec); exact (oRc RecM.noRec)); refine gnH HS.out (fun V1 HS1 => ?_); replace HS := LH HS1; clear HS1 hP3; have bP1p1 := HS.out.gt 1 rfl; have HG := LH (HS.out.set 1 rfl zDev)
 go_wp2_with (first
  | ((with_reducible show wpList _ _ _ _ _ _); refine wpList_store_row rfl 37 (.tmp 2) (.tmp 17) rfl (P1 + 1) zDev rfl rfl 37 zDev ?_ ?_ ?_ ?_ ?_; exact bP1p1; exact zac; exact zav; exact zaq))
 clear bP1p1; refine bodyPost_ret (v := .tuple #[.agg zDev, .int .i64 E]) ?_ rfl ?_
 · exact zam (fn := Tryz.f20) (p := 2) (a := 3) rfl rfl rfl (HG.out.get 1 rfl) U37 rfl zac
 · exact GDv.bad HG.out.below
theorem openD_ok (h : DevH) (d : DevR) (w : World) (HD : DH w h d) (HBg : Hid (∀ W, DH W h d → Calls Tryz.prog 74 #[.agg (dvC h d), .bool true] W fun e w' => e = .returned (.tuple #[.agg (rcC (DevM.rc d)), .int .i64 0]) ∧ Below W.heap.size W w')) (hok : DevM.Ok d) (hu : d.up = true) : Calls Tryz.prog 20 #[devV h d] w (GDv (DevM.open_ d) w) := by
 have HR0 : Hid (DevM.open_ d = if d.busy = true ∨ (DevM.rc d).trying = true then (DevM.noDev, 5) else DevM.wrong (ChunkM.joinOf d.got).2
  (if (ChunkM.joinOf d.got).1.from_ ≠ (DevM.info d (DevM.act d)).ver ∨ (ChunkM.joinOf d.got).1.to_ < (DevM.rc d).floor then (DevM.noDev, 4)
   else DevM.wrong (zaz (ChunkM.joinOf d.got).1 (DevM.image d (DevM.act d))).2
    (DevM.wrong (RecM.writeOf d.c (DevM.put (DevM.rc d) RecM.noInf) false).2
     ({ d with c := (RecM.writeOf d.c (DevM.put (DevM.rc d) RecM.noInf) false).1, busy := true, job := (ChunkM.joinOf d.got).1, done := 0, got := [] }, 0)))) := by
  show _ = _; unfold DevM.open_
  rfl
 have HOk := LH hok; have _hv := hu; have ha := hok.act01; unfold DevM.act at ha; obtain ⟨O, hO, hO2⟩ := zb9 ha; have HO := othN_any _ O hO ha; have hO0 : (0 : Int) ≤ (O : Int) := by omega
 have hOI : (O : Int) < 2 := by omega
 have HPt := LH (put_is O hO hO2 RecM.noInf); have hin := (RecM.inf_nums (RecM.check_inf hok.rec_ (DevM.rc d).act)).2.1; have hlen := slB_len HD hok ha; obtain ⟨m, hm⟩ : ∃ m : Nat, (RecM.inf (DevM.rc d) (DevM.rc d).act).size = m := ⟨_, (Int.toNat_of_nonneg hin.1).symm⟩; have hm64 : m ≤ 64 := by omega
 obtain ⟨⟨p, J⟩, hJ⟩ : ∃ x, ChunkM.joinOf d.got = x := ⟨_, rfl⟩; obtain ⟨⟨xb, X⟩, hX⟩ : ∃ x, zaz p ((DevM.slot d (DevM.rc d).act).take m) = x := ⟨_, rfl⟩; obtain ⟨⟨L, E⟩, hW⟩ : ∃ x, RecM.writeOf d.c ((DevM.rc d).setI O RecM.noInf) false = x := ⟨_, rfl⟩
 have HR : Hid (DevM.open_ d = if d.busy = true ∨ (DevM.rc d).trying = true then (DevM.noDev, 5) else DevM.wrong J
  (if p.from_ ≠ (RecM.inf (DevM.rc d) (DevM.rc d).act).ver ∨ p.to_ < (DevM.rc d).floor then (DevM.noDev, 4)
   else DevM.wrong X (DevM.wrong E ({ d with c := L, busy := true, job := p, done := 0, got := [] }, 0)))) := by
  show _ = _
  have e1 : DevM.image d (DevM.act d) = (DevM.slot d (DevM.rc d).act).take m := by
   unfold DevM.image DevM.info DevM.act; rw [hm, Int.toNat_natCast]
  rw [HR0.out, hJ, e1, hX, HPt.out, hW]
  rfl
 have HJn := LH (fun W (x : DH W h d) => joinC_c _ _ _ _ p J hJ W x.got); have HI : Hid (∀ W, Calls Tryz.prog 80 #[.agg (dvC h d), .agg (rcC (DevM.rc d))] W fun e w' => e = .returned (.slice (slA h (DevM.rc d).act) m (slC h (DevM.rc d).act)) ∧ Below W.heap.size W w') := fun W => imageD_any h d (DevM.rc d) ha m hm (by omega) W
 have HDo : Hid (∀ oa on oc W, DH W h d → OS W oa on oc p.ops → JobW p → Calls Tryz.prog 79 #[.agg (jbC oa on oc p), .slice (slA h (DevM.rc d).act) m (slC h (DevM.rc d).act)] W (zb1 (xb, X) W)) := fun oa on oc W hd ho hI => by
  have := doP_any _ p _ _ _ _ W ⟨oa, on, oc, rfl, ho, hI⟩ ((hd.slB ha).head m (by omega)); rw [hX] at this; exact this
 have HSu := LH (fun oa on oc W => suitsD_any oa on oc p (DevM.rc d) ha W); have HCz := LH (fun q : E = 0 => cops_w (RecM.writeOf_zero HOk.out.cops (r := (DevM.rc d).setI O RecM.noInf) (torn := false) (by rw [hW]; exact q)).2.1); rw [hW] at HCz; clear hok hu _hv ha hO hin hm hm64 hlen hJ hX HPt HR0
 have HWr : Hid (∀ W, Calls Tryz.prog 82 #[.agg (cpC d.c), .agg (rcC ((DevM.rc d).setI O RecM.noInf)), .bool false] W fun e w' => e = .returned (.tuple #[.agg (cpC L), .int .i64 E]) ∧ Below W.heap.size W w') := fun W => by
  have := zbA d.c ((DevM.rc d).setI O RecM.noInf) false W; rw [hW] at this; exact this
 have HCy := LH (fun W (x : DH W h d) => za3 h d W x (DevM.few_of HOk.out)); unfold devV at HCy; clear hW HOk; generalize hr : DevM.rc d = r at HBg HO HR HI HDo HSu HCz HWr; clear hr; have HDh := LH HD; clear HD; unfold devV; obtain ⟨P1, hP1⟩ : ∃ P, w.heap.size = P := ⟨_, rfl⟩; have HS := LH (((((MS.start w).alloc (p := P1) (by simp [hP1]) (dvC h d) 37)).alloc (p := (P1 + 1)) (by simp [hP1]) zDev 37)); go_enter Tryz.func20, Tryz.ntmps20; go_upto_region 1 with fail; refine zau HS.out (fun V0 HS1 => ?_); replace HS := LH HS1; clear HS1 hP1; replace HS := LH (MH.of HS.out); have bP1 := HS.out.gt 1 rfl
 go_wp2_with (first
  | ((with_reducible show wpList _ _ _ _ _ _); refine LR rfl (t := 37) U37 rfl (.tmp 1) rfl P1 rfl bP1 (sDv h d) ?_))
 clear bP1; refine (HBg.out _ (HDh.out.later HS.out.below)).mono ?_; rintro e W1 ⟨rfl, hb⟩; replace HS := LH (HS.out.later hb); clear hb; obtain ⟨P3, hP3⟩ : ∃ P, W1.heap.size = P := ⟨_, rfl⟩; replace HS := LH (HS.out.alloc hP3 (rcC r) 28); go_upto_region 2 with ((with_reducible show wpList _ _ _ _ _ _); refine wSN rfl 28 (.tmp 4) (.tmp 13) rfl P3 (rcC r) rfl rfl 28 _ ?_ ?_ ?_ ?_ ?_; exact hP3.symm; exact (sRc r); exact (lRc r); exact (oRc r)); refine gnH HS.out (fun V1 HS1 => ?_); replace HS := LH HS1; clear HS1 hP3; have cP1_29 := HS.out.cel 2 29 (v := .bool d.busy) rfl rfl; have cP3_2 := HS.out.cel 0 2 (v := .bool r.trying) rfl rfl; by_cases hl : d.busy = true ∨ r.trying = true
 · have HR2 : Hid (DevM.open_ d = (DevM.noDev, 5)) := by
    show _ = _; rw [HR.out, if_pos hl]
   have HG := LH (HS.out.set 1 rfl zDev); have bP1p1 := HS.out.gt 1 rfl
   cases hb : d.busy with
   | true =>
     rw [hb] at cP1_29; clear hb hl
     go_wp2_with (first
      | ((with_reducible show wpList _ _ _ _ _ _); refine wpList_store_row rfl 37 (.tmp 2) (.tmp 25) rfl (P1 + 1) zDev rfl rfl 37 zDev ?_ ?_ ?_ ?_ ?_; exact bP1p1; exact zac; exact zav; exact zaq))
     refine bodyPost_ret (v := .tuple #[.agg zDev, .int .i64 5]) ?_ rfl ?_
     · exact zam (fn := Tryz.f20) (p := 2) (a := 3) rfl rfl rfl (HG.out.get 1 rfl) U37 rfl zac
     · rw [HR2.out]
       exact GDv.bad HG.out.below
   | false =>
     have ht : r.trying = true := by
      rcases hl with q | q
      · rw [hb] at q; cases q
      · exact q
     rw [hb] at cP1_29; rw [ht] at cP3_2; clear hb hl ht
     go_wp2_with (first
      | ((with_reducible show wpList _ _ _ _ _ _); refine wpList_store_row rfl 37 (.tmp 2) (.tmp 25) rfl (P1 + 1) zDev rfl rfl 37 zDev ?_ ?_ ?_ ?_ ?_; exact bP1p1; exact zac; exact zav; exact zaq))
     refine bodyPost_ret (v := .tuple #[.agg zDev, .int .i64 5]) ?_ rfl ?_
     · exact zam (fn := Tryz.f20) (p := 2) (a := 3) rfl rfl rfl (HG.out.get 1 rfl) U37 rfl zac
     · rw [HR2.out]
       exact GDv.bad HG.out.below
 · have hb : d.busy = false := by
    cases q : d.busy with
    | true => exact absurd (.inl q) hl
    | false => rfl
   have ht : r.trying = false := by
    cases q : r.trying with
    | true => exact absurd (.inr q) hl
    | false => rfl
   rw [hb] at cP1_29; rw [ht] at cP3_2
   replace HR : Hid (DevM.open_ d = DevM.wrong J
    (if p.from_ ≠ (RecM.inf r r.act).ver ∨ p.to_ < r.floor then (DevM.noDev, 4)
     else DevM.wrong X (DevM.wrong E ({ d with c := L, busy := true, job := p, done := 0, got := [] }, 0)))) := by
    show _ = _; rw [HR.out, if_neg hl]
   clear hb ht hl; have cP1_28 := HS.out.cel 2 28 (v := .slice h.ga h.gn h.gc) rfl rfl; go_wp2_with fail; clear cP1_29 cP3_2 cP1_28; refine (HJn.out _ (HDh.out.later HS.out.below)).mono ?_; rintro e W2 ⟨oa, on, oc, rfl, hn, hI, hb⟩; replace HS := LH (HS.out.gain hb hn); clear hb hn HJn; obtain ⟨P6, hP6⟩ : ∃ P, W2.heap.size = P := ⟨_, rfl⟩; replace HS := LH (HS.out.alloc hP6 (jbC oa on oc p) 35); go_upto_region 7 with ((with_reducible show wpList _ _ _ _ _ _); refine wSN rfl 35 (.tmp 6) (.tmp 30) rfl P6 (jbC oa on oc p) rfl rfl 35 _ ?_ ?_ ?_ ?_ ?_; exact hP6.symm; exact (sJb oa on oc p); exact (like_zjob oa on oc p); exact (zbg oa on oc p)); refine gnH HS.out (fun V2 HS1 => ?_); replace HS := LH HS1; clear HS1 hP6; by_cases hJ0 : J = 0
   · subst hJ0
     rw [DevM.wrong.eq_1, if_neg (fun q => q rfl)] at HR; have bP6 := HS.out.gt 0 rfl; have bP3 := HS.out.gt 1 rfl
     go_wp2_with (first
      | ((with_reducible show wpList _ _ _ _ _ _); refine LR rfl (t := 35) U35 rfl (.tmp 6) rfl P6 rfl bP6 (sJb oa on oc p) ?_)
      | ((with_reducible show wpList _ _ _ _ _ _); refine LR rfl (t := 28) U28 rfl (.tmp 4) rfl P3 rfl bP3 (sRc r) ?_))
     clear bP6 bP3; by_cases hs : p.from_ = (RecM.inf r r.act).ver ∧ r.floor ≤ p.to_
     · rw [if_neg (by omega)] at HR
       rw [decide_eq_true hs] at HSu; clear hs; refine (HSu.out _ _ _ _).mono ?_; rintro e W3 ⟨rfl, hb⟩; replace HS := LH (HS.out.later hb); clear hb; go_wp2_with fail; clear HSu; refine rTu (S := MS w [(P6, (jbC oa on oc p), 35), (P3, (rcC r), 28), ((P1 + 1), zDev, 37), (P1, (dvC h d), 37)] [] []) [(0, false), (1, false), (2, false), (3, true), (4, true), (5, false), (6, false), (7, false), (8, false), (9, false)] false 9999 (by kernel_rfl) (by kernel_rfl) HS.out.ms.drew ?_; simp only [turned, gA, gB, gC]; replace HS := LH HS.out.drew
       repeat (first
        | ((refine zaw (by rfl) 35 (.tmp 6) rfl P6 rfl 35 (jbC oa on oc p) _ (fun W hW => hW.get 0 rfl) U35 rfl (sJb oa on oc p) ?_); simp only [Act.put, sA, sB, sC])
        | ((refine zaw (by rfl) 37 (.tmp 1) rfl P1 rfl 37 (dvC h d) _ (fun W hW => hW.get 3 rfl) U37 rfl (sDv h d) ?_); simp only [Act.put, sA, sB, sC])
        | ((refine zaw (by rfl) 28 (.tmp 4) rfl P3 rfl 28 (rcC r) _ (fun W hW => hW.get 1 rfl) U28 rfl (sRc r) ?_); simp only [Act.put, sA, sB, sC])
        | (refine tSt ?_ (by rfl) (fun W9 hW9 => ?_) ?_
           rotate_left
           · (go_simp <;> with_reducible rfl)
           simp only [Act.put, sA, sB, sC])
        | (refine tSk (by rfl) ?_; simp only [Act.put, sA, sB, sC]))
       refine tCa (fun K hK => ?_); go_simp; go_at_call 80; with_reducible refine (HI.out _).mono ?_
       rintro e W4 ⟨rfl, hb⟩; replace HS := LH (HS.out.later hb); clear hb
       try go_wp2_with fail
       refine hK.out _ _ HS.out.ms ?_; clear hK K
       try simp only [Act.put, sA, sB, sC]
       refine tCa (fun K hK => ?_); go_simp; go_at_call 79; with_reducible refine (HDo.out _ _ _ _ (HDh.out.later HS.out.below) (HS.out.fact 0 rfl) hI).mono ?_
       rintro e W5 ⟨ab, nb, cb, rfl, -, hb⟩; replace HS := LH (HS.out.later hb); clear hb
       try go_wp2_with fail
       refine hK.out _ _ HS.out.ms ?_; clear hK K
       try simp only [Act.put, sA, sB, sC]
       repeat (first
        | (refine tSt ?_ (by rfl) (fun W9 hW9 => ?_) ?_
           rotate_left
           · (go_simp <;> with_reducible rfl)
           simp only [Act.put, sA, sB, sC])
        | (refine tSk (by rfl) ?_; simp only [Act.put, sA, sB, sC]))
       refine tEn ?_; clear HI HDo; by_cases hX0 : X = 0
       · subst hX0
         rw [DevM.wrong.eq_1, if_neg (fun q => q rfl)] at HR; have cP3_1 := HS.out.cel 1 1 (v := .int .i64 r.act) rfl rfl; go_wp2_with fail; clear cP3_1; refine (HO.out _).mono ?_; rintro e W6 ⟨rfl, hb⟩; replace HS := LH (HS.out.later hb); clear hb; have HS2 := LH (HS.out.cells 1 rfl (put_infV r O RecM.noInf hO2))
         go_upto_region 15 with (first
          | ((with_reducible show wpList _ _ _ _ _ _); refine wpList_store_mid rfl 25 (.tmp 58) (.tmp 56) rfl P3 (5 + O * 3) #[Value.int .i64 RecM.noInf.ver, .int .i64 RecM.noInf.size, .int .i64 RecM.noInf.sum] rfl rfl ?_ ?_ ?_ ?_; exact HS.out.ms.there 1 rfl (by show 5 + O * 3 + 3 ≤ 11; omega); exact size_inf _; exact one_inf _; refine glH HS2.out (fun V3 HS1 => ?_)))
         replace HS := LH HS1; clear HS1 HS2; have bP1 := HS.out.gt 3 rfl; have bP3 := HS.out.gt 1 rfl
         go_wp2_with (first
          | ((with_reducible show wpList _ _ _ _ _ _); refine wLP rfl 31 (.tmp 60) rfl P1 2 rfl (dvC h d) 37 (0, 0) ?_ (cpC d.c) ?_ _ U31 rfl ?_ ?_; exact bP1; exact (zai h d); exact (sCp d.c))
          | ((with_reducible show wpList _ _ _ _ _ _); refine LR rfl (t := 28) U28 rfl (.tmp 4) rfl P3 rfl bP3 (sRc (r.setI O RecM.noInf)) ?_))
         clear bP1 bP3; refine (HWr.out _).mono ?_; rintro e W7 ⟨rfl, hb⟩; replace HS := LH (HS.out.later hb); clear hb; obtain ⟨P9, hP9⟩ : ∃ P, W7.heap.size = P := ⟨_, rfl⟩; replace HS := LH (HS.out.alloc hP9 (cpC L) 31); go_upto_region 16 with ((with_reducible show wpList _ _ _ _ _ _); refine wSN rfl 31 (.tmp 9) (.tmp 64) rfl P9 (cpC L) rfl rfl 31 _ ?_ ?_ ?_ ?_ ?_; exact hP9.symm; exact (sCp L); exact (zbS L); exact (za5 L)); refine gnH HS.out (fun V4 HS1 => ?_); replace HS := LH HS1; clear HS1 hP9 HWr HO; by_cases hE : E = 0
         · subst hE
           rw [DevM.wrong.eq_1, if_neg (fun q => q rfl)] at HR; have HLW := LH (HCz.out rfl); have bP1 := HS.out.gt 4 rfl
           go_wp2_with (first
            | ((with_reducible show wpList _ _ _ _ _ _); refine LR rfl (t := 37) U37 rfl (.tmp 1) rfl P1 rfl bP1 (sDv h d) ?_))
           clear bP1; refine (HCy.out _ (HDh.out.later HS.out.below)).mono ?_; rintro e W8 ⟨h', rfl, hb, hn, -, -⟩; replace HS := LH (HS.out.gain hb hn); clear hb hn; unfold devV; have HS2 := LH (HS.out.set 4 rfl (dvC h' d)); have bP1 := HS.out.gt 4 rfl
           go_upto_region 19 with (first
            | ((with_reducible show wpList _ _ _ _ _ _); refine wpList_store_row rfl 37 (.tmp 1) (.tmp 71) rfl P1 (dvC h' d) rfl rfl 37 (dvC h d) ?_ ?_ ?_ ?_ ?_; exact bP1; exact (sDv h' d); exact (lDv h h' d d); exact (oDv h' d)))
           clear bP1; refine gnH HS2.out (fun V5 HS1 => ?_); replace HS := LH HS1; clear HS1 HS2; replace HS := LH HS.out.drew; refine rTu (S := MS w [(P9, (cpC L), 31), (P6, (jbC oa on oc p), 35), (P3, (rcC (r.setI O RecM.noInf)), 28), ((P1 + 1), zDev, 37)] [] []) [(0, false), (1, false), (2, false), (3, true), (4, false), (5, true), (6, false), (7, true), (8, false), (9, true), (10, false), (11, true)] false 9999 (by kernel_rfl) (by kernel_rfl) (HS.out.ms.sub (List.sublist_append_left [(P9, (cpC L), 31), (P6, (jbC oa on oc p), 35), (P3, (rcC (r.setI O RecM.noInf)), 28), ((P1 + 1), zDev, 37)] [(P1, _, 37)])) ?_; simp only [turned, gA, gB, gC]
           repeat (first
            | ((refine zaw (by rfl) 31 (.tmp 9) rfl P9 rfl 31 (cpC L) _ (fun W hW => hW.get 0 rfl) U31 rfl (sCp L) ?_); simp only [Act.put, sA, sB, sC])
            | ((refine zaw (by rfl) 35 (.tmp 6) rfl P6 rfl 35 (jbC oa on oc p) _ (fun W hW => hW.get 1 rfl) U35 rfl (sJb _ _ _ _) ?_); simp only [Act.put, sA, sB, sC])
            | (refine tSt ?_ (by rfl) (fun W9 hW9 => ?_) ?_
               rotate_left
               · (go_simp <;> with_reducible rfl)
               simp only [Act.put, sA, sB, sC])
            | (refine tSk (by rfl) ?_; simp only [Act.put, sA, sB, sC]))
           have HS2 := LH (HS.out.cells 4 rfl (zbr h' d L)); refine tCa (fun K hK => ?_); refine zaW (by rfl) 31 (.tmp 74) (.tmp 72) rfl P1 2 (cpC L) rfl rfl (HS.out.ms.there 4 rfl (by show 26 ≤ 37; decide)) (sCp L) (zbT L) ?_; refine hK.out _ _ (HS2.out.ms.sub (List.sublist_append_left [(P9, (cpC L), 31), (P6, (jbC oa on oc p), 35), (P3, (rcC (r.setI O RecM.noInf)), 28), ((P1 + 1), zDev, 37)] [(P1, _, 37)])) ?_; clear hK K
           try simp only [Act.put]
           refine zaV HS2.out (fun U0 HS1 => ?_); replace HS := LH HS1; clear HS1 HS2; skip
           repeat (first
            | (refine tSt ?_ (by rfl) (fun W9 hW9 => ?_) ?_
               rotate_left
               · (go_simp <;> with_reducible rfl)
               simp only [Act.put, sA, sB, sC])
            | (refine tSk (by rfl) ?_; simp only [Act.put, sA, sB, sC]))
           have HS2 := LH (HS.out.cell 4 rfl (put_got' h' ({ d with c := L } : DevR) none 0 0 [])); have cP1_28 := HS.out.cel 4 28 (v := .slice h'.ga h'.gn h'.gc) rfl rfl; have fP1_28 := HS.out.thw 4 28 rfl; refine tCa (fun K hK => ?_); go_simp; refine hK.out _ _ (HS2.out.ms.sub (List.sublist_append_left [(P9, (cpC L), 31), (P6, (jbC oa on oc p), 35), (P3, (rcC (r.setI O RecM.noInf)), 28), ((P1 + 1), zDev, 37)] [(P1, _, 37)])) ?_; clear hK K
           try simp only [Act.put]
           refine zaV HS2.out (fun U1 HS1 => ?_); replace HS := LH HS1; clear HS1 HS2; clear cP1_28 fP1_28; skip
           repeat (first
            | (refine tSt ?_ (by rfl) (fun W9 hW9 => ?_) ?_
               rotate_left
               · (go_simp <;> with_reducible rfl)
               simp only [Act.put, sA, sB, sC])
            | (refine tSk (by rfl) ?_; simp only [Act.put, sA, sB, sC]))
           have HS2 := LH (HS.out.cell 4 rfl (zbH ({ h' with ga := none, gn := 0, gc := 0 } : DevH) ({ d with c := L, got := [] } : DevR) true)); have cP1_29 := HS.out.cel 4 29 (v := .bool d.busy) rfl rfl; have fP1_29 := HS.out.thw 4 29 rfl; refine tCa (fun K hK => ?_); go_simp; refine hK.out _ _ (HS2.out.ms.sub (List.sublist_append_left [(P9, (cpC L), 31), (P6, (jbC oa on oc p), 35), (P3, (rcC (r.setI O RecM.noInf)), 28), ((P1 + 1), zDev, 37)] [(P1, _, 37)])) ?_; clear hK K
           try simp only [Act.put]
           refine zaV HS2.out (fun U2 HS1 => ?_); replace HS := LH HS1; clear HS1 HS2; clear cP1_29 fP1_29; skip
           repeat (first
            | (refine tSt ?_ (by rfl) (fun W9 hW9 => ?_) ?_
               rotate_left
               · (go_simp <;> with_reducible rfl)
               simp only [Act.put, sA, sB, sC])
            | (refine tSk (by rfl) ?_; simp only [Act.put, sA, sB, sC]))
           have HS2 := LH (HS.out.cells 4 rfl (put_job ({ h' with ga := none, gn := 0, gc := 0 } : DevH) ({ d with c := L, got := [], busy := true } : DevR) oa on oc p)); refine tCa (fun K hK => ?_); refine zaW (by rfl) 35 (.tmp 77) (.tmp 73) rfl P1 30 (jbC oa on oc p) rfl rfl (HS.out.ms.there 4 rfl (by show 36 ≤ 37; decide)) (sJb _ _ _ _) (zbg _ _ _ _) ?_; refine hK.out _ _ (HS2.out.ms.sub (List.sublist_append_left [(P9, (cpC L), 31), (P6, (jbC oa on oc p), 35), (P3, (rcC (r.setI O RecM.noInf)), 28), ((P1 + 1), zDev, 37)] [(P1, _, 37)])) ?_; clear hK K
           try simp only [Act.put]
           refine zaV HS2.out (fun U3 HS1 => ?_); replace HS := LH HS1; clear HS1 HS2; skip
           repeat (first
            | (refine tSt ?_ (by rfl) (fun W9 hW9 => ?_) ?_
               rotate_left
               · (go_simp <;> with_reducible rfl)
               simp only [Act.put, sA, sB, sC])
            | (refine tSk (by rfl) ?_; simp only [Act.put, sA, sB, sC]))
           have HS2 := LH (HS.out.cell 4 rfl (zbe ({ h' with ga := none, gn := 0, gc := 0, oa := oa, on := on, oc := oc } : DevH) ({ d with c := L, got := [], busy := true, job := p } : DevR) 0)); have cP1_36 := HS.out.cel 4 36 (v := .int .i64 d.done) rfl rfl; have fP1_36 := HS.out.thw 4 36 rfl; refine tCa (fun K hK => ?_); go_simp; refine hK.out _ _ (HS2.out.ms.sub (List.sublist_append_left [(P9, (cpC L), 31), (P6, (jbC oa on oc p), 35), (P3, (rcC (r.setI O RecM.noInf)), 28), ((P1 + 1), zDev, 37)] [(P1, _, 37)])) ?_; clear hK K
           try simp only [Act.put]
           refine zaV HS2.out (fun U4 HS1 => ?_); replace HS := LH HS1; clear HS1 HS2; clear cP1_36 fP1_36; refine tEn ?_; have bP1 := HS.out.gt 4 rfl; have bP1p1 := HS.out.gt 3 rfl; have HG := LH (HS.out.set 3 rfl (dvC ({ h' with ga := none, gn := 0, gc := 0, oa := oa, on := on, oc := oc } : DevH) ({ d with c := L, got := [], busy := true, job := p, done := 0 } : DevR)))
           go_wp2_with (first
            | ((with_reducible show wpList _ _ _ _ _ _); refine LR rfl (t := 37) U37 rfl (.tmp 1) rfl P1 rfl bP1 (sDv ({ h' with ga := none, gn := 0, gc := 0, oa := oa, on := on, oc := oc } : DevH) ({ d with c := L, got := [], busy := true, job := p, done := 0 } : DevR)) ?_)
            | ((with_reducible show wpList _ _ _ _ _ _); refine wpList_store_row rfl 37 (.tmp 2) (.tmp 79) rfl (P1 + 1) (dvC ({ h' with ga := none, gn := 0, gc := 0, oa := oa, on := on, oc := oc } : DevH) ({ d with c := L, got := [], busy := true, job := p, done := 0 } : DevR)) rfl rfl 37 zDev ?_ ?_ ?_ ?_ ?_; exact bP1p1; exact (sDv ({ h' with ga := none, gn := 0, gc := 0, oa := oa, on := on, oc := oc } : DevH) ({ d with c := L, got := [], busy := true, job := p, done := 0 } : DevR)); exact (zat ({ h' with ga := none, gn := 0, gc := 0, oa := oa, on := on, oc := oc } : DevH) ({ d with c := L, got := [], busy := true, job := p, done := 0 } : DevR)); exact (oDv ({ h' with ga := none, gn := 0, gc := 0, oa := oa, on := on, oc := oc } : DevH) ({ d with c := L, got := [], busy := true, job := p, done := 0 } : DevR))))
           clear bP1 bP1p1; refine bodyPost_ret (v := .tuple #[.agg (dvC ({ h' with ga := none, gn := 0, gc := 0, oa := oa, on := on, oc := oc } : DevH) ({ d with c := L, got := [], busy := true, job := p, done := 0 } : DevR)), .int .i64 0]) ?_ rfl ?_
           · exact zam (fn := Tryz.f20) (p := 2) (a := 3) rfl rfl rfl (HG.out.get 3 rfl) U37 rfl (sDv _ _)
           · rw [HR.out]
             refine ⟨({ h' with ga := none, gn := 0, gc := 0, oa := oa, on := on, oc := oc } : DevH), rfl, HG.out.below, fun V v1 v2 => ?_⟩; have k1 := HG.out.newR 0 rfl V v1 v2; have k2 := HG.out.newR 1 rfl V v1 v2; simp only at k1 k2; exact ⟨k1.b0, k1.b1, CS.nil_ _, k2, HLW.out, k1.runI, hI, zaS⟩
         · have t3 : (E != 0) = true := by simp [hE]
           have HR2 : Hid (DevM.open_ d = (DevM.noDev, E)) := by
            show _ = _; rw [HR.out, DevM.wrong.eq_1, if_pos hE]
           clear hE; have bP1p1 := HS.out.gt 3 rfl; have HG := LH (HS.out.set 3 rfl zDev)
           go_wp2_with (first
            | ((with_reducible show wpList _ _ _ _ _ _); refine wpList_store_row rfl 37 (.tmp 2) (.tmp 68) rfl (P1 + 1) zDev rfl rfl 37 zDev ?_ ?_ ?_ ?_ ?_; exact bP1p1; exact zac; exact zav; exact zaq))
           clear bP1p1; refine bodyPost_ret (v := .tuple #[.agg zDev, .int .i64 E]) ?_ rfl ?_
           · exact zam (fn := Tryz.f20) (p := 2) (a := 3) rfl rfl rfl (HG.out.get 3 rfl) U37 rfl zac
           · rw [HR2.out]
             exact GDv.bad HG.out.below
       · have t2 : (X != 0) = true := by simp [hX0]
         have HR2 : Hid (DevM.open_ d = (DevM.noDev, X)) := by
          show _ = _; rw [HR.out, DevM.wrong.eq_1, if_pos hX0]
         clear hX0; have bP1p1 := HS.out.gt 2 rfl; have HG := LH (HS.out.set 2 rfl zDev)
         go_wp2_with (first
          | ((with_reducible show wpList _ _ _ _ _ _); refine wpList_store_row rfl 37 (.tmp 2) (.tmp 51) rfl (P1 + 1) zDev rfl rfl 37 zDev ?_ ?_ ?_ ?_ ?_; exact bP1p1; exact zac; exact zav; exact zaq))
         clear bP1p1; refine bodyPost_ret (v := .tuple #[.agg zDev, .int .i64 X]) ?_ rfl ?_
         · exact zam (fn := Tryz.f20) (p := 2) (a := 3) rfl rfl rfl (HG.out.get 2 rfl) U37 rfl zac
         · rw [HR2.out]
           exact GDv.bad HG.out.below
     · have HR2 : Hid (DevM.open_ d = (DevM.noDev, 4)) := by
        show _ = _; rw [HR.out, if_pos (by omega)]
       rw [decide_eq_false hs] at HSu; clear hs; refine (HSu.out _ _ _ _).mono ?_; rintro e W3 ⟨rfl, hb⟩; replace HS := LH (HS.out.later hb); clear hb; have bP1p1 := HS.out.gt 2 rfl; have HG := LH (HS.out.set 2 rfl zDev)
       go_wp2_with (first
        | ((with_reducible show wpList _ _ _ _ _ _); refine wpList_store_row rfl 37 (.tmp 2) (.tmp 40) rfl (P1 + 1) zDev rfl rfl 37 zDev ?_ ?_ ?_ ?_ ?_; exact bP1p1; exact zac; exact zav; exact zaq))
       clear bP1p1; refine bodyPost_ret (v := .tuple #[.agg zDev, .int .i64 4]) ?_ rfl ?_
       · exact zam (fn := Tryz.f20) (p := 2) (a := 3) rfl rfl rfl (HG.out.get 2 rfl) U37 rfl zac
       · rw [HR2.out]
         exact GDv.bad HG.out.below
   · have t1 : (J != 0) = true := by simp [hJ0]
     have HR2 : Hid (DevM.open_ d = (DevM.noDev, J)) := by
      show _ = _; rw [HR.out, DevM.wrong.eq_1, if_pos hJ0]
     clear hJ0; have bP1p1 := HS.out.gt 2 rfl; have HG := LH (HS.out.set 2 rfl zDev)
     go_wp2_with (first
      | ((with_reducible show wpList _ _ _ _ _ _); refine wpList_store_row rfl 37 (.tmp 2) (.tmp 34) rfl (P1 + 1) zDev rfl rfl 37 zDev ?_ ?_ ?_ ?_ ?_; exact bP1p1; exact zac; exact zav; exact zaq))
     clear bP1p1; refine bodyPost_ret (v := .tuple #[.agg zDev, .int .i64 J]) ?_ rfl ?_
     · exact zam (fn := Tryz.f20) (p := 2) (a := 3) rfl rfl rfl (HG.out.get 2 rfl) U37 rfl zac
     · rw [HR2.out]
       exact GDv.bad HG.out.below
theorem openD_any (h : DevH) (d : DevR) (w : World) (HD : DH w h d) : Calls Tryz.prog 20 #[devV h d] w (GDv (DevM.told d true (DevM.open_ d)) w) := by
 have HBg := fun W (x : DH W h d) => zbn zbF h d true W x; unfold devV at HBg; rcases DevM.beg_cases d true with ⟨E, h0, hb, ht⟩ | ⟨hok, hu, hb, ht⟩
 · rw [ht]
   rw [hb] at HBg; exact openD_bad h d  w HD E h0 (LH HBg)
 · rw [ht]
   rw [hb] at HBg; exact openD_ok h d  w HD (LH HBg) hok hu
theorem dec12 (a : Prop) [Decidable a] (tr : Bool) (r s : Int) : decide (¬ a ∨ (tr = false ∧ r ≠ s)) = (!decide a || (!tr && (r != s))) := by
 by_cases ha : a <;> cases tr <;> by_cases h : r = s <;> simp [ha, h]
theorem bool3 (q tr ne : Bool) : q = false ∨ (q = true ∧ tr = true) ∨ (q = true ∧ tr = false ∧ ne = false) ∨ (q = true ∧ tr = false ∧ ne = true) := by cases q <;> cases tr <;> cases ne <;> simp
theorem bool4 (a b c e : Bool) : a = true ∨ (a = false ∧ b = true) ∨ (a = false ∧ b = false ∧ c = true) ∨ (a = false ∧ b = false ∧ c = false ∧ e = true) ∨ (a = false ∧ b = false ∧ c = false ∧ e = false) := by cases a <;> cases b <;> cases c <;> cases e <;> simp
theorem zbq (r : RecR) (A : Nat) (hA : A < 2) : (rcC r)[5 + A * 3]? = some (.int .i64 (RecM.inf r (A : Int)).ver) := by
 rcases (show A = 0 ∨ A = 1 by omega) with rfl | rfl <;> rfl
theorem dev_slot (h : DevH) (d : DevR) (O : Nat) (hO : O < 2) : (dvC h d)[O]? = some (.slice (slA h (O : Int)) (slN h (O : Int)) (slC h (O : Int))) := by
 rcases (show O = 0 ∨ O = 1 by omega) with rfl | rfl <;> rfl
theorem checkDevU (h : DevH) (d : DevR) (h0 : h.n0 = 64) (h1 : h.n1 = 64) (c0 : RecM.copies d.c = 0) (hu : d.up = true)  (w : World) (HD : DH w h d) : Calls Tryz.prog 12 #[devV h d] w fun e w' => e = .returned (.int .i64 (DevM.upErr d)) ∧ Below w.heap.size w w' := by
 obtain ⟨XR, hXR⟩ : ∃ X, DevM.upErr d = X := ⟨_, rfl⟩; rw [hXR]; have HB : Hid (XR = if ¬ (0 ≤ d.run ∧ d.run ≤ 1) ∨ ((DevM.rc d).trying = false ∧ d.run ≠ DevM.act d) then 2 else if ChunkM.checks d.got ≠ 0 then ChunkM.checks d.got else if d.busy = false then (if d.done ≠ 0 ∨ d.job ≠ zap then 3 else 0) else DevM.busyErr d) := hXR.symm; clear hXR; have q0 : ((h.n0 : Int) != 64) = false := by simp; omega
 have q1 : ((h.n1 : Int) != 64) = false := by simp; omega
 have HN0 := LH h0; have HN1 := LH h1; clear h0 h1; have HD0 := LH HD; have HCo : Hid (∀ W, Calls Tryz.prog 58 #[.agg (cpC d.c)] W fun e w' => e = .returned (.int .i64 (RecM.copies d.c)) ∧ Below W.heap.size W w') := fun W => zb5 d.c W; rw [c0] at HCo; have HC0 := LH c0; clear c0; unfold devV; obtain ⟨P1, hP1⟩ : ∃ P, w.heap.size = P := ⟨_, rfl⟩; have HS := LH ((((MS.start w).arg HD.argR).alloc (p := P1) (by simp [hP1]) (dvC h d) 37)); go_enter Tryz.func12, Tryz.ntmps12; go_upto_region 1 with fail; refine zau HS.out (fun V0 HS1 => ?_); replace HS := LH HS1; clear HS1 hP1; have cP1_0 := HS.out.cel 0 0 (v := .slice h.a0 h.n0 h.c0) rfl rfl; have cP1_1 := HS.out.cel 0 1 (v := .slice h.a1 h.n1 h.c1) rfl rfl; have bP1 := HS.out.gt 0 rfl
 go_wp2_with (first
  | ((with_reducible show wpList _ _ _ _ _ _); refine wLP rfl 31 (.tmp 22) rfl P1 2 rfl (dvC h d) 37 (0, 0) ?_ (cpC d.c) ?_ _ U31 rfl ?_ ?_; exact bP1; exact (zai h d); exact (sCp d.c)))
 clear cP1_0 cP1_1 bP1; refine (HCo.out _).mono ?_; rintro e W1 ⟨rfl, hb⟩; replace HS := LH (HS.out.later hb); clear hb; go_upto_region 6 with fail; go_cut [4] (fun s4 wx => s4 = .bool (decide (d.done = 0 ∧ d.job = zap)) ∧ MS w [(P1, (dvC h d), 37)] [(fun W => DH W h d)] [] wx)
 case first =>
  by_cases hd : d.done = 0
  · have td : (d.done == 0) = true := by simp [hd]
    have HSp : Hid (∀ W, DH W h d → Calls Tryz.prog 59 #[.agg (jbC h.oa h.on h.oc d.job), .agg #[.int .i64 0, .int .i64 0, .int .i64 0, .int .i64 0, .int .i64 0, .slice none 0 0]] W fun e w' => e = .returned (.bool (decide (d.job = zap))) ∧ Below W.heap.size W w') := fun W x => samePat_any _ _ d.job zap W x.job ⟨none, 0, 0, rfl, OS.nil_ _, zbv⟩; refine zaj ?_; have cP1_36 := HS.out.cel 0 36 (v := .int .i64 d.done) rfl rfl
    repeat (first
     | ((refine zah ?hw 35 (.tmp 32) rfl P1 30 rfl 37 (dvC h d) (HS.out.get 0 rfl) (jbC h.oa h.on h.oc d.job) (zay h d) _ U35 rfl (sJb _ _ _ _) ?_); (case hw => first | exact zaa rfl | exact zab rfl rfl); simp only [Act.put, sA, sB, sC])
     | (refine zag (by first | exact zaf rfl rfl rfl | exact zad rfl rfl) ?_; simp only [Act.put, sA, sB, sC])
     | (refine zae ?_ ?_ ?_ ?_
        rotate_left
        · first | exact zaa rfl | exact zab rfl rfl
        · (go_simp <;> with_reducible rfl)
        simp only [Act.put, sA, sB, sC]))
    clear cP1_36; refine zar (fun K hK => ?_); go_simp; go_at_call 59; with_reducible refine (HSp.out _ (HD0.out.later HS.out.below)).mono ?_
    rintro e W2 ⟨rfl, hb⟩; replace HS := LH (HS.out.later hb); clear hb
    try go_wp2_with fail
    refine hK.out _ _ ?_; clear hK K
    try simp only [Act.put, sA, sB, sC]
    repeat (first
     | (refine zag (by first | exact zaf rfl rfl rfl | exact zad rfl rfl) ?_; simp only [Act.put, sA, sB, sC])
     | (refine zae ?_ ?_ ?_ ?_
        rotate_left
        · first | exact zaa rfl | exact zab rfl rfl
        · (go_simp <;> with_reducible rfl)
        simp only [Act.put, sA, sB, sC]))
    refine zal ?_; go_wp2_with fail; go_meet; exact ⟨by simp [hd], HS.out⟩
  · have td : (d.done == 0) = false := by simp [hd]
    have cP1_36 := HS.out.cel 0 36 (v := .int .i64 d.done) rfl rfl; go_wp2_with fail; clear cP1_36; go_meet; exact ⟨by simp [hd], HS.out⟩
 case' rest =>
  obtain ⟨rfl, hs⟩ := hcut; replace HS := LH hs; clear hs
 obtain ⟨I, hI⟩ : ∃ b, decide (d.done = 0 ∧ d.job = zap) = b := ⟨_, rfl⟩; rw [hI]; have HI := LH hI; clear hI; have cP1_26 := HS.out.cel 0 26 (v := .bool d.up) rfl rfl; rw [hu] at cP1_26; clear hu; have HNe : Hid (∀ W, Calls Tryz.prog 60 #[.agg (cpC d.c)] W fun e w' => e = .returned (.tuple #[.agg (rcC (DevM.rc d)), .int .i64 (RecM.newest d.c)]) ∧ Below W.heap.size W w') := fun W => zaP d.c HC0.out W; have bP1 := HS.out.gt 0 rfl
 go_wp2_with (first
  | ((with_reducible show wpList _ _ _ _ _ _); refine wLP rfl 31 (.tmp 58) rfl P1 2 rfl (dvC h d) 37 (0, 0) ?_ (cpC d.c) ?_ _ U31 rfl ?_ ?_; exact bP1; exact (zai h d); exact (sCp d.c)))
 clear cP1_26 bP1; refine (HNe.out _).mono ?_; rintro e W2 ⟨rfl, hb⟩; replace HS := LH (HS.out.later hb); clear hb; obtain ⟨P5, hP5⟩ : ∃ P, W2.heap.size = P := ⟨_, rfl⟩; replace HS := LH (HS.out.alloc hP5 (rcC (DevM.rc d)) 28); go_upto_region 12 with ((with_reducible show wpList _ _ _ _ _ _); refine wSN rfl 28 (.tmp 5) (.tmp 61) rfl P5 (rcC (DevM.rc d)) rfl rfl 28 _ ?_ ?_ ?_ ?_ ?_; exact hP5.symm; exact (sRc (DevM.rc d)); exact (lRc (DevM.rc d)); exact (oRc (DevM.rc d))); refine zau HS.out (fun V5 HS1 => ?_); replace HS := LH HS1; clear HS1 hP5 HNe; have hrk := RecM.cur_ok HC0.out; have ha : (DevM.rc d).act = 0 ∨ (DevM.rc d).act = 1 := (RecM.check_nums hrk).2.1; obtain ⟨A, hAe, hA2⟩ : ∃ A : Nat, (DevM.rc d).act = (A : Int) ∧ A < 2 := ⟨(DevM.rc d).act.toNat, by omega, by omega⟩; obtain ⟨O, hO, hO2⟩ : ∃ O : Nat, 1 - (A : Int) = (O : Int) ∧ O < 2 := ⟨(1 - (A : Int)).toNat, by omega, by omega⟩; have HAe := LH hAe; have hvo0 : 0 ≤ (RecM.inf (DevM.rc d) (O : Int)).ver := (RecM.inf_nums (RecM.check_inf hrk (O : Int))).1.1
 have HVA : Hid ((DevM.info d (DevM.act d)).ver = (RecM.inf (DevM.rc d) (A : Int)).ver) := by
  show _ = _; unfold DevM.info DevM.act; rw [hAe]
 have HVO : Hid ((DevM.info d (DevM.oth d)).ver = (RecM.inf (DevM.rc d) (O : Int)).ver) := by
  show _ = _; unfold DevM.info DevM.oth; rw [hAe, hO]
 have HSO : Hid (DevM.slot d (DevM.oth d) = DevM.slot d (O : Int)) := by
  show _ = _; unfold DevM.oth; rw [hAe, hO]
 obtain ⟨va, hva⟩ : ∃ va, (RecM.inf (DevM.rc d) (A : Int)).ver = va := ⟨_, rfl⟩; obtain ⟨vo, hvo⟩ : ∃ vo, (RecM.inf (DevM.rc d) (O : Int)).ver = vo := ⟨_, rfl⟩; rw [hva] at HVA; rw [hvo] at HVO hvo0; have HVa := LH hva; have HVo := LH hvo; have HV0 := LH hvo0; clear hrk ha hAe hva hvo hvo0; go_cut [78] (fun s78 wx => s78 = .bool (decide (¬ (0 ≤ d.run ∧ d.run ≤ 1) ∨ ((DevM.rc d).trying = false ∧ d.run ≠ (DevM.rc d).act))) ∧ MS w [(P5, (rcC (DevM.rc d)), 28), (P1, (dvC h d), 37)] [(fun W => DH W h d)] [] wx)
 case first =>
  have HIn : Hid (∀ W, Calls Tryz.prog 61 #[.int .i64 d.run, .int .i64 0, .int .i64 1] W fun e w' => e = .returned (.bool (decide (0 ≤ d.run ∧ d.run ≤ 1))) ∧ W = w') := fun W => zaH d.run 0 1 W; obtain ⟨q, hq⟩ : ∃ q, decide (0 ≤ d.run ∧ d.run ≤ 1) = q := ⟨_, rfl⟩; rw [hq] at HIn; obtain ⟨tr, ht⟩ : ∃ tr, (DevM.rc d).trying = tr := ⟨_, rfl⟩; obtain ⟨ne, hne⟩ : ∃ ne, (d.run != (DevM.rc d).act) = ne := ⟨_, rfl⟩
  have HV : Hid (decide (¬ (0 ≤ d.run ∧ d.run ≤ 1) ∨ ((DevM.rc d).trying = false ∧ d.run ≠ (DevM.rc d).act)) = (!q || (!tr && ne))) := by
   show _ = _; rw [← hq, ← ht, ← hne]; exact dec12 _ _ _ _
  clear hq; rcases bool3 q tr ne with rfl | ⟨rfl, rfl⟩ | ⟨rfl, rfl, rfl⟩ | ⟨rfl, rfl, rfl⟩
  · refine zaj ?_
    have cP1_27 := HS.out.cel 1 27 (v := .int .i64 d.run) rfl rfl; have cP5_2 := HS.out.cel 0 2 (v := .bool (DevM.rc d).trying) rfl rfl; have cP5_1 := HS.out.cel 0 1 (v := .int .i64 (DevM.rc d).act) rfl rfl; rw [ht] at cP5_2
    repeat (first
     | (refine zag (by first | exact zaf rfl rfl rfl | exact zad rfl rfl) ?_; simp only [Act.put, sA, sB, sC])
     | (refine zae ?_ ?_ ?_ ?_
        rotate_left
        · first | exact zaa rfl | exact zab rfl rfl
        · (go_simp <;> with_reducible rfl)
        simp only [Act.put, sA, sB, sC]))
    refine zar (fun K hK => ?_); go_simp; go_at_call 61; with_reducible refine (HIn.out _).mono ?_
    rintro e W3 ⟨rfl, rfl⟩
    try go_wp2_with fail
    refine hK.out _ _ ?_; clear hK K
    try simp only [Act.put, sA, sB, sC]
    repeat (first
     | (refine zag (by first | exact zaf rfl rfl rfl | exact zad rfl rfl) ?_; simp only [Act.put, sA, sB, sC])
     | (refine zae ?_ ?_ ?_ ?_
        rotate_left
        · first | exact zaa rfl | exact zab rfl rfl
        · (go_simp <;> with_reducible rfl)
        simp only [Act.put, sA, sB, sC]))
    refine zal ?_; go_wp2_with fail; go_meet; exact ⟨by rw [HV.out]; first | rfl | (cases tr <;> rfl), HS.out⟩
  · refine zaj ?_
    have cP1_27 := HS.out.cel 1 27 (v := .int .i64 d.run) rfl rfl; have cP5_2 := HS.out.cel 0 2 (v := .bool (DevM.rc d).trying) rfl rfl; have cP5_1 := HS.out.cel 0 1 (v := .int .i64 (DevM.rc d).act) rfl rfl; rw [ht] at cP5_2
    repeat (first
     | (refine zag (by first | exact zaf rfl rfl rfl | exact zad rfl rfl) ?_; simp only [Act.put, sA, sB, sC])
     | (refine zae ?_ ?_ ?_ ?_
        rotate_left
        · first | exact zaa rfl | exact zab rfl rfl
        · (go_simp <;> with_reducible rfl)
        simp only [Act.put, sA, sB, sC]))
    refine zar (fun K hK => ?_); go_simp; go_at_call 61; with_reducible refine (HIn.out _).mono ?_
    rintro e W3 ⟨rfl, rfl⟩
    try go_wp2_with fail
    refine hK.out _ _ ?_; clear hK K
    try simp only [Act.put, sA, sB, sC]
    repeat (first
     | (refine zag (by first | exact zaf rfl rfl rfl | exact zad rfl rfl) ?_; simp only [Act.put, sA, sB, sC])
     | (refine zae ?_ ?_ ?_ ?_
        rotate_left
        · first | exact zaa rfl | exact zab rfl rfl
        · (go_simp <;> with_reducible rfl)
        simp only [Act.put, sA, sB, sC]))
    refine zal ?_; go_wp2_with fail; go_meet; exact ⟨by rw [HV.out]; rfl, HS.out⟩
  · refine zaj ?_
    have cP1_27 := HS.out.cel 1 27 (v := .int .i64 d.run) rfl rfl; have cP5_2 := HS.out.cel 0 2 (v := .bool (DevM.rc d).trying) rfl rfl; have cP5_1 := HS.out.cel 0 1 (v := .int .i64 (DevM.rc d).act) rfl rfl; rw [ht] at cP5_2
    repeat (first
     | (refine zag (by first | exact zaf rfl rfl rfl | exact zad rfl rfl) ?_; simp only [Act.put, sA, sB, sC])
     | (refine zae ?_ ?_ ?_ ?_
        rotate_left
        · first | exact zaa rfl | exact zab rfl rfl
        · (go_simp <;> with_reducible rfl)
        simp only [Act.put, sA, sB, sC]))
    refine zar (fun K hK => ?_); go_simp; go_at_call 61; with_reducible refine (HIn.out _).mono ?_
    rintro e W3 ⟨rfl, rfl⟩
    try go_wp2_with fail
    refine hK.out _ _ ?_; clear hK K
    try simp only [Act.put, sA, sB, sC]
    repeat (first
     | (refine zag (by first | exact zaf rfl rfl rfl | exact zad rfl rfl) ?_; simp only [Act.put, sA, sB, sC])
     | (refine zae ?_ ?_ ?_ ?_
        rotate_left
        · first | exact zaa rfl | exact zab rfl rfl
        · (go_simp <;> with_reducible rfl)
        simp only [Act.put, sA, sB, sC]))
    refine zal ?_; go_wp2_with fail; go_meet; exact ⟨by rw [HV.out]; rfl, HS.out⟩
  · refine zaj ?_
    have cP1_27 := HS.out.cel 1 27 (v := .int .i64 d.run) rfl rfl; have cP5_2 := HS.out.cel 0 2 (v := .bool (DevM.rc d).trying) rfl rfl; have cP5_1 := HS.out.cel 0 1 (v := .int .i64 (DevM.rc d).act) rfl rfl; rw [ht] at cP5_2
    repeat (first
     | (refine zag (by first | exact zaf rfl rfl rfl | exact zad rfl rfl) ?_; simp only [Act.put, sA, sB, sC])
     | (refine zae ?_ ?_ ?_ ?_
        rotate_left
        · first | exact zaa rfl | exact zab rfl rfl
        · (go_simp <;> with_reducible rfl)
        simp only [Act.put, sA, sB, sC]))
    refine zar (fun K hK => ?_); go_simp; go_at_call 61; with_reducible refine (HIn.out _).mono ?_
    rintro e W3 ⟨rfl, rfl⟩
    try go_wp2_with fail
    refine hK.out _ _ ?_; clear hK K
    try simp only [Act.put, sA, sB, sC]
    repeat (first
     | (refine zag (by first | exact zaf rfl rfl rfl | exact zad rfl rfl) ?_; simp only [Act.put, sA, sB, sC])
     | (refine zae ?_ ?_ ?_ ?_
        rotate_left
        · first | exact zaa rfl | exact zab rfl rfl
        · (go_simp <;> with_reducible rfl)
        simp only [Act.put, sA, sB, sC]))
    refine zal ?_; go_wp2_with fail; go_meet; exact ⟨by rw [HV.out]; rfl, HS.out⟩
 case' rest =>
  obtain ⟨rfl, hs⟩ := hcut; replace HS := LH hs; clear hs
 obtain ⟨B, hB⟩ : ∃ b, decide (¬ (0 ≤ d.run ∧ d.run ≤ 1) ∨ ((DevM.rc d).trying = false ∧ d.run ≠ (DevM.rc d).act)) = b := ⟨_, rfl⟩; rw [hB]
 cases B with
 | true =>
   have hx := HB.out.trans (if_pos (of_decide_eq_true hB)); subst hx; go_wp2_with fail; go_ret; exact ⟨rfl, HS.out.below⟩
 | false =>
   replace HB := LH (HB.out.trans (if_neg (of_decide_eq_false hB))); clear hB; have cP1_28 := HS.out.cel 1 28 (v := .slice h.ga h.gn h.gc) rfl rfl; obtain ⟨E, hE⟩ : ∃ E, ChunkM.checks d.got = E := ⟨_, rfl⟩
   have HCh : Hid (∀ W, DH W h d → Calls Tryz.prog 62 #[.slice h.ga h.gn h.gc] W fun e w' => e = .returned (.int .i64 E) ∧ Below W.heap.size W w') := fun W x => by
    have := checkChs_any _ _ _ _ W x.got
    rwa [hE] at this
   rw [hE] at HB; clear hE; go_wp2_with fail; clear cP1_28; refine (HCh.out _ (HS.out.read 0 rfl)).mono ?_; rintro e W3 ⟨rfl, hb⟩; replace HS := LH (HS.out.later hb); clear hb; clear HCh; by_cases hE : E = 0
   case neg =>
    have t0 : (E != 0) = true := by simp [hE]
    have hx := HB.out.trans (if_pos hE); subst hx; go_wp2_with fail; go_ret; exact ⟨rfl, HS.out.below⟩
   subst hE; replace HB := LH (HB.out.trans (if_neg (fun q => q rfl))); have cP1_29 := HS.out.cel 1 29 (v := .bool d.busy) rfl rfl; rcases Bool.eq_false_or_eq_true d.busy with hbu | hbu
   case inr =>
    rw [hbu] at cP1_29; replace HB := LH (HB.out.trans (if_pos hbu)); clear hbu
    cases I
    · have h2 := of_decide_eq_false HI.out
      have hx := HB.out.trans (if_pos (by
       by_cases q3 : d.done = 0
       · exact .inr (fun q4 => h2 ⟨q3, q4⟩)
       · exact .inl q3))
      subst hx; clear h2; go_wp2_with fail; go_ret; exact ⟨rfl, HS.out.below⟩
    · have h2 := of_decide_eq_true HI.out
      have hx := HB.out.trans (if_neg (by
       rintro (q | q)
       · exact q h2.1
       · exact q h2.2))
      subst hx; clear h2; go_wp2_with fail; go_ret; exact ⟨rfl, HS.out.below⟩
   rw [hbu] at cP1_29; replace HB := LH (HB.out.trans (if_neg (by rw [hbu]; decide))); clear hbu HI; go_upto_region 21 with fail; clear cP1_29; go_cut [121] (fun s121 wx => s121 = .bool (decide ((DevM.rc d).trying = true ∨ d.job.to_ < (DevM.rc d).floor ∨ d.job.from_ ≠ va ∨ vo ≠ 0)) ∧ MS w [(P5, (rcC (DevM.rc d)), 28), (P1, (dvC h d), 37)] [(fun W => DH W h d)] [] wx)
   case first =>
    have hv := HV0.out; have hOw : IntKind.i64.wrap (O : Int) = (O : Int) := IntWalk.i64_in _ (by omega); have hA0 : (0 : Int) ≤ (A : Int) := by omega
    have hAI : (A : Int) < 2 := by omega
    have hO0 : (0 : Int) ≤ (O : Int) := by omega
    have hOI : (O : Int) < 2 := by omega
    obtain ⟨tr, ht⟩ : ∃ tr, (DevM.rc d).trying = tr := ⟨_, rfl⟩; obtain ⟨b1, h1⟩ : ∃ q, decide (d.job.to_ < (DevM.rc d).floor) = q := ⟨_, rfl⟩; obtain ⟨b2, h2⟩ : ∃ q, (d.job.from_ != va) = q := ⟨_, rfl⟩; obtain ⟨b3, h3⟩ : ∃ q, decide (vo > 0) = q := ⟨_, rfl⟩; have h3' : decide (0 < vo) = b3 := h3
    have HV : Hid (decide ((DevM.rc d).trying = true ∨ d.job.to_ < (DevM.rc d).floor ∨ d.job.from_ ≠ va ∨ vo ≠ 0) = (tr || b1 || b2 || b3)) := by
     show _ = _
     have h4 : b3 = !decide (vo = 0) := by
      rw [← h3]; by_cases c : vo = 0
      · simp [c]
      · simp [c]
        omega
     rw [h4, ← ht, ← h1, ← h2]; by_cases c1 : (DevM.rc d).trying = true <;> by_cases c2 : d.job.to_ < (DevM.rc d).floor <;> by_cases c3 : d.job.from_ = va <;> by_cases c4 : vo = 0 <;> simp [c1, c2, c3, c4]
    clear hv; rcases bool4 tr b1 b2 b3 with rfl | ⟨rfl, rfl⟩ | ⟨rfl, rfl, rfl⟩ | ⟨rfl, rfl, rfl, rfl⟩ | ⟨rfl, rfl, rfl, rfl⟩
    · refine rTu (S := MS w [(P5, (rcC (DevM.rc d)), 28), (P1, (dvC h d), 37)] [(fun W => DH W h d)] []) [(0, false), (1, false), (2, false), (3, false), (4, false), (5, false), (6, false), (7, false), (8, false), (9, false), (10, false), (11, false), (12, false), (13, false), (14, false), (15, false), (16, false), (17, false), (18, false), (19, false), (20, false), (21, false), (22, false), (23, false), (24, false), (25, false), (26, false), (27, false), (28, false), (29, false), (30, false), (31, false)] false 9999 (by kernel_rfl) (by kernel_rfl) HS.out.drew ?_
      simp only [turned, gA, gB, gC]; replace HS := LH HS.out.drew
      have uP5_2 : ∀ W, MS w [(P5, (rcC (DevM.rc d)), 28), (P1, (dvC h d), 37)] [(fun W => DH W h d)] [] W → W.cell? ⟨P5, 2, none⟩ = some (.bool true) := fun W hW => by
       have := cAt (k := 2) (v := .bool (DevM.rc d).trying) (hW.get 0 rfl) rfl
       rwa [ht] at this
      have uP5_1 : ∀ W, MS w [(P5, (rcC (DevM.rc d)), 28), (P1, (dvC h d), 37)] [(fun W => DH W h d)] [] W → W.cell? ⟨P5, 1, none⟩ = some (.int .i64 (A : Int)) := fun W hW => by
       have := cAt (k := 1) (v := .int .i64 (DevM.rc d).act) (hW.get 0 rfl) rfl
       rwa [HAe.out] at this
      have uP5_4 : ∀ W, MS w [(P5, (rcC (DevM.rc d)), 28), (P1, (dvC h d), 37)] [(fun W => DH W h d)] [] W → W.cell? ⟨P5, 4, none⟩ = some (.int .i64 (DevM.rc d).floor) := fun W hW => cAt (hW.get 0 rfl) rfl; have uP1_31 : ∀ W, MS w [(P5, (rcC (DevM.rc d)), 28), (P1, (dvC h d), 37)] [(fun W => DH W h d)] [] W → W.cell? ⟨P1, 31, none⟩ = some (.int .i64 d.job.to_) := fun W hW => cAt (hW.get 1 rfl) rfl; have uP1_30 : ∀ W, MS w [(P5, (rcC (DevM.rc d)), 28), (P1, (dvC h d), 37)] [(fun W => DH W h d)] [] W → W.cell? ⟨P1, 30, none⟩ = some (.int .i64 d.job.from_) := fun W hW => cAt (hW.get 1 rfl) rfl
      have uP5_A : ∀ W, MS w [(P5, (rcC (DevM.rc d)), 28), (P1, (dvC h d), 37)] [(fun W => DH W h d)] [] W → W.cell? ⟨P5, 5 + A * 3, none⟩ = some (.int .i64 va) := fun W hW => by
       have := cAt (k := 5 + A * 3) (hW.get 0 rfl) (zbq (DevM.rc d) A hA2)
       rwa [HVa.out] at this
      have uP5_O : ∀ W, MS w [(P5, (rcC (DevM.rc d)), 28), (P1, (dvC h d), 37)] [(fun W => DH W h d)] [] W → W.cell? ⟨P5, 5 + O * 3, none⟩ = some (.int .i64 vo) := fun W hW => by
       have := cAt (k := 5 + O * 3) (hW.get 0 rfl) (zbq (DevM.rc d) O hO2)
       rwa [HVo.out] at this
      repeat (first
       | (refine tSt ?_ (by rfl) (fun W9 hW9 => ?_) ?_
          rotate_left
          · (go_simp <;> with_reducible rfl)
          simp only [Act.put, sA, sB, sC])
       | (refine tSk (by rfl) ?_; simp only [Act.put, sA, sB, sC]))
      clear uP5_2 uP5_1 uP5_4 uP1_31 uP1_30 uP5_A uP5_O; refine tEn ?_; go_wp2_with fail; go_meet; exact ⟨by rw [HV.out]; first | rfl | (cases b1 <;> cases b2 <;> cases b3 <;> rfl) | (cases b2 <;> cases b3 <;> rfl) | (cases b3 <;> rfl), HS.out⟩
    · refine rTu (S := MS w [(P5, (rcC (DevM.rc d)), 28), (P1, (dvC h d), 37)] [(fun W => DH W h d)] []) [(0, false), (1, false), (2, false), (3, false), (4, false), (5, false), (6, false), (7, false), (8, false), (9, false), (10, false), (11, false), (12, false), (13, false), (14, false), (15, false), (16, false), (17, false), (18, false), (19, false), (20, false), (21, false), (22, false), (23, false), (24, false), (25, false), (26, false), (27, false), (28, false), (29, false), (30, false), (31, false)] false 9999 (by kernel_rfl) (by kernel_rfl) HS.out.drew ?_
      simp only [turned, gA, gB, gC]; replace HS := LH HS.out.drew
      have uP5_2 : ∀ W, MS w [(P5, (rcC (DevM.rc d)), 28), (P1, (dvC h d), 37)] [(fun W => DH W h d)] [] W → W.cell? ⟨P5, 2, none⟩ = some (.bool false) := fun W hW => by
       have := cAt (k := 2) (v := .bool (DevM.rc d).trying) (hW.get 0 rfl) rfl
       rwa [ht] at this
      have uP5_1 : ∀ W, MS w [(P5, (rcC (DevM.rc d)), 28), (P1, (dvC h d), 37)] [(fun W => DH W h d)] [] W → W.cell? ⟨P5, 1, none⟩ = some (.int .i64 (A : Int)) := fun W hW => by
       have := cAt (k := 1) (v := .int .i64 (DevM.rc d).act) (hW.get 0 rfl) rfl
       rwa [HAe.out] at this
      have uP5_4 : ∀ W, MS w [(P5, (rcC (DevM.rc d)), 28), (P1, (dvC h d), 37)] [(fun W => DH W h d)] [] W → W.cell? ⟨P5, 4, none⟩ = some (.int .i64 (DevM.rc d).floor) := fun W hW => cAt (hW.get 0 rfl) rfl; have uP1_31 : ∀ W, MS w [(P5, (rcC (DevM.rc d)), 28), (P1, (dvC h d), 37)] [(fun W => DH W h d)] [] W → W.cell? ⟨P1, 31, none⟩ = some (.int .i64 d.job.to_) := fun W hW => cAt (hW.get 1 rfl) rfl; have uP1_30 : ∀ W, MS w [(P5, (rcC (DevM.rc d)), 28), (P1, (dvC h d), 37)] [(fun W => DH W h d)] [] W → W.cell? ⟨P1, 30, none⟩ = some (.int .i64 d.job.from_) := fun W hW => cAt (hW.get 1 rfl) rfl
      have uP5_A : ∀ W, MS w [(P5, (rcC (DevM.rc d)), 28), (P1, (dvC h d), 37)] [(fun W => DH W h d)] [] W → W.cell? ⟨P5, 5 + A * 3, none⟩ = some (.int .i64 va) := fun W hW => by
       have := cAt (k := 5 + A * 3) (hW.get 0 rfl) (zbq (DevM.rc d) A hA2)
       rwa [HVa.out] at this
      have uP5_O : ∀ W, MS w [(P5, (rcC (DevM.rc d)), 28), (P1, (dvC h d), 37)] [(fun W => DH W h d)] [] W → W.cell? ⟨P5, 5 + O * 3, none⟩ = some (.int .i64 vo) := fun W hW => by
       have := cAt (k := 5 + O * 3) (hW.get 0 rfl) (zbq (DevM.rc d) O hO2)
       rwa [HVo.out] at this
      repeat (first
       | (refine tSt ?_ (by rfl) (fun W9 hW9 => ?_) ?_
          rotate_left
          · (go_simp <;> with_reducible rfl)
          simp only [Act.put, sA, sB, sC])
       | (refine tSk (by rfl) ?_; simp only [Act.put, sA, sB, sC]))
      clear uP5_2 uP5_1 uP5_4 uP1_31 uP1_30 uP5_A uP5_O; refine tEn ?_; go_wp2_with fail; go_meet; exact ⟨by rw [HV.out]; first | rfl | (cases b1 <;> cases b2 <;> cases b3 <;> rfl) | (cases b2 <;> cases b3 <;> rfl) | (cases b3 <;> rfl), HS.out⟩
    · refine rTu (S := MS w [(P5, (rcC (DevM.rc d)), 28), (P1, (dvC h d), 37)] [(fun W => DH W h d)] []) [(0, false), (1, false), (2, false), (3, false), (4, false), (5, false), (6, false), (7, false), (8, false), (9, false), (10, false), (11, false), (12, false), (13, false), (14, false), (15, false), (16, false), (17, false), (18, false), (19, false), (20, false), (21, false), (22, false), (23, false), (24, false), (25, false), (26, false), (27, false), (28, false), (29, false), (30, false), (31, false)] false 9999 (by kernel_rfl) (by kernel_rfl) HS.out.drew ?_
      simp only [turned, gA, gB, gC]; replace HS := LH HS.out.drew
      have uP5_2 : ∀ W, MS w [(P5, (rcC (DevM.rc d)), 28), (P1, (dvC h d), 37)] [(fun W => DH W h d)] [] W → W.cell? ⟨P5, 2, none⟩ = some (.bool false) := fun W hW => by
       have := cAt (k := 2) (v := .bool (DevM.rc d).trying) (hW.get 0 rfl) rfl
       rwa [ht] at this
      have uP5_1 : ∀ W, MS w [(P5, (rcC (DevM.rc d)), 28), (P1, (dvC h d), 37)] [(fun W => DH W h d)] [] W → W.cell? ⟨P5, 1, none⟩ = some (.int .i64 (A : Int)) := fun W hW => by
       have := cAt (k := 1) (v := .int .i64 (DevM.rc d).act) (hW.get 0 rfl) rfl
       rwa [HAe.out] at this
      have uP5_4 : ∀ W, MS w [(P5, (rcC (DevM.rc d)), 28), (P1, (dvC h d), 37)] [(fun W => DH W h d)] [] W → W.cell? ⟨P5, 4, none⟩ = some (.int .i64 (DevM.rc d).floor) := fun W hW => cAt (hW.get 0 rfl) rfl; have uP1_31 : ∀ W, MS w [(P5, (rcC (DevM.rc d)), 28), (P1, (dvC h d), 37)] [(fun W => DH W h d)] [] W → W.cell? ⟨P1, 31, none⟩ = some (.int .i64 d.job.to_) := fun W hW => cAt (hW.get 1 rfl) rfl; have uP1_30 : ∀ W, MS w [(P5, (rcC (DevM.rc d)), 28), (P1, (dvC h d), 37)] [(fun W => DH W h d)] [] W → W.cell? ⟨P1, 30, none⟩ = some (.int .i64 d.job.from_) := fun W hW => cAt (hW.get 1 rfl) rfl
      have uP5_A : ∀ W, MS w [(P5, (rcC (DevM.rc d)), 28), (P1, (dvC h d), 37)] [(fun W => DH W h d)] [] W → W.cell? ⟨P5, 5 + A * 3, none⟩ = some (.int .i64 va) := fun W hW => by
       have := cAt (k := 5 + A * 3) (hW.get 0 rfl) (zbq (DevM.rc d) A hA2)
       rwa [HVa.out] at this
      have uP5_O : ∀ W, MS w [(P5, (rcC (DevM.rc d)), 28), (P1, (dvC h d), 37)] [(fun W => DH W h d)] [] W → W.cell? ⟨P5, 5 + O * 3, none⟩ = some (.int .i64 vo) := fun W hW => by
       have := cAt (k := 5 + O * 3) (hW.get 0 rfl) (zbq (DevM.rc d) O hO2)
       rwa [HVo.out] at this
      repeat (first
       | (refine tSt ?_ (by rfl) (fun W9 hW9 => ?_) ?_
          rotate_left
          · (go_simp <;> with_reducible rfl)
          simp only [Act.put, sA, sB, sC])
       | (refine tSk (by rfl) ?_; simp only [Act.put, sA, sB, sC]))
      clear uP5_2 uP5_1 uP5_4 uP1_31 uP1_30 uP5_A uP5_O; refine tEn ?_; go_wp2_with fail; go_meet; exact ⟨by rw [HV.out]; first | rfl | (cases b1 <;> cases b2 <;> cases b3 <;> rfl) | (cases b2 <;> cases b3 <;> rfl) | (cases b3 <;> rfl), HS.out⟩
    · refine rTu (S := MS w [(P5, (rcC (DevM.rc d)), 28), (P1, (dvC h d), 37)] [(fun W => DH W h d)] []) [(0, false), (1, false), (2, false), (3, false), (4, false), (5, false), (6, false), (7, false), (8, false), (9, false), (10, false), (11, false), (12, false), (13, false), (14, false), (15, false), (16, false), (17, false), (18, false), (19, false), (20, false), (21, false), (22, false), (23, false), (24, false), (25, false), (26, false), (27, false), (28, false), (29, false), (30, false), (31, false)] false 9999 (by kernel_rfl) (by kernel_rfl) HS.out.drew ?_
      simp only [turned, gA, gB, gC]; replace HS := LH HS.out.drew
      have uP5_2 : ∀ W, MS w [(P5, (rcC (DevM.rc d)), 28), (P1, (dvC h d), 37)] [(fun W => DH W h d)] [] W → W.cell? ⟨P5, 2, none⟩ = some (.bool false) := fun W hW => by
       have := cAt (k := 2) (v := .bool (DevM.rc d).trying) (hW.get 0 rfl) rfl
       rwa [ht] at this
      have uP5_1 : ∀ W, MS w [(P5, (rcC (DevM.rc d)), 28), (P1, (dvC h d), 37)] [(fun W => DH W h d)] [] W → W.cell? ⟨P5, 1, none⟩ = some (.int .i64 (A : Int)) := fun W hW => by
       have := cAt (k := 1) (v := .int .i64 (DevM.rc d).act) (hW.get 0 rfl) rfl
       rwa [HAe.out] at this
      have uP5_4 : ∀ W, MS w [(P5, (rcC (DevM.rc d)), 28), (P1, (dvC h d), 37)] [(fun W => DH W h d)] [] W → W.cell? ⟨P5, 4, none⟩ = some (.int .i64 (DevM.rc d).floor) := fun W hW => cAt (hW.get 0 rfl) rfl; have uP1_31 : ∀ W, MS w [(P5, (rcC (DevM.rc d)), 28), (P1, (dvC h d), 37)] [(fun W => DH W h d)] [] W → W.cell? ⟨P1, 31, none⟩ = some (.int .i64 d.job.to_) := fun W hW => cAt (hW.get 1 rfl) rfl; have uP1_30 : ∀ W, MS w [(P5, (rcC (DevM.rc d)), 28), (P1, (dvC h d), 37)] [(fun W => DH W h d)] [] W → W.cell? ⟨P1, 30, none⟩ = some (.int .i64 d.job.from_) := fun W hW => cAt (hW.get 1 rfl) rfl
      have uP5_A : ∀ W, MS w [(P5, (rcC (DevM.rc d)), 28), (P1, (dvC h d), 37)] [(fun W => DH W h d)] [] W → W.cell? ⟨P5, 5 + A * 3, none⟩ = some (.int .i64 va) := fun W hW => by
       have := cAt (k := 5 + A * 3) (hW.get 0 rfl) (zbq (DevM.rc d) A hA2)
       rwa [HVa.out] at this
      have uP5_O : ∀ W, MS w [(P5, (rcC (DevM.rc d)), 28), (P1, (dvC h d), 37)] [(fun W => DH W h d)] [] W → W.cell? ⟨P5, 5 + O * 3, none⟩ = some (.int .i64 vo) := fun W hW => by
       have := cAt (k := 5 + O * 3) (hW.get 0 rfl) (zbq (DevM.rc d) O hO2)
       rwa [HVo.out] at this
      repeat (first
       | (refine tSt ?_ (by rfl) (fun W9 hW9 => ?_) ?_
          rotate_left
          · (go_simp <;> with_reducible rfl)
          simp only [Act.put, sA, sB, sC])
       | (refine tSk (by rfl) ?_; simp only [Act.put, sA, sB, sC]))
      clear uP5_2 uP5_1 uP5_4 uP1_31 uP1_30 uP5_A uP5_O; refine tEn ?_; go_wp2_with fail; go_meet; exact ⟨by rw [HV.out]; first | rfl | (cases b1 <;> cases b2 <;> cases b3 <;> rfl) | (cases b2 <;> cases b3 <;> rfl) | (cases b3 <;> rfl), HS.out⟩
    · refine rTu (S := MS w [(P5, (rcC (DevM.rc d)), 28), (P1, (dvC h d), 37)] [(fun W => DH W h d)] []) [(0, false), (1, false), (2, false), (3, false), (4, false), (5, false), (6, false), (7, false), (8, false), (9, false), (10, false), (11, false), (12, false), (13, false), (14, false), (15, false), (16, false), (17, false), (18, false), (19, false), (20, false), (21, false), (22, false), (23, false), (24, false), (25, false), (26, false), (27, false), (28, false), (29, false), (30, false), (31, false)] false 9999 (by kernel_rfl) (by kernel_rfl) HS.out.drew ?_
      simp only [turned, gA, gB, gC]; replace HS := LH HS.out.drew
      have uP5_2 : ∀ W, MS w [(P5, (rcC (DevM.rc d)), 28), (P1, (dvC h d), 37)] [(fun W => DH W h d)] [] W → W.cell? ⟨P5, 2, none⟩ = some (.bool false) := fun W hW => by
       have := cAt (k := 2) (v := .bool (DevM.rc d).trying) (hW.get 0 rfl) rfl
       rwa [ht] at this
      have uP5_1 : ∀ W, MS w [(P5, (rcC (DevM.rc d)), 28), (P1, (dvC h d), 37)] [(fun W => DH W h d)] [] W → W.cell? ⟨P5, 1, none⟩ = some (.int .i64 (A : Int)) := fun W hW => by
       have := cAt (k := 1) (v := .int .i64 (DevM.rc d).act) (hW.get 0 rfl) rfl
       rwa [HAe.out] at this
      have uP5_4 : ∀ W, MS w [(P5, (rcC (DevM.rc d)), 28), (P1, (dvC h d), 37)] [(fun W => DH W h d)] [] W → W.cell? ⟨P5, 4, none⟩ = some (.int .i64 (DevM.rc d).floor) := fun W hW => cAt (hW.get 0 rfl) rfl; have uP1_31 : ∀ W, MS w [(P5, (rcC (DevM.rc d)), 28), (P1, (dvC h d), 37)] [(fun W => DH W h d)] [] W → W.cell? ⟨P1, 31, none⟩ = some (.int .i64 d.job.to_) := fun W hW => cAt (hW.get 1 rfl) rfl; have uP1_30 : ∀ W, MS w [(P5, (rcC (DevM.rc d)), 28), (P1, (dvC h d), 37)] [(fun W => DH W h d)] [] W → W.cell? ⟨P1, 30, none⟩ = some (.int .i64 d.job.from_) := fun W hW => cAt (hW.get 1 rfl) rfl
      have uP5_A : ∀ W, MS w [(P5, (rcC (DevM.rc d)), 28), (P1, (dvC h d), 37)] [(fun W => DH W h d)] [] W → W.cell? ⟨P5, 5 + A * 3, none⟩ = some (.int .i64 va) := fun W hW => by
       have := cAt (k := 5 + A * 3) (hW.get 0 rfl) (zbq (DevM.rc d) A hA2)
       rwa [HVa.out] at this
      have uP5_O : ∀ W, MS w [(P5, (rcC (DevM.rc d)), 28), (P1, (dvC h d), 37)] [(fun W => DH W h d)] [] W → W.cell? ⟨P5, 5 + O * 3, none⟩ = some (.int .i64 vo) := fun W hW => by
       have := cAt (k := 5 + O * 3) (hW.get 0 rfl) (zbq (DevM.rc d) O hO2)
       rwa [HVo.out] at this
      repeat (first
       | (refine tSt ?_ (by rfl) (fun W9 hW9 => ?_) ?_
          rotate_left
          · (go_simp <;> with_reducible rfl)
          simp only [Act.put, sA, sB, sC])
       | (refine tSk (by rfl) ?_; simp only [Act.put, sA, sB, sC]))
      clear uP5_2 uP5_1 uP5_4 uP1_31 uP1_30 uP5_A uP5_O; refine tEn ?_; go_wp2_with fail; go_meet; exact ⟨by rw [HV.out]; first | rfl | (cases b1 <;> cases b2 <;> cases b3 <;> rfl) | (cases b2 <;> cases b3 <;> rfl) | (cases b3 <;> rfl), HS.out⟩
   case' rest =>
    obtain ⟨rfl, hs⟩ := hcut; replace HS := LH hs; clear hs
   obtain ⟨B, hB⟩ : ∃ b, decide ((DevM.rc d).trying = true ∨ d.job.to_ < (DevM.rc d).floor ∨ d.job.from_ ≠ va ∨ vo ≠ 0) = b := ⟨_, rfl⟩; rw [hB]; rw [← HVA.out, ← HVO.out] at hB
   cases B with
   | true =>
     have hx := HB.out.trans (if_pos (of_decide_eq_true hB)); subst hx; go_wp2_with fail; go_ret; exact ⟨rfl, HS.out.below⟩
   | false =>
     replace HB := LH (HB.out.trans (if_neg (of_decide_eq_false hB))); clear hB; obtain ⟨X, hX⟩ : ∃ X, zaz d.job (DevM.image d (DevM.act d)) = X := ⟨_, rfl⟩; have hW : DevM.new d = X.1 := congrArg Prod.fst hX; rw [hX, hW] at HB; have hsz0 : X.2 = 0 → 0 ≤ d.job.size ∧ d.job.size ≤ 64 := fun q => DevM.size_le (DevM.done_ok (by rw [hX]; exact q)).1
     have HLx0 : X.2 = 0 → X.1.length ≤ 64 := fun q => by
      have h1 := DevM.done_ok (by rw [hX]; exact q); have h2 := DevM.size_le h1.1; have h3 := h1.2.2.2.1; rw [hX] at h3; omega
     have HIm : Hid (∃ m : Nat, (∀ W, Calls Tryz.prog 64 #[.agg (dvC h d)] W fun e w' => e = .returned (.slice (slA h (DevM.rc d).act) m (slC h (DevM.rc d).act)) ∧ Below W.heap.size W w') ∧ ∀ W, DH W h d → Calls Tryz.prog 63 #[.agg (jbC h.oa h.on h.oc d.job), .slice (slA h (DevM.rc d).act) m (slC h (DevM.rc d).act)] W (zb1 X W)) := by
      obtain ⟨m, h1, h2⟩ := imgDone_any h d X HC0.out HN0.out HN1.out hX w HD0.out; exact ⟨m, h1, h2⟩
     obtain ⟨m, hIm, hDo⟩ := HIm.out; replace HIm := LH hIm; have HDo := LH hDo; clear hIm hDo hX hW; go_upto_region 23 with fail; refine rTu (S := MS w [(P5, (rcC (DevM.rc d)), 28), (P1, (dvC h d), 37)] [(fun W => DH W h d)] []) [(0, false), (1, false), (2, false), (3, true), (4, true), (5, false), (6, false), (7, false), (8, false), (9, false)] false 9999 (by kernel_rfl) (by kernel_rfl) HS.out.drew ?_; simp only [turned, gA, gB, gC]; replace HS := LH HS.out.drew
     repeat (first
      | ((refine turn_part (by rfl) 35 (.tmp 123) rfl P1 30 rfl 37 (dvC h d) (fun W hW => hW.get 1 rfl) (jbC h.oa h.on h.oc d.job) (zay h d) _ U35 rfl (sJb _ _ _ _) ?_); simp only [Act.put, sA, sB, sC])
      | ((refine zaw (by rfl) 37 (.tmp 1) rfl P1 rfl 37 (dvC h d) _ (fun W hW => hW.get 1 rfl) U37 rfl (sDv h d) ?_); simp only [Act.put, sA, sB, sC])
      | (refine tSt ?_ (by rfl) (fun W9 hW9 => ?_) ?_
         rotate_left
         · (go_simp <;> with_reducible rfl)
         simp only [Act.put, sA, sB, sC])
      | (refine tSk (by rfl) ?_; simp only [Act.put, sA, sB, sC]))
     refine tCa (fun K hK => ?_); go_simp; go_at_call 64; with_reducible refine (HIm.out _).mono ?_
     rintro e W4 ⟨rfl, hb⟩; replace HS := LH (HS.out.later hb); clear hb
     try go_wp2_with fail
     refine hK.out _ _ HS.out ?_; clear hK K
     try simp only [Act.put, sA, sB, sC]
     refine tCa (fun K hK => ?_); go_simp; go_at_call 63; with_reducible refine (HDo.out _ (HS.out.read 0 rfl)).mono ?_
     rintro e W5 ⟨ab, nb, cb, rfl, hbs, hb⟩; replace HS := LH (HS.out.later hb); have HBS := LH hbs; clear hbs; clear hb
     try go_wp2_with fail
     refine hK.out _ _ HS.out ?_; clear hK K
     try simp only [Act.put, sA, sB, sC]
     repeat (first
      | (refine tSt ?_ (by rfl) (fun W9 hW9 => ?_) ?_
         rotate_left
         · (go_simp <;> with_reducible rfl)
         simp only [Act.put, sA, sB, sC])
      | (refine tSk (by rfl) ?_; simp only [Act.put, sA, sB, sC]))
     refine tEn ?_; obtain ⟨xb, xe⟩ := X; simp only at HB HBS ⊢; by_cases hE : xe = 0
     case neg =>
      have t0 : (xe != 0) = true := by simp [hE]
      have hx := HB.out.trans (if_pos hE); subst hx; go_wp2_with fail; go_ret; exact ⟨rfl, HS.out.below⟩
     subst hE; replace HB := LH (HB.out.trans (if_neg (fun q => q rfl))); have hsz : 0 ≤ d.job.size ∧ d.job.size ≤ 64 := hsz0 rfl; have HLx : Hid (xb.length ≤ 64) := HLx0 rfl; clear HLx0 hsz0 HIm HDo; have hw7 : IntKind.i64.wrap (d.job.size + 7) = d.job.size + 7 := IntWalk.i64_in _ (by omega); have HSz := LH hsz; go_upto_region 26 with fail; obtain ⟨L, hL0, hmn, hmi, hmj⟩ : ∃ L : Int, (L ≤ 64 ∧ L ≤ d.job.size + 7 ∧ (L = 64 ∨ L = d.job.size + 7)) ∧ min 64 (d.job.size + 7) = L ∧ (if d.job.size + 7 ≤ 64 then d.job.size + 7 else 64) = L ∧ (if 64 ≤ d.job.size + 7 then 64 else d.job.size + 7) = L := ⟨min 64 (d.job.size + 7), ⟨by omega, by omega, by omega⟩, rfl, by split <;> omega, by split <;> omega⟩; have HL0 := LH hL0; clear hL0 hsz; by_cases r1 : 0 ≤ d.done ∧ d.done ≤ L
     case neg =>
      have HIn : Hid (∀ W, Calls Tryz.prog 61 #[.int .i64 d.done, .int .i64 0, .int .i64 L] W fun e w' => e = .returned (.bool false) ∧ W = w') := fun W => by
       have := zaH d.done 0 L W
       rwa [decide_eq_false r1] at this
      have hx := HB.out.trans (if_pos (.inl (fun q => r1 ⟨q.1, by have := HL0.out; omega⟩))); subst hx; clear r1; refine zaj ?_; have cP1_36 := HS.out.cel 1 36 (v := .int .i64 d.done) rfl rfl; have cP1_34 := HS.out.cel 1 34 (v := .int .i64 d.job.size) rfl rfl
      repeat (first
       | (refine zag (by first | exact zaf rfl rfl rfl | exact zad rfl rfl) ?_; simp only [Act.put, sA, sB, sC])
       | (refine zae ?_ ?_ ?_ ?_
          rotate_left
          · first | exact zaa rfl | exact zab rfl rfl
          · (go_simp <;> with_reducible rfl)
          simp only [Act.put, sA, sB, sC]))
      clear cP1_36 cP1_34; refine zar (fun K hK => ?_); go_simp; go_at_call 61; with_reducible refine (HIn.out _).mono ?_
      rintro e W6 ⟨rfl, rfl⟩
      try go_wp2_with fail
      refine hK.out _ _ ?_; clear hK K
      try simp only [Act.put, sA, sB, sC]
      clear hmn hmi hmj hw7 HIn
      repeat (first
       | (refine zag (by first | exact zaf rfl rfl rfl | exact zad rfl rfl) ?_; simp only [Act.put, sA, sB, sC])
       | (refine zae ?_ ?_ ?_ ?_
          rotate_left
          · first | exact zaa rfl | exact zab rfl rfl
          · (go_simp <;> with_reducible rfl)
          simp only [Act.put, sA, sB, sC]))
      refine zal ?_; go_wp2_with fail; go_ret; exact ⟨rfl, HS.out.below⟩
     have HIn : Hid (∀ W, Calls Tryz.prog 61 #[.int .i64 d.done, .int .i64 0, .int .i64 L] W fun e w' => e = .returned (.bool true) ∧ W = w') := fun W => by
      have := zaH d.done 0 L W
      rwa [decide_eq_true r1] at this
     obtain ⟨M, hM⟩ : ∃ M : Nat, d.done = M := ⟨d.done.toNat, by omega⟩; have hmod : (M : Int).tmod 8 = ((M % 8 : Nat) : Int) := by rw [Int.tmod_eq_emod_of_nonneg (by omega)]; rfl
     have HM := LH hM; have HR1 := LH r1; clear hM r1; refine zaj ?_; have cP1_36 := HS.out.cel 1 36 (v := .int .i64 d.done) rfl rfl; have cP1_34 := HS.out.cel 1 34 (v := .int .i64 d.job.size) rfl rfl
     repeat (first
      | (refine zag (by first | exact zaf rfl rfl rfl | exact zad rfl rfl) ?_; simp only [Act.put, sA, sB, sC])
      | (refine zae ?_ ?_ ?_ ?_
         rotate_left
         · first | exact zaa rfl | exact zab rfl rfl
         · (go_simp <;> with_reducible rfl)
         simp only [Act.put, sA, sB, sC]))
     clear cP1_36 cP1_34; refine zar (fun K hK => ?_); go_simp; go_at_call 61; with_reducible refine (HIn.out _).mono ?_
     rintro e W6 ⟨rfl, rfl⟩
     try go_wp2_with fail
     refine hK.out _ _ ?_; clear hK K
     try simp only [Act.put, sA, sB, sC]
     clear hmn hmi hmj hw7 HIn; by_cases r3 : M % 8 = 0
     case neg =>
      have hx := HB.out.trans (if_pos (.inr (by have := HM.out; omega))); subst hx; have n3 : (((M % 8 : Nat) : Int) != 0) = true := by simp; omega
      have n3' : ((M : Int) % 8 != 0) = true := by simp; omega
      clear r3; have cP1_36 := HS.out.cel 1 36 (v := .int .i64 d.done) rfl rfl; rw [HM.out] at cP1_36
      repeat (first
       | (refine zag (by first | exact zaf rfl rfl rfl | exact zad rfl rfl) ?_; simp only [Act.put, sA, sB, sC])
       | (refine zae ?_ ?_ ?_ ?_
          rotate_left
          · first | exact zaa rfl | exact zab rfl rfl
          · (go_simp <;> with_reducible rfl)
          simp only [Act.put, sA, sB, sC]))
      clear cP1_36; refine zal ?_; go_wp2_with fail; go_ret; exact ⟨rfl, HS.out.below⟩
     have hM64 : M ≤ 64 := by have := HL0.out; have := HM.out; have := HR1.out; omega
     replace HB := LH (HB.out.trans (if_neg (by have := HL0.out; have := HSz.out; have := HM.out; have := HR1.out; omega))); have hTN : d.done.toNat = M := by have := HM.out; omega
     rw [hTN] at HB; clear hTN; have n3 : (((M % 8 : Nat) : Int) != 0) = false := by simp; omega
     have n3' : ((M : Int) % 8 != 0) = false := by simp; omega
     clear r3; have cP1_36 := HS.out.cel 1 36 (v := .int .i64 d.done) rfl rfl; rw [HM.out] at cP1_36
     repeat (first
      | (refine zag (by first | exact zaf rfl rfl rfl | exact zad rfl rfl) ?_; simp only [Act.put, sA, sB, sC])
      | (refine zae ?_ ?_ ?_ ?_
         rotate_left
         · first | exact zaa rfl | exact zab rfl rfl
         · (go_simp <;> with_reducible rfl)
         simp only [Act.put, sA, sB, sC]))
     clear cP1_36; refine zal ?_; go_upto_region 28 with fail; clear n3 n3' hmod; have hM := HM.out; rw [HSO.out] at HB; have hOw : IntKind.i64.wrap (O : Int) = (O : Int) := IntWalk.i64_in _ (by omega); have hO0 : (0 : Int) ≤ (O : Int) := by omega
     have hOI : (O : Int) < 2 := by omega
     have hsN : slN h (O : Int) = 64 := by
      unfold slN; split
      · exact HN0.out
      · exact HN1.out
     have HSB : Hid (∀ W, DH W h d → BS W (slA h (O : Int)) (slN h (O : Int)) (slC h (O : Int)) (DevM.slot d (O : Int))) := fun W x => x.slB (by omega); have hsC := (HSB.out w HD0.out).le; rw [hsN] at HSB hsC; have hcl := fun W => rCh (slA h (O : Int)) 64 (slC h (O : Int)) W M (Nat.le_trans hM64 hsC); have hcr := fun F W => rCh (some ⟨F, 0, none⟩) 64 64 W M hM64; have hM0 : (0 : Int) ≤ (M : Int) := by omega
     have HFl := LH (fun W (hb : BS W ab nb cb xb) => zbE ab nb cb xb W hb (by rw [← hb.len]; exact HLx.out)); obtain ⟨q, hq⟩ : ∃ q, decide ((DevM.slot d (O : Int)).take M = (DevM.fill xb).take M) = q := ⟨_, rfl⟩
     have HEq : Hid (∀ W F, DH W h d → BS W (some ⟨F, 0, none⟩) 64 64 (DevM.fill xb) → Calls Tryz.prog 31 #[.slice (slA h (O : Int)) M (slC h (O : Int)), .slice (some ⟨F, 0, none⟩) M 64] W fun e w' => e = .returned (.bool q) ∧ Below W.heap.size W w') := fun W F hd hb => by
      refine (eqB _ _ _ _ _ _ _ _ W ((HSB.out W hd).head M hM64) (hb.head M hM64)).mono ?_; rintro e w' ⟨rfl, rfl⟩; exact ⟨by rw [← hq], Below.refl _ _⟩
     have HQ := LH hq; clear hq hM64; refine rTu (S := MS w [(P5, (rcC (DevM.rc d)), 28), (P1, (dvC h d), 37)] [(fun W => DH W h d)] []) [(0, false), (1, false), (2, false), (3, false), (4, false), (5, false), (6, false), (7, false), (8, false), (9, false), (11, false), (12, false), (10, true), (13, false), (14, true), (15, false)] false 9999 (by kernel_rfl) (by kernel_rfl) HS.out.drew ?_; simp only [turned, gA, gB, gC]; replace HS := LH HS.out.drew
     have uP5_1 : ∀ W, MS w [(P5, (rcC (DevM.rc d)), 28), (P1, (dvC h d), 37)] [(fun W => DH W h d)] [] W → W.cell? ⟨P5, 1, none⟩ = some (.int .i64 (A : Int)) := fun W hW => by
      have := cAt (k := 1) (v := .int .i64 (DevM.rc d).act) (hW.get 0 rfl) rfl
      rwa [HAe.out] at this
     have uP1_O : ∀ W, MS w [(P5, (rcC (DevM.rc d)), 28), (P1, (dvC h d), 37)] [(fun W => DH W h d)] [] W → W.cell? ⟨P1, O, none⟩ = some (.slice (slA h (O : Int)) 64 (slC h (O : Int))) := fun W hW => by
      have := cAt (k := O) (hW.get 1 rfl) (dev_slot h d O hO2)
      rwa [hsN] at this
     have uP1_36 : ∀ W, MS w [(P5, (rcC (DevM.rc d)), 28), (P1, (dvC h d), 37)] [(fun W => DH W h d)] [] W → W.cell? ⟨P1, 36, none⟩ = some (.int .i64 (M : Int)) := fun W hW => by
      have := cAt (k := 36) (v := .int .i64 d.done) (hW.get 1 rfl) rfl
      rwa [hM] at this
     repeat (first
      | (refine tSt ?_ (by rfl) (fun W9 hW9 => ?_) ?_
         rotate_left
         · (go_simp <;> with_reducible rfl)
         simp only [Act.put, sA, sB, sC])
      | (refine tSk (by rfl) ?_; simp only [Act.put, sA, sB, sC]))
     refine tCa (fun K hK => ?_); go_simp; go_at_call 65; with_reducible refine (HFl.out _ (HBS.out.later (Below.refl _ _).drew)).mono ?_
     rintro e W7 ⟨F, rfl, -, hbf, -, -, hb⟩; replace HS := LH (HS.out.later hb); have HBF := LH hbf; clear hbf; clear hb
     try go_wp2_with fail
     refine hK.out _ _ HS.out ?_; clear hK K
     try simp only [Act.put, sA, sB, sC]
     repeat (first
      | (refine tSt ?_ (by rfl) (fun W9 hW9 => ?_) ?_
         rotate_left
         · (go_simp <;> with_reducible rfl)
         simp only [Act.put, sA, sB, sC])
      | (refine tSk (by rfl) ?_; simp only [Act.put, sA, sB, sC]))
     refine tCa (fun K hK => ?_); go_simp; go_at_call 31; with_reducible refine (HEq.out _ _ (HS.out.read 0 rfl) HBF.out).mono ?_
     rintro e W8 ⟨rfl, hb⟩; replace HS := LH (HS.out.later hb); clear hb
     try go_wp2_with fail
     refine hK.out _ _ HS.out ?_; clear hK K
     try simp only [Act.put, sA, sB, sC]
     repeat (first
      | (refine tSt ?_ (by rfl) (fun W9 hW9 => ?_) ?_
         rotate_left
         · (go_simp <;> with_reducible rfl)
         simp only [Act.put, sA, sB, sC])
      | (refine tSk (by rfl) ?_; simp only [Act.put, sA, sB, sC]))
     clear uP5_1 uP1_O uP1_36; refine tEn ?_
     cases q
     · have hx := HB.out.trans (if_pos (of_decide_eq_false HQ.out))
       subst hx; go_wp2_with fail; go_ret; exact ⟨rfl, HS.out.below⟩
     · have hx := HB.out.trans (if_neg (fun q => q (of_decide_eq_true HQ.out)))
       subst hx; go_wp2_with fail; go_ret; exact ⟨rfl, HS.out.below⟩
theorem checkDev_any (h : DevH) (d : DevR) (w : World) (HD : DH w h d) : Calls Tryz.prog 12 #[devV h d] w fun e w' => e = .returned (.int .i64 (DevM.check d)) ∧ Below w.heap.size w w' := by
 have e0 := HD.b0.len; have e1 := HD.b1.len; by_cases h0 : h.n0 = 64
 case neg =>
  rw [show DevM.check d = 3 from if_pos (.inl (by omega))]; exact checkDevS0 h d h0 w HD
 by_cases h1 : h.n1 = 64
 case neg =>
  rw [show DevM.check d = 3 from if_pos (.inr (by omega))]; exact checkDevS1 h d h0 h1 w HD
 unfold DevM.check; rw [if_neg (by omega)]; by_cases c0 : RecM.copies d.c = 0
 case neg =>
  rw [if_pos c0]; exact checkDevC h d h0 h1 c0 w HD
 rw [if_neg (fun q => q c0)]; rcases Bool.eq_false_or_eq_true d.up with hu | hu
 case inr =>
  rw [if_pos hu]; exact checkDevD h d h0 h1 c0 hu w HD
 rw [if_neg (by rw [hu]; decide)]; exact checkDevU h d h0 h1 c0 hu w HD
theorem sameCh_any (v v' : Value) (x y : ChR) (w : World) (h : CV w v x) (h' : CV w v' y) :
 Calls Tryz.prog 133 #[v, v'] w fun e w' => e = .returned (.bool (decide (x = y))) ∧ Below w.heap.size w w' := by
 obtain ⟨va, vn, vc, rfl, hd, -⟩ := h; obtain ⟨va', vn', vc', rfl, hd', -⟩ := h'; obtain ⟨A, B, C, E, D⟩ := x; obtain ⟨A', B', C', E', D'⟩ := y; simp only at hd hd' ⊢; have hB1 := (Below.refl w.heap.size w).alloc (Nat.le_refl _) (.cells #[.int .i64 A, .int .i64 B, .int .i64 C, .int .i64 E, .slice va vn vc] 39); have hB2 := hB1.alloc (by simp) (.cells #[.int .i64 A', .int .i64 B', .int .i64 C', .int .i64 E', .slice va' vn' vc'] 39); have HQ := LH (hd.later hB2); have HP := LH (hd'.later hB2); have HB := LH hB2; have HEQ := LH (eqB va va' vn vc vn' vc' D D'); clear hB1 hB2 hd hd'; by_cases h1 : A = A'
 · subst h1
   have t1 : (A == A) = true := by simp
   by_cases h2 : B = B'
   · subst h2
     have t2 : (B == B) = true := by simp
     by_cases h3 : C = C'
     · subst h3
       have t3 : (C == C) = true := by simp
       by_cases h4 : E = E'
       · subst h4
         have t4 : (E == E) = true := by simp
         go_enter Tryz.func133, Tryz.ntmps133; go_wp2_with fail; refine (HEQ.out _ HQ.out HP.out).mono ?_; rintro e w' ⟨rfl, rfl⟩; go_wp2_with fail; go_ret; exact ⟨zaB (by simp), HB.out⟩
       · have t4 : (E == E') = false := by simp [h4]
         go_enter Tryz.func133, Tryz.ntmps133; go_wp2_with fail; go_ret; exact ⟨zaB (by simp [h4]), HB.out⟩
     · have t3 : (C == C') = false := by simp [h3]
       go_enter Tryz.func133, Tryz.ntmps133; go_wp2_with fail; go_ret; exact ⟨zaB (by simp [h3]), HB.out⟩
   · have t2 : (B == B') = false := by simp [h2]
     go_enter Tryz.func133, Tryz.ntmps133; go_wp2_with fail; go_ret; exact ⟨zaB (by simp [h2]), HB.out⟩
 · have t1 : (A == A') = false := by simp [h1]
   go_enter Tryz.func133, Tryz.ntmps133; go_wp2_with fail; go_ret; exact ⟨zaB (by simp [h1]), HB.out⟩
theorem equalChs_any (a a' : Option Addr) (n c n' c' : Nat) (x y : List ChR) (w : World) (hx : CS w a n c x) (hy : CS w a' n' c' y) :
 Calls Tryz.prog 115 #[.slice a n c, .slice a' n' c', .func (.func 133) #[] #[]] w fun e w' => e = .returned (.bool (decide (x = y))) ∧ Below w.heap.size w w' := by
 have hlen : n ≤ 9223372036854775807 := by have := hx.le; have := hx.max; omega
 have hlen' : n' ≤ 9223372036854775807 := by have := hy.le; have := hy.max; omega
 have HX := LH hx; have HY := LH hy; have HLX := LH hx.len; have HLY := LH hy.len; clear hx hy; by_cases hnn : n = n'
 · subst hnn
   have hb : ((n : Int) != n) = false := by simp
   go_enter Tryz.func115, Tryz.ntmps115; go_wp2_with fail; go_loopw [17] (fun i wr => SameRelC x y w i wr) (fun i _ => n - (intOf i).toNat)
   case atStart => exact ⟨0, rfl, Nat.zero_le _, rfl, Below.refl _ _⟩
   case round =>
    obtain ⟨k, rfl, hk, ht, hB⟩ := hrel; rw [HLX.out] at hk; have HT := LH ht; have HB := LH hB; clear ht hB; by_cases hlt : k < n
    · obtain ⟨b, off, rfl, hcs⟩ := (HX.out.later HB.out).cells (by omega)
      obtain ⟨b', off', rfl, hcs'⟩ := (HY.out.later HB.out).cells (by omega); have HN := LH (fun h => ne_of_atC (x := x) (y := y) (k := k) h)
      have HM : Hid (x.getD k default = y.getD k default → x.take (k + 1) = y.take (k + 1)) := by
       show _ → _; exact take_moreC HT.out (by rw [HLX.out]; exact hlt) (by rw [HLY.out]; exact hlt)
      have hqx := hcs k hlt; have hqy := hcs' k hlt; generalize x.getD k default = o at HN HM hqx; generalize y.getD k default = o' at HN HM hqy; obtain ⟨va, vn, vc, q0, q1, q2, q3, q4, q5, qI⟩ := hqx; obtain ⟨A, B, C, E, D⟩ := o; simp only at q0 q1 q2 q3 q4 q5; have hbx : Below wr.heap.size wr (wr.alloc (.cells #[.int .i64 A, .int .i64 B, .int .i64 C, .int .i64 E, .slice va vn vc] 39)) := (Below.refl _ _).alloc (Nat.le_refl _) _; obtain ⟨va', vn', vc', p0, p1, p2, p3, p4, p5, pI⟩ := hqy.keep (fun _ _ hc => cell_later hbx hc); obtain ⟨A', B', C', E', D'⟩ := o'; simp only at p0 p1 p2 p3 p4 p5; have hby := (Below.refl _ (wr.alloc (.cells #[.int .i64 A, .int .i64 B, .int .i64 C, .int .i64 E, .slice va vn vc] 39))).alloc (Nat.le_refl _) (.cells #[.int .i64 A', .int .i64 B', .int .i64 C', .int .i64 E', .slice va' vn' vc'] 39); have HQ := LH ((q5.later hbx).later hby); have HP := LH (p5.later hby); have HB2 := LH (bTh HB.out (bTh hbx hby)); have HQI := LH qI; have HPI := LH pI; clear hcs hcs' hbx hby q5 p5 qI pI hqy; go_wp2_with fail; refine (sameCh_any _ _ ⟨A, B, C, E, D⟩ ⟨A', B', C', E', D'⟩ _ ⟨va, vn, vc, rfl, HQ.out, HQI.out⟩ ⟨va', vn', vc', rfl, HP.out, HPI.out⟩).mono ?_; rintro e W2 ⟨rfl, hb2⟩; have HB3 := LH (bTh HB2.out hb2); clear hb2 HB2 HQ HP; by_cases he : (⟨A, B, C, E, D⟩ : ChR) = ⟨A', B', C', E', D'⟩
      · rw [decide_eq_true he]
        have HE := LH he; clear he; go_wp2_with fail; go_roundw
        case rel => exact ⟨k + 1, by go_num, by rw [HLX.out]; omega, HM.out HE.out, HB3.out⟩
        case measure => simp [intOf]; omega
      · rw [decide_eq_false he]
        have HE := LH he; clear he; go_wp2_with fail; go_ret; exact ⟨zaB (HN.out HE.out).symm, HB3.out⟩
    · have hkn : k = n := by omega
      go_wp2_with fail; go_ret; have e1 : x.take k = x := List.take_of_length_le (by rw [HLX.out]; omega); have e2 : y.take k = y := List.take_of_length_le (by rw [HLY.out]; omega); have e3 := HT.out; rw [e1, e2] at e3; exact ⟨zaB (by rw [e3]; simp), HB.out⟩
 · have he : decide (x = y) = false := by
    rw [decide_eq_false]; rintro rfl; exact hnn (HLX.out.symm.trans HLY.out)
   have hb : ((n : Int) != n') = true := by simp; omega
   rw [he]; go_enter Tryz.func115, Tryz.ntmps115; go_wp2_with fail; go_ret; exact ⟨rfl, Below.refl _ _⟩
theorem sameChs_any (a a' : Option Addr) (n c n' c' : Nat) (x y : List ChR) (w : World) (hx : CS w a n c x) (hy : CS w a' n' c' y) :
 Calls Tryz.prog 72 #[.slice a n c, .slice a' n' c'] w fun e w' => e = .returned (.bool (decide (x = y))) ∧ Below w.heap.size w w' := by
 go_enter Tryz.func72, Tryz.ntmps72; go_wp2_with fail; refine (equalChs_any a a' n c n' c' x y _ hx hy).mono ?_; rintro e w' ⟨rfl, hb⟩; go_wp2_with fail; go_ret; exact ⟨rfl, hb⟩
theorem za9 (h h' : DevH) (d d' : DevR) (w : World) (HD : DH w h d) (HD' : DH w h' d') : Calls Tryz.prog 16 #[devV h d, devV h' d'] w fun e w' => e = .returned (.bool (decide (d = d'))) ∧ Below w.heap.size w w' := by
 have HDh := LH HD; have HDh' := LH HD'; clear HD HD'; obtain ⟨R, hR⟩ : ∃ R, decide (d = d') = R := ⟨_, rfl⟩; rw [hR]; have HR := LH hR; clear hR; unfold devV; obtain ⟨b0, hb0⟩ : ∃ b, decide (d.s0 = d'.s0) = b := ⟨_, rfl⟩
 have H0 : Hid (∀ W, DH W h d → DH W h' d' → Calls Tryz.prog 31 #[.slice h.a0 h.n0 h.c0, .slice h'.a0 h'.n0 h'.c0] W fun e w' => e = .returned (.bool b0) ∧ Below W.heap.size W w') := fun W a b => by
  rw [← hb0]; exact (eqB _ _ _ _ _ _ _ _ W a.b0 b.b0).mono fun _ _ ⟨h1, h2⟩ => ⟨h1, h2 ▸ Below.refl _ _⟩
 have B0 := LH hb0; clear hb0; obtain ⟨b1, hb1⟩ : ∃ b, decide (d.s1 = d'.s1) = b := ⟨_, rfl⟩
 have H1 : Hid (∀ W, DH W h d → DH W h' d' → Calls Tryz.prog 31 #[.slice h.a1 h.n1 h.c1, .slice h'.a1 h'.n1 h'.c1] W fun e w' => e = .returned (.bool b1) ∧ Below W.heap.size W w') := fun W a b => by
  rw [← hb1]; exact (eqB _ _ _ _ _ _ _ _ W a.b1 b.b1).mono fun _ _ ⟨h1, h2⟩ => ⟨h1, h2 ▸ Below.refl _ _⟩
 have B1 := LH hb1; clear hb1; obtain ⟨b5, hb5⟩ : ∃ b, decide (d.got = d'.got) = b := ⟨_, rfl⟩
 have H5 : Hid (∀ W, DH W h d → DH W h' d' → Calls Tryz.prog 72 #[.slice h.ga h.gn h.gc, .slice h'.ga h'.gn h'.gc] W fun e w' => e = .returned (.bool b5) ∧ Below W.heap.size W w') := fun W a b => by
  rw [← hb5]; exact sameChs_any _ _ _ _ _ _ _ _ W a.got b.got
 have B5 := LH hb5; clear hb5; obtain ⟨b8, hb8⟩ : ∃ b, decide (d.job = d'.job) = b := ⟨_, rfl⟩
 have H8 : Hid (∀ W, DH W h d → DH W h' d' → Calls Tryz.prog 59 #[.agg (jbC h.oa h.on h.oc d.job), .agg (jbC h'.oa h'.on h'.oc d'.job)] W fun e w' => e = .returned (.bool b8) ∧ Below W.heap.size W w') := fun W a b => by
  rw [← hb8]; exact samePat_any _ _ _ _ W a.job b.job
 have B8 := LH hb8; clear hb8; have z2 : ∀ W, (binOp .eql 31 (.agg (cpC d.c)) (.agg (cpC d'.c))).run Tryz.prog W = .ok (.bool (decide (d.c = d'.c))) W := fun W => cops_eql d.c d'.c W; obtain ⟨b2, hb2⟩ : ∃ b, decide (d.c = d'.c) = b := ⟨_, rfl⟩; rw [hb2] at z2; have B2 := LH hb2; clear hb2; obtain ⟨b3, hb3⟩ : ∃ b, (d.up == d'.up) = b := ⟨_, rfl⟩; have B3 := LH (show decide (d.up = d'.up) = b3 by rw [← hb3]; rfl); obtain ⟨b4, hb4⟩ : ∃ b, (d.run == d'.run) = b := ⟨_, rfl⟩; have B4 := LH (show decide (d.run = d'.run) = b4 by rw [← hb4]; rfl); obtain ⟨b6, hb6⟩ : ∃ b, (d.busy == d'.busy) = b := ⟨_, rfl⟩; have B6 := LH (show decide (d.busy = d'.busy) = b6 by rw [← hb6]; rfl); obtain ⟨b7, hb7⟩ : ∃ b, (d.done == d'.done) = b := ⟨_, rfl⟩; have B7 := LH (show decide (d.done = d'.done) = b7 by rw [← hb7]; rfl); obtain ⟨P1, hP1⟩ : ∃ P, w.heap.size = P := ⟨_, rfl⟩; have HS := LH (MH.of (((MS.start w).alloc (p := P1) (by simp [hP1]) (dvC h d) 37).alloc (p := P1 + 1) (by simp [hP1]) (dvC h' d') 37)); go_enter Tryz.func16, Tryz.ntmps16; go_upto_region 1 with fail; refine gnH HS.out (fun V0 HS1 => ?_); replace HS := LH HS1; clear HS1 hP1; refine zaj ?_; have cP1_0 := HS.out.cel 1 0 (v := .slice h.a0 h.n0 h.c0) rfl rfl; have cP1p1_0 := HS.out.cel 0 0 (v := .slice h'.a0 h'.n0 h'.c0) rfl rfl
 repeat (first
  | (refine zag (by first | exact zaf rfl rfl rfl | exact zad rfl rfl) ?_; simp only [Act.put, sA, sB, sC])
  | (refine zae ?_ ?_ ?_ ?_
     rotate_left
     · first | exact zaa rfl | exact zab rfl rfl
     · (go_simp <;> with_reducible rfl)
     simp only [Act.put, sA, sB, sC]))
 clear cP1_0 cP1p1_0; refine zar (fun K hK => ?_); go_simp; go_at_call 31; with_reducible refine (H0.out _ (HDh.out.later HS.out.below) (HDh'.out.later HS.out.below)).mono ?_
 rintro e W1 ⟨rfl, hb⟩; replace HS := LH (HS.out.later hb); clear hb H0
 try go_wp2_with fail
 refine hK.out _ _ ?_; clear hK K
 try simp only [Act.put, sA, sB, sC]
 cases b0 with
 | false =>
   have hr : R = false := by
    rw [← HR.out]; exact decide_eq_false (fun q => of_decide_eq_false B0.out (by rw [q]))
   subst hr
   repeat (first
    | (refine zag (by first | exact zaf rfl rfl rfl | exact zad rfl rfl) ?_; simp only [Act.put, sA, sB, sC])
    | (refine zae ?_ ?_ ?_ ?_
       rotate_left
       · first | exact zaa rfl | exact zab rfl rfl
       · (go_simp <;> with_reducible rfl)
       simp only [Act.put, sA, sB, sC]))
   refine zal ?_; go_wp2_with fail; go_ret; exact ⟨rfl, HS.out.below⟩
 | true =>
   have cP1_1 := HS.out.cel 1 1 (v := .slice h.a1 h.n1 h.c1) rfl rfl; have cP1p1_1 := HS.out.cel 0 1 (v := .slice h'.a1 h'.n1 h'.c1) rfl rfl
   repeat (first
    | (refine zag (by first | exact zaf rfl rfl rfl | exact zad rfl rfl) ?_; simp only [Act.put, sA, sB, sC])
    | (refine zae ?_ ?_ ?_ ?_
       rotate_left
       · first | exact zaa rfl | exact zab rfl rfl
       · (go_simp <;> with_reducible rfl)
       simp only [Act.put, sA, sB, sC]))
   clear cP1_1 cP1p1_1; refine zar (fun K hK => ?_); go_simp; go_at_call 31; with_reducible refine (H1.out _ (HDh.out.later HS.out.below) (HDh'.out.later HS.out.below)).mono ?_
   rintro e W2 ⟨rfl, hb⟩; replace HS := LH (HS.out.later hb); clear hb H1
   try go_wp2_with fail
   refine hK.out _ _ ?_; clear hK K
   try simp only [Act.put, sA, sB, sC]
   cases b1 with
   | false =>
     have hr : R = false := by
      rw [← HR.out]; exact decide_eq_false (fun q => of_decide_eq_false B1.out (by rw [q]))
     subst hr
     repeat (first
      | (refine zag (by first | exact zaf rfl rfl rfl | exact zad rfl rfl) ?_; simp only [Act.put, sA, sB, sC])
      | (refine zae ?_ ?_ ?_ ?_
         rotate_left
         · first | exact zaa rfl | exact zab rfl rfl
         · (go_simp <;> with_reducible rfl)
         simp only [Act.put, sA, sB, sC]))
     refine zal ?_; go_wp2_with fail; go_ret; exact ⟨rfl, HS.out.below⟩
   | true =>
     cases b2 with
     | false =>
       have hr : R = false := by
        rw [← HR.out]; exact decide_eq_false (fun q => of_decide_eq_false B2.out (by rw [q]))
       subst hr
       repeat (first
        | ((refine zah ?hw 31 (.tmp 22) rfl P1 2 rfl 37 (dvC h d) (HS.out.get 1 rfl) (cpC d.c) (zai h d) _ U31 rfl (sCp d.c) ?_); (case hw => first | exact zaa rfl | exact zab rfl rfl); simp only [Act.put, sA, sB, sC])
        | ((refine zah ?hw 31 (.tmp 24) rfl (P1 + 1) 2 rfl 37 (dvC h' d') (HS.out.get 0 rfl) (cpC d'.c) (zai h' d') _ U31 rfl (sCp d'.c) ?_); (case hw => first | exact zaa rfl | exact zab rfl rfl); simp only [Act.put, sA, sB, sC])
        | ((refine zah ?hw 35 (.tmp 64) rfl P1 30 rfl 37 (dvC h d) (HS.out.get 1 rfl) (jbC h.oa h.on h.oc d.job) (zay h d) _ U35 rfl (sJb _ _ _ _) ?_); (case hw => first | exact zaa rfl | exact zab rfl rfl); simp only [Act.put, sA, sB, sC])
        | ((refine zah ?hw 35 (.tmp 66) rfl (P1 + 1) 30 rfl 37 (dvC h' d') (HS.out.get 0 rfl) (jbC h'.oa h'.on h'.oc d'.job) (zay h' d') _ U35 rfl (sJb _ _ _ _) ?_); (case hw => first | exact zaa rfl | exact zab rfl rfl); simp only [Act.put, sA, sB, sC])
        | (refine zag (by first | exact zaf rfl rfl rfl | exact zad rfl rfl) ?_; simp only [Act.put, sA, sB, sC])
        | (refine zae ?_ ?_ ?_ ?_
           rotate_left
           · first | exact zaa rfl | exact zab rfl rfl
           · (go_simp <;> with_reducible rfl)
           simp only [Act.put, sA, sB, sC]))
       refine zal ?_; go_wp2_with fail; go_ret; exact ⟨rfl, HS.out.below⟩
     | true =>
       have cP1_26 := HS.out.cel 1 26 (v := .bool d.up) rfl rfl; have cP1p1_26 := HS.out.cel 0 26 (v := .bool d'.up) rfl rfl
       cases b3 with
       | false =>
         have hr : R = false := by
          rw [← HR.out]; exact decide_eq_false (fun q => of_decide_eq_false B3.out (by rw [q]))
         subst hr
         repeat (first
          | ((refine zah ?hw 31 (.tmp 22) rfl P1 2 rfl 37 (dvC h d) (HS.out.get 1 rfl) (cpC d.c) (zai h d) _ U31 rfl (sCp d.c) ?_); (case hw => first | exact zaa rfl | exact zab rfl rfl); simp only [Act.put, sA, sB, sC])
          | ((refine zah ?hw 31 (.tmp 24) rfl (P1 + 1) 2 rfl 37 (dvC h' d') (HS.out.get 0 rfl) (cpC d'.c) (zai h' d') _ U31 rfl (sCp d'.c) ?_); (case hw => first | exact zaa rfl | exact zab rfl rfl); simp only [Act.put, sA, sB, sC])
          | ((refine zah ?hw 35 (.tmp 64) rfl P1 30 rfl 37 (dvC h d) (HS.out.get 1 rfl) (jbC h.oa h.on h.oc d.job) (zay h d) _ U35 rfl (sJb _ _ _ _) ?_); (case hw => first | exact zaa rfl | exact zab rfl rfl); simp only [Act.put, sA, sB, sC])
          | ((refine zah ?hw 35 (.tmp 66) rfl (P1 + 1) 30 rfl 37 (dvC h' d') (HS.out.get 0 rfl) (jbC h'.oa h'.on h'.oc d'.job) (zay h' d') _ U35 rfl (sJb _ _ _ _) ?_); (case hw => first | exact zaa rfl | exact zab rfl rfl); simp only [Act.put, sA, sB, sC])
          | (refine zag (by first | exact zaf rfl rfl rfl | exact zad rfl rfl) ?_; simp only [Act.put, sA, sB, sC])
          | (refine zae ?_ ?_ ?_ ?_
             rotate_left
             · first | exact zaa rfl | exact zab rfl rfl
             · (go_simp <;> with_reducible rfl)
             simp only [Act.put, sA, sB, sC]))
         clear cP1_26 cP1p1_26; refine zal ?_; go_wp2_with fail; go_ret; exact ⟨rfl, HS.out.below⟩
       | true =>
         have cP1_27 := HS.out.cel 1 27 (v := .int .i64 d.run) rfl rfl; have cP1p1_27 := HS.out.cel 0 27 (v := .int .i64 d'.run) rfl rfl
         cases b4 with
         | false =>
           have hr : R = false := by
            rw [← HR.out]; exact decide_eq_false (fun q => of_decide_eq_false B4.out (by rw [q]))
           subst hr
           repeat (first
            | ((refine zah ?hw 31 (.tmp 22) rfl P1 2 rfl 37 (dvC h d) (HS.out.get 1 rfl) (cpC d.c) (zai h d) _ U31 rfl (sCp d.c) ?_); (case hw => first | exact zaa rfl | exact zab rfl rfl); simp only [Act.put, sA, sB, sC])
            | ((refine zah ?hw 31 (.tmp 24) rfl (P1 + 1) 2 rfl 37 (dvC h' d') (HS.out.get 0 rfl) (cpC d'.c) (zai h' d') _ U31 rfl (sCp d'.c) ?_); (case hw => first | exact zaa rfl | exact zab rfl rfl); simp only [Act.put, sA, sB, sC])
            | ((refine zah ?hw 35 (.tmp 64) rfl P1 30 rfl 37 (dvC h d) (HS.out.get 1 rfl) (jbC h.oa h.on h.oc d.job) (zay h d) _ U35 rfl (sJb _ _ _ _) ?_); (case hw => first | exact zaa rfl | exact zab rfl rfl); simp only [Act.put, sA, sB, sC])
            | ((refine zah ?hw 35 (.tmp 66) rfl (P1 + 1) 30 rfl 37 (dvC h' d') (HS.out.get 0 rfl) (jbC h'.oa h'.on h'.oc d'.job) (zay h' d') _ U35 rfl (sJb _ _ _ _) ?_); (case hw => first | exact zaa rfl | exact zab rfl rfl); simp only [Act.put, sA, sB, sC])
            | (refine zag (by first | exact zaf rfl rfl rfl | exact zad rfl rfl) ?_; simp only [Act.put, sA, sB, sC])
            | (refine zae ?_ ?_ ?_ ?_
               rotate_left
               · first | exact zaa rfl | exact zab rfl rfl
               · (go_simp <;> with_reducible rfl)
               simp only [Act.put, sA, sB, sC]))
           clear cP1_26 cP1p1_26 cP1_27 cP1p1_27; refine zal ?_; go_wp2_with fail; go_ret; exact ⟨rfl, HS.out.below⟩
         | true =>
           have cP1_28 := HS.out.cel 1 28 (v := .slice h.ga h.gn h.gc) rfl rfl; have cP1p1_28 := HS.out.cel 0 28 (v := .slice h'.ga h'.gn h'.gc) rfl rfl
           repeat (first
            | ((refine zah ?hw 31 (.tmp 22) rfl P1 2 rfl 37 (dvC h d) (HS.out.get 1 rfl) (cpC d.c) (zai h d) _ U31 rfl (sCp d.c) ?_); (case hw => first | exact zaa rfl | exact zab rfl rfl); simp only [Act.put, sA, sB, sC])
            | ((refine zah ?hw 31 (.tmp 24) rfl (P1 + 1) 2 rfl 37 (dvC h' d') (HS.out.get 0 rfl) (cpC d'.c) (zai h' d') _ U31 rfl (sCp d'.c) ?_); (case hw => first | exact zaa rfl | exact zab rfl rfl); simp only [Act.put, sA, sB, sC])
            | ((refine zah ?hw 35 (.tmp 64) rfl P1 30 rfl 37 (dvC h d) (HS.out.get 1 rfl) (jbC h.oa h.on h.oc d.job) (zay h d) _ U35 rfl (sJb _ _ _ _) ?_); (case hw => first | exact zaa rfl | exact zab rfl rfl); simp only [Act.put, sA, sB, sC])
            | ((refine zah ?hw 35 (.tmp 66) rfl (P1 + 1) 30 rfl 37 (dvC h' d') (HS.out.get 0 rfl) (jbC h'.oa h'.on h'.oc d'.job) (zay h' d') _ U35 rfl (sJb _ _ _ _) ?_); (case hw => first | exact zaa rfl | exact zab rfl rfl); simp only [Act.put, sA, sB, sC])
            | (refine zag (by first | exact zaf rfl rfl rfl | exact zad rfl rfl) ?_; simp only [Act.put, sA, sB, sC])
            | (refine zae ?_ ?_ ?_ ?_
               rotate_left
               · first | exact zaa rfl | exact zab rfl rfl
               · (go_simp <;> with_reducible rfl)
               simp only [Act.put, sA, sB, sC]))
           clear cP1_26 cP1p1_26 cP1_27 cP1p1_27 cP1_28 cP1p1_28; refine zar (fun K hK => ?_); go_simp; go_at_call 72; with_reducible refine (H5.out _ (HDh.out.later HS.out.below) (HDh'.out.later HS.out.below)).mono ?_
           rintro e W3 ⟨rfl, hb⟩; replace HS := LH (HS.out.later hb); clear hb H5
           try go_wp2_with fail
           refine hK.out _ _ ?_; clear hK K
           try simp only [Act.put, sA, sB, sC]
           cases b5 with
           | false =>
             have hr : R = false := by
              rw [← HR.out]; exact decide_eq_false (fun q => of_decide_eq_false B5.out (by rw [q]))
             subst hr
             repeat (first
              | (refine zag (by first | exact zaf rfl rfl rfl | exact zad rfl rfl) ?_; simp only [Act.put, sA, sB, sC])
              | (refine zae ?_ ?_ ?_ ?_
                 rotate_left
                 · first | exact zaa rfl | exact zab rfl rfl
                 · (go_simp <;> with_reducible rfl)
                 simp only [Act.put, sA, sB, sC]))
             refine zal ?_; go_wp2_with fail; go_ret; exact ⟨rfl, HS.out.below⟩
           | true =>
             have cP1_29 := HS.out.cel 1 29 (v := .bool d.busy) rfl rfl; have cP1p1_29 := HS.out.cel 0 29 (v := .bool d'.busy) rfl rfl
             cases b6 with
             | false =>
               have hr : R = false := by
                rw [← HR.out]; exact decide_eq_false (fun q => of_decide_eq_false B6.out (by rw [q]))
               subst hr
               repeat (first
                | (refine zag (by first | exact zaf rfl rfl rfl | exact zad rfl rfl) ?_; simp only [Act.put, sA, sB, sC])
                | (refine zae ?_ ?_ ?_ ?_
                   rotate_left
                   · first | exact zaa rfl | exact zab rfl rfl
                   · (go_simp <;> with_reducible rfl)
                   simp only [Act.put, sA, sB, sC]))
               clear cP1_29 cP1p1_29; refine zal ?_; go_wp2_with fail; go_ret; exact ⟨rfl, HS.out.below⟩
             | true =>
               have cP1_36 := HS.out.cel 1 36 (v := .int .i64 d.done) rfl rfl; have cP1p1_36 := HS.out.cel 0 36 (v := .int .i64 d'.done) rfl rfl
               cases b7 with
               | false =>
                 have hr : R = false := by
                  rw [← HR.out]; exact decide_eq_false (fun q => of_decide_eq_false B7.out (by rw [q]))
                 subst hr
                 repeat (first
                  | (refine zag (by first | exact zaf rfl rfl rfl | exact zad rfl rfl) ?_; simp only [Act.put, sA, sB, sC])
                  | (refine zae ?_ ?_ ?_ ?_
                     rotate_left
                     · first | exact zaa rfl | exact zab rfl rfl
                     · (go_simp <;> with_reducible rfl)
                     simp only [Act.put, sA, sB, sC]))
                 clear cP1_29 cP1p1_29 cP1_36 cP1p1_36; refine zal ?_; go_wp2_with fail; go_ret; exact ⟨rfl, HS.out.below⟩
               | true =>
                 repeat (first
                  | ((refine zah ?hw 31 (.tmp 22) rfl P1 2 rfl 37 (dvC h d) (HS.out.get 1 rfl) (cpC d.c) (zai h d) _ U31 rfl (sCp d.c) ?_); (case hw => first | exact zaa rfl | exact zab rfl rfl); simp only [Act.put, sA, sB, sC])
                  | ((refine zah ?hw 31 (.tmp 24) rfl (P1 + 1) 2 rfl 37 (dvC h' d') (HS.out.get 0 rfl) (cpC d'.c) (zai h' d') _ U31 rfl (sCp d'.c) ?_); (case hw => first | exact zaa rfl | exact zab rfl rfl); simp only [Act.put, sA, sB, sC])
                  | ((refine zah ?hw 35 (.tmp 64) rfl P1 30 rfl 37 (dvC h d) (HS.out.get 1 rfl) (jbC h.oa h.on h.oc d.job) (zay h d) _ U35 rfl (sJb _ _ _ _) ?_); (case hw => first | exact zaa rfl | exact zab rfl rfl); simp only [Act.put, sA, sB, sC])
                  | ((refine zah ?hw 35 (.tmp 66) rfl (P1 + 1) 30 rfl 37 (dvC h' d') (HS.out.get 0 rfl) (jbC h'.oa h'.on h'.oc d'.job) (zay h' d') _ U35 rfl (sJb _ _ _ _) ?_); (case hw => first | exact zaa rfl | exact zab rfl rfl); simp only [Act.put, sA, sB, sC])
                  | (refine zag (by first | exact zaf rfl rfl rfl | exact zad rfl rfl) ?_; simp only [Act.put, sA, sB, sC])
                  | (refine zae ?_ ?_ ?_ ?_
                     rotate_left
                     · first | exact zaa rfl | exact zab rfl rfl
                     · (go_simp <;> with_reducible rfl)
                     simp only [Act.put, sA, sB, sC]))
                 clear cP1_29 cP1p1_29 cP1_36 cP1p1_36; refine zar (fun K hK => ?_); go_simp; go_at_call 59; with_reducible refine (H8.out _ (HDh.out.later HS.out.below) (HDh'.out.later HS.out.below)).mono ?_
                 rintro e W4 ⟨rfl, hb⟩; replace HS := LH (HS.out.later hb); clear hb H8
                 try go_wp2_with fail
                 refine hK.out _ _ ?_; clear hK K
                 try simp only [Act.put, sA, sB, sC]
                 cases b8 with
                 | false =>
                   have hr : R = false := by
                    rw [← HR.out]; exact decide_eq_false (fun q => of_decide_eq_false B8.out (by rw [q]))
                   subst hr
                   repeat (first
                    | (refine zag (by first | exact zaf rfl rfl rfl | exact zad rfl rfl) ?_; simp only [Act.put, sA, sB, sC])
                    | (refine zae ?_ ?_ ?_ ?_
                       rotate_left
                       · first | exact zaa rfl | exact zab rfl rfl
                       · (go_simp <;> with_reducible rfl)
                       simp only [Act.put, sA, sB, sC]))
                   refine zal ?_; go_wp2_with fail; go_ret; exact ⟨rfl, HS.out.below⟩
                 | true =>
                   have hr : R = true := by
                    rw [← HR.out]; exact decide_eq_true (dev_ext (of_decide_eq_true B0.out) (of_decide_eq_true B1.out) (of_decide_eq_true B2.out) (of_decide_eq_true B3.out) (of_decide_eq_true B4.out) (of_decide_eq_true B6.out) (of_decide_eq_true B7.out) (of_decide_eq_true B5.out) (of_decide_eq_true B8.out))
                   subst hr
                   repeat (first
                    | (refine zag (by first | exact zaf rfl rfl rfl | exact zad rfl rfl) ?_; simp only [Act.put, sA, sB, sC])
                    | (refine zae ?_ ?_ ?_ ?_
                       rotate_left
                       · first | exact zaa rfl | exact zab rfl rfl
                       · (go_simp <;> with_reducible rfl)
                       simp only [Act.put, sA, sB, sC]))
                   refine zal ?_; go_wp2_with fail; go_ret; exact ⟨rfl, HS.out.below⟩
theorem written_any (l : CopsR) (r : RecR) (torn : Bool) (e0 : RecM.copies l = 0) (w : World) :
 Calls Tryz.prog 87 #[copsV l, recV r, .bool torn] w fun e w' => e = .returned (.tuple #[copsV (RecM.writeOf l r torn).1, .int .i64 (RecM.writeOf l r torn).2]) ∧ Below w.heap.size w w' := by
 have HR := LH (fun W => zaP l e0 W); have HCk := LH (fun x W => checkRef_any x W); have HST := LH (WSt.start w l r); have hi := sCp l
 have HW : Hid (RecM.writeOf l r torn = if RecM.check (RecM.next l r) ≠ 0 then (RecM.noCops, RecM.check (RecM.next l r)) else (RecM.put l (if torn then RecM.noCop else ⟨true, RecM.next l r⟩), 0)) := by
  show _ = _; unfold RecM.writeOf; rw [if_neg (fun q => q e0)]
 have HV : Hid (∀ x, recV x = .agg (rcC x)) := fun _ => rfl; have hcu := RecM.check_nums (RecM.cur_ok e0); have HNw := LH (RecM.newest_or l); have HPut : Hid (∀ c, RecM.put l c = if RecM.newest l = 0 then ⟨l.c0, c⟩ else ⟨c, l.c1⟩) := fun _ => rfl; have HNx : Hid (RecM.next l r = { r with gen := (RecM.cur l).gen + 1 }) := rfl; clear e0; unfold copsV at HR ⊢; have hc0 := HST.out.c0; rw [HV.out]; generalize RecM.cur l = X at hcu HNx HR; generalize RecM.newest l = K at HNw HPut HR; obtain ⟨G, hG⟩ : ∃ G, X.gen + 1 = G := ⟨_, rfl⟩; have hw : IntKind.i64.wrap G = G := IntWalk.i64_in _ (by omega); rw [hG] at HNx; go_enter Tryz.func87, Tryz.ntmps87; go_wp2_with (refine wpList_load_row rfl 31 (.tmp 3) rfl w.heap.size rfl 31 (cpC l) (0, 0) _ hc0 U31 rfl hi ?_); refine (HR.out _).mono ?_; rintro e W2 ⟨rfl, hb2⟩; have HST2 := LH (HST.out.later hb2); clear hb2 HST hc0 HR hi; have hg0 : W2.cell? ⟨w.heap.size + 1, 0, none⟩ = some (.int .i64 r.gen) := (zbu HST2.out.c1).1; have hf0 : W2.frozen? ⟨w.heap.size + 1, 0, none⟩ = false := (rec_thaw HST2.out.c1).1; have hlt := HST2.out.lt; have hne : ¬ (w.heap.size + 1 = W2.heap.size) := by omega
 have hne2 : w.heap.size + 1 < W2.heap.size := by omega
 have HST3 : Hid (WSt w l { r with gen := G } ((W2.setCell ⟨w.heap.size + 1, 0, none⟩ (.int .i64 G)).alloc (.cells #[.int .i64 X.gen, .int .i64 X.act, .bool X.trying, .int .i64 X.tries, .int .i64 X.floor, .int .i64 X.i0.ver, .int .i64 X.i0.size, .int .i64 X.i0.sum, .int .i64 X.i1.ver, .int .i64 X.i1.size, .int .i64 X.i1.sum] 28))) := (HST2.out.set rfl).alloc _; have hc1 := HST3.out.c1; have hi1 := sRc { r with gen := G }; simp only [recV]; go_wp2_with (refine wpList_load_row rfl 28 (.tmp 4) rfl (w.heap.size + 1) rfl 28 (rcC { r with gen := G }) (0, 0) _ hc1 U28 rfl hi1 ?_); refine (HCk.out { r with gen := G } _).mono ?_; rintro e W4 ⟨rfl, hb4⟩; have HST4 := LH (HST3.out.later hb4); clear hb4 HST3 HST2 hg0 hf0 hne hne2 hlt hc1 hi1; rw [HNx.out] at HW; by_cases e1 : RecM.check { r with gen := G } = 0
 · replace HW := LH (HW.out.trans (if_neg (fun q => q e1)))
   rw [e1]; clear e1; obtain ⟨p0, p1, p2, p3, p4, p5, p6, p7, p8, p9, p10⟩ := zbu (show W4.heap[w.heap.size + 1]? = some (.cells #[.int .i64 G, .int .i64 r.act, .bool r.trying, .int .i64 r.tries, .int .i64 r.floor, .int .i64 r.i0.ver, .int .i64 r.i0.size, .int .i64 r.i0.sum, .int .i64 r.i1.ver, .int .i64 r.i1.size, .int .i64 r.i1.sum] 28 (0, 0)) from HST4.out.c1); obtain ⟨D, hD⟩ : ∃ D, W4.heap.size = D := ⟨_, rfl⟩; have hdp : ¬ (w.heap.size = D) := by have := HST4.out.lt; omega
   cases torn
   · have HST5 := LH (HST4.out.alloc (.cells #[.bool true, .int .i64 G, .int .i64 r.act, .bool r.trying, .int .i64 r.tries, .int .i64 r.floor, .int .i64 r.i0.ver, .int .i64 r.i0.size, .int .i64 r.i0.sum, .int .i64 r.i1.ver, .int .i64 r.i1.size, .int .i64 r.i1.sum] 30))
     have HD5 : Hid ((W4.alloc (.cells #[.bool true, .int .i64 G, .int .i64 r.act, .bool r.trying, .int .i64 r.tries, .int .i64 r.floor, .int .i64 r.i0.ver, .int .i64 r.i0.size, .int .i64 r.i0.sum, .int .i64 r.i1.ver, .int .i64 r.i1.size, .int .i64 r.i1.sum] 30)).heap[D]? = some (.cells (zan ⟨true, { r with gen := G }⟩) 30 (0, 0))) := by
      show _ = _; rw [hpA, if_pos hD.symm]
      rfl
     rcases HNw.out with hk | hk
     · subst hk
       go_upto_region 9 with fail; generalize W4.alloc (.cells #[.bool true, .int .i64 G, .int .i64 r.act, .bool r.trying, .int .i64 r.tries, .int .i64 r.floor, .int .i64 r.i0.ver, .int .i64 r.i0.size, .int .i64 r.i0.sum, .int .i64 r.i1.ver, .int .i64 r.i1.size, .int .i64 r.i1.sum] 30) = W5 at HST5 HD5 ⊢; clear p0 p1 p2 p3 p4 p5 p6 p7 p8 p9 p10 HST4; have hD5 : W5.heap[D]? = some (.cells (zan ⟨true, { r with gen := G }⟩) 30 (0, 0)) := HD5.out; have hc0 := HST5.out.c0; have hc2 := HST5.out.c2; have hi3 := zbb ⟨true, { r with gen := G }⟩; have hi4 := zbb l.c0; have HG : Hid (((W5).setRow (w.heap.size + 2) (cpC ⟨l.c0, ⟨true, { r with gen := G }⟩⟩)).heap[w.heap.size + 2]? = some (.cells (cpC ⟨l.c0, ⟨true, { r with gen := G }⟩⟩) 31 (0, 0)) ∧ Below w.heap.size w ((W5).setRow (w.heap.size + 2) (cpC ⟨l.c0, ⟨true, { r with gen := G }⟩⟩))) := ⟨setRow_heap _ _ _ _ _ _ hc2, zaZ HST5.out.below (by omega) _⟩; have hi := sCp ⟨l.c0, ⟨true, { r with gen := G }⟩⟩; have ha := za5 ⟨l.c0, ⟨true, { r with gen := G }⟩⟩; have hlk := zbt ⟨l.c0, ⟨true, { r with gen := G }⟩⟩; go_upto_region 10 with fail; have hpt := part_at0 l; have hbu := built_cops l.c0 ⟨true, { r with gen := G }⟩; generalize zan l.c0 = Q0 at hpt hbu hi4; generalize zan ⟨true, { r with gen := G }⟩ = Q1 at hbu hi3 hD5
       go_wp2_with (first
        | (refine wLP rfl 30 (.tmp 33) rfl w.heap.size 0 rfl (cpC l) 31 (0, 0) hc0 Q0 hpt _ U30 rfl hi4 ?_)
        | (refine wpList_load_row rfl 30 (.tmp 11) rfl D rfl 30 Q1 (0, 0) _ hD5 U30 rfl hi3 ?_)
        | (refine zaM rfl 31 0 1 (.tmp 34) (.tmp 35) rfl (.agg Q0) (.agg Q1) rfl rfl (cpC ⟨l.c0, ⟨true, { r with gen := G }⟩⟩) hbu ?_)
        | (refine wpList_store_row rfl 31 (.tmp 6) (.tmp 36) rfl (w.heap.size + 2) (cpC ⟨l.c0, ⟨true, { r with gen := G }⟩⟩) rfl rfl 31 _ hc2 hi hlk ha ?_))
       refine bodyPost_ret (v := .tuple #[.agg (cpC ⟨l.c0, ⟨true, { r with gen := G }⟩⟩), .int .i64 0]) ?_ rfl ?_
       · exact zam (fn := Tryz.f87) (p := 6) (a := 7) rfl rfl rfl HG.out.1 U31 rfl hi
       · exact ⟨by rw [HW.out, HPut.out]; rfl, HG.out.2⟩
     · subst hk
       go_upto_region 9 with fail; generalize W4.alloc (.cells #[.bool true, .int .i64 G, .int .i64 r.act, .bool r.trying, .int .i64 r.tries, .int .i64 r.floor, .int .i64 r.i0.ver, .int .i64 r.i0.size, .int .i64 r.i0.sum, .int .i64 r.i1.ver, .int .i64 r.i1.size, .int .i64 r.i1.sum] 30) = W5 at HST5 HD5 ⊢; clear p0 p1 p2 p3 p4 p5 p6 p7 p8 p9 p10 HST4; have hD5 : W5.heap[D]? = some (.cells (zan ⟨true, { r with gen := G }⟩) 30 (0, 0)) := HD5.out; have hc0 := HST5.out.c0; have hc2 := HST5.out.c2; have hi3 := zbb ⟨true, { r with gen := G }⟩; have hi4 := zbb l.c1; have HG : Hid (((W5).setRow (w.heap.size + 2) (cpC ⟨⟨true, { r with gen := G }⟩, l.c1⟩)).heap[w.heap.size + 2]? = some (.cells (cpC ⟨⟨true, { r with gen := G }⟩, l.c1⟩) 31 (0, 0)) ∧ Below w.heap.size w ((W5).setRow (w.heap.size + 2) (cpC ⟨⟨true, { r with gen := G }⟩, l.c1⟩))) := ⟨setRow_heap _ _ _ _ _ _ hc2, zaZ HST5.out.below (by omega) _⟩; have hi := sCp ⟨⟨true, { r with gen := G }⟩, l.c1⟩; have ha := za5 ⟨⟨true, { r with gen := G }⟩, l.c1⟩; have hlk := zbt ⟨⟨true, { r with gen := G }⟩, l.c1⟩; go_upto_region 11 with fail; have hpt := part_at1 l; have hbu := built_cops ⟨true, { r with gen := G }⟩ l.c1; generalize zan l.c1 = Q0 at hpt hbu hi4; generalize zan ⟨true, { r with gen := G }⟩ = Q1 at hbu hi3 hD5
       go_wp2_with (first
        | (refine wLP rfl 30 (.tmp 38) rfl w.heap.size 12 rfl (cpC l) 31 (0, 0) hc0 Q0 hpt _ U30 rfl hi4 ?_)
        | (refine wpList_load_row rfl 30 (.tmp 11) rfl D rfl 30 Q1 (0, 0) _ hD5 U30 rfl hi3 ?_)
        | (refine zaM rfl 31 0 1 (.tmp 37) (.tmp 39) rfl (.agg Q1) (.agg Q0) rfl rfl (cpC ⟨⟨true, { r with gen := G }⟩, l.c1⟩) hbu ?_)
        | (refine wpList_store_row rfl 31 (.tmp 6) (.tmp 40) rfl (w.heap.size + 2) (cpC ⟨⟨true, { r with gen := G }⟩, l.c1⟩) rfl rfl 31 _ hc2 hi hlk ha ?_))
       refine bodyPost_ret (v := .tuple #[.agg (cpC ⟨⟨true, { r with gen := G }⟩, l.c1⟩), .int .i64 0]) ?_ rfl ?_
       · exact zam (fn := Tryz.f87) (p := 6) (a := 7) rfl rfl rfl HG.out.1 U31 rfl hi
       · exact ⟨by rw [HW.out, HPut.out]; rfl, HG.out.2⟩
   · have HST5 := LH (HST4.out.alloc (.cells #[.bool false, .int .i64 0, .int .i64 0, .bool false, .int .i64 0, .int .i64 0, .int .i64 0, .int .i64 0, .int .i64 0, .int .i64 0, .int .i64 0, .int .i64 0] 30))
     have HD5 : Hid ((W4.alloc (.cells #[.bool false, .int .i64 0, .int .i64 0, .bool false, .int .i64 0, .int .i64 0, .int .i64 0, .int .i64 0, .int .i64 0, .int .i64 0, .int .i64 0, .int .i64 0] 30)).heap[D]? = some (.cells (zan RecM.noCop) 30 (0, 0))) := by
      show _ = _; rw [hpA, if_pos hD.symm]
      rfl
     rcases HNw.out with hk | hk
     · subst hk
       go_upto_region 9 with fail; generalize W4.alloc (.cells #[.bool false, .int .i64 0, .int .i64 0, .bool false, .int .i64 0, .int .i64 0, .int .i64 0, .int .i64 0, .int .i64 0, .int .i64 0, .int .i64 0, .int .i64 0] 30) = W5 at HST5 HD5 ⊢; clear p0 p1 p2 p3 p4 p5 p6 p7 p8 p9 p10 HST4; have hD5 : W5.heap[D]? = some (.cells (zan RecM.noCop) 30 (0, 0)) := HD5.out; have hc0 := HST5.out.c0; have hc2 := HST5.out.c2; have hi3 := zbb RecM.noCop; have hi4 := zbb l.c0; have HG : Hid (((W5).setRow (w.heap.size + 2) (cpC ⟨l.c0, RecM.noCop⟩)).heap[w.heap.size + 2]? = some (.cells (cpC ⟨l.c0, RecM.noCop⟩) 31 (0, 0)) ∧ Below w.heap.size w ((W5).setRow (w.heap.size + 2) (cpC ⟨l.c0, RecM.noCop⟩))) := ⟨setRow_heap _ _ _ _ _ _ hc2, zaZ HST5.out.below (by omega) _⟩; have hi := sCp ⟨l.c0, RecM.noCop⟩; have ha := za5 ⟨l.c0, RecM.noCop⟩; have hlk := zbt ⟨l.c0, RecM.noCop⟩; go_upto_region 10 with fail; have hpt := part_at0 l; have hbu := built_cops l.c0 RecM.noCop; generalize zan l.c0 = Q0 at hpt hbu hi4; generalize zan RecM.noCop = Q1 at hbu hi3 hD5
       go_wp2_with (first
        | (refine wLP rfl 30 (.tmp 33) rfl w.heap.size 0 rfl (cpC l) 31 (0, 0) hc0 Q0 hpt _ U30 rfl hi4 ?_)
        | (refine wpList_load_row rfl 30 (.tmp 11) rfl D rfl 30 Q1 (0, 0) _ hD5 U30 rfl hi3 ?_)
        | (refine zaM rfl 31 0 1 (.tmp 34) (.tmp 35) rfl (.agg Q0) (.agg Q1) rfl rfl (cpC ⟨l.c0, RecM.noCop⟩) hbu ?_)
        | (refine wpList_store_row rfl 31 (.tmp 6) (.tmp 36) rfl (w.heap.size + 2) (cpC ⟨l.c0, RecM.noCop⟩) rfl rfl 31 _ hc2 hi hlk ha ?_))
       refine bodyPost_ret (v := .tuple #[.agg (cpC ⟨l.c0, RecM.noCop⟩), .int .i64 0]) ?_ rfl ?_
       · exact zam (fn := Tryz.f87) (p := 6) (a := 7) rfl rfl rfl HG.out.1 U31 rfl hi
       · exact ⟨by rw [HW.out, HPut.out]; rfl, HG.out.2⟩
     · subst hk
       go_upto_region 9 with fail; generalize W4.alloc (.cells #[.bool false, .int .i64 0, .int .i64 0, .bool false, .int .i64 0, .int .i64 0, .int .i64 0, .int .i64 0, .int .i64 0, .int .i64 0, .int .i64 0, .int .i64 0] 30) = W5 at HST5 HD5 ⊢; clear p0 p1 p2 p3 p4 p5 p6 p7 p8 p9 p10 HST4; have hD5 : W5.heap[D]? = some (.cells (zan RecM.noCop) 30 (0, 0)) := HD5.out; have hc0 := HST5.out.c0; have hc2 := HST5.out.c2; have hi3 := zbb RecM.noCop; have hi4 := zbb l.c1; have HG : Hid (((W5).setRow (w.heap.size + 2) (cpC ⟨RecM.noCop, l.c1⟩)).heap[w.heap.size + 2]? = some (.cells (cpC ⟨RecM.noCop, l.c1⟩) 31 (0, 0)) ∧ Below w.heap.size w ((W5).setRow (w.heap.size + 2) (cpC ⟨RecM.noCop, l.c1⟩))) := ⟨setRow_heap _ _ _ _ _ _ hc2, zaZ HST5.out.below (by omega) _⟩; have hi := sCp ⟨RecM.noCop, l.c1⟩; have ha := za5 ⟨RecM.noCop, l.c1⟩; have hlk := zbt ⟨RecM.noCop, l.c1⟩; go_upto_region 11 with fail; have hpt := part_at1 l; have hbu := built_cops RecM.noCop l.c1; generalize zan l.c1 = Q0 at hpt hbu hi4; generalize zan RecM.noCop = Q1 at hbu hi3 hD5
       go_wp2_with (first
        | (refine wLP rfl 30 (.tmp 38) rfl w.heap.size 12 rfl (cpC l) 31 (0, 0) hc0 Q0 hpt _ U30 rfl hi4 ?_)
        | (refine wpList_load_row rfl 30 (.tmp 11) rfl D rfl 30 Q1 (0, 0) _ hD5 U30 rfl hi3 ?_)
        | (refine zaM rfl 31 0 1 (.tmp 37) (.tmp 39) rfl (.agg Q1) (.agg Q0) rfl rfl (cpC ⟨RecM.noCop, l.c1⟩) hbu ?_)
        | (refine wpList_store_row rfl 31 (.tmp 6) (.tmp 40) rfl (w.heap.size + 2) (cpC ⟨RecM.noCop, l.c1⟩) rfl rfl 31 _ hc2 hi hlk ha ?_))
       refine bodyPost_ret (v := .tuple #[.agg (cpC ⟨RecM.noCop, l.c1⟩), .int .i64 0]) ?_ rfl ?_
       · exact zam (fn := Tryz.f87) (p := 6) (a := 7) rfl rfl rfl HG.out.1 U31 rfl hi
       · exact ⟨by rw [HW.out, HPut.out]; rfl, HG.out.2⟩
 · obtain ⟨E, hE⟩ : ∃ E, RecM.check { r with gen := G } = E := ⟨_, rfl⟩
   replace HW := LH (HW.out.trans (if_pos e1)); rw [hE] at e1 HW ⊢; have t0 : (E != 0) = true := by simp [e1]
   clear hE; have HG := LH HST4.out.nil_; have hc2 := HST4.out.c2; have hi2 := zby; have ha := one_zcops; unfold za2 at hi2 ha hc2; go_wp2_with (refine wpList_store_row rfl 31 (.tmp 6) (.tmp 25) rfl (w.heap.size + 2) #[.bool false, .int .i64 0, .int .i64 0, .bool false, .int .i64 0, .int .i64 0, .int .i64 0, .int .i64 0, .int .i64 0, .int .i64 0, .int .i64 0, .int .i64 0, .bool false, .int .i64 0, .int .i64 0, .bool false, .int .i64 0, .int .i64 0, .int .i64 0, .int .i64 0, .int .i64 0, .int .i64 0, .int .i64 0, .int .i64 0] rfl rfl 31 _ hc2 hi2 rfl ha ?_); refine bodyPost_ret (v := .tuple #[.agg za2, .int .i64 E]) ?_ rfl ?_
   · exact zam (fn := Tryz.f87) (p := 6) (a := 7) rfl rfl rfl HG.out.1 U31 rfl zby
   · exact ⟨by rw [HW.out]; rfl, HG.out.2⟩
theorem zaI (E : Int) (w : World) : Calls Tryz.prog 85 #[.int .i64 E] w fun e w' => e = .returned (.tuple #[.agg zDev, .int .i64 E]) ∧ Below w.heap.size w w' := by
 obtain ⟨P1, hP1⟩ : ∃ P, w.heap.size = P := ⟨_, rfl⟩; have HS := LH (((MS.start w).alloc (p := P1) (by simp [hP1]) zDev 37)); go_enter Tryz.func85, Tryz.ntmps85; go_upto_region 1 with fail; refine zau HS.out (fun V0 HS1 => ?_); replace HS := LH HS1; clear HS1 hP1; replace HS := LH (MH.of HS.out); have HG := LH (HS.out.set 0 rfl zDev); have bP1 := HS.out.gt 0 rfl
 go_wp2_with (first
  | ((with_reducible show wpList _ _ _ _ _ _); refine wpList_store_row rfl 37 (.tmp 2) (.tmp 4) rfl P1 zDev rfl rfl 37 zDev ?_ ?_ ?_ ?_ ?_; exact bP1; exact zac; exact zav; exact zaq))
 clear bP1; refine bodyPost_ret (v := .tuple #[.agg zDev, .int .i64 E]) ?_ rfl ?_
 · exact zam (fn := Tryz.f85) (p := 2) (a := 3) rfl rfl rfl (HG.out.get 0 rfl) U37 rfl zac
 · exact ⟨rfl, HG.out.below⟩
theorem blk2_arg {w : World} {B Bf : Nat} {c c' : Array Value} {t t' : TypeId} (hB : w.heap[B]? = some (.cells c t (0, 0))) (hf : w.heap[Bf]? = some (.cells c' t' (0, 0))) : NewR 0 w (fun W => W.heap[B]? = some (.cells c t (0, 0)) ∧ W.heap[Bf]? = some (.cells c' t' (0, 0))) :=
 fun _ _ h2 => ⟨(h2 B (Nat.zero_le _) (bLQ hB)).trans hB, (h2 Bf (Nat.zero_le _) (bLQ hf)).trans hf⟩
theorem zbW (h : DevH) (d : DevR) (B Bf : Nat) (w : World) (hB : w.heap[B]? = some (.cells (dvC h d) 37 (0, 0))) (hf : w.heap[Bf]? = some (.cells #[(.func (.func 85) #[] #[])] 118 (0, 0))) : Calls Tryz.prog 88 #[.int .i64 0, .pointer (some ⟨Bf, 0, none⟩), .pointer (some ⟨B, 0, none⟩)] w fun e w' => e = .returned (.tuple #[.agg (dvC h d), .int .i64 0]) ∧ Below w.heap.size w w' := by
 obtain ⟨P1, hP1⟩ : ∃ P, w.heap.size = P := ⟨_, rfl⟩; have HS := LH ((((MS.start w).arg (blk2_arg hB hf)).alloc (p := P1) (by simp [hP1]) zDev 37)); go_enter Tryz.func88, Tryz.ntmps88; go_upto_region 1 with fail; refine zau HS.out (fun V0 HS1 => ?_); replace HS := LH HS1; clear HS1 hP1; have q1 := (HS.out.read 0 rfl).1; have q2 := cAt (k := 0) (v := (.func (.func 85) #[] #[])) (HS.out.read 0 rfl).2 rfl; have HG := LH (HS.out.set 0 rfl (dvC h d)); have bP1 := HS.out.gt 0 rfl; have bP1 := HS.out.gt 0 rfl
 go_wp2_with (first
  | ((with_reducible show wpList _ _ _ _ _ _); refine LR rfl (t := 37) U37 rfl (.tmp 2) rfl B rfl q1 (sDv h d) ?_)
  | ((with_reducible show wpList _ _ _ _ _ _); refine wpList_store_row rfl 37 (.tmp 4) (.tmp 13) rfl P1 (dvC h d) rfl rfl 37 zDev ?_ ?_ ?_ ?_ ?_; exact bP1; exact (sDv h d); exact (zat h d); exact (oDv h d)))
 clear bP1; refine bodyPost_ret (v := .tuple #[.agg (dvC h d), .int .i64 0]) ?_ rfl ?_
 · exact zam (fn := Tryz.f88) (p := 4) (a := 5) rfl rfl rfl (HG.out.get 0 rfl) U37 rfl (sDv h d)
 · exact ⟨rfl, HG.out.below⟩
theorem zbU (h : DevH) (d : DevR) (E : Int) (hE : E ≠ 0) (B Bf : Nat) (w : World) (hB : w.heap[B]? = some (.cells (dvC h d) 37 (0, 0))) (hf : w.heap[Bf]? = some (.cells #[(.func (.func 85) #[] #[])] 118 (0, 0))) : Calls Tryz.prog 88 #[.int .i64 E, .pointer (some ⟨Bf, 0, none⟩), .pointer (some ⟨B, 0, none⟩)] w fun e w' => e = .returned (.tuple #[.agg zDev, .int .i64 E]) ∧ Below w.heap.size w w' := by
 have t0 : (E != 0) = true := by simp [hE]
 clear hE; have HBad := LH (fun W => zaI E W); obtain ⟨P1, hP1⟩ : ∃ P, w.heap.size = P := ⟨_, rfl⟩; have HS := LH ((((MS.start w).arg (blk2_arg hB hf)).alloc (p := P1) (by simp [hP1]) zDev 37)); go_enter Tryz.func88, Tryz.ntmps88; go_upto_region 1 with fail; refine zau HS.out (fun V0 HS1 => ?_); replace HS := LH HS1; clear HS1 hP1; have q1 := (HS.out.read 0 rfl).1; have q2 := cAt (k := 0) (v := (.func (.func 85) #[] #[])) (HS.out.read 0 rfl).2 rfl; go_wp2_with fail; refine (HBad.out _).mono ?_; rintro e W1 ⟨rfl, hb⟩; replace HS := LH (HS.out.later hb); clear hb; have HG := LH (HS.out.set 0 rfl zDev); have bP1 := HS.out.gt 0 rfl; have bP1 := HS.out.gt 0 rfl
 go_wp2_with (first
  | ((with_reducible show wpList _ _ _ _ _ _); refine wpList_store_row rfl 37 (.tmp 4) (.tmp 11) rfl P1 zDev rfl rfl 37 zDev ?_ ?_ ?_ ?_ ?_; exact bP1; exact zac; exact zav; exact zaq))
 clear bP1; refine bodyPost_ret (v := .tuple #[.agg zDev, .int .i64 E]) ?_ rfl ?_
 · exact zam (fn := Tryz.f88) (p := 4) (a := 5) rfl rfl rfl (HG.out.get 0 rfl) U37 rfl zac
 · exact ⟨rfl, HG.out.below⟩
def GivesAW (B : Nat) (y : CopsR × Int) (w : World) (e : Ending) (w' : World) : Prop :=
 ∃ W1, e = .returned (.int .i64 y.2) ∧ Below w.heap.size w W1 ∧ w' = if y.2 = 0 then W1.setCells B 2 (cpC y.1).toList else W1
theorem blk_arg {w : World} {B : Nat} {c : Array Value} {t : TypeId} (hB : w.heap[B]? = some (.cells c t (0, 0))) : NewR 0 w (fun W => W.heap[B]? = some (.cells c t (0, 0))) :=
 fun _ _ h2 => (h2 B (Nat.zero_le _) (bLQ hB)).trans hB
theorem acts2_any (h : DevH) (d : DevR) (r : RecR) (torn : Bool) (B : Nat) (w : World) (hc : RecM.copies d.c = 0) (hB : w.heap[B]? = some (.cells (dvC h d) 37 (0, 0))) : Calls Tryz.prog 86 #[.agg (rcC r), .bool torn, .pointer (some ⟨B, 0, none⟩)] w (GivesAW B (RecM.writeOf d.c r torn) w) := by
 obtain ⟨⟨L, E⟩, hW⟩ : ∃ y, RecM.writeOf d.c r torn = y := ⟨_, rfl⟩
 have HWr : Hid (∀ W, Calls Tryz.prog 87 #[.agg (cpC d.c), .agg (rcC r), .bool torn] W fun e w' => e = .returned (.tuple #[.agg (cpC L), .int .i64 E]) ∧ Below W.heap.size W w') := fun W => by
  have := written_any d.c r torn hc W; rw [hW] at this; exact this
 rw [hW]; clear hW hc; obtain ⟨P1, hP1⟩ : ∃ P, w.heap.size = P := ⟨_, rfl⟩; have HS := LH ((((MS.start w).arg (blk_arg hB)).alloc (p := P1) (by simp [hP1]) (rcC r) 28)); go_enter Tryz.func86, Tryz.ntmps86; go_upto_region 1 with fail; refine zau HS.out (fun V0 HS1 => ?_); replace HS := LH HS1; clear HS1 hP1; have q1 := HS.out.read 0 rfl; have bP1 := HS.out.gt 0 rfl
 go_wp2_with (first
  | (refine wLP rfl 31 (.tmp 9) rfl B 2 rfl (dvC h d) 37 (0, 0) q1 (cpC d.c) (zai h d) _ U31 rfl (sCp d.c) ?_)
  | ((with_reducible show wpList _ _ _ _ _ _); refine LR rfl (t := 28) U28 rfl (.tmp 3) rfl P1 rfl bP1 (sRc r) ?_))
 clear bP1; clear q1; refine (HWr.out _).mono ?_; rintro e W1 ⟨rfl, hb⟩; replace HS := LH (HS.out.later hb); clear hb; obtain ⟨P6, hP6⟩ : ∃ P, W1.heap.size = P := ⟨_, rfl⟩; replace HS := LH (HS.out.alloc hP6 (cpC L) 31); go_upto_region 2 with ((with_reducible show wpList _ _ _ _ _ _); refine wSN rfl 31 (.tmp 6) (.tmp 14) rfl P6 (cpC L) rfl rfl 31 _ ?_ ?_ ?_ ?_ ?_; exact hP6.symm; exact (sCp L); exact (zbS L); exact (za5 L)); refine zau HS.out (fun V4 HS1 => ?_); replace HS := LH HS1; clear HS1 hP6 HWr; have hbl := HS.out.below; by_cases hE : E = 0
 · subst hE
   have q1 := HS.out.read 0 rfl
   have hth : V4.there B 2 (cpC L).size := by
    intro j hj; have hj' : j < 24 := hj; simp only [World.cell?, World.frozen?, q1]; rw [Array.getElem?_eq_getElem (by show 2 + j < 37; omega)]; simp
   have bP6 := HS.out.gt 0 rfl; have HG : Hid (Below w.heap.size w V4) := hbl; clear hbl
   go_wp2_with (first
    | ((with_reducible show wpList _ _ _ _ _ _); refine LR rfl (t := 31) U31 rfl (.tmp 6) rfl P6 rfl bP6 (sCp L) ?_)
    | ((with_reducible show wpList _ _ _ _ _ _); refine wpList_store_mid rfl 31 (.tmp 19) (.tmp 18) rfl B 2 (cpC L) rfl rfl hth ?_ ?_ ?_; exact sCp L; exact zbT L))
   clear bP6; go_ret; exact ⟨V4, rfl, HG.out, (if_pos rfl).symm⟩
 · have t0 : (E == 0) = false := by simp [hE]
   have HE := LH hE; have HG : Hid (Below w.heap.size w V4) := hbl; clear hE hbl; go_wp2_with fail; go_ret; exact ⟨V4, rfl, HG.out, (if_neg HE.out).symm⟩
theorem zb3 (h : DevH) (d : DevR) (w : World) : Calls Tryz.prog 91 #[devV h d] w fun e w' => e = .returned (devV (offH h) (DevM.off d)) ∧ Below w.heap.size w w' := by
 unfold devV; obtain ⟨P1, hP1⟩ : ∃ P, w.heap.size = P := ⟨_, rfl⟩; have HS := LH (((((MS.start w).alloc (p := P1) (by simp [hP1]) (dvC h d) 37)).alloc (p := (P1 + 1)) (by simp [hP1]) zDev 37)); go_enter Tryz.func91, Tryz.ntmps91; go_upto_region 1 with fail; refine zau HS.out (fun V0 HS1 => ?_); replace HS := LH HS1; clear HS1 hP1; have bP1 := HS.out.gt 1 rfl; have bP1p1 := HS.out.gt 0 rfl; have HG := LH (HS.out.set 0 rfl (dvC (offH h) (DevM.off d)))
 go_wp2_with (first
  | (refine wLP rfl 23 (.tmp 3) rfl P1 0 rfl (dvC h d) 37 (0, 0) bP1 (za4 h) (part_slots h d) _ U23 rfl (size_slots h) ?_)
  | (refine wLP rfl 31 (.tmp 5) rfl P1 2 rfl (dvC h d) 37 (0, 0) bP1 (cpC d.c) (zai h d) _ U31 rfl (sCp d.c) ?_)
  | (refine zaM rfl 37 0 1 (.tmp 4) (.tmp 6) rfl (.agg (za4 h)) (.agg (cpC d.c)) rfl rfl (dvC (offH h) (DevM.off d)) (built_off h d) ?_)
  | (refine wpList_store_row rfl 37 (.tmp 2) (.tmp 7) rfl (P1 + 1) (dvC (offH h) (DevM.off d)) rfl rfl 37 _ bP1p1 (sDv (offH h) (DevM.off d)) (zat (offH h) (DevM.off d)) (oDv (offH h) (DevM.off d)) ?_))
 clear bP1 bP1p1; refine bodyPost_ret (v := .agg (dvC (offH h) (DevM.off d))) ?_ rfl ?_
 · exact res_c (fn := Tryz.f91) (p := 2) rfl rfl (HG.out.get 0 rfl) U37 rfl (sDv _ _)
 · exact ⟨rfl, HG.out.below⟩
theorem run_store_func {P : Program} {w : World} {a : Addr} {m : Mode} (f : Fn) (ts vs : Array Value) : (store a (.func f ts vs) m).run P w = stored P w a (.func f ts vs) m := run_store P w a _ m rfl
attribute [local go_sem] run_store_func
theorem zbl (w0 : World) (h : DevH) (d : DevR) (nn : Int) (x : ChR) (xa : Option Addr) (xm xc : Nat) (w : World) (hk : Below w0.heap.size w0 w) (HD : DH w0 h d) (K : Int) (hl : d.up = decide (K = 10)) : Calls Tryz.prog 26 #[devV h d, .agg #[.int .i64 K, .int .i64 nn], .agg #[.int .i64 x.fr, .int .i64 x.to_, .int .i64 x.n, .int .i64 x.of_, .slice xa xm xc]] w (zbK (fun V => Below w0.heap.size w0 V) (DevM.noDev, 5) w) := by
 have tl : (d.up == (K == 10)) = true := by rw [hl]; by_cases q : K = 10 <;> simp [q]
 clear hl; have HDh := LH (HD.later hk); have HD0 := LH HD; have HK0 := LH hk; clear HD hk; unfold devV; obtain ⟨P1, hP1⟩ : ∃ P, w.heap.size = P := ⟨_, rfl⟩; have HS := LH (((((((((MS.start w).alloc (p := P1) (by simp [hP1]) (dvC h d) 37)).alloc (p := (P1 + 1)) (by simp [hP1]) #[.int .i64 K, .int .i64 nn] 55)).alloc (p := (P1 + 2)) (by simp [hP1]) #[.int .i64 x.fr, .int .i64 x.to_, .int .i64 x.n, .int .i64 x.of_, .slice xa xm xc] 39)).alloc (p := (P1 + 3)) (by simp [hP1]) zDev 37)); go_enter Tryz.func26, Tryz.ntmps26; go_upto_region 1 with fail; refine zau HS.out (fun V0 HS1 => ?_); replace HS := LH HS1; clear HS1 hP1; replace HS := LH (MH.of HS.out); obtain ⟨P8, hP8⟩ : ∃ P, V0.heap.size = P := ⟨_, rfl⟩; replace HS := LH (HS.out.alloc hP8 #[.nilFunc] 118); refine zaj ?_; refine zar (fun K hK => ?_); go_simp; refine hK.out _ _ ?_; clear hK K
 try simp only [Act.put, sA, sB, sC]
 refine zaF HS.out (fun V1 HS1 => ?_); replace HS := LH HS1; clear HS1 hP8; have c8 := cAt (k := 0) (v := .nilFunc) (HS.out.get 0 rfl) rfl; have z8 := tAt (k := 0) (HS.out.get 0 rfl); simp only at c8 z8; refine zar (fun K hK => ?_); go_simp; refine hK.out _ _ ?_; clear hK K c8 z8
 try simp only [Act.put, sA, sB, sC]
 refine zaF (HS.out.cell 0 rfl (k := 0) (v := (.func (.func 85) #[] #[])) (c' := #[(.func (.func 85) #[] #[])]) rfl) (fun V2 HS1 => ?_); replace HS := LH HS1; clear HS1; refine zal ?_; have cP1_26 := HS.out.cel 4 26 (v := .bool d.up) rfl rfl; have cP1p1_0 := HS.out.cel 3 0 (v := .int .i64 K) rfl rfl; have cP8_0 := HS.out.cel 0 0 (v := (.func (.func 85) #[] #[])) rfl rfl; go_wp2_with fail; clear cP1_26 cP1p1_0 cP8_0; refine (zaI 5 _).mono ?_; rintro e W1 ⟨rfl, hb⟩; replace HS := LH (HS.out.later hb); clear hb; have HG := LH (HS.out.set 1 rfl zDev); have bP1p3 := HS.out.gt 1 rfl
 go_wp2_with (first
  | ((with_reducible show wpList _ _ _ _ _ _); refine wpList_store_row rfl 37 (.tmp 6) (.tmp 36) rfl (P1 + 3) zDev rfl rfl 37 zDev ?_ ?_ ?_ ?_ ?_; exact bP1p3; exact zac; exact zav; exact zaq))
 clear bP1p3; refine bodyPost_ret (v := .tuple #[.agg zDev, .int .i64 5]) ?_ rfl ?_
 · exact zam (fn := Tryz.f26) (p := 6) (a := 7) rfl rfl rfl (HG.out.get 1 rfl) U37 rfl zac
 · rw [(show (DevM.noDev, (5 : Int)) = (DevM.noDev, 5) from rfl)]
   exact ⟨noH, by rw [zaK], HG.out.below, NewR.any (fun W _ => DH.none_ W)⟩
theorem acts_crash (w0 : World) (h : DevH) (d : DevR) (nn : Int) (x : ChR) (xa : Option Addr) (xm xc : Nat) (w : World) (hk : Below w0.heap.size w0 w) (HD : DH w0 h d) (hok : DevM.Ok d) (hu : d.up = true) : Calls Tryz.prog 26 #[devV h d, .agg #[.int .i64 9, .int .i64 nn], .agg #[.int .i64 x.fr, .int .i64 x.to_, .int .i64 x.n, .int .i64 x.of_, .slice xa xm xc]] w (zbK (fun V => Below w0.heap.size w0 V) (DevM.crash d) w) := by
 have HNe : Hid (∀ W, Calls Tryz.prog 60 #[.agg (cpC d.c)] W fun e w' => e = .returned (.tuple #[.agg (rcC (DevM.rc d)), .int .i64 (RecM.newest d.c)]) ∧ Below W.heap.size W w') := fun W => zaP d.c hok.cops W; have HOk := LH hok; clear hok; have HDh := LH (HD.later hk); have HD0 := LH HD; have HK0 := LH hk; clear HD hk; unfold devV; obtain ⟨P1, hP1⟩ : ∃ P, w.heap.size = P := ⟨_, rfl⟩; have HS := LH (((((((((MS.start w).alloc (p := P1) (by simp [hP1]) (dvC h d) 37)).alloc (p := (P1 + 1)) (by simp [hP1]) #[.int .i64 9, .int .i64 nn] 55)).alloc (p := (P1 + 2)) (by simp [hP1]) #[.int .i64 x.fr, .int .i64 x.to_, .int .i64 x.n, .int .i64 x.of_, .slice xa xm xc] 39)).alloc (p := (P1 + 3)) (by simp [hP1]) zDev 37)); go_enter Tryz.func26, Tryz.ntmps26; go_upto_region 1 with fail; refine zau HS.out (fun V0 HS1 => ?_); replace HS := LH HS1; clear HS1 hP1; replace HS := LH (MH.of HS.out); obtain ⟨P8, hP8⟩ : ∃ P, V0.heap.size = P := ⟨_, rfl⟩; replace HS := LH (HS.out.alloc hP8 #[.nilFunc] 118); refine zaj ?_; refine zar (fun K hK => ?_); go_simp; refine hK.out _ _ ?_; clear hK K
 try simp only [Act.put, sA, sB, sC]
 refine zaF HS.out (fun V1 HS1 => ?_); replace HS := LH HS1; clear HS1 hP8; have c8 := cAt (k := 0) (v := .nilFunc) (HS.out.get 0 rfl) rfl; have z8 := tAt (k := 0) (HS.out.get 0 rfl); simp only at c8 z8; refine zar (fun K hK => ?_); go_simp; refine hK.out _ _ ?_; clear hK K c8 z8
 try simp only [Act.put, sA, sB, sC]
 refine zaF (HS.out.cell 0 rfl (k := 0) (v := (.func (.func 85) #[] #[])) (c' := #[(.func (.func 85) #[] #[])]) rfl) (fun V2 HS1 => ?_); replace HS := LH HS1; clear HS1; refine zal ?_; have cP1_26 := HS.out.cel 4 26 (v := .bool d.up) rfl rfl; have cP1p1_0 := HS.out.cel 3 0 (v := .int .i64 9) rfl rfl; rw [hu] at cP1_26; have bP1 := HS.out.gt 4 rfl
 go_wp2_with (first
  | ((with_reducible show wpList _ _ _ _ _ _); refine wLP rfl 31 (.tmp 39) rfl P1 2 rfl (dvC h d) 37 (0, 0) ?_ (cpC d.c) ?_ _ U31 rfl ?_ ?_; exact bP1; exact (zai h d); exact (sCp d.c)))
 clear cP1_26 cP1p1_0 bP1; refine (HNe.out _).mono ?_; rintro e W1 ⟨rfl, hb⟩; replace HS := LH (HS.out.later hb); clear hb; obtain ⟨P9, hP9⟩ : ∃ P, W1.heap.size = P := ⟨_, rfl⟩; replace HS := LH (HS.out.alloc hP9 (rcC (DevM.rc d)) 28); have cP1p1_0 := HS.out.cel 4 0 (v := .int .i64 9) rfl rfl; go_upto_region 7 with ((with_reducible show wpList _ _ _ _ _ _); refine wSN rfl 28 (.tmp 9) (.tmp 42) rfl P9 (rcC (DevM.rc d)) rfl rfl 28 _ ?_ ?_ ?_ ?_ ?_; exact hP9.symm; exact (sRc (DevM.rc d)); exact (lRc (DevM.rc d)); exact (oRc (DevM.rc d))); clear cP1p1_0; refine gnH HS.out (fun V3 HS1 => ?_); replace HS := LH HS1; clear HS1 hP9 HNe; have cP1p1_0 := HS.out.cel 4 0 (v := .int .i64 9) rfl rfl; have HUp := LH hu; clear hu; have HWo := LH (fun W => zb3 h d W); unfold devV at HWo; have bP1 := HS.out.gt 5 rfl
 go_wp2_with (first
  | ((with_reducible show wpList _ _ _ _ _ _); refine LR rfl (t := 37) U37 rfl (.tmp 3) rfl P1 rfl bP1 (sDv h d) ?_))
 clear cP1p1_0 bP1; refine (HWo.out _).mono ?_; rintro e W2 ⟨rfl, hb⟩; replace HS := LH (HS.out.later hb); clear hb; have HG := LH (HS.out.set 2 rfl (dvC (offH h) (DevM.off d))); have bP1p3 := HS.out.gt 2 rfl
 go_wp2_with (first
  | ((with_reducible show wpList _ _ _ _ _ _); refine wpList_store_row rfl 37 (.tmp 6) (.tmp 307) rfl (P1 + 3) (dvC (offH h) (DevM.off d)) rfl rfl 37 zDev ?_ ?_ ?_ ?_ ?_; exact bP1p3; exact (sDv (offH h) (DevM.off d)); exact (zat _ _); exact (oDv (offH h) (DevM.off d))))
 clear bP1p3; refine bodyPost_ret (v := .tuple #[.agg (dvC (offH h) (DevM.off d)), .int .i64 0]) ?_ rfl ?_
 · exact zam (fn := Tryz.f26) (p := 6) (a := 7) rfl rfl rfl (HG.out.get 2 rfl) U37 rfl (sDv _ _)
 · refine ⟨(offH h), rfl, HG.out.below, fun V v1 v2 hV => ?_⟩
   have k0 := HD0.out.later hV; exact k0.off
def GivesIm (w : World) (e : Ending) (w' : World) : Prop :=
 ∃ B A0 A1 A2, e = .returned (.slice (some ⟨B, 0, none⟩) 3 3) ∧ w'.heap[B]? = some (.cells #[.slice A0 8 8, .slice A1 9 9, .slice A2 11 11] 22 (0, 0)) ∧ BS w' A0 8 8 Inst.im0 ∧ BS w' A1 9 9 Inst.im1 ∧ w.heap.size ≤ B ∧ Below w.heap.size w w'
theorem images_any (w : World) : Calls Tryz.prog 66 #[] w (GivesIm w) := by
 have kc := fun (w : World) (C : Array Value) (n c : Nat) => Lib.run_convert_bytes_const (P := Tryz.prog) w 22 5 C n c U22 U5; have sz : ∀ (w : World) (o : Obj), (w.alloc o).heap.size = w.heap.size + 1 := fun w o => by simp
 have kc2 : ∀ (w : World) (o : Obj) (C : Array Value) (n c : Nat), (convert 22 22 (.slice (some ⟨w.heap.size + 1, 0, none⟩) n c)).run Tryz.prog ((w.alloc o).alloc (.cells C 5)) = .ok (.slice (some ⟨w.heap.size + 1, 0, none⟩) n c) ((w.alloc o).alloc (.cells C 5 (C.size, C.size + 1))) := fun w o C n c => by
  have := kc (w.alloc o) C n c
  rwa [sz] at this
 have kc3 : ∀ (w : World) (o o' : Obj) (C : Array Value) (n c : Nat), (convert 22 22 (.slice (some ⟨w.heap.size + 1 + 1, 0, none⟩) n c)).run Tryz.prog (((w.alloc o).alloc o').alloc (.cells C 5)) = .ok (.slice (some ⟨w.heap.size + 1 + 1, 0, none⟩) n c) (((w.alloc o).alloc o').alloc (.cells C 5 (C.size, C.size + 1))) := fun w o o' C n c => by
  have := kc ((w.alloc o).alloc o') C n c
  rwa [sz, sz] at this
 have l1 := lit_bs_marked w [97, 98, 99, 100, 101, 102, 103, 104] 8 (8, 9) rfl (by omega) (by decide); have l2 := lit_bs_marked (w.alloc (.cells (([97, 98, 99, 100, 101, 102, 103, 104] : List Int).map (Value.int .u8)).toArray 5 (8, 9))) [120, 101, 102, 103, 104, 97, 98, 99, 100] 9 (9, 10) rfl (by omega) (by decide); have SZ := LH sz; have HL := LH (And.intro l1 l2); clear sz l1 l2 kc; have kc := fun (w : World) (C : Array Value) (n c : Nat) => Lib.run_convert_bytes_const (P := Tryz.prog) w 22 5 C n c U22 U5; go_enter Tryz.func66, Tryz.ntmps66; go_wp2_with fail; go_ret; have hb : ∀ (v : World) (o1 o2 o3 : Obj), Below v.heap.size v (((v.alloc o1).alloc o2).alloc o3) := fun v o1 o2 o3 => (((Below.refl _ _).alloc (Nat.le_refl _) o1).alloc (by rw [SZ.out]; omega) o2).alloc (by rw [SZ.out, SZ.out]; omega) o3; have hb2 : ∀ (v : World) (o1 o2 : Obj), Below v.heap.size v ((v.alloc o1).alloc o2) := fun v o1 o2 => ((Below.refl _ _).alloc (Nat.le_refl _) o1).alloc (by rw [SZ.out]; omega) o2; have h2 := HL.out.2; rw [SZ.out] at h2; refine ⟨w.heap.size + 1 + 1 + 1, some ⟨w.heap.size, 0, none⟩, some ⟨w.heap.size + 1, 0, none⟩, some ⟨w.heap.size + 1 + 1, 0, none⟩, rfl, ?_, HL.out.1.later (hb _ _ _ _), h2.later (hb2 _ _ _), by omega, (hb w _ _ _).alloc (by rw [SZ.out, SZ.out, SZ.out]; omega) _⟩; rw [hpA, if_pos (by rw [SZ.out, SZ.out, SZ.out])]
theorem geN_any (v : Value) (r : ChR) (B : Nat) (N : Int) (w : World) (hv : CV w v r) (hB : w.cell? ⟨B, 2, none⟩ = some (.int .i64 N)) :
 Calls Tryz.prog 137 #[v, .pointer (some ⟨B, 0, none⟩)] w fun e w' => e = .returned (.bool (decide (N ≤ r.n))) ∧ Below w.heap.size w w' := by
 obtain ⟨a, m, c, rfl, hd, -⟩ := hv; obtain ⟨f, t, n, o, D⟩ := r; simp only at hd ⊢; have hb : Below w.heap.size w (w.alloc (.cells #[.int .i64 f, .int .i64 t, .int .i64 n, .int .i64 o, .slice a m c] 39)) := (Below.refl _ _).alloc (Nat.le_refl _) _; have hc := cell_later hb hB; have HB := LH hb; clear hb hd; go_enter Tryz.func137, Tryz.ntmps137; go_wp2_with fail; go_ret; exact ⟨rfl, HB.out⟩
def AtRel (l : List ChR) (N : Int) (w : World) (i : Value) (wr : World) : Prop :=
 ∃ k : Nat, i = .int .i64 k ∧ k ≤ l.length ∧ (∀ x ∈ l.take k, x.n < N) ∧ Below w.heap.size w wr
theorem atC_any (a : Option Addr) (n c : Nat) (l : List ChR) (B : Nat) (N : Int) (w : World) (hl : CS w a n c l) (hB : w.cell? ⟨B, 2, none⟩ = some (.int .i64 N)) :
 Calls Tryz.prog 136 #[.slice a n c, .func (.func 137) #[] #[.pointer (some ⟨B, 0, none⟩)]] w fun e w' => ∃ i, e = .returned (.int .i64 i) ∧ ChunkM.AtIs l N i ∧ Below w.heap.size w w' := by
 have hlen : n ≤ 9223372036854775807 := by have := hl.le; have := hl.max; omega
 have HL := LH hl; have HLn := LH hl.len; have HB0 := LH hB; clear hl hB; go_enter Tryz.func136, Tryz.ntmps136; go_wp2_with fail; go_loopw [8] (fun i wr => AtRel l N w i wr) (fun i _ => n - (intOf i).toNat)
 case atStart => exact ⟨0, rfl, Nat.zero_le _, by simp, Below.refl _ _⟩
 case round =>
  obtain ⟨k, rfl, hk, ht, hB⟩ := hrel; rw [HLn.out] at hk; have HT := LH ht; have HB := LH hB; clear ht hB; by_cases hlt : k < n
  · obtain ⟨b, off, rfl, hcs⟩ := (HL.out.later HB.out).cells (by omega)
    obtain ⟨va, vm, vc, q0, q1, q2, q3, q4, q5, qI⟩ := hcs k hlt
    have HTk : Hid (l.take (k + 1) = l.take k ++ [l.getD k default]) := by
     show _ = _; have hkl : k < l.length := by rw [HLn.out]; exact hlt
     rw [List.take_add_one, List.getD_eq_getElem?_getD, List.getElem?_eq_getElem hkl]
     rfl
    obtain ⟨x, hx⟩ : ∃ x, l.getD k default = x := ⟨_, rfl⟩; have HX := LH hx; rw [hx] at q0 q1 q2 q3 q5 qI HTk; obtain ⟨F, T, M, O, D⟩ := x; simp only at q0 q1 q2 q3 q4 q5; have HCV : Hid (CV wr (.agg #[.int .i64 F, .int .i64 T, .int .i64 M, .int .i64 O, .slice va vm vc]) ⟨F, T, M, O, D⟩) := ⟨va, vm, vc, rfl, q5, qI⟩; have HCB := LH (cell_later HB.out HB0.out); clear hcs q5 qI hx; go_wp2_with fail; refine (geN_any _ _ B N _ HCV.out HCB.out).mono ?_; rintro e W2 ⟨rfl, b2⟩; have HB2 := LH (bTh HB.out b2); clear b2; by_cases hm : N ≤ M
    · rw [decide_eq_true hm]
      have HR : Hid (ChunkM.AtIs l N k) := .inr ⟨k, rfl, by rw [HLn.out]; exact hlt, by rw [HX.out]; exact hm, HT.out⟩; go_wp2_with fail; go_ret; exact ⟨_, rfl, HR.out, HB2.out⟩
    · rw [decide_eq_false hm]
      have HM := LH hm; clear hm; go_wp2_with fail; go_roundw
      case rel =>
       refine ⟨k + 1, by go_num, by rw [HLn.out]; omega, fun x hx => ?_, HB2.out⟩; rw [HTk.out] at hx; rcases List.mem_append.1 hx with hx | hx
       · exact HT.out x hx
       · obtain rfl : x = _ := by simpa using hx
         have := HM.out; simp only; omega
      case measure => simp [intOf]; omega
  · have HR : Hid (ChunkM.AtIs l N (-1)) := by
     refine .inl ⟨rfl, fun x hx => HT.out x ?_⟩
     rwa [List.take_of_length_le (by rw [HLn.out]; omega)]
    go_wp2_with fail; go_ret; exact ⟨_, rfl, HR.out, HB.out⟩
structure AdW (w : World) (B : Nat) (x : ChR) (xa : Option Addr) (xm xc : Nat) (a : Option Addr) (n c : Nat) (l : List ChR) (W : World) : Prop where
 blk : W.heap[B]? = some (.cells #[.int .i64 x.fr, .int .i64 x.to_, .int .i64 x.n, .int .i64 x.of_, .slice xa xm xc] 39 (0, 0))
 cs : CS W a n c l
 bs : BS W xa xm xc x.data
 below : Below w.heap.size w W
theorem AdW.later {w : World} {B : Nat} {x : ChR} {xa : Option Addr} {xm xc : Nat} {a : Option Addr} {n c : Nat} {l : List ChR} {W W' : World} (h : AdW w B x xa xm xc a n c l W) (hb : Below W.heap.size W W') : AdW w B x xa xm xc a n c l W' :=
 ⟨(hb.block B (zax h.blk)).trans h.blk, h.cs.later hb, h.bs.later hb, bTh h.below hb⟩
theorem AdW.cells {w : World} {B : Nat} {x : ChR} {xa : Option Addr} {xm xc : Nat} {a : Option Addr} {n c : Nat} {l : List ChR} {W : World} (h : AdW w B x xa xm xc a n c l W) : W.cell? ⟨B, 0, none⟩ = some (.int .i64 x.fr) ∧ W.cell? ⟨B, 1, none⟩ = some (.int .i64 x.to_) ∧ W.cell? ⟨B, 2, none⟩ = some (.int .i64 x.n) ∧ W.cell? ⟨B, 3, none⟩ = some (.int .i64 x.of_) ∧ W.cell? ⟨B, 4, none⟩ = some (.slice xa xm xc) := zbx h.blk
theorem AdW.lit {w : World} {B : Nat} {x : ChR} {xa : Option Addr} {xm xc : Nat} {a : Option Addr} {n c : Nat} {l : List ChR} {W : World} (h : AdW w B x xa xm xc a n c l W) (hI : x.I) {Q : Nat} (hQ : W.heap[Q]? = some (.cells #[.int .i64 x.fr, .int .i64 x.to_, .int .i64 x.n, .int .i64 x.of_, .slice xa xm xc] 39 (0, 0))) : CS W (some ⟨Q, 0, none⟩) 1 1 [x] := by
 refine ⟨rfl, Nat.le_refl _, by omega, fun _ => ⟨Q, 0, rfl, fun i hi => ?_⟩, fun h => by cases h⟩; obtain rfl : i = 0 := by omega
 obtain ⟨k0, k1, k2, k3, k4⟩ := zbx hQ; exact ⟨xa, xm, xc, k0, k1, k2, k3, k4, h.bs, hI⟩
theorem copied_len (a : Option Addr) (n c : Nat) (l : List ChR) (hln : l.length = n) (hn : n ≤ 1000) (hd : ∀ x ∈ l, x.data.length ≤ 1000) (w : World) (hs : CS w a n c l) :
 Calls Tryz.prog 135 #[.slice a n c] w fun e w' => ∃ a' c', e = .returned (.slice a' n c') ∧ CpSt w.heap.size (.slice a' n c') l w' ∧ Below w.heap.size w w' := by
 refine (copied_any a n c l w hs hn hd).mono ?_; rintro e w' ⟨a', n', c', rfl, h1, h2, h3⟩; obtain rfl : n = n' := hln.symm.trans h1; exact ⟨a', c', rfl, h2, h3⟩
def GivesAdN (l : List ChR) (x : ChR) (w : World) (e : Ending) (w' : World) : Prop :=
 ∃ a n c, e = .returned (.tuple #[.slice a n c, .int .i64 (ChunkM.addOf l x).2]) ∧ NewR w.heap.size w' (fun V => CS V a n c (ChunkM.addOf l x).1) ∧ Below w.heap.size w w'
theorem addC_n (a : Option Addr) (n c : Nat) (l : List ChR) (v : Value) (x : ChR) (w : World) (hl : CS w a n c l) (hv : CV w v x) : Calls Tryz.prog 75 #[.slice a n c, v] w (GivesAdN l x w) := by
 obtain ⟨xa, xm, xc, rfl, hd, hI⟩ := hv; obtain ⟨F, T, N, O, D⟩ := x; simp only at hd ⊢; have hlen : n ≤ 9223372036854775807 := by have := hl.le; have := hl.max; omega
 have HLn := LH hl.len; have HI := LH hI; obtain ⟨B, hBB⟩ : ∃ B, w.heap.size = B := ⟨_, rfl⟩; have hb0 : Below w.heap.size w (w.alloc (.cells #[.int .i64 F, .int .i64 T, .int .i64 N, .int .i64 O, .slice xa xm xc] 39)) := (Below.refl _ _).alloc (Nat.le_refl _) _; have H0 : Hid (AdW w B ⟨F, T, N, O, D⟩ xa xm xc a n c l (w.alloc (.cells #[.int .i64 F, .int .i64 T, .int .i64 N, .int .i64 O, .slice xa xm xc] 39))) := ⟨by rw [hpA, if_pos hBB.symm], hl.later hb0, hd.later hb0, hb0⟩; have HBw : Hid (w.heap.size ≤ B) := by show _ ≤ _; omega
 clear hl hb0 hd hI; go_enter Tryz.func75, Tryz.ntmps75; go_wp2_with fail; generalize w.alloc (.cells #[.int .i64 F, .int .i64 T, .int .i64 N, .int .i64 O, .slice xa xm xc] 39) = W0 at H0 ⊢; refine (listC_ok a n c l _ H0.out.cs).mono ?_; rintro e W1 ⟨rfl, b1⟩; have H1 := LH (H0.out.later b1); obtain ⟨E, hE⟩ : ∃ E, ChunkM.checks l = E := ⟨_, rfl⟩; rw [hE]; clear b1 H0; by_cases hE0 : E = 0
 · subst hE0
   have HE := LH hE; obtain ⟨k0, k1, k2, k3, k4⟩ := H1.out.cells; simp only at k0 k1 k2 k3 k4; have HCV : Hid (CV W1 (.agg #[.int .i64 F, .int .i64 T, .int .i64 N, .int .i64 O, .slice xa xm xc]) ⟨F, T, N, O, D⟩) := ⟨xa, xm, xc, rfl, H1.out.bs, HI.out⟩; have h52 := ChunkM.checks_few hE; rw [HLn.out] at h52; have HDat : Hid (∀ y ∈ l, y.data.length ≤ 1000) := fun y hy => by have := ChunkM.checks_data HE.out y hy; omega
   clear hE; go_wp2_with fail; refine (checkC_ok _ _ _ HCV.out).mono ?_; rintro e W2 ⟨rfl, b2⟩; have H2 := LH (H1.out.later b2); have HCV2 := LH (HCV.out.later b2); obtain ⟨E2, hE2⟩ : ∃ E, ChunkM.check ⟨F, T, N, O, D⟩ = E := ⟨_, rfl⟩; rw [hE2]; clear b2 H1 HCV k0 k1 k2 k3 k4; by_cases hE20 : E2 = 0
   · subst hE20
     have HE2 := LH hE2; have hgood := ChunkM.check_good hE2; simp only at hgood; obtain ⟨-, -, gO, gN, -, gD, -⟩ := hgood
     have HK : Hid (ChunkM.addOf l ⟨F, T, N, O, D⟩ = (ChunkM.ins (ChunkM.those l ⟨F, T, N, O, D⟩) ⟨F, T, N, O, D⟩, 0)) := by
      show _ = _; unfold ChunkM.addOf; rw [if_neg (by rw [HE.out]; simp), if_neg (by rw [HE2.out]; simp)]
     obtain ⟨k0, k1, k2, k3, k4⟩ := H2.out.cells; simp only at k0 k1 k2 k3 k4; clear hE2; go_upto_if 29 with fail; go_cut [29] (fun s29 wx => ∃ q : Bool, s29 = .bool q ∧ ((q = true ∧ ChunkM.those l ⟨F, T, N, O, D⟩ = []) ∨ (q = false ∧ ChunkM.those l ⟨F, T, N, O, D⟩ = l)) ∧ Below W2.heap.size W2 wx)
     case first =>
      by_cases hn0 : n = 0
      · subst hn0
        have HTh : Hid (ChunkM.those l ⟨F, T, N, O, D⟩ = l) := by
         show _ = _; unfold ChunkM.those; rw [if_neg (fun h => h.1 (List.eq_nil_of_length_eq_zero HLn.out))]
        go_wp2_with fail; go_quiet (fail); have hbq := below_drewN (Below.refl W2.heap.size W2) nq; go_wp2_with fail; go_meet; exact ⟨_, rfl, .inr ⟨rfl, HTh.out⟩, hbq⟩
      · obtain ⟨b, off, rfl, hcs⟩ := H2.out.cs.cells (by omega)
        obtain ⟨za, zm, zc, z0, z1, z2, z3, z4, z5, zI⟩ := hcs 0 (by omega)
        have HNil : Hid (l ≠ []) := by
         show l ≠ []; rintro rfl; exact hn0 HLn.out.symm
        obtain ⟨zz, hzz⟩ : ∃ zz, l.getD 0 default = zz := ⟨_, rfl⟩; rw [hzz] at z0 z1 z2 z3 z5 zI; have HZZ := LH hzz; obtain ⟨ZF, ZT, ZN, ZO, ZD⟩ := zz; simp only [Nat.zero_mul, Nat.add_zero] at z0 z1 z2 z3 z4 z5; have HW : Hid (KinW W2 b off B ⟨ZF, ZT, ZN, ZO, ZD⟩ ⟨F, T, N, O, D⟩ za zm zc xa xm xc W2) := ⟨z0, z1, z2, z3, z4, H2.out.blk, ⟨za, zm, zc, rfl, z5, zI⟩, HCV2.out, Below.refl _ _⟩; have h0n : (0 : Int) < (n : Int) := by omega
        have h0m : 0 < n := by omega
        have HTh : Hid ((ChunkM.kin ⟨ZF, ZT, ZN, ZO, ZD⟩ ⟨F, T, N, O, D⟩ → ChunkM.those l ⟨F, T, N, O, D⟩ = l) ∧ (¬ ChunkM.kin ⟨ZF, ZT, ZN, ZO, ZD⟩ ⟨F, T, N, O, D⟩ → ChunkM.those l ⟨F, T, N, O, D⟩ = [])) := by
         refine ⟨fun h => ?_, fun h => ?_⟩
         · unfold ChunkM.those
           rw [if_neg (fun h' => h'.2 (by rw [HZZ.out]; exact ⟨h.1.symm, h.2.1.symm, h.2.2.symm⟩))]
         · unfold ChunkM.those
           rw [if_pos ⟨HNil.out, by rw [HZZ.out]; exact fun h' => h ⟨h'.1.symm, h'.2.1.symm, h'.2.2.symm⟩⟩]
        obtain ⟨q, hq⟩ : ∃ q, decide (ChunkM.kin ⟨ZF, ZT, ZN, ZO, ZD⟩ ⟨F, T, N, O, D⟩) = q := ⟨_, rfl⟩
        have HKK : Hid (∀ W, CV W (.agg #[.int .i64 ZF, .int .i64 ZT, .int .i64 ZN, .int .i64 ZO, .slice za zm zc]) ⟨ZF, ZT, ZN, ZO, ZD⟩ → CV W (.agg #[.int .i64 F, .int .i64 T, .int .i64 N, .int .i64 O, .slice xa xm xc]) ⟨F, T, N, O, D⟩ → Calls Tryz.prog 117 #[.agg #[.int .i64 ZF, .int .i64 ZT, .int .i64 ZN, .int .i64 ZO, .slice za zm zc], .agg #[.int .i64 F, .int .i64 T, .int .i64 N, .int .i64 O, .slice xa xm xc]] W fun e w' => e = .returned (.bool q) ∧ Below W.heap.size W w') := by
         show ∀ W, _; intro W h1 h2; have := kinC_any _ _ _ _ W h1 h2
         rwa [hq] at this
        have HQ := LH hq; clear hcs z0 z1 z2 z3 z4 z5 zI hzz hq k0 k1 k2 k3 k4; go_wp2_with fail; refine wp_region_quiet (C := fun W => KinW W2 b off B ⟨ZF, ZT, ZN, ZO, ZD⟩ ⟨F, T, N, O, D⟩ za zm zc xa xm xc W) (by kernel_rfl) (by kernel_rfl) (HW.out.later (Below.refl _ _).drew) ?_; dsimp only
        repeat (first
         | go_big_quiet_skip
         | (go_big_quiet_want
            first
             | (go_big_quiet_op
                go_big_quiet_on)
             | (unfold Oper.quiet
                apply Exists.intro; refine ⟨fun W9 hW9 => ?_, ?_⟩
                · obtain ⟨c0, c1, c2, c3, c4, d0, d1, d2, d3, d4⟩ := hW9.cells
                  simp only at c0 c1 c2 c3 c4 d0 d1 d2 d3 d4; go_simp
                  first
                   | with_reducible rfl
                   | (go_at_call 117; exact (HKK.out _ hW9.cx hW9.cy).mono (fun _ _ h => ⟨h.1, hW9.later h.2⟩))
                simp only [Act.put, sA, sB, sC]
                go_big_quiet_on)))
        refine wpQuiet_nil ?_; intro W9 hW9; go_wp2_with fail; go_meet; refine ⟨_, rfl, ?_, hW9.below⟩
        cases q with
        | true => exact .inr ⟨rfl, HTh.out.1 (of_decide_eq_true HQ.out)⟩
        | false => exact .inl ⟨rfl, HTh.out.2 (of_decide_eq_false HQ.out)⟩
     case rest =>
      obtain ⟨qb, rfl, hqb, hbw⟩ := hcut; have H7 := LH (H2.out.later hbw); clear hbw k0 k1 k2 k3 k4 H2 HCV2; generalize wc = W7 at H7 ⊢; obtain ⟨k0, k1, k2, k3, k4⟩ := H7.out.cells; simp only at k0 k1 k2 k3 k4; rcases hqb with ⟨rfl, hth⟩ | ⟨rfl, hth⟩
      · have HTh := LH hth
        clear hth; have hba : Below W7.heap.size W7 (W7.alloc (.cells #[.int .i64 F, .int .i64 T, .int .i64 N, .int .i64 O, .slice xa xm xc] 39)) := (Below.refl _ _).alloc (Nat.le_refl _) _; have H8 := H7.out.later hba; have HCp := LH (copied_len (some ⟨W7.heap.size, 0, none⟩) 1 1 [⟨F, T, N, O, D⟩] rfl (by omega) (by intro y hy; simp at hy; rw [hy]; simp only; omega) _ (H8.lit HI.out (Q := W7.heap.size) (by rw [hpA, if_pos rfl]))); have HB8 := LH H8.below; clear H8 hba; go_wp2_with fail; refine HCp.out.mono ?_; rintro e W9 ⟨a9, c9, rfl, hcp, b9⟩; have HCS := LH ((hcp.newR.mono HB8.out.size).imp (fun _ q => q.cs rfl)); have HB9 := LH (bTh HB8.out b9); clear hcp b9; go_wp2_with fail; go_ret2; exact ⟨a9, 1, c9, zbd (by rw [HK.out]), by rw [HK.out, HTh.out]; exact HCS.out, HB9.out⟩
      · have HTh := LH hth
        clear hth; have HCpl := LH (copied_len a n c l HLn.out (by omega) HDat.out); have hmf : ∀ (fn : Fn) (first cap : Array Value) (w : World), (Instr.makeFunc fn first cap).run Tryz.prog w = .ok (.func fn first cap) w := fun _ _ _ _ => rfl; have HAt := LH (atC_any a n c l B N _ H7.out.cs k2); go_wp2_with fail; refine HAt.out.mono ?_; rintro e W8 ⟨at_, rfl, hat, b8⟩; have H8 := LH (H7.out.later b8); clear b8 H7 HAt k0 k1 k2 k3 k4; obtain ⟨k0, k1, k2, k3, k4⟩ := H8.out.cells; simp only at k0 k1 k2 k3 k4; rcases hat with ⟨rfl, hno⟩ | ⟨k, rfl, hk, hge, hlo⟩
        · have HIns : Hid (ChunkM.ins l ⟨F, T, N, O, D⟩ = l.take n ++ ⟨F, T, N, O, D⟩ :: l.drop n) := by
           show _ = _; have := ChunkM.ins_last (c := ⟨F, T, N, O, D⟩) hno
           rwa [HLn.out] at this
          have hnn : n ≤ n := Nat.le_refl n; clear hno; go_wp2_with fail; have hba0 : Below W8.heap.size W8 (W8.alloc (.cells #[.int .i64 F, .int .i64 T, .int .i64 N, .int .i64 O, .slice xa xm xc] 39)) := (Below.refl _ _).alloc (Nat.le_refl _) _; have HA1 := LH (H8.out.later (Below.refl _ _).drew); have HA2 := LH ((H8.out.later hba0).later (Below.refl _ _).drew)
          have HQ2 : Hid ((W8.alloc (.cells #[.int .i64 F, .int .i64 T, .int .i64 N, .int .i64 O, .slice xa xm xc] 39)).drew.heap[W8.heap.size]? = some (.cells #[.int .i64 F, .int .i64 T, .int .i64 N, .int .i64 O, .slice xa xm xc] 39 (0, 0))) := by
           show (W8.alloc (.cells #[.int .i64 F, .int .i64 T, .int .i64 N, .int .i64 O, .slice xa xm xc] 39)).heap[W8.heap.size]? = _; rw [hpA, if_pos rfl]
          have HCo : Hid (∀ Q W, CS W (some ⟨Q, 0, none⟩) 1 1 [⟨F, T, N, O, D⟩] → Calls Tryz.prog 135 #[.slice (some ⟨Q, 0, none⟩) 1 1] W fun e w' => ∃ a' c', e = .returned (.slice a' 1 c') ∧ CpSt W.heap.size (.slice a' 1 c') [⟨F, T, N, O, D⟩] w' ∧ Below W.heap.size W w') :=
           fun Q W => copied_len (some ⟨Q, 0, none⟩) 1 1 [⟨F, T, N, O, D⟩] rfl (by omega) (by intro y hy; simp at hy; rw [hy]; simp only; omega) W
          have hn9 : n ≤ 1000 := by omega
          obtain ⟨o0, o1, o2, o3, o4⟩ := HA2.out.cells; simp only at o0 o1 o2 o3 o4; clear hba0
          go_region_held3 (fun W => W.cell? ⟨B, 0, none⟩ = some (.int .i64 F) ∧ W.cell? ⟨B, 1, none⟩ = some (.int .i64 T) ∧ W.cell? ⟨B, 2, none⟩ = some (.int .i64 N) ∧ W.cell? ⟨B, 3, none⟩ = some (.int .i64 O) ∧ W.cell? ⟨B, 4, none⟩ = some (.slice xa xm xc))
           (first | exact ⟨k0, k1, k2, k3, k4⟩ | exact ⟨o0, o1, o2, o3, o4⟩ | exact ⟨p0, p1, p2, p3, p4⟩ | exact ⟨q0, q1, q2, q3, q4⟩ | exact ⟨r0, r1, r2, r3, r4⟩ | exact ⟨t0, t1, t2, t3, t4⟩ | go_keep) (first
           | (go_at_call 138; (with_reducible refine HFA.out.mono ?_); rintro e W7 ⟨a7, c7, rfl, hcs7, hb7, hk7⟩
              have hz7 := HZ6.out; obtain ⟨t0, t1, t2, t3, t4⟩ := zbx ((hk7 B (zax hz7.1.blk) hz7.2).trans hz7.1.blk); have HCS7 := LH hcs7; have HB7 := LH hb7
              clear hcs7 hb7 hk7 hz7)
           | (go_at_call 135; (with_reducible refine (HCpl.out _ HA1.out.cs).mono ?_); rintro e W4 ⟨a1, c1, rfl, hcp, da⟩
              have HA4 := LH (HA1.out.later da); obtain ⟨p0, p1, p2, p3, p4⟩ := HA4.out.cells; simp only at p0 p1 p2 p3 p4; have hba : Below W4.heap.size W4 (W4.alloc (.cells #[.int .i64 F, .int .i64 T, .int .i64 N, .int .i64 O, .slice xa xm xc] 39)) := (Below.refl _ _).alloc (Nat.le_refl _) _; have HA5 := LH (HA4.out.later hba); obtain ⟨q0, q1, q2, q3, q4⟩ := HA5.out.cells; simp only at q0 q1 q2 q3 q4; have HCP5 := LH (hcp.later hba); have HLt := LH (fun g hg => hcp.own (g := g) hg); have HSz := LH da.size; have HLit := LH (HA5.out.lit HI.out (Q := W4.heap.size) (by rw [hpA, if_pos rfl]))
              clear hba hcp da)
           | (go_at_call 135; (with_reducible refine (HCo.out _ _ HLit.out).mono ?_); rintro e W6 ⟨a2, c2, rfl, hcp2, db⟩
              have HA6 := HA5.out.later db; obtain ⟨r0, r1, r2, r3, r4⟩ := HA6.cells; simp only at r0 r1 r2 r3 r4; have hs5 : W4.heap.size ≤ (W4.alloc (.cells #[.int .i64 F, .int .i64 T, .int .i64 N, .int .i64 O, .slice xa xm xc] 39)).heap.size := by simp
              have HFA := LH (insFin_any HA6.below (HCP5.out.later db) HLn.out (Nat.le_trans HA1.out.below.size (Nat.le_refl _)) (Nat.le_trans HSz.out (Nat.le_trans hs5 db.size)) hcp2 HA5.out.below.size (fun g hg => Nat.lt_of_lt_of_le (HLt.out g hg).2 hs5) n hnn hn9)
              have HZ6 : Hid (AdW w B ⟨F, T, N, O, D⟩ xa xm xc a n c l W6 ∧ some B ≠ (Value.slice a1 n c1).ownBlock) := ⟨HA6, fun e => by
               have h9 := (HLt.out B e.symm).1; have h8 := zax H8.out.blk; have h7 : W8.heap.size ≤ B := h9
               omega⟩
              clear hcp2 db HA6 hs5)
           | (go_at_call 135; (with_reducible refine (HCpl.out _ HA2.out.cs).mono ?_); rintro e W4 ⟨a1, c1, rfl, hcp, da⟩
              have HA5 := LH (HA2.out.later da); obtain ⟨p0, p1, p2, p3, p4⟩ := HA5.out.cells; simp only at p0 p1 p2 p3 p4; have HCP5 := LH hcp; have HLtB := LH (fun g hg => hcp.own (g := g) hg); have HSzB := LH da.size; have HLitB := LH (HA5.out.lit HI.out (Q := W8.heap.size) ((da.block _ (zax HQ2.out)).trans HQ2.out))
              clear hcp da)
           | (go_at_call 135; (with_reducible refine (HCo.out _ _ HLitB.out).mono ?_); rintro e W6 ⟨a2, c2, rfl, hcp2, db⟩
              have HA6 := HA5.out.later db; obtain ⟨r0, r1, r2, r3, r4⟩ := HA6.cells; simp only at r0 r1 r2 r3 r4; have HFA := LH (insFin_any HA6.below (HCP5.out.later db) HLn.out HA2.out.below.size (Nat.le_trans HSzB.out db.size) hcp2 HA5.out.below.size (fun g hg => (HLtB.out g hg).2) n hnn hn9)
              have HZ6 : Hid (AdW w B ⟨F, T, N, O, D⟩ xa xm xc a n c l W6 ∧ some B ≠ (Value.slice a1 n c1).ownBlock) := ⟨HA6, fun e => by
               have h9 := (HLtB.out B e.symm).1; have h8 := zax H8.out.blk; have h7 : (W8.alloc (.cells #[.int .i64 F, .int .i64 T, .int .i64 N, .int .i64 O, .slice xa xm xc] 39)).heap.size ≤ B := h9; simp at h7
               omega⟩
              clear hcp2 db HA6))
          all_goals
           go_wp2_with fail; go_ret2; exact ⟨_, _, _, zbd (by rw [HK.out]), by rw [HK.out, HTh.out, HIns.out]; exact HCS7.out, HB7.out⟩
        · rw [HLn.out] at hk
          obtain ⟨b, off, rfl, hcs⟩ := H8.out.cs.cells (by omega); obtain ⟨ya, ym, yc, y0, y1, y2, y3, y4, -, -⟩ := hcs k hk; have HKl : Hid (k < l.length) := by show k < l.length; rw [HLn.out]; exact hk
          obtain ⟨yN, hyN⟩ : ∃ yN, (l.getD k default).n = yN := ⟨_, rfl⟩; rw [hyN] at y2 hge; have HYN := LH hyN; have HLo := LH hlo; have hk0 : (0 : Int) ≤ (k : Int) := by omega
          have hkn : (k : Int) < (n : Int) := by omega
          clear hcs y0 y1 y3 y4 hyN hlo; by_cases hyn : yN = N
          · subst hyn
            have tN : (yN == yN) = true := by simp
            have HIns : Hid (ChunkM.ins l ⟨F, T, yN, O, D⟩ = l) := ChunkM.ins_there (ChunkM.checks_up HE.out) HKl.out HYN.out; go_wp2_with fail; go_quiet (fail); have H9 := LH (H8.out.later (below_drewN (Below.refl _ _) nq)); clear H8 k0 k1 k2 k3 k4 y2; generalize W8.drewN nq = W9 at H9 ⊢; go_wp2_with fail; refine (HCpl.out _ H9.out.cs).mono ?_; rintro e W10 ⟨a9, c9, rfl, hcp, b9⟩; have HCS := LH ((hcp.newR.mono H9.out.below.size).imp (fun _ q => q.cs HLn.out)); have HB9 := LH (bTh H9.out.below b9); clear hcp b9; go_wp2_with fail; go_ret2; exact ⟨a9, n, c9, zbd (by rw [HK.out]), by rw [HK.out, HTh.out, HIns.out]; exact HCS.out, HB9.out⟩
          · have tN : (yN == N) = false := by simp [hyn]
            have HIns : Hid (ChunkM.ins l ⟨F, T, N, O, D⟩ = l.take k ++ ⟨F, T, N, O, D⟩ :: l.drop k) := ChunkM.ins_at (c := ⟨F, T, N, O, D⟩) (Nat.le_of_lt HKl.out) HLo.out (fun _ => by rw [HYN.out]; simp only; omega); have hnn : k ≤ n := by omega
            go_wp2_with fail; go_quiet (fail); have H9 := LH (H8.out.later (below_drewN (Below.refl _ _) nq)); clear H8 k0 k1 k2 k3 k4 y2; generalize W8.drewN nq = W8 at H9 ⊢; have H8 := H9; clear H9; obtain ⟨k0, k1, k2, k3, k4⟩ := H8.out.cells; simp only at k0 k1 k2 k3 k4; go_wp2_with fail; have hba0 : Below W8.heap.size W8 (W8.alloc (.cells #[.int .i64 F, .int .i64 T, .int .i64 N, .int .i64 O, .slice xa xm xc] 39)) := (Below.refl _ _).alloc (Nat.le_refl _) _; have HA1 := LH (H8.out.later (Below.refl _ _).drew); have HA2 := LH ((H8.out.later hba0).later (Below.refl _ _).drew)
            have HQ2 : Hid ((W8.alloc (.cells #[.int .i64 F, .int .i64 T, .int .i64 N, .int .i64 O, .slice xa xm xc] 39)).drew.heap[W8.heap.size]? = some (.cells #[.int .i64 F, .int .i64 T, .int .i64 N, .int .i64 O, .slice xa xm xc] 39 (0, 0))) := by
             show (W8.alloc (.cells #[.int .i64 F, .int .i64 T, .int .i64 N, .int .i64 O, .slice xa xm xc] 39)).heap[W8.heap.size]? = _; rw [hpA, if_pos rfl]
            have HCo : Hid (∀ Q W, CS W (some ⟨Q, 0, none⟩) 1 1 [⟨F, T, N, O, D⟩] → Calls Tryz.prog 135 #[.slice (some ⟨Q, 0, none⟩) 1 1] W fun e w' => ∃ a' c', e = .returned (.slice a' 1 c') ∧ CpSt W.heap.size (.slice a' 1 c') [⟨F, T, N, O, D⟩] w' ∧ Below W.heap.size W w') :=
             fun Q W => copied_len (some ⟨Q, 0, none⟩) 1 1 [⟨F, T, N, O, D⟩] rfl (by omega) (by intro y hy; simp at hy; rw [hy]; simp only; omega) W
            have hn9 : n ≤ 1000 := by omega
            obtain ⟨o0, o1, o2, o3, o4⟩ := HA2.out.cells; simp only at o0 o1 o2 o3 o4; clear hba0
            go_region_held3 (fun W => W.cell? ⟨B, 0, none⟩ = some (.int .i64 F) ∧ W.cell? ⟨B, 1, none⟩ = some (.int .i64 T) ∧ W.cell? ⟨B, 2, none⟩ = some (.int .i64 N) ∧ W.cell? ⟨B, 3, none⟩ = some (.int .i64 O) ∧ W.cell? ⟨B, 4, none⟩ = some (.slice xa xm xc))
             (first | exact ⟨k0, k1, k2, k3, k4⟩ | exact ⟨o0, o1, o2, o3, o4⟩ | exact ⟨p0, p1, p2, p3, p4⟩ | exact ⟨q0, q1, q2, q3, q4⟩ | exact ⟨r0, r1, r2, r3, r4⟩ | exact ⟨t0, t1, t2, t3, t4⟩ | go_keep) (first
             | (go_at_call 138; (with_reducible refine HFA.out.mono ?_); rintro e W7 ⟨a7, c7, rfl, hcs7, hb7, hk7⟩
                have hz7 := HZ6.out; obtain ⟨t0, t1, t2, t3, t4⟩ := zbx ((hk7 B (zax hz7.1.blk) hz7.2).trans hz7.1.blk); have HCS7 := LH hcs7; have HB7 := LH hb7
                clear hcs7 hb7 hk7 hz7)
             | (go_at_call 135; (with_reducible refine (HCpl.out _ HA1.out.cs).mono ?_); rintro e W4 ⟨a1, c1, rfl, hcp, da⟩
                have HA4 := LH (HA1.out.later da); obtain ⟨p0, p1, p2, p3, p4⟩ := HA4.out.cells; simp only at p0 p1 p2 p3 p4; have hba : Below W4.heap.size W4 (W4.alloc (.cells #[.int .i64 F, .int .i64 T, .int .i64 N, .int .i64 O, .slice xa xm xc] 39)) := (Below.refl _ _).alloc (Nat.le_refl _) _; have HA5 := LH (HA4.out.later hba); obtain ⟨q0, q1, q2, q3, q4⟩ := HA5.out.cells; simp only at q0 q1 q2 q3 q4; have HCP5 := LH (hcp.later hba); have HLt := LH (fun g hg => hcp.own (g := g) hg); have HSz := LH da.size; have HLit := LH (HA5.out.lit HI.out (Q := W4.heap.size) (by rw [hpA, if_pos rfl]))
                clear hba hcp da)
             | (go_at_call 135; (with_reducible refine (HCo.out _ _ HLit.out).mono ?_); rintro e W6 ⟨a2, c2, rfl, hcp2, db⟩
                have HA6 := HA5.out.later db; obtain ⟨r0, r1, r2, r3, r4⟩ := HA6.cells; simp only at r0 r1 r2 r3 r4; have hs5 : W4.heap.size ≤ (W4.alloc (.cells #[.int .i64 F, .int .i64 T, .int .i64 N, .int .i64 O, .slice xa xm xc] 39)).heap.size := by simp
                have HFA := LH (insFin_any HA6.below (HCP5.out.later db) HLn.out (Nat.le_trans HA1.out.below.size (Nat.le_refl _)) (Nat.le_trans HSz.out (Nat.le_trans hs5 db.size)) hcp2 HA5.out.below.size (fun g hg => Nat.lt_of_lt_of_le (HLt.out g hg).2 hs5) k hnn hn9)
                have HZ6 : Hid (AdW w B ⟨F, T, N, O, D⟩ xa xm xc (some ⟨b, off, none⟩) n c l W6 ∧ some B ≠ (Value.slice a1 n c1).ownBlock) := ⟨HA6, fun e => by
                 have h9 := (HLt.out B e.symm).1; have h8 := zax H8.out.blk; have h7 : W8.heap.size ≤ B := h9
                 omega⟩
                clear hcp2 db HA6 hs5)
             | (go_at_call 135; (with_reducible refine (HCpl.out _ HA2.out.cs).mono ?_); rintro e W4 ⟨a1, c1, rfl, hcp, da⟩
                have HA5 := LH (HA2.out.later da); obtain ⟨p0, p1, p2, p3, p4⟩ := HA5.out.cells; simp only at p0 p1 p2 p3 p4; have HCP5 := LH hcp; have HLtB := LH (fun g hg => hcp.own (g := g) hg); have HSzB := LH da.size; have HLitB := LH (HA5.out.lit HI.out (Q := W8.heap.size) ((da.block _ (zax HQ2.out)).trans HQ2.out))
                clear hcp da)
             | (go_at_call 135; (with_reducible refine (HCo.out _ _ HLitB.out).mono ?_); rintro e W6 ⟨a2, c2, rfl, hcp2, db⟩
                have HA6 := HA5.out.later db; obtain ⟨r0, r1, r2, r3, r4⟩ := HA6.cells; simp only at r0 r1 r2 r3 r4; have HFA := LH (insFin_any HA6.below (HCP5.out.later db) HLn.out HA2.out.below.size (Nat.le_trans HSzB.out db.size) hcp2 HA5.out.below.size (fun g hg => (HLtB.out g hg).2) k hnn hn9)
                have HZ6 : Hid (AdW w B ⟨F, T, N, O, D⟩ xa xm xc (some ⟨b, off, none⟩) n c l W6 ∧ some B ≠ (Value.slice a1 n c1).ownBlock) := ⟨HA6, fun e => by
                 have h9 := (HLtB.out B e.symm).1; have h8 := zax H8.out.blk; have h7 : (W8.alloc (.cells #[.int .i64 F, .int .i64 T, .int .i64 N, .int .i64 O, .slice xa xm xc] 39)).heap.size ≤ B := h9; simp at h7
                 omega⟩
                clear hcp2 db HA6))
            all_goals
             go_wp2_with fail; go_ret2; exact ⟨_, _, _, zbd (by rw [HK.out]), by rw [HK.out, HTh.out, HIns.out]; exact HCS7.out, HB7.out⟩
   · have t0 : (E2 != 0) = true := by simp [hE20]
     have HK : Hid (ChunkM.addOf l ⟨F, T, N, O, D⟩ = ([], E2)) := by
      show _ = _; unfold ChunkM.addOf; rw [if_neg (by rw [HE.out]; simp), if_pos (by rw [hE2]; exact hE20), hE2]
     clear hE2; go_wp2_with fail; go_ret2; exact ⟨none, 0, 0, zbd (by rw [HK.out]), by rw [HK.out]; exact NewR.any (fun V => CS.nil_ V), H2.out.below⟩
 · have t0 : (E != 0) = true := by simp [hE0]
   have HK : Hid (ChunkM.addOf l ⟨F, T, N, O, D⟩ = ([], E)) := by
    show _ = _; unfold ChunkM.addOf; rw [if_pos (by rw [hE]; exact hE0), hE]
   clear hE; go_wp2_with fail; go_ret2; exact ⟨none, 0, 0, zbd (by rw [HK.out]), by rw [HK.out]; exact NewR.any (fun V => CS.nil_ V), H1.out.below⟩
theorem put_got (h : DevH) (d : DevR) (ga : Option Addr) (gn gc : Nat) (l : List ChR) : (dvC h d).setIfInBounds 28 (.slice ga gn gc) = dvC { h with ga := ga, gn := gn, gc := gc } { d with got := l } := by kernel_rfl
theorem hearD_bad (h : DevH) (d : DevR) (x : ChR) (xa : Option Addr) (xm xc : Nat) (w : World) (HD : DH w h d) (E : Int) (h0 : E ≠ 0) (HBg : Hid (∀ W, DH W h d → Calls Tryz.prog 74 #[.agg (dvC h d), .bool true] W fun e w' => e = .returned (.tuple #[.agg (rcC RecM.noRec), .int .i64 E]) ∧ Below W.heap.size W w')) : Calls Tryz.prog 19 #[devV h d, .agg #[.int .i64 x.fr, .int .i64 x.to_, .int .i64 x.n, .int .i64 x.of_, .slice xa xm xc]] w (GDv (DevM.noDev, E) w) := by
 have t0 : (E != 0) = true := by simp [h0]
 have HDh := LH HD; clear HD; unfold devV; obtain ⟨P1, hP1⟩ : ∃ P, w.heap.size = P := ⟨_, rfl⟩; have HS := LH (((((((MS.start w).alloc (p := P1) (by simp [hP1]) (dvC h d) 37)).alloc (p := (P1 + 1)) (by simp [hP1]) #[.int .i64 x.fr, .int .i64 x.to_, .int .i64 x.n, .int .i64 x.of_, .slice xa xm xc] 39)).alloc (p := (P1 + 2)) (by simp [hP1]) zDev 37)); go_enter Tryz.func19, Tryz.ntmps19; go_upto_region 1 with fail; refine zau HS.out (fun V0 HS1 => ?_); replace HS := LH HS1; clear HS1 hP1; replace HS := LH (MH.of HS.out); have bP1 := HS.out.gt 2 rfl
 go_wp2_with (first
  | (refine wpList_load_row rfl 37 (.tmp 2) rfl P1 rfl 37 (dvC h d) (0, 0) _ bP1 U37 rfl (sDv h d) ?_))
 clear bP1; refine (HBg.out _ (HDh.out.later HS.out.below)).mono ?_; rintro e W1 ⟨rfl, hb⟩; replace HS := LH (HS.out.later hb); clear hb; obtain ⟨P3, hP3⟩ : ∃ P, W1.heap.size = P := ⟨_, rfl⟩; replace HS := LH (HS.out.alloc hP3 (rcC RecM.noRec) 28); go_upto_region 2 with (refine wSN rfl 28 (.tmp 6) (.tmp 13) rfl P3 (rcC RecM.noRec) rfl rfl 28 _ hP3.symm (sRc RecM.noRec) (lRc RecM.noRec) (oRc RecM.noRec) ?_); refine gnH HS.out (fun V1 HS1 => ?_); replace HS := LH HS1; clear HS1 hP3; have bP1p2 := HS.out.gt 1 rfl; have HG := LH (HS.out.set 1 rfl zDev)
 go_wp2_with (first
  | (refine wpList_store_row rfl 37 (.tmp 4) (.tmp 17) rfl (P1 + 2) zDev rfl rfl 37 _ bP1p2 zac zav zaq ?_))
 clear bP1p2; refine bodyPost_ret (v := .tuple #[.agg zDev, .int .i64 E]) ?_ rfl ?_
 · exact zam (fn := Tryz.f19) (p := 4) (a := 5) rfl rfl rfl (HG.out.get 1 rfl) U37 rfl zac
 · exact GDv.bad HG.out.below
theorem hearD_busy (h : DevH) (d : DevR) (x : ChR) (xa : Option Addr) (xm xc : Nat) (w : World) (HD : DH w h d) (HBg : Hid (∀ W, DH W h d → Calls Tryz.prog 74 #[.agg (dvC h d), .bool true] W fun e w' => e = .returned (.tuple #[.agg (rcC (DevM.rc d)), .int .i64 0]) ∧ Below W.heap.size W w')) (hok : DevM.Ok d) (hu : d.up = true) (hbu : d.busy = true) : Calls Tryz.prog 19 #[devV h d, .agg #[.int .i64 x.fr, .int .i64 x.to_, .int .i64 x.n, .int .i64 x.of_, .slice xa xm xc]] w (GDv (DevM.noDev, 5) w) := by
 have _hk := hok; have _hv := hu; clear _hk _hv; clear hok hu; have HDh := LH HD; clear HD; unfold devV; obtain ⟨P1, hP1⟩ : ∃ P, w.heap.size = P := ⟨_, rfl⟩; have HS := LH (((((((MS.start w).alloc (p := P1) (by simp [hP1]) (dvC h d) 37)).alloc (p := (P1 + 1)) (by simp [hP1]) #[.int .i64 x.fr, .int .i64 x.to_, .int .i64 x.n, .int .i64 x.of_, .slice xa xm xc] 39)).alloc (p := (P1 + 2)) (by simp [hP1]) zDev 37)); go_enter Tryz.func19, Tryz.ntmps19; go_upto_region 1 with fail; refine zau HS.out (fun V0 HS1 => ?_); replace HS := LH HS1; clear HS1 hP1; replace HS := LH (MH.of HS.out); have bP1 := HS.out.gt 2 rfl
 go_wp2_with (first
  | (refine wpList_load_row rfl 37 (.tmp 2) rfl P1 rfl 37 (dvC h d) (0, 0) _ bP1 U37 rfl (sDv h d) ?_))
 clear bP1; refine (HBg.out _ (HDh.out.later HS.out.below)).mono ?_; rintro e W1 ⟨rfl, hb⟩; replace HS := LH (HS.out.later hb); clear hb; obtain ⟨P3, hP3⟩ : ∃ P, W1.heap.size = P := ⟨_, rfl⟩; replace HS := LH (HS.out.alloc hP3 (rcC (DevM.rc d)) 28); go_upto_region 2 with (refine wSN rfl 28 (.tmp 6) (.tmp 13) rfl P3 (rcC (DevM.rc d)) rfl rfl 28 _ hP3.symm (sRc (DevM.rc d)) (lRc (DevM.rc d)) (oRc (DevM.rc d)) ?_); refine gnH HS.out (fun V1 HS1 => ?_); replace HS := LH HS1; clear HS1 hP3; have cP1_29 := HS.out.cel 3 29 (v := .bool d.busy) rfl rfl; rw [hbu] at cP1_29; clear hbu; have bP1p2 := HS.out.gt 1 rfl; have HG := LH (HS.out.set 1 rfl zDev)
 go_wp2_with (first
  | (refine wpList_store_row rfl 37 (.tmp 4) (.tmp 21) rfl (P1 + 2) zDev rfl rfl 37 _ bP1p2 zac zav zaq ?_))
 clear cP1_29 bP1p2; refine bodyPost_ret (v := .tuple #[.agg zDev, .int .i64 5]) ?_ rfl ?_
 · exact zam (fn := Tryz.f19) (p := 4) (a := 5) rfl rfl rfl (HG.out.get 1 rfl) U37 rfl zac
 · exact GDv.bad HG.out.below
theorem hearD_err (h : DevH) (d : DevR) (x : ChR) (xa : Option Addr) (xm xc : Nat) (w : World) (HD : DH w h d) (HX : CV w (.agg #[.int .i64 x.fr, .int .i64 x.to_, .int .i64 x.n, .int .i64 x.of_, .slice xa xm xc]) x) (HBg : Hid (∀ W, DH W h d → Calls Tryz.prog 74 #[.agg (dvC h d), .bool true] W fun e w' => e = .returned (.tuple #[.agg (rcC (DevM.rc d)), .int .i64 0]) ∧ Below W.heap.size W w')) (hok : DevM.Ok d) (hu : d.up = true) (hbu : d.busy = false) (l : List ChR) (E : Int) (hA : ChunkM.addOf d.got x = (l, E)) (hE : E ≠ 0) : Calls Tryz.prog 19 #[devV h d, .agg #[.int .i64 x.fr, .int .i64 x.to_, .int .i64 x.n, .int .i64 x.of_, .slice xa xm xc]] w (GDv (DevM.noDev, E) w) := by
 have _hk := hok; have _hv := hu; clear _hk _hv
 have HAd : Hid (∀ W, DH W h d → CV W (.agg #[.int .i64 x.fr, .int .i64 x.to_, .int .i64 x.n, .int .i64 x.of_, .slice xa xm xc]) x → Calls Tryz.prog 75 #[.slice h.ga h.gn h.gc, .agg #[.int .i64 x.fr, .int .i64 x.to_, .int .i64 x.n, .int .i64 x.of_, .slice xa xm xc]] W fun e w' => ∃ a n c, e = .returned (.tuple #[.slice a n c, .int .i64 E]) ∧ NewR W.heap.size w' (fun V => CS V a n c l) ∧ Below W.heap.size W w') := fun W y z => by
  have := addC_n _ _ _ d.got _ x W y.got z; unfold GivesAdN at this; rw [hA] at this; exact this
 have HXh := LH HX; clear hA HX; have t1 : (E != 0) = true := by simp [hE]
 clear hok hu hE; have HDh := LH HD; clear HD; unfold devV; obtain ⟨P1, hP1⟩ : ∃ P, w.heap.size = P := ⟨_, rfl⟩; have HS := LH (((((((MS.start w).alloc (p := P1) (by simp [hP1]) (dvC h d) 37)).alloc (p := (P1 + 1)) (by simp [hP1]) #[.int .i64 x.fr, .int .i64 x.to_, .int .i64 x.n, .int .i64 x.of_, .slice xa xm xc] 39)).alloc (p := (P1 + 2)) (by simp [hP1]) zDev 37)); go_enter Tryz.func19, Tryz.ntmps19; go_upto_region 1 with fail; refine zau HS.out (fun V0 HS1 => ?_); replace HS := LH HS1; clear HS1 hP1; replace HS := LH (MH.of HS.out); have bP1 := HS.out.gt 2 rfl
 go_wp2_with (first
  | (refine wpList_load_row rfl 37 (.tmp 2) rfl P1 rfl 37 (dvC h d) (0, 0) _ bP1 U37 rfl (sDv h d) ?_))
 clear bP1; refine (HBg.out _ (HDh.out.later HS.out.below)).mono ?_; rintro e W1 ⟨rfl, hb⟩; replace HS := LH (HS.out.later hb); clear hb; obtain ⟨P3, hP3⟩ : ∃ P, W1.heap.size = P := ⟨_, rfl⟩; replace HS := LH (HS.out.alloc hP3 (rcC (DevM.rc d)) 28); go_upto_region 2 with (refine wSN rfl 28 (.tmp 6) (.tmp 13) rfl P3 (rcC (DevM.rc d)) rfl rfl 28 _ hP3.symm (sRc (DevM.rc d)) (lRc (DevM.rc d)) (oRc (DevM.rc d)) ?_); refine gnH HS.out (fun V1 HS1 => ?_); replace HS := LH HS1; clear HS1 hP3; have cP1_29 := HS.out.cel 3 29 (v := .bool d.busy) rfl rfl; rw [hbu] at cP1_29; clear hbu; have cP1_28 := HS.out.cel 3 28 (v := .slice h.ga h.gn h.gc) rfl rfl; have cP1p1_0 := HS.out.cel 2 0 (v := .int .i64 x.fr) rfl rfl; have cP1p1_1 := HS.out.cel 2 1 (v := .int .i64 x.to_) rfl rfl; have cP1p1_2 := HS.out.cel 2 2 (v := .int .i64 x.n) rfl rfl; have cP1p1_3 := HS.out.cel 2 3 (v := .int .i64 x.of_) rfl rfl; have cP1p1_4 := HS.out.cel 2 4 (v := .slice xa xm xc) rfl rfl; go_wp2_with fail; clear cP1_29 cP1_28 cP1p1_0 cP1p1_1 cP1p1_2 cP1p1_3 cP1p1_4; refine (HAd.out _ (HDh.out.later HS.out.below) (HXh.out.later HS.out.below)).mono ?_; rintro e W5 ⟨na, nn, nc, rfl, hn, hb⟩; replace HS := LH (HS.out.gain hb hn); clear hb hn; have bP1p2 := HS.out.gt 1 rfl; have HG := LH (HS.out.set 1 rfl zDev)
 go_wp2_with (first
  | (refine wpList_store_row rfl 37 (.tmp 4) (.tmp 31) rfl (P1 + 2) zDev rfl rfl 37 _ bP1p2 zac zav zaq ?_))
 clear bP1p2; refine bodyPost_ret (v := .tuple #[.agg zDev, .int .i64 E]) ?_ rfl ?_
 · exact zam (fn := Tryz.f19) (p := 4) (a := 5) rfl rfl rfl (HG.out.get 1 rfl) U37 rfl zac
 · exact GDv.bad HG.out.below
theorem hearD_fine (h : DevH) (d : DevR) (x : ChR) (xa : Option Addr) (xm xc : Nat) (w : World) (HD : DH w h d) (HX : CV w (.agg #[.int .i64 x.fr, .int .i64 x.to_, .int .i64 x.n, .int .i64 x.of_, .slice xa xm xc]) x) (HBg : Hid (∀ W, DH W h d → Calls Tryz.prog 74 #[.agg (dvC h d), .bool true] W fun e w' => e = .returned (.tuple #[.agg (rcC (DevM.rc d)), .int .i64 0]) ∧ Below W.heap.size W w')) (hok : DevM.Ok d) (hu : d.up = true) (hbu : d.busy = false) (l : List ChR) (hA : ChunkM.addOf d.got x = (l, 0)) : Calls Tryz.prog 19 #[devV h d, .agg #[.int .i64 x.fr, .int .i64 x.to_, .int .i64 x.n, .int .i64 x.of_, .slice xa xm xc]] w (GDv ({ d with got := l }, 0) w) := by
 have _hk := hok; have _hv := hu; clear _hk _hv
 have HAd : Hid (∀ W, DH W h d → CV W (.agg #[.int .i64 x.fr, .int .i64 x.to_, .int .i64 x.n, .int .i64 x.of_, .slice xa xm xc]) x → Calls Tryz.prog 75 #[.slice h.ga h.gn h.gc, .agg #[.int .i64 x.fr, .int .i64 x.to_, .int .i64 x.n, .int .i64 x.of_, .slice xa xm xc]] W fun e w' => ∃ a n c, e = .returned (.tuple #[.slice a n c, .int .i64 0]) ∧ NewR W.heap.size w' (fun V => CS V a n c l) ∧ Below W.heap.size W w') := fun W y z => by
  have := addC_n _ _ _ d.got _ x W y.got z; unfold GivesAdN at this; rw [hA] at this; exact this
 have HXh := LH HX; clear hA HX; have HCy := LH (fun W (x : DH W h d) => za3 h d W x (DevM.few_of hok)); unfold devV at HCy; clear hok hu; have HDh := LH HD; clear HD; unfold devV; obtain ⟨P1, hP1⟩ : ∃ P, w.heap.size = P := ⟨_, rfl⟩; have HS := LH (((((((MS.start w).alloc (p := P1) (by simp [hP1]) (dvC h d) 37)).alloc (p := (P1 + 1)) (by simp [hP1]) #[.int .i64 x.fr, .int .i64 x.to_, .int .i64 x.n, .int .i64 x.of_, .slice xa xm xc] 39)).alloc (p := (P1 + 2)) (by simp [hP1]) zDev 37)); go_enter Tryz.func19, Tryz.ntmps19; go_upto_region 1 with fail; refine zau HS.out (fun V0 HS1 => ?_); replace HS := LH HS1; clear HS1 hP1; replace HS := LH (MH.of HS.out); have bP1 := HS.out.gt 2 rfl
 go_wp2_with (first
  | (refine wpList_load_row rfl 37 (.tmp 2) rfl P1 rfl 37 (dvC h d) (0, 0) _ bP1 U37 rfl (sDv h d) ?_))
 clear bP1; refine (HBg.out _ (HDh.out.later HS.out.below)).mono ?_; rintro e W1 ⟨rfl, hb⟩; replace HS := LH (HS.out.later hb); clear hb; obtain ⟨P3, hP3⟩ : ∃ P, W1.heap.size = P := ⟨_, rfl⟩; replace HS := LH (HS.out.alloc hP3 (rcC (DevM.rc d)) 28); go_upto_region 2 with (refine wSN rfl 28 (.tmp 6) (.tmp 13) rfl P3 (rcC (DevM.rc d)) rfl rfl 28 _ hP3.symm (sRc (DevM.rc d)) (lRc (DevM.rc d)) (oRc (DevM.rc d)) ?_); refine gnH HS.out (fun V1 HS1 => ?_); replace HS := LH HS1; clear HS1 hP3; have cP1_29 := HS.out.cel 3 29 (v := .bool d.busy) rfl rfl; rw [hbu] at cP1_29; clear hbu; have cP1_28 := HS.out.cel 3 28 (v := .slice h.ga h.gn h.gc) rfl rfl; have cP1p1_0 := HS.out.cel 2 0 (v := .int .i64 x.fr) rfl rfl; have cP1p1_1 := HS.out.cel 2 1 (v := .int .i64 x.to_) rfl rfl; have cP1p1_2 := HS.out.cel 2 2 (v := .int .i64 x.n) rfl rfl; have cP1p1_3 := HS.out.cel 2 3 (v := .int .i64 x.of_) rfl rfl; have cP1p1_4 := HS.out.cel 2 4 (v := .slice xa xm xc) rfl rfl; go_wp2_with fail; clear cP1_29 cP1_28 cP1p1_0 cP1p1_1 cP1p1_2 cP1p1_3 cP1p1_4; refine (HAd.out _ (HDh.out.later HS.out.below) (HXh.out.later HS.out.below)).mono ?_; rintro e W5 ⟨na, nn, nc, rfl, hn, hb⟩; replace HS := LH (HS.out.gain hb hn); clear hb hn; have bP1 := HS.out.gt 3 rfl
 go_wp2_with (first
  | (refine wpList_load_row rfl 37 (.tmp 2) rfl P1 rfl 37 (dvC h d) (0, 0) _ bP1 U37 rfl (sDv h d) ?_))
 clear bP1; refine (HCy.out _ (HDh.out.later HS.out.below)).mono ?_; rintro e W6 ⟨h', rfl, hb, hn, -, -⟩; replace HS := LH (HS.out.gain hb hn); clear hb hn; unfold devV; have HS2 := LH (HS.out.set 3 rfl (dvC h' d)); have bP1 := HS.out.gt 3 rfl
 go_upto_region 10 with (first
  | (refine wpList_store_row rfl 37 (.tmp 2) (.tmp 34) rfl P1 (dvC h' d) rfl rfl 37 _ bP1 (sDv h' d) (lDv h h' d d) (oDv h' d) ?_))
 clear bP1; refine gnH HS2.out (fun V3 HS1 => ?_); replace HS := LH HS1; clear HS1 HS2; have cP1_28 := HS.out.cel 3 28 (v := .slice h'.ga h'.gn h'.gc) rfl rfl; have fP1_28 := HS.out.thw 3 28 rfl; have HS2 := LH (HS.out.cell 3 rfl (put_got h' d na nn nc l)); go_upto_region 11 with fail; clear cP1_28 fP1_28; refine gnH HS2.out (fun V4 HS1 => ?_); replace HS := LH HS1; clear HS1 HS2; have bP1 := HS.out.gt 3 rfl; have bP1p2 := HS.out.gt 1 rfl; have HG := LH (HS.out.set 1 rfl (dvC ({ h' with ga := na, gn := nn, gc := nc } : DevH) ({ d with got := l } : DevR)))
 go_wp2_with (first
  | (refine wpList_load_row rfl 37 (.tmp 2) rfl P1 rfl 37 (dvC ({ h' with ga := na, gn := nn, gc := nc } : DevH) ({ d with got := l } : DevR)) (0, 0) _ bP1 U37 rfl (sDv ({ h' with ga := na, gn := nn, gc := nc } : DevH) ({ d with got := l } : DevR)) ?_)
  | (refine wpList_store_row rfl 37 (.tmp 4) (.tmp 37) rfl (P1 + 2) (dvC ({ h' with ga := na, gn := nn, gc := nc } : DevH) ({ d with got := l } : DevR)) rfl rfl 37 _ bP1p2 (sDv ({ h' with ga := na, gn := nn, gc := nc } : DevH) ({ d with got := l } : DevR)) (zat ({ h' with ga := na, gn := nn, gc := nc } : DevH) ({ d with got := l } : DevR)) (oDv ({ h' with ga := na, gn := nn, gc := nc } : DevH) ({ d with got := l } : DevR)) ?_))
 clear bP1 bP1p2; refine bodyPost_ret (v := .tuple #[.agg (dvC ({ h' with ga := na, gn := nn, gc := nc } : DevH) ({ d with got := l } : DevR)), .int .i64 0]) ?_ rfl ?_
 · exact zam (fn := Tryz.f19) (p := 4) (a := 5) rfl rfl rfl (HG.out.get 1 rfl) U37 rfl (sDv _ _)
 · refine ⟨({ h' with ga := na, gn := nn, gc := nc } : DevH), rfl, HG.out.below, fun V v1 v2 => ?_⟩
   have k1 := HG.out.newR 0 rfl V v1 v2; have k2 := HG.out.newR 1 rfl V v1 v2; simp only at k1 k2; exact ⟨k1.b0, k1.b1, k2, k1.ops, k1.copsW, k1.runI, k1.jobI, k1.doneI⟩
theorem hearD_ok (h : DevH) (d : DevR) (x : ChR) (xa : Option Addr) (xm xc : Nat) (w : World) (HD : DH w h d) (HBg : Hid (∀ W, DH W h d → Calls Tryz.prog 74 #[.agg (dvC h d), .bool true] W fun e w' => e = .returned (.tuple #[.agg (rcC (DevM.rc d)), .int .i64 0]) ∧ Below W.heap.size W w')) (hok : DevM.Ok d) (hu : d.up = true) (HX : CV w (.agg #[.int .i64 x.fr, .int .i64 x.to_, .int .i64 x.n, .int .i64 x.of_, .slice xa xm xc]) x) : Calls Tryz.prog 19 #[devV h d, .agg #[.int .i64 x.fr, .int .i64 x.to_, .int .i64 x.n, .int .i64 x.of_, .slice xa xm xc]] w (GDv (DevM.hear d x) w) := by
 unfold DevM.hear; by_cases hbu : d.busy = true
 · rw [if_pos hbu]
   exact hearD_busy h d x xa xm xc w HD HBg hok hu hbu
 · have hbu : d.busy = false := by simpa using hbu
   obtain ⟨⟨l, E⟩, hA⟩ : ∃ r, ChunkM.addOf d.got x = r := ⟨_, rfl⟩; rw [hA]; unfold DevM.wrong; rw [if_neg (by rw [hbu]; decide)]; by_cases hE : E = 0
   · subst hE
     rw [if_neg (fun q => q rfl)]; exact hearD_fine h d x xa xm xc w HD HX HBg hok hu hbu l hA
   · rw [if_pos hE]
     exact hearD_err h d x xa xm xc w HD HX HBg hok hu hbu l E hA hE
theorem hearD_any (h : DevH) (d : DevR) (x : ChR) (xa : Option Addr) (xm xc : Nat) (w : World) (HD : DH w h d) (HX : CV w (.agg #[.int .i64 x.fr, .int .i64 x.to_, .int .i64 x.n, .int .i64 x.of_, .slice xa xm xc]) x) : Calls Tryz.prog 19 #[devV h d, .agg #[.int .i64 x.fr, .int .i64 x.to_, .int .i64 x.n, .int .i64 x.of_, .slice xa xm xc]] w (GDv (DevM.told d true (DevM.hear d x)) w) := by
 have HBg := fun W (x : DH W h d) => zbn zbF h d true W x; unfold devV at HBg; rcases DevM.beg_cases d true with ⟨E, h0, hb, ht⟩ | ⟨hok, hu, hb, ht⟩
 · rw [ht]
   rw [hb] at HBg; exact hearD_bad h d x xa xm xc w HD E h0 (LH HBg)
 · rw [ht]
   rw [hb] at HBg; exact hearD_ok h d x xa xm xc w HD (LH HBg) hok hu HX
end Go.Proofs.YtnnmpoknghbdnacGreat
