/-
  Texts put into one: DvUp, DvSame, DvOff, DvCheck, DvNew, RfFresh, RfNew, RfImg, RfChk, RfCps, CheckCh, PatDone, ImgDone, RfDevA, DvFin, JoinL, PackRes.
-/
import Derived.Test.YtnnmpoknghbdnacGreatPatLToPSame
import Derived.Test.YtnnmpoknghbdnacGreatRowToChSt
import Derived.Deep.DeepCutAuto
import Derived.Test.YtnnmpoknghbdnacGreatCopyStToDifThree
import Derived.BigQuiet
import Derived.Deep.QuietTactic
import Derived.Deep.Cut
set_option maxRecDepth 100000
set_option maxHeartbeats 4000000
namespace Go.Proofs.YtnnmpoknghbdnacGreat
open Go.RowKit
namespace DevM
def upE (d : DevR) (r : RecR) : Int :=
 if ¬ (0 ≤ d.run ∧ d.run ≤ 1) ∨ (r.trying = false ∧ d.run ≠ r.act) then 2
 else if ChunkM.checks d.got ≠ 0 then ChunkM.checks d.got
 else if d.busy = false then (if d.done ≠ 0 ∨ d.job ≠ zap then 3 else 0)
 else busyE d r
end DevM
theorem turn_skipU {P : Program} {ops : Array Oper} {Q : Exit → Act → World → Prop} {S : World → Prop} {fin : Bool} {r : List (Oper × Bool)} {o : Oper} {a : Act} {w : World} (hw : Region.wanted o (yielded ops a.tmps) = false) (hS : S w) (h : zaT P ops Q S fin r (a.put o.dst undef) w) : zaT P ops Q S fin ((o, true) :: r) a w :=
 tCa (fun K hK => by
  rw [if_neg (by rw [hw]; decide)]
  exact hK.out _ _ hS h)
theorem checkUpD_any (h : DevH) (d : DevR) (r : RecR) (w : World) (HD : DH w h d) (hr : RecM.check r = 0) (l0 : d.s0.length = 64) (l1 : d.s1.length = 64) :
 Calls Tryz.prog 69 #[devV h d, .agg (rcC r)] w fun e w' => e = .returned (.int .i64 (DevM.upE d r)) ∧ Below w.heap.size w w' := by
 have ha := (RecM.check_nums hr).2.1; have HBu := LH (fun W x => checkBusyD_any h d r W x hr l0 l1); unfold devV at HBu; have HO : Hid (∀ W, Calls Tryz.prog 81 #[.int .i64 r.act] W fun e w' => e = .returned (.int .i64 (1 - r.act)) ∧ W = w') := fun W => otherD_any r.act W ha; obtain ⟨XR, hXR⟩ : ∃ X, DevM.upE d r = X := ⟨_, rfl⟩; rw [hXR]; obtain ⟨tr, ht⟩ : ∃ t, r.trying = t := ⟨_, rfl⟩; obtain ⟨be, hbe⟩ : ∃ b, (d.run == 1 - r.act) = b := ⟨_, rfl⟩; obtain ⟨ne, hne⟩ : ∃ b, (d.run != r.act) = b := ⟨_, rfl⟩
 have HV : Hid ((¬ (0 ≤ d.run ∧ d.run ≤ 1) ∨ (r.trying = false ∧ d.run ≠ r.act)) ↔ (ne && !(tr && be)) = true) := by
  show _ ↔ _; rw [← ht, ← hbe, ← hne]
  cases r.trying <;> simp <;> omega
 obtain ⟨E, hE⟩ : ∃ E, ChunkM.checks d.got = E := ⟨_, rfl⟩
 have HB : Hid (XR = if (ne && !(tr && be)) = true then 2 else if E ≠ 0 then E else if d.busy = false then (if d.done ≠ 0 ∨ d.job ≠ zap then 3 else 0) else DevM.busyE d r) := by
  show _ = _; rw [← hXR, ← hE]; unfold DevM.upE; by_cases c : (ne && !(tr && be)) = true
  · rw [if_pos c, if_pos (HV.out.2 c)]
  · rw [if_neg c, if_neg (fun q => c (HV.out.1 q))]
 have HLi : Hid (∀ W, DH W h d → Calls Tryz.prog 130 #[.slice h.ga h.gn h.gc] W fun e w' => e = .returned (.int .i64 E) ∧ Below W.heap.size W w') := fun W x => by
  have := listC_ok _ _ _ _ W x.got
  rwa [hE] at this
 have HSp : Hid (∀ W, DH W h d → Calls Tryz.prog 71 #[.agg (jbC h.oa h.on h.oc d.job), .agg #[.int .i64 0, .int .i64 0, .int .i64 0, .int .i64 0, .int .i64 0, .slice none 0 0]] W fun e w' => e = .returned (.bool (decide (d.job = zap))) ∧ Below W.heap.size W w') := fun W x => sameP_any _ _ _ _ W x.job (zaD W); have HT := LH ht; clear hE hXR HV hr l0 l1 ha ht; unfold devV; obtain ⟨P1, hP1⟩ : ∃ P, w.heap.size = P := ⟨_, rfl⟩; have HS := LH ((((((MS.start w).arg HD.argR).alloc (p := P1) (by simp [hP1]) (dvC h d) 37)).alloc (p := (P1 + 1)) (by simp [hP1]) (rcC r) 28)); go_enter Tryz.func69, Tryz.ntmps69; go_upto_region 1 with fail; refine zau HS.out (fun V0 HS1 => ?_); replace HS := LH HS1; clear HS1 hP1; go_cut [5] (fun s5 wx => s5 = .bool (tr && be) ∧ MS w [((P1 + 1), (rcC r), 28), (P1, (dvC h d), 37)] [(fun W => DH W h d)] [] wx)
 case first =>
  cases tr
  · refine rTu (S := MS w [((P1 + 1), (rcC r), 28), (P1, (dvC h d), 37)] [(fun W => DH W h d)] []) [(0, false), (1, false), (2, false), (3, false), (4, false), (5, false), (6, false), (7, true), (8, false), (9, false), (10, false)] false 9999 (by kernel_rfl) (by kernel_rfl) HS.out.drew ?_
    simp only [turned, gA, gB, gC]; replace HS := LH HS.out.drew
    have uP1p1_2 : ∀ W, MS w [((P1 + 1), (rcC r), 28), (P1, (dvC h d), 37)] [(fun W => DH W h d)] [] W → W.cell? ⟨P1 + 1, 2, none⟩ = some (.bool false) := fun W hW => by
     have := cAt (k := 2) (v := .bool r.trying) (hW.get 0 rfl) rfl
     rwa [HT.out] at this
    have uP1_27 : ∀ W, MS w [((P1 + 1), (rcC r), 28), (P1, (dvC h d), 37)] [(fun W => DH W h d)] [] W → W.cell? ⟨P1, 27, none⟩ = some (.int .i64 d.run) := fun W hW => cAt (hW.get 1 rfl) rfl; have uP1p1_1 : ∀ W, MS w [((P1 + 1), (rcC r), 28), (P1, (dvC h d), 37)] [(fun W => DH W h d)] [] W → W.cell? ⟨P1 + 1, 1, none⟩ = some (.int .i64 r.act) := fun W hW => cAt (hW.get 0 rfl) rfl
    repeat (first
     | (refine tSt ?_ (by rfl) (fun W9 hW9 => ?_) ?_
        rotate_left
        · (go_simp <;> with_reducible rfl)
        simp only [Act.put, sA, sB, sC])
     | (refine tSk (by rfl) ?_; simp only [Act.put, sA, sB, sC]))
    refine turn_skipU (by first | exact zaf rfl rfl rfl | exact zad rfl rfl) HS.out ?_
    try simp only [Act.put, sA, sB, sC]
    repeat (first
     | (refine tSt ?_ (by rfl) (fun W9 hW9 => ?_) ?_
        rotate_left
        · (go_simp <;> with_reducible rfl)
        simp only [Act.put, sA, sB, sC])
     | (refine tSk (by rfl) ?_; simp only [Act.put, sA, sB, sC]))
    clear uP1p1_2 uP1_27 uP1p1_1; refine tEn ?_; go_wp2_with fail; go_meet; exact ⟨rfl, HS.out⟩
  · refine rTu (S := MS w [((P1 + 1), (rcC r), 28), (P1, (dvC h d), 37)] [(fun W => DH W h d)] []) [(0, false), (1, false), (2, false), (3, false), (4, false), (5, false), (6, false), (7, true), (8, false), (9, false), (10, false)] false 9999 (by kernel_rfl) (by kernel_rfl) HS.out.drew ?_
    simp only [turned, gA, gB, gC]; replace HS := LH HS.out.drew
    have uP1p1_2 : ∀ W, MS w [((P1 + 1), (rcC r), 28), (P1, (dvC h d), 37)] [(fun W => DH W h d)] [] W → W.cell? ⟨P1 + 1, 2, none⟩ = some (.bool true) := fun W hW => by
     have := cAt (k := 2) (v := .bool r.trying) (hW.get 0 rfl) rfl
     rwa [HT.out] at this
    have uP1_27 : ∀ W, MS w [((P1 + 1), (rcC r), 28), (P1, (dvC h d), 37)] [(fun W => DH W h d)] [] W → W.cell? ⟨P1, 27, none⟩ = some (.int .i64 d.run) := fun W hW => cAt (hW.get 1 rfl) rfl; have uP1p1_1 : ∀ W, MS w [((P1 + 1), (rcC r), 28), (P1, (dvC h d), 37)] [(fun W => DH W h d)] [] W → W.cell? ⟨P1 + 1, 1, none⟩ = some (.int .i64 r.act) := fun W hW => cAt (hW.get 0 rfl) rfl
    repeat (first
     | (refine tSt ?_ (by rfl) (fun W9 hW9 => ?_) ?_
        rotate_left
        · (go_simp <;> with_reducible rfl)
        simp only [Act.put, sA, sB, sC])
     | (refine tSk (by rfl) ?_; simp only [Act.put, sA, sB, sC]))
    refine tCa (fun K hK => ?_); rw [if_pos (by first | exact zaa rfl | exact zab rfl rfl)]; go_simp; go_at_call 81; with_reducible refine (HO.out _).mono ?_
    rintro e W1 ⟨rfl, rfl⟩
    try go_wp2_with fail
    refine hK.out _ _ HS.out ?_; clear hK K
    try simp only [Act.put, sA, sB, sC]
    repeat (first
     | (refine tSt ?_ (by rfl) (fun W9 hW9 => ?_) ?_
        rotate_left
        · (go_simp <;> with_reducible rfl)
        simp only [Act.put, sA, sB, sC])
     | (refine tSk (by rfl) ?_; simp only [Act.put, sA, sB, sC]))
    clear uP1p1_2 uP1_27 uP1p1_1; refine tEn ?_; go_wp2_with fail; go_meet; exact ⟨rfl, HS.out⟩
 case' rest =>
  obtain ⟨rfl, hs⟩ := hcut; replace HS := LH hs; clear hs
 obtain ⟨b5, h5⟩ : ∃ b, (tr && be) = b := ⟨_, rfl⟩; rw [h5] at HB ⊢; clear h5 hbe HT; go_upto_region 2 with fail; go_cut [25] (fun s25 wx => s25 = .bool (ne && !b5) ∧ MS w [((P1 + 1), (rcC r), 28), (P1, (dvC h d), 37)] [(fun W => DH W h d)] [] wx)
 case first =>
  cases ne
  · refine zaj ?_
    have cP1_27 := HS.out.cel 1 27 (v := .int .i64 d.run) rfl rfl; have cP1p1_1 := HS.out.cel 0 1 (v := .int .i64 r.act) rfl rfl
    repeat (first
     | (refine zag (by first | exact zaf rfl rfl rfl | exact zad rfl rfl) ?_; simp only [Act.put, sA, sB, sC])
     | (refine zae ?_ ?_ ?_ ?_
        rotate_left
        · first | exact zaa rfl | exact zab rfl rfl
        · (go_simp <;> with_reducible rfl)
        simp only [Act.put, sA, sB, sC]))
    clear cP1_27 cP1p1_1; refine zal ?_; go_wp2_with fail; go_meet; exact ⟨rfl, HS.out⟩
  · refine zaj ?_
    have cP1_27 := HS.out.cel 1 27 (v := .int .i64 d.run) rfl rfl; have cP1p1_1 := HS.out.cel 0 1 (v := .int .i64 r.act) rfl rfl
    repeat (first
     | (refine zag (by first | exact zaf rfl rfl rfl | exact zad rfl rfl) ?_; simp only [Act.put, sA, sB, sC])
     | (refine zae ?_ ?_ ?_ ?_
        rotate_left
        · first | exact zaa rfl | exact zab rfl rfl
        · (go_simp <;> with_reducible rfl)
        simp only [Act.put, sA, sB, sC]))
    clear cP1_27 cP1p1_1; refine zal ?_; go_wp2_with fail; go_meet; exact ⟨rfl, HS.out⟩
 case' rest =>
  obtain ⟨rfl, hs⟩ := hcut; replace HS := LH hs; clear hs
 obtain ⟨B, hB⟩ : ∃ b, (ne && !b5) = b := ⟨_, rfl⟩; rw [hB] at HB ⊢; clear hB hne
 cases B with
 | true =>
   have hx := HB.out.trans (if_pos rfl); subst hx; go_wp2_with fail; go_ret; exact ⟨rfl, HS.out.below⟩
 | false =>
   replace HB := LH (HB.out.trans (if_neg (by decide))); have cP1_28 := HS.out.cel 1 28 (v := .slice h.ga h.gn h.gc) rfl rfl; go_wp2_with fail; clear cP1_28; refine (HLi.out _ (HS.out.read 0 rfl)).mono ?_; rintro e W1 ⟨rfl, hb⟩; replace HS := LH (HS.out.later hb); clear hb; clear HLi; by_cases hE : E = 0
   case neg =>
    have t0 : (E != 0) = true := by simp [hE]
    have hx := HB.out.trans (if_pos hE); subst hx; go_wp2_with fail; go_ret; exact ⟨rfl, HS.out.below⟩
   subst hE; replace HB := LH (HB.out.trans (if_neg (fun q => q rfl))); have cP1_29 := HS.out.cel 1 29 (v := .bool d.busy) rfl rfl; rcases Bool.eq_false_or_eq_true d.busy with hb | hb
   · rw [hb] at cP1_29
     have hx := HB.out.trans (if_neg (by rw [hb]; decide)); subst hx; clear hb; have bP1 := HS.out.gt 1 rfl; have bP1p1 := HS.out.gt 0 rfl
     go_wp2_with (first
      | ((with_reducible show wpList _ _ _ _ _ _); refine LR rfl (t := 37) U37 rfl (.tmp 2) rfl P1 rfl bP1 (sDv h d) ?_)
      | ((with_reducible show wpList _ _ _ _ _ _); refine LR rfl (t := 28) U28 rfl (.tmp 3) rfl (P1 + 1) rfl bP1p1 (sRc r) ?_))
     clear cP1_29 bP1 bP1p1; refine (HBu.out _ (HS.out.read 0 rfl)).mono ?_; rintro e W2 ⟨rfl, hb⟩; replace HS := LH (HS.out.later hb); clear hb; go_wp2_with fail; go_ret; exact ⟨rfl, HS.out.below⟩
   · rw [hb] at cP1_29
     replace HB := LH (HB.out.trans (if_pos hb)); clear hb; go_upto_region 9 with fail; clear cP1_29; by_cases hd : d.done = 0
     · have td : (d.done != 0) = false := by simp [hd]
       obtain ⟨q, hq⟩ : ∃ q, decide (d.job = zap) = q := ⟨_, rfl⟩; rw [hq] at HSp; refine zaj ?_; have cP1_36 := HS.out.cel 1 36 (v := .int .i64 d.done) rfl rfl
       repeat (first
        | ((refine zah ?hw 35 (.tmp 43) rfl P1 30 rfl 37 (dvC h d) (HS.out.get 1 rfl) (jbC h.oa h.on h.oc d.job) (zay h d) _ U35 rfl (sJb _ _ _ _) ?_); (case hw => first | exact zaa rfl | exact zab rfl rfl); simp only [Act.put, sA, sB, sC])
        | (refine zag (by first | exact zaf rfl rfl rfl | exact zad rfl rfl) ?_; simp only [Act.put, sA, sB, sC])
        | (refine zae ?_ ?_ ?_ ?_
           rotate_left
           · first | exact zaa rfl | exact zab rfl rfl
           · (go_simp <;> with_reducible rfl)
           simp only [Act.put, sA, sB, sC]))
       clear cP1_36; refine zar (fun K hK => ?_); go_simp; go_at_call 71; with_reducible refine (HSp.out _ (HS.out.read 0 rfl)).mono ?_
       rintro e W2 ⟨rfl, hb⟩; replace HS := LH (HS.out.later hb); clear hb
       try go_wp2_with fail
       refine hK.out _ _ ?_; clear hK K
       try simp only [Act.put, sA, sB, sC]
       cases q
       · have hx := HB.out.trans (if_pos (.inr (of_decide_eq_false hq)))
         subst hx; clear hq
         repeat (first
          | (refine zag (by first | exact zaf rfl rfl rfl | exact zad rfl rfl) ?_; simp only [Act.put, sA, sB, sC])
          | (refine zae ?_ ?_ ?_ ?_
             rotate_left
             · first | exact zaa rfl | exact zab rfl rfl
             · (go_simp <;> with_reducible rfl)
             simp only [Act.put, sA, sB, sC]))
         refine zal ?_; go_wp2_with fail; go_ret; exact ⟨rfl, HS.out.below⟩
       · have hx := HB.out.trans (if_neg (by
          rintro (q | q)
          · exact q hd
          · exact q (of_decide_eq_true hq)))
         subst hx; clear hq
         repeat (first
          | (refine zag (by first | exact zaf rfl rfl rfl | exact zad rfl rfl) ?_; simp only [Act.put, sA, sB, sC])
          | (refine zae ?_ ?_ ?_ ?_
             rotate_left
             · first | exact zaa rfl | exact zab rfl rfl
             · (go_simp <;> with_reducible rfl)
             simp only [Act.put, sA, sB, sC]))
         refine zal ?_; go_wp2_with fail; go_ret; exact ⟨rfl, HS.out.below⟩
     · have td : (d.done != 0) = true := by simp [hd]
       have hx := HB.out.trans (if_pos (.inl hd)); subst hx; refine zaj ?_; have cP1_36 := HS.out.cel 1 36 (v := .int .i64 d.done) rfl rfl
       repeat (first
        | (refine zag (by first | exact zaf rfl rfl rfl | exact zad rfl rfl) ?_; simp only [Act.put, sA, sB, sC])
        | (refine zae ?_ ?_ ?_ ?_
           rotate_left
           · first | exact zaa rfl | exact zab rfl rfl
           · (go_simp <;> with_reducible rfl)
           simp only [Act.put, sA, sB, sC]))
       clear cP1_36; refine zal ?_; go_wp2_with fail; go_ret; exact ⟨rfl, HS.out.below⟩
theorem cops_eql (a b : CopsR) (w : World) : (binOp .eql 31 (.agg (cpC a)) (.agg (cpC b))).run Tryz.prog w = .ok (.bool (decide (a = b))) w := by
 have h := cops_equal 9994 a b w; unfold copsV at h; rw [run_eql_struct, h]
 rfl
theorem DH.jobV {w : World} {h : DevH} {d : DevR} (x : DH w h d) : PV w (.agg (jbC h.oa h.on h.oc d.job)) d.job := x.job
theorem dev_ext {d d' : DevR} (h0 : d.s0 = d'.s0) (h1 : d.s1 = d'.s1) (h2 : d.c = d'.c) (h3 : d.up = d'.up) (h4 : d.run = d'.run) (h5 : d.busy = d'.busy) (h6 : d.done = d'.done) (h7 : d.got = d'.got) (h8 : d.job = d'.job) : d = d' := by
 obtain ⟨a0, a1, a2, a3, a4, a5, a6, a7, a8⟩ := d; obtain ⟨b0, b1, b2, b3, b4, b5, b6, b7, b8⟩ := d'; simp only at h0 h1 h2 h3 h4 h5 h6 h7 h8; subst h0 h1 h2 h3 h4 h5 h6 h7 h8
 rfl
theorem dev_iff {d d' : DevR} : (d.s0 = d'.s0 ∧ d.s1 = d'.s1 ∧ d.c = d'.c ∧ d.up = d'.up ∧ d.run = d'.run ∧ d.busy = d'.busy ∧ d.done = d'.done ∧ d.got = d'.got ∧ d.job = d'.job) ↔ d = d' :=
 ⟨fun ⟨h0, h1, h2, h3, h4, h5, h6, h7, h8⟩ => dev_ext h0 h1 h2 h3 h4 h5 h6 h7 h8, fun h => by subst h; exact ⟨rfl, rfl, rfl, rfl, rfl, rfl, rfl, rfl, rfl⟩⟩
instance decDev (d d' : DevR) : Decidable (d = d') := decidable_of_iff _ dev_iff
theorem sameD_any (h h' : DevH) (d d' : DevR) (w : World) (HD : DH w h d) (HD' : DH w h' d') : Calls Tryz.prog 15 #[devV h d, devV h' d'] w fun e w' => e = .returned (.bool (decide (d = d'))) ∧ Below w.heap.size w w' := by
 obtain ⟨R, hR⟩ : ∃ R, decide (d = d') = R := ⟨_, rfl⟩; rw [hR]; have HR := LH hR; clear hR; unfold devV; obtain ⟨b0, hb0⟩ : ∃ b, decide (d.s0 = d'.s0) = b := ⟨_, rfl⟩
 have H0 : Hid (∀ W, DH W h d → DH W h' d' → Calls Tryz.prog 31 #[.slice h.a0 h.n0 h.c0, .slice h'.a0 h'.n0 h'.c0] W fun e w' => e = .returned (.bool b0) ∧ W = w') := fun W a b => by
  rw [← hb0]; exact eqB _ _ _ _ _ _ _ _ W a.b0 b.b0
 have B0 := LH hb0; clear hb0; obtain ⟨b1, hb1⟩ : ∃ b, decide (d.s1 = d'.s1) = b := ⟨_, rfl⟩
 have H1 : Hid (∀ W, DH W h d → DH W h' d' → Calls Tryz.prog 31 #[.slice h.a1 h.n1 h.c1, .slice h'.a1 h'.n1 h'.c1] W fun e w' => e = .returned (.bool b1) ∧ W = w') := fun W a b => by
  rw [← hb1]; exact eqB _ _ _ _ _ _ _ _ W a.b1 b.b1
 have B1 := LH hb1; clear hb1; obtain ⟨b7, hb7⟩ : ∃ b, decide (d.got = d'.got) = b := ⟨_, rfl⟩
 have H7 : Hid (∀ W, DH W h d → DH W h' d' → Calls Tryz.prog 52 #[.slice h.ga h.gn h.gc, .slice h'.ga h'.gn h'.gc] W fun e w' => e = .returned (.bool b7) ∧ Below W.heap.size W w') := fun W a b => by
  rw [← hb7]; exact sameC_ok _ _ _ _ _ _ _ _ W a.got b.got
 have B7 := LH hb7; clear hb7; obtain ⟨b8, hb8⟩ : ∃ b, decide (d.job = d'.job) = b := ⟨_, rfl⟩
 have H8 : Hid (∀ W, DH W h d → DH W h' d' → Calls Tryz.prog 71 #[.agg (jbC h.oa h.on h.oc d.job), .agg (jbC h'.oa h'.on h'.oc d'.job)] W fun e w' => e = .returned (.bool b8) ∧ Below W.heap.size W w') := fun W a b => by
  rw [← hb8]; exact sameP_any _ _ _ _ W a.jobV b.jobV
 have B8 := LH hb8; clear hb8; have z2 : ∀ W, (binOp .eql 31 (.agg (cpC d.c)) (.agg (cpC d'.c))).run Tryz.prog W = .ok (.bool (decide (d.c = d'.c))) W := fun W => cops_eql d.c d'.c W; obtain ⟨b2, hb2⟩ : ∃ b, decide (d.c = d'.c) = b := ⟨_, rfl⟩; rw [hb2] at z2; have B2 := LH hb2; clear hb2; obtain ⟨b3, hb3⟩ : ∃ b, (d.up == d'.up) = b := ⟨_, rfl⟩; have B3 := LH (show decide (d.up = d'.up) = b3 by rw [← hb3]; rfl); obtain ⟨b4, hb4⟩ : ∃ b, (d.run == d'.run) = b := ⟨_, rfl⟩; have B4 := LH (show decide (d.run = d'.run) = b4 by rw [← hb4]; rfl); obtain ⟨b5, hb5⟩ : ∃ b, (d.busy == d'.busy) = b := ⟨_, rfl⟩; have B5 := LH (show decide (d.busy = d'.busy) = b5 by rw [← hb5]; rfl); obtain ⟨b6, hb6⟩ : ∃ b, (d.done == d'.done) = b := ⟨_, rfl⟩; have B6 := LH (show decide (d.done = d'.done) = b6 by rw [← hb6]; rfl); obtain ⟨P1, hP1⟩ : ∃ P, w.heap.size = P := ⟨_, rfl⟩; have HS := LH (((((((MS.start w).arg HD.argR).arg HD'.argR).alloc (p := P1) (by simp [hP1]) (dvC h d) 37)).alloc (p := (P1 + 1)) (by simp [hP1]) (dvC h' d') 37)); go_enter Tryz.func15, Tryz.ntmps15; go_upto_region 1 with fail; refine zau HS.out (fun V0 HS1 => ?_); replace HS := LH HS1; clear HS1 hP1; go_wp2_with fail; go_loopw [6] (fun i wr => ∃ k : Nat, i = .int .i64 k ∧ (k = 0 ∨ k = 1 ∧ b0 = true ∨ k = 2 ∧ b0 = true ∧ b1 = true) ∧ MS w [((P1 + 1), dvC h' d', 37), (P1, dvC h d, 37)] [fun W => DH W h' d', fun W => DH W h d] [] wr) (fun i _ => 2 - (intOf i).toNat)
 case atStart => exact ⟨0, rfl, .inl rfl, HS.out⟩
 case round =>
  obtain ⟨k, rfl, hk, hs⟩ := hrel; replace HS := LH hs; clear hs; rcases hk with rfl | ⟨rfl, rfl⟩ | ⟨rfl, rfl, rfl⟩
  · skip
    have HQ : Hid (∀ m, Calls Tryz.prog 31 #[.slice h.a0 h.n0 h.c0, .slice h'.a0 h'.n0 h'.c0] (wr.drewN m) fun e w' => e = .returned (.bool b0) ∧ wr.drewN m = w') := fun m => H0.out _ ((HS.out.drewN m).read 1 rfl) ((HS.out.drewN m).read 0 rfl); have cP1_0 := HS.out.cel 1 0 (v := .slice h.a0 h.n0 h.c0) rfl rfl; have cP1p1_0 := HS.out.cel 0 0 (v := .slice h'.a0 h'.n0 h'.c0) rfl rfl; go_wp2_with fail; go_quiet (exact zba (HQ.out _)); have HS9 := LH (HS.out.drewN nq)
    cases b0 with
    | false =>
      have hr : R = false := by
       rw [← HR.out]; exact decide_eq_false (fun q => of_decide_eq_false B0.out (by rw [q]))
      subst hr; go_wp2_with fail; go_ret; exact ⟨rfl, HS9.out.below⟩
    | true =>
      go_wp2_with fail; go_roundw
      case rel => exact ⟨1, by go_num, by simp, HS9.out⟩
      case measure => simp [intOf]
  · skip
    have HQ : Hid (∀ m, Calls Tryz.prog 31 #[.slice h.a1 h.n1 h.c1, .slice h'.a1 h'.n1 h'.c1] (wr.drewN m) fun e w' => e = .returned (.bool b1) ∧ wr.drewN m = w') := fun m => H1.out _ ((HS.out.drewN m).read 1 rfl) ((HS.out.drewN m).read 0 rfl); have cP1_1 := HS.out.cel 1 1 (v := .slice h.a1 h.n1 h.c1) rfl rfl; have cP1p1_1 := HS.out.cel 0 1 (v := .slice h'.a1 h'.n1 h'.c1) rfl rfl; go_wp2_with fail; go_quiet (exact zba (HQ.out _)); have HS9 := LH (HS.out.drewN nq)
    cases b1 with
    | false =>
      have hr : R = false := by
       rw [← HR.out]; exact decide_eq_false (fun q => of_decide_eq_false B1.out (by rw [q]))
      subst hr; go_wp2_with fail; go_ret; exact ⟨rfl, HS9.out.below⟩
    | true =>
      go_wp2_with fail; go_roundw
      case rel => exact ⟨2, by go_num, by simp, HS9.out⟩
      case measure => simp [intOf]
  · skip
    go_upto_region 7 with fail; refine zaj ?_
    cases b2 with
    | false =>
      have hr : R = false := by
       rw [← HR.out]; exact decide_eq_false (fun q => of_decide_eq_false B2.out (by rw [q]))
      subst hr
      repeat (first
       | ((refine zah ?hw 31 (.tmp 20) rfl P1 2 rfl 37 (dvC h d) (HS.out.get 1 rfl) (cpC d.c) (zai h d) _ U31 rfl (sCp d.c) ?_); (case hw => first | exact zaa rfl | exact zab rfl rfl); simp only [Act.put, sA, sB, sC])
       | ((refine zah ?hw 31 (.tmp 22) rfl (P1 + 1) 2 rfl 37 (dvC h' d') (HS.out.get 0 rfl) (cpC d'.c) (zai h' d') _ U31 rfl (sCp d'.c) ?_); (case hw => first | exact zaa rfl | exact zab rfl rfl); simp only [Act.put, sA, sB, sC])
       | ((refine zah ?hw 35 (.tmp 61) rfl P1 30 rfl 37 (dvC h d) (HS.out.get 1 rfl) (jbC h.oa h.on h.oc d.job) (zay h d) _ U35 rfl (sJb _ _ _ _) ?_); (case hw => first | exact zaa rfl | exact zab rfl rfl); simp only [Act.put, sA, sB, sC])
       | ((refine zah ?hw 35 (.tmp 63) rfl (P1 + 1) 30 rfl 37 (dvC h' d') (HS.out.get 0 rfl) (jbC h'.oa h'.on h'.oc d'.job) (zay h' d') _ U35 rfl (sJb _ _ _ _) ?_); (case hw => first | exact zaa rfl | exact zab rfl rfl); simp only [Act.put, sA, sB, sC])
       | (refine zag (by first | exact zaf rfl rfl rfl | exact zad rfl rfl) ?_; simp only [Act.put, sA, sB, sC])
       | (refine zae ?_ ?_ ?_ ?_
          rotate_left
          · first | exact zaa rfl | exact zab rfl rfl
          · (go_simp <;> with_reducible rfl)
          simp only [Act.put, sA, sB, sC]))
      refine zal ?_; go_wp2_with fail; go_ret; exact ⟨rfl, HS.out.below⟩
    | true =>
      have cP1_26 := HS.out.cel 1 26 (v := .bool d.up) rfl rfl; have cP1p1_26 := HS.out.cel 0 26 (v := .bool d'.up) rfl rfl
      cases b3 with
      | false =>
        have hr : R = false := by
         rw [← HR.out]; exact decide_eq_false (fun q => of_decide_eq_false B3.out (by rw [q]))
        subst hr
        repeat (first
         | ((refine zah ?hw 31 (.tmp 20) rfl P1 2 rfl 37 (dvC h d) (HS.out.get 1 rfl) (cpC d.c) (zai h d) _ U31 rfl (sCp d.c) ?_); (case hw => first | exact zaa rfl | exact zab rfl rfl); simp only [Act.put, sA, sB, sC])
         | ((refine zah ?hw 31 (.tmp 22) rfl (P1 + 1) 2 rfl 37 (dvC h' d') (HS.out.get 0 rfl) (cpC d'.c) (zai h' d') _ U31 rfl (sCp d'.c) ?_); (case hw => first | exact zaa rfl | exact zab rfl rfl); simp only [Act.put, sA, sB, sC])
         | ((refine zah ?hw 35 (.tmp 61) rfl P1 30 rfl 37 (dvC h d) (HS.out.get 1 rfl) (jbC h.oa h.on h.oc d.job) (zay h d) _ U35 rfl (sJb _ _ _ _) ?_); (case hw => first | exact zaa rfl | exact zab rfl rfl); simp only [Act.put, sA, sB, sC])
         | ((refine zah ?hw 35 (.tmp 63) rfl (P1 + 1) 30 rfl 37 (dvC h' d') (HS.out.get 0 rfl) (jbC h'.oa h'.on h'.oc d'.job) (zay h' d') _ U35 rfl (sJb _ _ _ _) ?_); (case hw => first | exact zaa rfl | exact zab rfl rfl); simp only [Act.put, sA, sB, sC])
         | (refine zag (by first | exact zaf rfl rfl rfl | exact zad rfl rfl) ?_; simp only [Act.put, sA, sB, sC])
         | (refine zae ?_ ?_ ?_ ?_
            rotate_left
            · first | exact zaa rfl | exact zab rfl rfl
            · (go_simp <;> with_reducible rfl)
            simp only [Act.put, sA, sB, sC]))
        clear cP1_26 cP1p1_26; refine zal ?_; go_wp2_with fail; go_ret; exact ⟨rfl, HS.out.below⟩
      | true =>
        have cP1_27 := HS.out.cel 1 27 (v := .int .i64 d.run) rfl rfl; have cP1p1_27 := HS.out.cel 0 27 (v := .int .i64 d'.run) rfl rfl
        cases b4 with
        | false =>
          have hr : R = false := by
           rw [← HR.out]; exact decide_eq_false (fun q => of_decide_eq_false B4.out (by rw [q]))
          subst hr
          repeat (first
           | ((refine zah ?hw 31 (.tmp 20) rfl P1 2 rfl 37 (dvC h d) (HS.out.get 1 rfl) (cpC d.c) (zai h d) _ U31 rfl (sCp d.c) ?_); (case hw => first | exact zaa rfl | exact zab rfl rfl); simp only [Act.put, sA, sB, sC])
           | ((refine zah ?hw 31 (.tmp 22) rfl (P1 + 1) 2 rfl 37 (dvC h' d') (HS.out.get 0 rfl) (cpC d'.c) (zai h' d') _ U31 rfl (sCp d'.c) ?_); (case hw => first | exact zaa rfl | exact zab rfl rfl); simp only [Act.put, sA, sB, sC])
           | ((refine zah ?hw 35 (.tmp 61) rfl P1 30 rfl 37 (dvC h d) (HS.out.get 1 rfl) (jbC h.oa h.on h.oc d.job) (zay h d) _ U35 rfl (sJb _ _ _ _) ?_); (case hw => first | exact zaa rfl | exact zab rfl rfl); simp only [Act.put, sA, sB, sC])
           | ((refine zah ?hw 35 (.tmp 63) rfl (P1 + 1) 30 rfl 37 (dvC h' d') (HS.out.get 0 rfl) (jbC h'.oa h'.on h'.oc d'.job) (zay h' d') _ U35 rfl (sJb _ _ _ _) ?_); (case hw => first | exact zaa rfl | exact zab rfl rfl); simp only [Act.put, sA, sB, sC])
           | (refine zag (by first | exact zaf rfl rfl rfl | exact zad rfl rfl) ?_; simp only [Act.put, sA, sB, sC])
           | (refine zae ?_ ?_ ?_ ?_
              rotate_left
              · first | exact zaa rfl | exact zab rfl rfl
              · (go_simp <;> with_reducible rfl)
              simp only [Act.put, sA, sB, sC]))
          clear cP1_26 cP1p1_26 cP1_27 cP1p1_27; refine zal ?_; go_wp2_with fail; go_ret; exact ⟨rfl, HS.out.below⟩
        | true =>
          have cP1_29 := HS.out.cel 1 29 (v := .bool d.busy) rfl rfl; have cP1p1_29 := HS.out.cel 0 29 (v := .bool d'.busy) rfl rfl
          cases b5 with
          | false =>
            have hr : R = false := by
             rw [← HR.out]; exact decide_eq_false (fun q => of_decide_eq_false B5.out (by rw [q]))
            subst hr
            repeat (first
             | ((refine zah ?hw 31 (.tmp 20) rfl P1 2 rfl 37 (dvC h d) (HS.out.get 1 rfl) (cpC d.c) (zai h d) _ U31 rfl (sCp d.c) ?_); (case hw => first | exact zaa rfl | exact zab rfl rfl); simp only [Act.put, sA, sB, sC])
             | ((refine zah ?hw 31 (.tmp 22) rfl (P1 + 1) 2 rfl 37 (dvC h' d') (HS.out.get 0 rfl) (cpC d'.c) (zai h' d') _ U31 rfl (sCp d'.c) ?_); (case hw => first | exact zaa rfl | exact zab rfl rfl); simp only [Act.put, sA, sB, sC])
             | ((refine zah ?hw 35 (.tmp 61) rfl P1 30 rfl 37 (dvC h d) (HS.out.get 1 rfl) (jbC h.oa h.on h.oc d.job) (zay h d) _ U35 rfl (sJb _ _ _ _) ?_); (case hw => first | exact zaa rfl | exact zab rfl rfl); simp only [Act.put, sA, sB, sC])
             | ((refine zah ?hw 35 (.tmp 63) rfl (P1 + 1) 30 rfl 37 (dvC h' d') (HS.out.get 0 rfl) (jbC h'.oa h'.on h'.oc d'.job) (zay h' d') _ U35 rfl (sJb _ _ _ _) ?_); (case hw => first | exact zaa rfl | exact zab rfl rfl); simp only [Act.put, sA, sB, sC])
             | (refine zag (by first | exact zaf rfl rfl rfl | exact zad rfl rfl) ?_; simp only [Act.put, sA, sB, sC])
             | (refine zae ?_ ?_ ?_ ?_
                rotate_left
                · first | exact zaa rfl | exact zab rfl rfl
                · (go_simp <;> with_reducible rfl)
                simp only [Act.put, sA, sB, sC]))
            clear cP1_26 cP1p1_26 cP1_27 cP1p1_27 cP1_29 cP1p1_29; refine zal ?_; go_wp2_with fail; go_ret; exact ⟨rfl, HS.out.below⟩
          | true =>
            have cP1_36 := HS.out.cel 1 36 (v := .int .i64 d.done) rfl rfl; have cP1p1_36 := HS.out.cel 0 36 (v := .int .i64 d'.done) rfl rfl
            cases b6 with
            | false =>
              have hr : R = false := by
               rw [← HR.out]; exact decide_eq_false (fun q => of_decide_eq_false B6.out (by rw [q]))
              subst hr
              repeat (first
               | ((refine zah ?hw 31 (.tmp 20) rfl P1 2 rfl 37 (dvC h d) (HS.out.get 1 rfl) (cpC d.c) (zai h d) _ U31 rfl (sCp d.c) ?_); (case hw => first | exact zaa rfl | exact zab rfl rfl); simp only [Act.put, sA, sB, sC])
               | ((refine zah ?hw 31 (.tmp 22) rfl (P1 + 1) 2 rfl 37 (dvC h' d') (HS.out.get 0 rfl) (cpC d'.c) (zai h' d') _ U31 rfl (sCp d'.c) ?_); (case hw => first | exact zaa rfl | exact zab rfl rfl); simp only [Act.put, sA, sB, sC])
               | ((refine zah ?hw 35 (.tmp 61) rfl P1 30 rfl 37 (dvC h d) (HS.out.get 1 rfl) (jbC h.oa h.on h.oc d.job) (zay h d) _ U35 rfl (sJb _ _ _ _) ?_); (case hw => first | exact zaa rfl | exact zab rfl rfl); simp only [Act.put, sA, sB, sC])
               | ((refine zah ?hw 35 (.tmp 63) rfl (P1 + 1) 30 rfl 37 (dvC h' d') (HS.out.get 0 rfl) (jbC h'.oa h'.on h'.oc d'.job) (zay h' d') _ U35 rfl (sJb _ _ _ _) ?_); (case hw => first | exact zaa rfl | exact zab rfl rfl); simp only [Act.put, sA, sB, sC])
               | (refine zag (by first | exact zaf rfl rfl rfl | exact zad rfl rfl) ?_; simp only [Act.put, sA, sB, sC])
               | (refine zae ?_ ?_ ?_ ?_
                  rotate_left
                  · first | exact zaa rfl | exact zab rfl rfl
                  · (go_simp <;> with_reducible rfl)
                  simp only [Act.put, sA, sB, sC]))
              clear cP1_26 cP1p1_26 cP1_27 cP1p1_27 cP1_29 cP1p1_29 cP1_36 cP1p1_36; refine zal ?_; go_wp2_with fail; go_ret; exact ⟨rfl, HS.out.below⟩
            | true =>
              have cP1_28 := HS.out.cel 1 28 (v := .slice h.ga h.gn h.gc) rfl rfl; have cP1p1_28 := HS.out.cel 0 28 (v := .slice h'.ga h'.gn h'.gc) rfl rfl
              repeat (first
               | ((refine zah ?hw 31 (.tmp 20) rfl P1 2 rfl 37 (dvC h d) (HS.out.get 1 rfl) (cpC d.c) (zai h d) _ U31 rfl (sCp d.c) ?_); (case hw => first | exact zaa rfl | exact zab rfl rfl); simp only [Act.put, sA, sB, sC])
               | ((refine zah ?hw 31 (.tmp 22) rfl (P1 + 1) 2 rfl 37 (dvC h' d') (HS.out.get 0 rfl) (cpC d'.c) (zai h' d') _ U31 rfl (sCp d'.c) ?_); (case hw => first | exact zaa rfl | exact zab rfl rfl); simp only [Act.put, sA, sB, sC])
               | ((refine zah ?hw 35 (.tmp 61) rfl P1 30 rfl 37 (dvC h d) (HS.out.get 1 rfl) (jbC h.oa h.on h.oc d.job) (zay h d) _ U35 rfl (sJb _ _ _ _) ?_); (case hw => first | exact zaa rfl | exact zab rfl rfl); simp only [Act.put, sA, sB, sC])
               | ((refine zah ?hw 35 (.tmp 63) rfl (P1 + 1) 30 rfl 37 (dvC h' d') (HS.out.get 0 rfl) (jbC h'.oa h'.on h'.oc d'.job) (zay h' d') _ U35 rfl (sJb _ _ _ _) ?_); (case hw => first | exact zaa rfl | exact zab rfl rfl); simp only [Act.put, sA, sB, sC])
               | (refine zag (by first | exact zaf rfl rfl rfl | exact zad rfl rfl) ?_; simp only [Act.put, sA, sB, sC])
               | (refine zae ?_ ?_ ?_ ?_
                  rotate_left
                  · first | exact zaa rfl | exact zab rfl rfl
                  · (go_simp <;> with_reducible rfl)
                  simp only [Act.put, sA, sB, sC]))
              clear cP1_26 cP1p1_26 cP1_27 cP1p1_27 cP1_29 cP1p1_29 cP1_36 cP1p1_36 cP1_28 cP1p1_28; refine zar (fun K hK => ?_); go_simp; go_at_call 52; with_reducible refine (H7.out _ (HS.out.read 1 rfl) (HS.out.read 0 rfl)).mono ?_
              rintro e W1 ⟨rfl, hb⟩; replace HS := LH (HS.out.later hb); clear hb H7
              try go_wp2_with fail
              refine hK.out _ _ ?_; clear hK K
              try simp only [Act.put, sA, sB, sC]
              cases b7 with
              | false =>
                have hr : R = false := by
                 rw [← HR.out]; exact decide_eq_false (fun q => of_decide_eq_false B7.out (by rw [q]))
                subst hr
                repeat (first
                 | (refine zag (by first | exact zaf rfl rfl rfl | exact zad rfl rfl) ?_; simp only [Act.put, sA, sB, sC])
                 | (refine zae ?_ ?_ ?_ ?_
                    rotate_left
                    · first | exact zaa rfl | exact zab rfl rfl
                    · (go_simp <;> with_reducible rfl)
                    simp only [Act.put, sA, sB, sC]))
                refine zal ?_; go_wp2_with fail; go_ret; exact ⟨rfl, HS.out.below⟩
              | true =>
                repeat (first
                 | ((refine zah ?hw 31 (.tmp 20) rfl P1 2 rfl 37 (dvC h d) (HS.out.get 1 rfl) (cpC d.c) (zai h d) _ U31 rfl (sCp d.c) ?_); (case hw => first | exact zaa rfl | exact zab rfl rfl); simp only [Act.put, sA, sB, sC])
                 | ((refine zah ?hw 31 (.tmp 22) rfl (P1 + 1) 2 rfl 37 (dvC h' d') (HS.out.get 0 rfl) (cpC d'.c) (zai h' d') _ U31 rfl (sCp d'.c) ?_); (case hw => first | exact zaa rfl | exact zab rfl rfl); simp only [Act.put, sA, sB, sC])
                 | ((refine zah ?hw 35 (.tmp 61) rfl P1 30 rfl 37 (dvC h d) (HS.out.get 1 rfl) (jbC h.oa h.on h.oc d.job) (zay h d) _ U35 rfl (sJb _ _ _ _) ?_); (case hw => first | exact zaa rfl | exact zab rfl rfl); simp only [Act.put, sA, sB, sC])
                 | ((refine zah ?hw 35 (.tmp 63) rfl (P1 + 1) 30 rfl 37 (dvC h' d') (HS.out.get 0 rfl) (jbC h'.oa h'.on h'.oc d'.job) (zay h' d') _ U35 rfl (sJb _ _ _ _) ?_); (case hw => first | exact zaa rfl | exact zab rfl rfl); simp only [Act.put, sA, sB, sC])
                 | (refine zag (by first | exact zaf rfl rfl rfl | exact zad rfl rfl) ?_; simp only [Act.put, sA, sB, sC])
                 | (refine zae ?_ ?_ ?_ ?_
                    rotate_left
                    · first | exact zaa rfl | exact zab rfl rfl
                    · (go_simp <;> with_reducible rfl)
                    simp only [Act.put, sA, sB, sC]))
                refine zar (fun K hK => ?_); go_simp; go_at_call 71; with_reducible refine (H8.out _ (HS.out.read 1 rfl) (HS.out.read 0 rfl)).mono ?_
                rintro e W2 ⟨rfl, hb⟩; replace HS := LH (HS.out.later hb); clear hb H8
                try go_wp2_with fail
                refine hK.out _ _ ?_; clear hK K
                try simp only [Act.put, sA, sB, sC]
                cases b8 with
                | false =>
                  have hr : R = false := by
                   rw [← HR.out]; exact decide_eq_false (fun q => of_decide_eq_false B8.out (by rw [q]))
                  subst hr
                  repeat (first
                   | (refine zag (by first | exact zaf rfl rfl rfl | exact zad rfl rfl) ?_; simp only [Act.put, sA, sB, sC])
                   | (refine zae ?_ ?_ ?_ ?_
                      rotate_left
                      · first | exact zaa rfl | exact zab rfl rfl
                      · (go_simp <;> with_reducible rfl)
                      simp only [Act.put, sA, sB, sC]))
                  refine zal ?_; go_wp2_with fail; go_ret; exact ⟨rfl, HS.out.below⟩
                | true =>
                  have hr : R = true := by
                   rw [← HR.out]; exact decide_eq_true (dev_ext (of_decide_eq_true B0.out) (of_decide_eq_true B1.out) (of_decide_eq_true B2.out) (of_decide_eq_true B3.out) (of_decide_eq_true B4.out) (of_decide_eq_true B5.out) (of_decide_eq_true B6.out) (of_decide_eq_true B7.out) (of_decide_eq_true B8.out))
                  subst hr
                  repeat (first
                   | (refine zag (by first | exact zaf rfl rfl rfl | exact zad rfl rfl) ?_; simp only [Act.put, sA, sB, sC])
                   | (refine zae ?_ ?_ ?_ ?_
                      rotate_left
                      · first | exact zaa rfl | exact zab rfl rfl
                      · (go_simp <;> with_reducible rfl)
                      simp only [Act.put, sA, sB, sC]))
                  refine zal ?_; go_wp2_with fail; go_ret; exact ⟨rfl, HS.out.below⟩
theorem offD_any (h : DevH) (d : DevR) (w : World) : Calls Tryz.prog 70 #[devV h d] w fun e w' => e = .returned (devV (offH h) (DevM.off d)) ∧ Below w.heap.size w w' := by
 unfold devV; obtain ⟨P1, hP1⟩ : ∃ P, w.heap.size = P := ⟨_, rfl⟩; have HS := LH (((((MS.start w).alloc (p := P1) (by simp [hP1]) (dvC h d) 37)).alloc (p := (P1 + 1)) (by simp [hP1]) zDev 37)); go_enter Tryz.func70, Tryz.ntmps70; go_upto_region 1 with fail; refine zau HS.out (fun V0 HS1 => ?_); replace HS := LH HS1; clear HS1 hP1; have bP1 := HS.out.gt 1 rfl; have bP1p1 := HS.out.gt 0 rfl; have HG := LH (HS.out.set 0 rfl (dvC (offH h) (DevM.off d)))
 go_wp2_with (first
  | (refine wLP rfl 23 (.tmp 3) rfl P1 0 rfl (dvC h d) 37 (0, 0) bP1 (za4 h) (part_slots h d) _ U23 rfl (size_slots h) ?_)
  | (refine wLP rfl 31 (.tmp 5) rfl P1 2 rfl (dvC h d) 37 (0, 0) bP1 (cpC d.c) (zai h d) _ U31 rfl (sCp d.c) ?_)
  | (refine zaM rfl 37 0 1 (.tmp 4) (.tmp 6) rfl (.agg (za4 h)) (.agg (cpC d.c)) rfl rfl (dvC (offH h) (DevM.off d)) (built_off h d) ?_)
  | (refine wpList_store_row rfl 37 (.tmp 2) (.tmp 7) rfl (P1 + 1) (dvC (offH h) (DevM.off d)) rfl rfl 37 _ bP1p1 (sDv (offH h) (DevM.off d)) (zat (offH h) (DevM.off d)) (oDv (offH h) (DevM.off d)) ?_))
 clear bP1 bP1p1; refine bodyPost_ret (v := .agg (dvC (offH h) (DevM.off d))) ?_ rfl ?_
 · exact res_c (fn := Tryz.f70) (p := 2) rfl rfl (HG.out.get 0 rfl) U37 rfl (sDv _ _)
 · exact ⟨rfl, HG.out.below⟩
theorem checkS0 (h : DevH) (d : DevR) (h0 : h.n0 ≠ 64) (w : World) (HD : DH w h d) : Calls Tryz.prog 14 #[devV h d] w fun e w' => e = .returned (.int .i64 3) ∧ Below w.heap.size w w' := by
 have q0 : ((h.n0 : Int) != 64) = true := by simp; omega
 clear h0; have i0 : ∀ W, (Instr.index 23 (.agg #[.slice h.a0 h.n0 h.c0, .slice h.a1 h.n1 h.c1]) (.int .i64 0)).run Tryz.prog W = .ok (.slice h.a0 h.n0 h.c0) W := fun _ => by kernel_rfl
 have i1 : ∀ W, (Instr.index 23 (.agg #[.slice h.a0 h.n0 h.c0, .slice h.a1 h.n1 h.c1]) (.int .i64 1)).run Tryz.prog W = .ok (.slice h.a1 h.n1 h.c1) W := fun _ => by kernel_rfl
 unfold devV; obtain ⟨P1, hP1⟩ : ∃ P, w.heap.size = P := ⟨_, rfl⟩; have HS := LH ((((MS.start w).arg HD.argR).alloc (p := P1) (by simp [hP1]) (dvC h d) 37)); go_enter Tryz.func14, Tryz.ntmps14; go_upto_region 1 with fail; refine zau HS.out (fun V0 HS1 => ?_); replace HS := LH HS1; clear HS1 hP1; have cP1_0 := HS.out.cel 0 0 (v := .slice h.a0 h.n0 h.c0) rfl rfl; have cP1_1 := HS.out.cel 0 1 (v := .slice h.a1 h.n1 h.c1) rfl rfl; go_wp2_with fail; clear cP1_0 cP1_1; go_loopw [10] (fun i wr => ∃ k : Nat, i = .int .i64 k ∧ k ≤ 0 ∧ MS w [(P1, dvC h d, 37)] [fun W => DH W h d] [] wr) (fun i _ => 2 - (intOf i).toNat)
 case atStart => exact ⟨0, rfl, by omega, HS.out⟩
 case round =>
  obtain ⟨k, rfl, hk, hs⟩ := hrel; replace HS := LH hs; clear hs; rcases (by omega : k = 0) with rfl
  · skip
    go_wp2_with fail; go_ret; exact ⟨rfl, HS.out.below⟩
theorem checkS1 (h : DevH) (d : DevR) (h0 : h.n0 = 64) (h1 : h.n1 ≠ 64) (w : World) (HD : DH w h d) : Calls Tryz.prog 14 #[devV h d] w fun e w' => e = .returned (.int .i64 3) ∧ Below w.heap.size w w' := by
 have q0 : ((h.n0 : Int) != 64) = false := by simp; omega
 have q1 : ((h.n1 : Int) != 64) = true := by simp; omega
 clear h0 h1; have i0 : ∀ W, (Instr.index 23 (.agg #[.slice h.a0 h.n0 h.c0, .slice h.a1 h.n1 h.c1]) (.int .i64 0)).run Tryz.prog W = .ok (.slice h.a0 h.n0 h.c0) W := fun _ => by kernel_rfl
 have i1 : ∀ W, (Instr.index 23 (.agg #[.slice h.a0 h.n0 h.c0, .slice h.a1 h.n1 h.c1]) (.int .i64 1)).run Tryz.prog W = .ok (.slice h.a1 h.n1 h.c1) W := fun _ => by kernel_rfl
 unfold devV; obtain ⟨P1, hP1⟩ : ∃ P, w.heap.size = P := ⟨_, rfl⟩; have HS := LH ((((MS.start w).arg HD.argR).alloc (p := P1) (by simp [hP1]) (dvC h d) 37)); go_enter Tryz.func14, Tryz.ntmps14; go_upto_region 1 with fail; refine zau HS.out (fun V0 HS1 => ?_); replace HS := LH HS1; clear HS1 hP1; have cP1_0 := HS.out.cel 0 0 (v := .slice h.a0 h.n0 h.c0) rfl rfl; have cP1_1 := HS.out.cel 0 1 (v := .slice h.a1 h.n1 h.c1) rfl rfl; go_wp2_with fail; clear cP1_0 cP1_1; go_loopw [10] (fun i wr => ∃ k : Nat, i = .int .i64 k ∧ k ≤ 1 ∧ MS w [(P1, dvC h d, 37)] [fun W => DH W h d] [] wr) (fun i _ => 2 - (intOf i).toNat)
 case atStart => exact ⟨0, rfl, by omega, HS.out⟩
 case round =>
  obtain ⟨k, rfl, hk, hs⟩ := hrel; replace HS := LH hs; clear hs; rcases (by omega : k = 0 ∨ k = 1) with rfl | rfl
  · skip
    go_wp2_with fail; go_roundw
    case rel => exact ⟨1, by go_num, by omega, HS.out⟩
    case measure => simp [intOf]
  · skip
    go_wp2_with fail; go_ret; exact ⟨rfl, HS.out.below⟩
theorem checkR (h : DevH) (d : DevR) (h0 : h.n0 = 64) (h1 : h.n1 = 64) (l0 : d.s0.length = 64) (l1 : d.s1.length = 64) (w : World) (HD : DH w h d) : Calls Tryz.prog 14 #[devV h d] w fun e w' => e = .returned (.int .i64 (DevM.check d)) ∧ Below w.heap.size w w' := by
 have q0 : ((h.n0 : Int) != 64) = false := by simp; omega
 have q1 : ((h.n1 : Int) != 64) = false := by simp; omega
 clear h0 h1; have HRC : Hid (∀ x : RecR, recV x = .agg (rcC x)) := fun _ => rfl; have HRd : Hid (∀ W, Calls Tryz.prog 32 #[.agg (cpC d.c)] W fun e w' => e = .returned (.tuple #[.agg (rcC (RecM.readOf d.c).1), .int .i64 (RecM.readOf d.c).2.1, .int .i64 (RecM.readOf d.c).2.2]) ∧ Below W.heap.size W w') := fun W => rdR d.c W; have HUp := LH (fun W (x : DH W h d) (hc : RecM.check (RecM.cur d.c) = 0) => checkUpD_any h d (RecM.cur d.c) W x hc l0 l1)
 have HB : Hid (DevM.check d = if RecM.copies d.c ≠ 0 then RecM.copies d.c else if d.up = false then (if d.run ≠ 0 ∨ d.got ≠ [] ∨ d.busy = true ∨ d.done ≠ 0 ∨ d.job ≠ zap then 3 else 0) else DevM.upE d (RecM.cur d.c)) := by
  show _ = _; unfold DevM.check; rw [if_neg (by omega)]
  rfl
 have HDn := LH (fun q : d.up = false => DevM.down_iff q); clear l0 l1; unfold devV at HUp; have i0 : ∀ W, (Instr.index 23 (.agg #[.slice h.a0 h.n0 h.c0, .slice h.a1 h.n1 h.c1]) (.int .i64 0)).run Tryz.prog W = .ok (.slice h.a0 h.n0 h.c0) W := fun _ => by kernel_rfl
 have i1 : ∀ W, (Instr.index 23 (.agg #[.slice h.a0 h.n0 h.c0, .slice h.a1 h.n1 h.c1]) (.int .i64 1)).run Tryz.prog W = .ok (.slice h.a1 h.n1 h.c1) W := fun _ => by kernel_rfl
 unfold devV; obtain ⟨P1, hP1⟩ : ∃ P, w.heap.size = P := ⟨_, rfl⟩; have HS := LH ((((MS.start w).arg HD.argR).alloc (p := P1) (by simp [hP1]) (dvC h d) 37)); go_enter Tryz.func14, Tryz.ntmps14; go_upto_region 1 with fail; refine zau HS.out (fun V0 HS1 => ?_); replace HS := LH HS1; clear HS1 hP1; have cP1_0 := HS.out.cel 0 0 (v := .slice h.a0 h.n0 h.c0) rfl rfl; have cP1_1 := HS.out.cel 0 1 (v := .slice h.a1 h.n1 h.c1) rfl rfl; go_wp2_with fail; clear cP1_0 cP1_1; go_loopw [10] (fun i wr => ∃ k : Nat, i = .int .i64 k ∧ k ≤ 2 ∧ MS w [(P1, dvC h d, 37)] [fun W => DH W h d] [] wr) (fun i _ => 2 - (intOf i).toNat)
 case atStart => exact ⟨0, rfl, by omega, HS.out⟩
 case round =>
  obtain ⟨k, rfl, hk, hs⟩ := hrel; replace HS := LH hs; clear hs; rcases (by omega : k = 0 ∨ k = 1 ∨ k = 2) with rfl | rfl | rfl
  · skip
    go_wp2_with fail; go_roundw
    case rel => exact ⟨1, by go_num, by omega, HS.out⟩
    case measure => simp [intOf]
  · skip
    go_wp2_with fail; go_roundw
    case rel => exact ⟨2, by go_num, by omega, HS.out⟩
    case measure => simp [intOf]
  · skip
    have bP1 := HS.out.gt 0 rfl
    go_wp2_with (first
     | (refine wLP rfl 31 (.tmp 18) rfl P1 2 rfl (dvC h d) 37 (0, 0) bP1 (cpC d.c) (zai h d) _ U31 rfl (sCp d.c) ?_))
    clear bP1; by_cases c0 : RecM.copies d.c = 0
    case neg =>
     have hr : RecM.readOf d.c = (RecM.noRec, 0, RecM.copies d.c) := if_pos c0; rw [hr] at HRd; obtain ⟨E, hE⟩ : ∃ E, RecM.copies d.c = E := ⟨_, rfl⟩; replace HB := LH (HB.out.trans (if_pos c0)); rw [hE] at HRd HB c0; have t0 : (E != 0) = true := by simp [c0]
     clear hr hE c0; refine (HRd.out _).mono ?_; rintro e W1 ⟨rfl, hb⟩; replace HS := LH (HS.out.later hb); clear hb; obtain ⟨P3, hP3⟩ : ∃ P, W1.heap.size = P := ⟨_, rfl⟩; replace HS := LH (HS.out.alloc hP3 (rcC RecM.noRec) 28)
     go_wp2_with (first
      | (refine wSN rfl 28 (.tmp 5) (.tmp 21) rfl P3 (rcC RecM.noRec) rfl rfl 28 _ hP3.symm (sRc RecM.noRec) (lRc RecM.noRec) (oRc RecM.noRec) ?_))
     go_ret; exact ⟨zaG HB.out.symm, HS.out.below⟩
    have hr : RecM.readOf d.c = (RecM.cur d.c, RecM.newest d.c, 0) := if_neg (fun q => q c0); rw [hr] at HRd; replace HB := LH (HB.out.trans (if_neg (fun q => q c0))); have HCk := LH (RecM.cur_ok c0); clear hr c0; refine (HRd.out _).mono ?_; rintro e W1 ⟨rfl, hb⟩; replace HS := LH (HS.out.later hb); clear hb; obtain ⟨P3, hP3⟩ : ∃ P, W1.heap.size = P := ⟨_, rfl⟩; replace HS := LH (HS.out.alloc hP3 (rcC (RecM.cur d.c)) 28); go_upto_region 8 with (refine wSN rfl 28 (.tmp 5) (.tmp 21) rfl P3 (rcC (RecM.cur d.c)) rfl rfl 28 _ hP3.symm (sRc (RecM.cur d.c)) (lRc (RecM.cur d.c)) (oRc (RecM.cur d.c)) ?_); refine zau HS.out (fun V1 HS1 => ?_); replace HS := LH HS1; clear HS1 hP3; have cP1_26 := HS.out.cel 1 26 (v := .bool d.up) rfl rfl
    cases hu : d.up with
    | true =>
      rw [hu] at cP1_26 HB; replace HB := LH (HB.out.trans (if_neg (by decide))); clear hu; have bP1 := HS.out.gt 1 rfl; have bP3 := HS.out.gt 0 rfl
      go_wp2_with (first
       | (refine wpList_load_row rfl 37 (.tmp 1) rfl P1 rfl 37 (dvC h d) (0, 0) _ bP1 U37 rfl (sDv h d) ?_)
       | (refine wpList_load_row rfl 28 (.tmp 5) rfl P3 rfl 28 (rcC (RecM.cur d.c)) (0, 0) _ bP3 U28 rfl (sRc (RecM.cur d.c)) ?_))
      clear cP1_26 bP1 bP3; refine (HUp.out _ (HS.out.read 0 rfl) HCk.out).mono ?_; rintro e W2 ⟨rfl, hb⟩; replace HS := LH (HS.out.later hb); clear hb; go_wp2_with fail; go_ret; exact ⟨zaG HB.out.symm, HS.out.below⟩
    | false =>
      rw [hu] at cP1_26 HB; replace HB := LH (HB.out.trans (if_pos rfl)); replace HDn := LH (HDn.out hu); clear hu; have HO := LH (fun W => offD_any h d W); have HSm := LH (fun W (x : DH W h d) => sameD_any h (offH h) d (DevM.off d) W x x.off); unfold devV at HO HSm; go_wp2_with fail; clear cP1_26; by_cases hd : d = DevM.off d
      case pos =>
       have HR := LH (HB.out.trans (if_neg (HDn.out.1 hd)))
       have HSq : Hid (∀ W, DH W h d → Calls Tryz.prog 15 #[.agg (dvC h d), .agg (dvC (offH h) (DevM.off d))] W fun e w' => e = .returned (.bool true) ∧ Below W.heap.size W w') := fun W x => by
        have := HSm.out W x; rw [decide_eq_true hd] at this; exact this
       clear hd; refine rTu (S := MS w [(P3, (rcC (RecM.cur d.c)), 28), (P1, (dvC h d), 37)] [(fun W => DH W h d)] []) [(0, false), (1, false), (2, true), (3, true), (4, false), (5, false)] false 9999 (by kernel_rfl) (by kernel_rfl) HS.out.drew ?_; simp only [turned, gA, gB, gC]; replace HS := LH HS.out.drew
       repeat (first
        | ((refine zaw (by rfl) 37 (.tmp 1) rfl P1 rfl 37 (dvC h d) _ (fun W hW => hW.get 1 rfl) U37 rfl (sDv h d) ?_); simp only [Act.put, sA, sB, sC])
        | (refine tSt ?_ (by rfl) (fun W9 hW9 => ?_) ?_
           rotate_left
           · (go_simp <;> with_reducible rfl)
           simp only [Act.put, sA, sB, sC])
        | (refine tSk (by rfl) ?_; simp only [Act.put, sA, sB, sC]))
       refine tCa (fun K hK => ?_); go_simp; go_at_call 70; with_reducible refine (HO.out _).mono ?_
       rintro e W11 ⟨rfl, hb⟩; replace HS := LH (HS.out.later hb); clear hb
       try go_wp2_with fail
       refine hK.out _ _ HS.out ?_; clear hK K
       try simp only [Act.put, sA, sB, sC]
       refine tCa (fun K hK => ?_); go_simp; go_at_call 15; with_reducible refine (HSq.out _ (HS.out.read 0 rfl)).mono ?_
       rintro e W12 ⟨rfl, hb⟩; replace HS := LH (HS.out.later hb); clear hb
       try go_wp2_with fail
       refine hK.out _ _ HS.out ?_; clear hK K
       try simp only [Act.put, sA, sB, sC]
       repeat (first
        | (refine tSt ?_ (by rfl) (fun W9 hW9 => ?_) ?_
           rotate_left
           · (go_simp <;> with_reducible rfl)
           simp only [Act.put, sA, sB, sC])
        | (refine tSk (by rfl) ?_; simp only [Act.put, sA, sB, sC]))
       refine tEn ?_; go_wp2_with fail; go_ret; exact ⟨zaG HR.out.symm, HS.out.below⟩
      have HR := LH (HB.out.trans (if_pos (Classical.not_not.1 (fun q => hd (HDn.out.2 q)))))
      have HSq : Hid (∀ W, DH W h d → Calls Tryz.prog 15 #[.agg (dvC h d), .agg (dvC (offH h) (DevM.off d))] W fun e w' => e = .returned (.bool false) ∧ Below W.heap.size W w') := fun W x => by
       have := HSm.out W x; rw [decide_eq_false hd] at this; exact this
      clear hd; refine rTu (S := MS w [(P3, (rcC (RecM.cur d.c)), 28), (P1, (dvC h d), 37)] [(fun W => DH W h d)] []) [(0, false), (1, false), (2, true), (3, true), (4, false), (5, false)] false 9999 (by kernel_rfl) (by kernel_rfl) HS.out.drew ?_; simp only [turned, gA, gB, gC]; replace HS := LH HS.out.drew
      repeat (first
       | ((refine zaw (by rfl) 37 (.tmp 1) rfl P1 rfl 37 (dvC h d) _ (fun W hW => hW.get 1 rfl) U37 rfl (sDv h d) ?_); simp only [Act.put, sA, sB, sC])
       | (refine tSt ?_ (by rfl) (fun W9 hW9 => ?_) ?_
          rotate_left
          · (go_simp <;> with_reducible rfl)
          simp only [Act.put, sA, sB, sC])
       | (refine tSk (by rfl) ?_; simp only [Act.put, sA, sB, sC]))
      refine tCa (fun K hK => ?_); go_simp; go_at_call 70; with_reducible refine (HO.out _).mono ?_
      rintro e W11 ⟨rfl, hb⟩; replace HS := LH (HS.out.later hb); clear hb
      try go_wp2_with fail
      refine hK.out _ _ HS.out ?_; clear hK K
      try simp only [Act.put, sA, sB, sC]
      refine tCa (fun K hK => ?_); go_simp; go_at_call 15; with_reducible refine (HSq.out _ (HS.out.read 0 rfl)).mono ?_
      rintro e W12 ⟨rfl, hb⟩; replace HS := LH (HS.out.later hb); clear hb
      try go_wp2_with fail
      refine hK.out _ _ HS.out ?_; clear hK K
      try simp only [Act.put, sA, sB, sC]
      repeat (first
       | (refine tSt ?_ (by rfl) (fun W9 hW9 => ?_) ?_
          rotate_left
          · (go_simp <;> with_reducible rfl)
          simp only [Act.put, sA, sB, sC])
       | (refine tSk (by rfl) ?_; simp only [Act.put, sA, sB, sC]))
      refine tEn ?_; go_wp2_with fail; go_ret; exact ⟨zaG HR.out.symm, HS.out.below⟩
theorem ckD (h : DevH) (d : DevR) (w : World) (HD : DH w h d) : Calls Tryz.prog 14 #[devV h d] w fun e w' => e = .returned (.int .i64 (DevM.check d)) ∧ Below w.heap.size w w' := by
 have e0 := HD.b0.len; have e1 := HD.b1.len; by_cases h0 : h.n0 = 64
 · by_cases h1 : h.n1 = 64
   · exact checkR h d h0 h1 (by omega) (by omega) w HD
   · rw [show DevM.check d = 3 from if_pos (.inr (by omega))]
     exact checkS1 h d h0 h1 w HD
 · rw [show DevM.check d = 3 from if_pos (.inl (by omega))]
   exact checkS0 h d h0 w HD
theorem zbF : CheckDC := fun h d w HD => ckD h d w HD
theorem put_all (h : DevH) (d : DevR) : putAt zDev 0 (dvC h d).toList = dvC h d := by kernel_rfl
theorem newD_many (a : Option Addr) (n c : Nat) (l : List Int) (w : World) (hb : BS w a n c l) (hn : 64 < n) : Calls Tryz.prog 11 #[.slice a n c] w (GDv (DevM.noDev, 1) w) := by
 have _hb := hb; clear _hb; have t1 : decide ((n : Int) > 64) = true := by simp; omega
 clear hb hn; obtain ⟨P1, hP1⟩ : ∃ P, w.heap.size = P := ⟨_, rfl⟩; have HS := LH ((MS.start w).alloc (p := P1) (by simp [hP1]) zDev 37); go_enter Tryz.func11, Tryz.ntmps11; go_upto_region 1 with fail; refine zau HS.out (fun V0 HS1 => ?_); replace HS := LH HS1; clear HS1 hP1; replace HS := LH (MH.of HS.out); have bP1 := HS.out.gt 0 rfl; have HG := LH (HS.out.set 0 rfl zDev)
 go_wp2_with (first
  | ((with_reducible show wpList _ _ _ _ _ _); refine wpList_store_row rfl 37 (.tmp 2) (.tmp 8) rfl P1 zDev rfl rfl 37 zDev ?_ ?_ ?_ ?_ ?_; exact bP1; exact zac; exact zav; exact zaq))
 clear bP1; refine bodyPost_ret (v := .tuple #[.agg zDev, .int .i64 1]) ?_ rfl ?_
 · exact zam (fn := Tryz.f11) (p := 2) (a := 3) rfl rfl rfl (HG.out.get 0 rfl) U37 rfl zac
 · exact GDv.bad HG.out.below
theorem newD_few (a : Option Addr) (n c : Nat) (l : List Int) (w : World) (hb : BS w a n c l) (hn : n ≤ 64) : Calls Tryz.prog 11 #[.slice a n c] w (GDv ((⟨DevM.fill l, DevM.fill [], ⟨⟨true, (⟨1, 0, false, 0, 1, (⟨1, n, SumM.addL 1 l⟩ : InfR), RecM.noInf⟩ : RecR)⟩, RecM.noCop⟩, true, 0, [], false, zap, 0⟩ : DevR), 0) w) := by
 have t1 : decide ((n : Int) > 64) = false := by simp; omega
 have HB := LH hb; have HSm : Hid (∀ W, BS W a n c l → Calls Tryz.prog 56 #[.slice a n c] W fun e w' => e = .returned (.int .i64 (SumM.addL 1 l)) ∧ W = w') := fun W h => of_any a n c l W h
 have HFl : Hid (∀ W F, W.heap.size = F → BS W a n c l → Calls Tryz.prog 57 #[.slice a n c] W fun e w' => e = .returned (.slice (some ⟨F, 0, none⟩) 64 64) ∧ w' = W.alloc (.cells (zaX l) 5)) := fun W F hF hb => by
  subst hF; exact zbZ a n c l W hb (by omega)
 have HFn : Hid (∀ W F, W.heap.size = F → Calls Tryz.prog 57 #[.slice none 0 0] W fun e w' => e = .returned (.slice (some ⟨F, 0, none⟩) 64 64) ∧ w' = W.alloc (.cells (zaX []) 5)) := fun W F hF => by
  subst hF; exact zbZ none 0 0 [] W (BS.nil_ W) (by omega)
 have HLl := LH hb.len; have HNn := LH hn; clear hb hn; obtain ⟨P1, hP1⟩ : ∃ P, w.heap.size = P := ⟨_, rfl⟩; have HS := LH ((MS.start w).alloc (p := P1) (by simp [hP1]) zDev 37); go_enter Tryz.func11, Tryz.ntmps11; go_upto_region 1 with fail; refine zau HS.out (fun V0 HS1 => ?_); replace HS := LH HS1; clear HS1 hP1; replace HS := LH (MH.of HS.out); obtain ⟨P3, hP3⟩ : ∃ P, V0.heap.size = P := ⟨_, rfl⟩; replace HS := LH (HS.out.alloc hP3 (rcC (⟨1, 0, false, 0, 1, RecM.noInf, RecM.noInf⟩ : RecR)) 28); go_upto_region 4 with ((with_reducible show wpList _ _ _ _ _ _); refine wSN rfl 28 (.tmp 4) (.tmp 9) rfl P3 (rcC (⟨1, 0, false, 0, 1, RecM.noInf, RecM.noInf⟩ : RecR)) rfl rfl 28 _ ?_ ?_ ?_ ?_ ?_; exact hP3.symm; exact (sRc (⟨1, 0, false, 0, 1, RecM.noInf, RecM.noInf⟩ : RecR)); exact (lRc (⟨1, 0, false, 0, 1, RecM.noInf, RecM.noInf⟩ : RecR)); exact (oRc (⟨1, 0, false, 0, 1, RecM.noInf, RecM.noInf⟩ : RecR))); refine gnH HS.out (fun V1 HS1 => ?_); replace HS := LH HS1; clear HS1 hP3; go_wp2_with fail; refine (HSm.out _ (HB.out.later HS.out.below)).mono ?_; rintro e W9 ⟨rfl, rfl⟩; have HS2 := LH (HS.out.cells 0 rfl (put_inf0 1 0 false 0 1 RecM.noInf RecM.noInf (⟨1, n, SumM.addL 1 l⟩ : InfR)))
 go_upto_region 5 with (first
  | ((with_reducible show wpList _ _ _ _ _ _); refine wpList_store_mid rfl 25 (.tmp 16) (.tmp 14) rfl P3 5 #[Value.int .i64 1, .int .i64 n, .int .i64 (SumM.addL 1 l)] rfl rfl ?_ ?_ ?_ ?_; exact HS.out.ms.there 0 rfl (by show 8 ≤ 11; decide); exact size_inf (⟨1, n, SumM.addL 1 l⟩ : InfR); exact one_inf (⟨1, n, SumM.addL 1 l⟩ : InfR); refine glH HS2.out (fun V3 HS1 => ?_)))
 replace HS := LH HS1; clear HS1 HS2; replace HS := LH HS.out.drew; refine rTu (S := MS w [(P3, (rcC (⟨1, 0, false, 0, 1, (⟨1, n, SumM.addL 1 l⟩ : InfR), RecM.noInf⟩ : RecR)), 28)] [] []) [(0, false), (4, false), (5, false), (6, false), (1, true), (2, true), (3, false), (7, false), (8, true), (9, false)] false 9999 (by kernel_rfl) (by kernel_rfl) (HS.out.ms.sub (List.sublist_append_left [(P3, (rcC (⟨1, 0, false, 0, 1, (⟨1, n, SumM.addL 1 l⟩ : InfR), RecM.noInf⟩ : RecR)), 28)] [(P1, _, 37)])) ?_; simp only [turned, gA, gB, gC]; refine tSt ?_ (by rfl) (fun W9 hW9 => ?_) ?_; rotate_left
 · (go_simp <;> with_reducible rfl)
 simp only [Act.put, sA, sB, sC]; refine zaw (by rfl) 28 (.tmp 4) rfl P3 rfl 28 (rcC (⟨1, 0, false, 0, 1, (⟨1, n, SumM.addL 1 l⟩ : InfR), RecM.noInf⟩ : RecR)) _ (fun W hW => hW.get 0 rfl) U28 rfl (sRc (⟨1, 0, false, 0, 1, (⟨1, n, SumM.addL 1 l⟩ : InfR), RecM.noInf⟩ : RecR)) ?_; simp only [Act.put, sA, sB, sC]; refine tSt (.agg #[.bool true, .int .i64 1, .int .i64 0, .bool false, .int .i64 0, .int .i64 1, .int .i64 1, .int .i64 n, .int .i64 (SumM.addL 1 l), .int .i64 0, .int .i64 0, .int .i64 0]) (by rfl) (fun W9 _ => by kernel_rfl) ?_; simp only [Act.put, sA, sB, sC]; refine tSt (.agg (cpC ⟨⟨true, (⟨1, 0, false, 0, 1, (⟨1, n, SumM.addL 1 l⟩ : InfR), RecM.noInf⟩ : RecR)⟩, RecM.noCop⟩)) (by rfl) (fun W9 _ => by kernel_rfl) ?_; simp only [Act.put, sA, sB, sC]; obtain ⟨F0, hF0⟩ : ∃ F, (V3.drew).heap.size = F := ⟨_, rfl⟩; refine tCa (fun K hK => ?_); go_simp; go_at_call 57; with_reducible refine (HFl.out _ F0 hF0 (HB.out.later HS.out.below)).mono ?_
 rintro e W9 ⟨rfl, rfl⟩; replace HS := LH (HS.out.alloc hF0 (zaX l) 5); clear hF0
 try go_wp2_with fail
 refine hK.out _ _ (HS.out.ms.sub (.cons _ (List.sublist_append_left [(P3, (rcC (⟨1, 0, false, 0, 1, (⟨1, n, SumM.addL 1 l⟩ : InfR), RecM.noInf⟩ : RecR)), 28)] [(P1, _, 37)]))) ?_; clear hK K
 try simp only [Act.put, sA, sB, sC]
 refine zaV HS.out (fun U0 HS1 => ?_); replace HS := LH HS1; clear HS1
 repeat (first
  | (refine tSt ?_ (by rfl) (fun W9 hW9 => ?_) ?_
     rotate_left
     · (go_simp <;> with_reducible rfl)
     simp only [Act.put, sA, sB, sC])
  | (refine tSk (by rfl) ?_; simp only [Act.put, sA, sB, sC]))
 obtain ⟨F1, hF1⟩ : ∃ F, (U0).heap.size = F := ⟨_, rfl⟩; refine tCa (fun K hK => ?_); go_simp; go_at_call 57; with_reducible refine (HFn.out _ F1 hF1).mono ?_
 rintro e W9 ⟨rfl, rfl⟩; replace HS := LH (HS.out.alloc hF1 (zaX []) 5); clear hF1
 try go_wp2_with fail
 refine hK.out _ _ (HS.out.ms.sub (.cons _ (.cons _ (List.sublist_append_left [(P3, (rcC (⟨1, 0, false, 0, 1, (⟨1, n, SumM.addL 1 l⟩ : InfR), RecM.noInf⟩ : RecR)), 28)] [(P1, _, 37)])))) ?_; clear hK K
 try simp only [Act.put, sA, sB, sC]
 refine zaV HS.out (fun U1 HS1 => ?_); replace HS := LH HS1; clear HS1; refine tSt ?_ (by rfl) (fun W9 hW9 => ?_) ?_; rotate_left
 · (go_simp <;> with_reducible rfl)
 simp only [Act.put, sA, sB, sC]; refine tSt (.agg (dvC (⟨some ⟨F0, 0, none⟩, 64, 64, some ⟨F1, 0, none⟩, 64, 64, none, 0, 0, none, 0, 0⟩ : DevH) (⟨DevM.fill l, DevM.fill [], ⟨⟨true, (⟨1, 0, false, 0, 1, (⟨1, n, SumM.addL 1 l⟩ : InfR), RecM.noInf⟩ : RecR)⟩, RecM.noCop⟩, true, 0, [], false, zap, 0⟩ : DevR))) (by rfl) (fun W9 _ => by kernel_rfl) ?_; simp only [Act.put, sA, sB, sC]; have HS2 := LH (HS.out.cells 3 rfl (put_all (⟨some ⟨F0, 0, none⟩, 64, 64, some ⟨F1, 0, none⟩, 64, 64, none, 0, 0, none, 0, 0⟩ : DevH) (⟨DevM.fill l, DevM.fill [], ⟨⟨true, (⟨1, 0, false, 0, 1, (⟨1, n, SumM.addL 1 l⟩ : InfR), RecM.noInf⟩ : RecR)⟩, RecM.noCop⟩, true, 0, [], false, zap, 0⟩ : DevR))); refine tCa (fun K hK => ?_); refine zaW (by rfl) 37 (.tmp 2) (.tmp 24) rfl P1 0 (dvC (⟨some ⟨F0, 0, none⟩, 64, 64, some ⟨F1, 0, none⟩, 64, 64, none, 0, 0, none, 0, 0⟩ : DevH) (⟨DevM.fill l, DevM.fill [], ⟨⟨true, (⟨1, 0, false, 0, 1, (⟨1, n, SumM.addL 1 l⟩ : InfR), RecM.noInf⟩ : RecR)⟩, RecM.noCop⟩, true, 0, [], false, zap, 0⟩ : DevR)) rfl rfl (HS.out.ms.there 3 rfl (by show 37 ≤ 37; decide)) (sDv _ _) (oDv _ _) ?_; refine hK.out _ _ (HS2.out.ms.sub (.cons _ (.cons _ (List.sublist_append_left [(P3, (rcC (⟨1, 0, false, 0, 1, (⟨1, n, SumM.addL 1 l⟩ : InfR), RecM.noInf⟩ : RecR)), 28)] [(P1, _, 37)])))) ?_; clear hK K
 try simp only [Act.put]
 refine zaV HS2.out (fun U2 HS1 => ?_); replace HS := LH HS1; clear HS1 HS2
 repeat (first
  | (refine tSt ?_ (by rfl) (fun W9 hW9 => ?_) ?_
     rotate_left
     · (go_simp <;> with_reducible rfl)
     simp only [Act.put, sA, sB, sC])
  | (refine tSk (by rfl) ?_; simp only [Act.put, sA, sB, sC]))
 refine tEn ?_; go_wp2_with fail; refine bodyPost_ret (v := .tuple #[.agg (dvC (⟨some ⟨F0, 0, none⟩, 64, 64, some ⟨F1, 0, none⟩, 64, 64, none, 0, 0, none, 0, 0⟩ : DevH) (⟨DevM.fill l, DevM.fill [], ⟨⟨true, (⟨1, 0, false, 0, 1, (⟨1, n, SumM.addL 1 l⟩ : InfR), RecM.noInf⟩ : RecR)⟩, RecM.noCop⟩, true, 0, [], false, zap, 0⟩ : DevR)), .int .i64 0]) ?_ rfl ?_
 · exact zam (fn := Tryz.f11) (p := 2) (a := 3) rfl rfl rfl (HS.out.get 3 rfl) U37 rfl (sDv _ _)
 · have g0 := HS.out.get 1 rfl
   have g1 := HS.out.get 0 rfl; simp only at g0 g1; have b0 : w.heap.size ≤ F0 := HS.out.ms.base (F0, zaX l, 5) (by simp); have b1 : w.heap.size ≤ F1 := HS.out.ms.base (F1, zaX [], 5) (by simp); have c0 := HS.out.ms.lt (q := (F0, zaX l, 5)) (by simp); have c1 := HS.out.ms.lt (q := (F1, zaX [], 5)) (by simp); refine ⟨(⟨some ⟨F0, 0, none⟩, 64, 64, some ⟨F1, 0, none⟩, 64, 64, none, 0, 0, none, 0, 0⟩ : DevH), rfl, HS.out.below, fun V v1 v2 => ?_⟩; have hl := HLl.out; have hn := HNn.out; have hs := SumM.addL_bd l 1 (by omega) (by omega); refine ⟨zb8 ((v2 F0 b0 c0).trans g0) (by omega) HB.out.bytes, zb8 ((v2 F1 b1 c1).trans g1) (by show (0 : Nat) ≤ 64; omega) (fun x hx => by cases hx), CS.nil_ _, OS.nil_ _, ⟨?_, noRec_w⟩, zaS, zbv, zaS⟩; unfold RecW InfW I64 RecM.noInf; simp only; omega
theorem newD_any (a : Option Addr) (n c : Nat) (l : List Int) (w : World) (hb : BS w a n c l) : Calls Tryz.prog 11 #[.slice a n c] w (GDv (DevM.newOf l) w) := by
 unfold DevM.newOf; have hl := hb.len; by_cases h : 64 < l.length
 · rw [if_pos h]
   exact newD_many a n c l w hb (by omega)
 · rw [if_neg h, hl]
   exact newD_few a n c l w hb (by omega)
def GivesD1 (d : DevR) (w : World) (e : Ending) (w' : World) : Prop :=
 ∃ h, e = .returned (devV h d) ∧ Below w.heap.size w w' ∧ NewR w.heap.size w' (fun W => DH W h d)
theorem freshD_any (a : Option Addr) (n c : Nat) (l : List Int) (w : World) (hb : BS w a n c l) (hn : n ≤ 64) : Calls Tryz.prog 17 #[.slice a n c] w (GivesD1 (⟨DevM.fill l, DevM.fill [], ⟨⟨true, (⟨1, 0, false, 0, 1, (⟨1, n, SumM.addL 1 l⟩ : InfR), RecM.noInf⟩ : RecR)⟩, RecM.noCop⟩, true, 0, [], false, zap, 0⟩ : DevR) w) := by
 have HB := LH hb; have HLl := LH hb.len; have HNn := LH hn; clear hb hn; obtain ⟨P1, hP1⟩ : ∃ P, w.heap.size = P := ⟨_, rfl⟩; have HS := LH (((MS.start w).alloc (p := P1) (by simp [hP1]) zDev 37)); go_enter Tryz.func17, Tryz.ntmps17; go_upto_region 1 with fail; refine zau HS.out (fun V0 HS1 => ?_); replace HS := LH HS1; clear HS1 hP1; replace HS := LH (MH.of HS.out); go_wp2_with fail; refine (zbE a n c l _ (HB.out.later HS.out.below) HNn.out).mono ?_; rintro e W1 ⟨F0, rfl, hg, -, hlo, -, hb⟩; replace HS := LH (HS.out.block hb hg hlo); clear hb hg hlo; go_wp2_with fail; refine (zbE none 0 0 [] _ (BS.nil_ _) (by omega)).mono ?_; rintro e W2 ⟨F1, rfl, hg, -, hlo, -, hb⟩; replace HS := LH (HS.out.block hb hg hlo); clear hb hg hlo
 go_wp2_with (first
  | ((with_reducible show wpList _ _ _ _ _ _); refine zaE rfl 23 _ rfl [(0, .slice (some ⟨F0, 0, none⟩) 64 64), (1, .slice (some ⟨F1, 0, none⟩) 64 64)] rfl #[.slice (some ⟨F0, 0, none⟩) 64 64, .slice (some ⟨F1, 0, none⟩) 64 64] (by kernel_rfl) ?_))
 refine (sumOf_any a n c l _ (HB.out.later HS.out.below)).mono ?_; rintro e W9 ⟨rfl, rfl⟩; have HG := LH (HS.out.set 2 rfl (dvC (⟨some ⟨F0, 0, none⟩, 64, 64, some ⟨F1, 0, none⟩, 64, 64, none, 0, 0, none, 0, 0⟩ : DevH) (⟨DevM.fill l, DevM.fill [], ⟨⟨true, (⟨1, 0, false, 0, 1, (⟨1, n, SumM.addL 1 l⟩ : InfR), RecM.noInf⟩ : RecR)⟩, RecM.noCop⟩, true, 0, [], false, zap, 0⟩ : DevR))); have bP1 := HS.out.gt 2 rfl
 go_wp2_with (first
  | ((with_reducible show wpList _ _ _ _ _ _); refine zaE rfl 25 _ rfl [(0, .int .i64 1), (1, .int .i64 n), (2, .int .i64 (SumM.addL 1 l))] rfl #[.int .i64 1, .int .i64 n, .int .i64 (SumM.addL 1 l)] (by kernel_rfl) ?_)
  | ((with_reducible show wpList _ _ _ _ _ _); refine zaE rfl 26 _ rfl [(0, .agg #[.int .i64 1, .int .i64 n, .int .i64 (SumM.addL 1 l)])] rfl #[.int .i64 1, .int .i64 n, .int .i64 (SumM.addL 1 l), .int .i64 0, .int .i64 0, .int .i64 0] (by kernel_rfl) ?_)
  | ((with_reducible show wpList _ _ _ _ _ _); refine zaE rfl 28 _ rfl [(0, .int .i64 1), (4, .int .i64 1), (5, .agg #[.int .i64 1, .int .i64 n, .int .i64 (SumM.addL 1 l), .int .i64 0, .int .i64 0, .int .i64 0])] rfl (rcC (⟨1, 0, false, 0, 1, (⟨1, n, SumM.addL 1 l⟩ : InfR), RecM.noInf⟩ : RecR)) (by kernel_rfl) ?_)
  | ((with_reducible show wpList _ _ _ _ _ _); refine zaE rfl 30 _ rfl [(0, .bool true), (1, .agg (rcC (⟨1, 0, false, 0, 1, (⟨1, n, SumM.addL 1 l⟩ : InfR), RecM.noInf⟩ : RecR)))] rfl (zan ⟨true, (⟨1, 0, false, 0, 1, (⟨1, n, SumM.addL 1 l⟩ : InfR), RecM.noInf⟩ : RecR)⟩) (by kernel_rfl) ?_)
  | ((with_reducible show wpList _ _ _ _ _ _); refine zaE rfl 31 _ rfl [(0, .agg (zan ⟨true, (⟨1, 0, false, 0, 1, (⟨1, n, SumM.addL 1 l⟩ : InfR), RecM.noInf⟩ : RecR)⟩))] rfl (cpC ⟨⟨true, (⟨1, 0, false, 0, 1, (⟨1, n, SumM.addL 1 l⟩ : InfR), RecM.noInf⟩ : RecR)⟩, RecM.noCop⟩) (by kernel_rfl) ?_)
  | ((with_reducible show wpList _ _ _ _ _ _); refine zaE rfl 37 _ rfl [(2, .bool true), (0, .agg #[.slice (some ⟨F0, 0, none⟩) 64 64, .slice (some ⟨F1, 0, none⟩) 64 64]), (1, .agg (cpC ⟨⟨true, (⟨1, 0, false, 0, 1, (⟨1, n, SumM.addL 1 l⟩ : InfR), RecM.noInf⟩ : RecR)⟩, RecM.noCop⟩))] rfl (dvC (⟨some ⟨F0, 0, none⟩, 64, 64, some ⟨F1, 0, none⟩, 64, 64, none, 0, 0, none, 0, 0⟩ : DevH) (⟨DevM.fill l, DevM.fill [], ⟨⟨true, (⟨1, 0, false, 0, 1, (⟨1, n, SumM.addL 1 l⟩ : InfR), RecM.noInf⟩ : RecR)⟩, RecM.noCop⟩, true, 0, [], false, zap, 0⟩ : DevR)) (by kernel_rfl) ?_)
  | ((with_reducible show wpList _ _ _ _ _ _); refine wpList_store_row rfl 37 (.tmp 2) (.tmp 16) rfl P1 (dvC (⟨some ⟨F0, 0, none⟩, 64, 64, some ⟨F1, 0, none⟩, 64, 64, none, 0, 0, none, 0, 0⟩ : DevH) (⟨DevM.fill l, DevM.fill [], ⟨⟨true, (⟨1, 0, false, 0, 1, (⟨1, n, SumM.addL 1 l⟩ : InfR), RecM.noInf⟩ : RecR)⟩, RecM.noCop⟩, true, 0, [], false, zap, 0⟩ : DevR)) rfl rfl 37 zDev ?_ ?_ ?_ ?_ ?_; exact bP1; exact (sDv (⟨some ⟨F0, 0, none⟩, 64, 64, some ⟨F1, 0, none⟩, 64, 64, none, 0, 0, none, 0, 0⟩ : DevH) (⟨DevM.fill l, DevM.fill [], ⟨⟨true, (⟨1, 0, false, 0, 1, (⟨1, n, SumM.addL 1 l⟩ : InfR), RecM.noInf⟩ : RecR)⟩, RecM.noCop⟩, true, 0, [], false, zap, 0⟩ : DevR)); exact (zat _ _); exact (oDv (⟨some ⟨F0, 0, none⟩, 64, 64, some ⟨F1, 0, none⟩, 64, 64, none, 0, 0, none, 0, 0⟩ : DevH) (⟨DevM.fill l, DevM.fill [], ⟨⟨true, (⟨1, 0, false, 0, 1, (⟨1, n, SumM.addL 1 l⟩ : InfR), RecM.noInf⟩ : RecR)⟩, RecM.noCop⟩, true, 0, [], false, zap, 0⟩ : DevR))))
 clear bP1; refine bodyPost_ret (v := .agg (dvC (⟨some ⟨F0, 0, none⟩, 64, 64, some ⟨F1, 0, none⟩, 64, 64, none, 0, 0, none, 0, 0⟩ : DevH) (⟨DevM.fill l, DevM.fill [], ⟨⟨true, (⟨1, 0, false, 0, 1, (⟨1, n, SumM.addL 1 l⟩ : InfR), RecM.noInf⟩ : RecR)⟩, RecM.noCop⟩, true, 0, [], false, zap, 0⟩ : DevR))) ?_ rfl ?_
 · exact res_c (fn := Tryz.f17) (p := 2) rfl rfl (HG.out.get 2 rfl) U37 rfl (sDv _ _)
 · have g0 := HG.out.get 1 rfl
   have g1 := HG.out.get 0 rfl; simp only at g0 g1; have b0 : w.heap.size ≤ F0 := HG.out.ms.base (F0, zaX l, 5) (by simp); have b1 : w.heap.size ≤ F1 := HG.out.ms.base (F1, zaX [], 5) (by simp); have c0 := HG.out.ms.lt (q := (F0, zaX l, 5)) (by simp); have c1 := HG.out.ms.lt (q := (F1, zaX [], 5)) (by simp); refine ⟨(⟨some ⟨F0, 0, none⟩, 64, 64, some ⟨F1, 0, none⟩, 64, 64, none, 0, 0, none, 0, 0⟩ : DevH), rfl, HG.out.below, fun V v1 v2 => ?_⟩; have hl := HLl.out; have hn := HNn.out; have hs := SumM.addL_bd l 1 (by omega) (by omega); refine ⟨zb8 ((v2 F0 b0 c0).trans g0) (by omega) HB.out.bytes, zb8 ((v2 F1 b1 c1).trans g1) (by show (0 : Nat) ≤ 64; omega) (fun x hx => by cases hx), CS.nil_ _, OS.nil_ _, ⟨?_, noRec_w⟩, zaS, zbv, zaS⟩; unfold RecW InfW I64 RecM.noInf; simp only; omega
theorem gen0_any (l : CopsR) (h : RecM.copies l = 0) (B : Nat) (W : World) (hB : W.heap[B]? = some (.cells (cpC l) 31 (0, 0))) :
 Calls Tryz.prog 122 #[.int .i64 0, .pointer (some ⟨B, 0, none⟩)] W fun e w' => e = .returned (.int .i64 l.c0.r.gen) ∧ W = w' := by
 have hz : l.c0.ok = false → l.c0.r.gen = 0 := by
  intro ho; obtain ⟨h0, h1, -⟩ := RecM.copies_zero.1 h; rw [RecM.copErr_no h0 ho]
  rfl
 have hok := (oks_cells hB).1; have hgn := (cop0_cells hB).1; clear hB h
 cases ho : l.c0.ok
 · rw [ho] at hok
   have HZ := LH (hz ho); clear hz ho hgn; go_enter Tryz.func122, Tryz.ntmps122; go_wp2_with fail; go_ret; exact ⟨zaG HZ.out.symm, rfl⟩
 · rw [ho] at hok
   clear hz ho; go_enter Tryz.func122, Tryz.ntmps122; go_wp2_with fail; go_ret; exact ⟨rfl, rfl⟩
theorem gen1_any (l : CopsR) (h : RecM.copies l = 0) (B : Nat) (W : World) (hB : W.heap[B]? = some (.cells (cpC l) 31 (0, 0))) :
 Calls Tryz.prog 122 #[.int .i64 1, .pointer (some ⟨B, 0, none⟩)] W fun e w' => e = .returned (.int .i64 l.c1.r.gen) ∧ W = w' := by
 have hz : l.c1.ok = false → l.c1.r.gen = 0 := by
  intro ho; obtain ⟨h0, h1, -⟩ := RecM.copies_zero.1 h; rw [RecM.copErr_no h1 ho]
  rfl
 have hok := (oks_cells hB).2; have hgn := (cop1_cells hB).1; clear hB h
 cases ho : l.c1.ok
 · rw [ho] at hok
   have HZ := LH (hz ho); clear hz ho hgn; go_enter Tryz.func122, Tryz.ntmps122; go_wp2_with fail; go_ret; exact ⟨zaG HZ.out.symm, rfl⟩
 · rw [ho] at hok
   clear hz ho; go_enter Tryz.func122, Tryz.ntmps122; go_wp2_with fail; go_ret; exact ⟨rfl, rfl⟩
theorem zaP (l : CopsR) (h : RecM.copies l = 0) (w : World) :
 Calls Tryz.prog 60 #[copsV l] w fun e w' => e = .returned (.tuple #[recV (RecM.cur l), .int .i64 (RecM.newest l)]) ∧ Below w.heap.size w w' := by
 have HST := LH (RdSt.start w l); have HG0 := LH (gen0_any l h w.heap.size _ HST.out.c0); have HG1 := LH (gen1_any l h w.heap.size _ HST.out.c0); have HNw := LH (RecM.newest_gen (l := l) h); unfold copsV; clear h; go_enter Tryz.func60, Tryz.ntmps60; go_wp2_with fail; refine HG1.out.mono ?_; rintro e w' ⟨rfl, rfl⟩; go_wp2_with fail; refine HG0.out.mono ?_; rintro e w' ⟨rfl, rfl⟩; generalize (w.alloc (.cells (cpC l) 31)).alloc (.cells #[.int .i64 0, .int .i64 0, .bool false, .int .i64 0, .int .i64 0, .int .i64 0, .int .i64 0, .int .i64 0, .int .i64 0, .int .i64 0, .int .i64 0] 28) = W2 at HST HG0 HG1 ⊢; by_cases hg : l.c0.r.gen < l.c1.r.gen
 · replace HNw := LH (HNw.out.trans (if_pos hg))
   obtain ⟨q0, q1, q2, q3, q4, q5, q6, q7, q8, q9, q10⟩ := cop1_cells HST.out.c0
   have HCu : Hid (RecM.cur l = l.c1.r) := by
    show _ = _; unfold RecM.cur; rw [HNw.out]
    rfl
   have hc1 := HST.out.c1; have HGv := LH (setRow_heap W2 (w.heap.size + 1) _ (rcC l.c1.r) 28 (0, 0) hc1); have HB3 := LH (zaZ HST.out.below (by omega : w.heap.size ≤ w.heap.size + 1) (rcC l.c1.r)); have hi2 : (Tryz.prog.info? 28).map (·.size) = some (rcC l.c1.r).size := by kernel_rfl
   have ha : (rcC l.c1.r).all (·.oneCell') = true := by kernel_rfl
   clear HG0 HG1; go_wp2_with (refine wpList_store_row rfl 28 (.tmp 2) (.tmp 13) rfl (w.heap.size + 1) (rcC l.c1.r) rfl rfl 28 _ hc1 hi2 rfl ha ?_); refine bodyPost_ret (v := .tuple #[.agg (rcC l.c1.r), .int .i64 1]) ?_ rfl ?_
   · exact zam (fn := Tryz.f60) (p := 2) (a := 3) rfl rfl rfl HGv.out U28 rfl hi2
   · exact ⟨by rw [HNw.out, HCu.out]; rfl, HB3.out⟩
 · have tg : decide (l.c0.r.gen < l.c1.r.gen) = false := by simp; omega
   replace HNw := LH (HNw.out.trans (if_neg hg)); obtain ⟨q0, q1, q2, q3, q4, q5, q6, q7, q8, q9, q10⟩ := cop0_cells HST.out.c0
   have HCu : Hid (RecM.cur l = l.c0.r) := by
    show _ = _; unfold RecM.cur; rw [HNw.out]
    rfl
   have hc1 := HST.out.c1; have HGv := LH (setRow_heap W2 (w.heap.size + 1) _ (rcC l.c0.r) 28 (0, 0) hc1); have HB3 := LH (zaZ HST.out.below (by omega : w.heap.size ≤ w.heap.size + 1) (rcC l.c0.r)); have hi2 : (Tryz.prog.info? 28).map (·.size) = some (rcC l.c0.r).size := by kernel_rfl
   have ha : (rcC l.c0.r).all (·.oneCell') = true := by kernel_rfl
   clear HG0 HG1; go_wp2_with (refine wpList_store_row rfl 28 (.tmp 2) (.tmp 16) rfl (w.heap.size + 1) (rcC l.c0.r) rfl rfl 28 _ hc1 hi2 rfl ha ?_); refine bodyPost_ret (v := .tuple #[.agg (rcC l.c0.r), .int .i64 0]) ?_ rfl ?_
   · exact zam (fn := Tryz.f60) (p := 2) (a := 3) rfl rfl rfl HGv.out U28 rfl hi2
   · exact ⟨by rw [HNw.out, HCu.out]; rfl, HB3.out⟩
theorem imageOf0 (h : DevH) (d : DevR) (m : Nat) (w : World) (hco : RecM.copies d.c = 0) (ha : (DevM.rc d).act = 0) (hm : (DevM.rc d).i0.size = (m : Int)) (hc : m ≤ h.c0) : Calls Tryz.prog 64 #[devV h d] w fun e w' => e = .returned (.slice h.a0 m h.c0) ∧ Below w.heap.size w w' := by
 have HNe : Hid (∀ W, Calls Tryz.prog 60 #[.agg (cpC d.c)] W fun e w' => e = .returned (.tuple #[.agg (rcC (DevM.rc d)), .int .i64 (RecM.newest d.c)]) ∧ Below W.heap.size W w') := fun W => zaP d.c hco W; have hm0 : (0 : Int) ≤ (m : Int) := by omega
 have hcut : ∀ W, (Instr.slice 22 (.slice h.a0 h.n0 h.c0) none (some (.int .i64 (m : Int))) none).run Tryz.prog W = .ok (.slice h.a0 m h.c0) W := fun W => rCh h.a0 h.n0 h.c0 W m hc; unfold devV; clear hco hc; obtain ⟨P1, hP1⟩ : ∃ P, w.heap.size = P := ⟨_, rfl⟩; have HS := LH (((MS.start w).alloc (p := P1) (by simp [hP1]) (dvC h d) 37)); go_enter Tryz.func64, Tryz.ntmps64; go_upto_region 1 with fail; refine zau HS.out (fun V0 HS1 => ?_); replace HS := LH HS1; clear HS1 hP1; replace HS := LH (MH.of HS.out); have bP1 := HS.out.gt 0 rfl
 go_wp2_with (first
  | ((with_reducible show wpList _ _ _ _ _ _); refine wLP rfl 31 (.tmp 6) rfl P1 2 rfl (dvC h d) 37 (0, 0) ?_ (cpC d.c) ?_ _ U31 rfl ?_ ?_; exact bP1; exact (zai h d); exact (sCp d.c)))
 clear bP1; refine (HNe.out _).mono ?_; rintro e W1 ⟨rfl, hb⟩; replace HS := LH (HS.out.later hb); clear hb; obtain ⟨P3, hP3⟩ : ∃ P, W1.heap.size = P := ⟨_, rfl⟩; replace HS := LH (HS.out.alloc hP3 (rcC (DevM.rc d)) 28); go_upto_region 2 with ((with_reducible show wpList _ _ _ _ _ _); refine wSN rfl 28 (.tmp 3) (.tmp 9) rfl P3 (rcC (DevM.rc d)) rfl rfl 28 _ ?_ ?_ ?_ ?_ ?_; exact hP3.symm; exact (sRc (DevM.rc d)); exact (lRc (DevM.rc d)); exact (oRc (DevM.rc d))); refine gnH HS.out (fun V1 HS1 => ?_); replace HS := LH HS1; clear HS1 hP3; refine rTu (S := MS w [(P3, (rcC (DevM.rc d)), 28), (P1, (dvC h d), 37)] [] []) [(0, false), (1, false), (2, false), (3, false), (4, false), (5, false), (6, false), (7, false), (8, false), (9, false), (10, false), (11, false), (12, false)] false 9999 (by kernel_rfl) (by kernel_rfl) HS.out.ms.drew ?_; simp only [turned, gA, gB, gC]; replace HS := LH HS.out.drew
 have uP3_1 : ∀ W, MS w [(P3, (rcC (DevM.rc d)), 28), (P1, (dvC h d), 37)] [] [] W → W.cell? ⟨P3, 1, none⟩ = some (.int .i64 0) := fun W hW => by
  have := cAt (k := 1) (v := .int .i64 (DevM.rc d).act) (hW.get 0 rfl) rfl
  rwa [ha] at this
 have uP1_0 : ∀ W, MS w [(P3, (rcC (DevM.rc d)), 28), (P1, (dvC h d), 37)] [] [] W → W.cell? ⟨P1, 0, none⟩ = some (.slice h.a0 h.n0 h.c0) := fun W hW => cAt (hW.get 1 rfl) rfl
 have uP3_6 : ∀ W, MS w [(P3, (rcC (DevM.rc d)), 28), (P1, (dvC h d), 37)] [] [] W → W.cell? ⟨P3, 6, none⟩ = some (.int .i64 (m : Int)) := fun W hW => by
  have := cAt (k := 6) (v := .int .i64 (DevM.rc d).i0.size) (hW.get 0 rfl) rfl
  rwa [hm] at this
 repeat (first
  | (refine tSt ?_ (by rfl) (fun W9 hW9 => ?_) ?_
     rotate_left
     · (go_simp <;> with_reducible rfl)
     simp only [Act.put, sA, sB, sC])
  | (refine tSk (by rfl) ?_; simp only [Act.put, sA, sB, sC]))
 clear uP3_1 uP1_0 uP3_6; refine tEn ?_; go_wp2_with fail; go_ret; exact ⟨rfl, HS.out.below⟩
theorem imageOf1 (h : DevH) (d : DevR) (m : Nat) (w : World) (hco : RecM.copies d.c = 0) (ha : (DevM.rc d).act = 1) (hm : (DevM.rc d).i1.size = (m : Int)) (hc : m ≤ h.c1) : Calls Tryz.prog 64 #[devV h d] w fun e w' => e = .returned (.slice h.a1 m h.c1) ∧ Below w.heap.size w w' := by
 have HNe : Hid (∀ W, Calls Tryz.prog 60 #[.agg (cpC d.c)] W fun e w' => e = .returned (.tuple #[.agg (rcC (DevM.rc d)), .int .i64 (RecM.newest d.c)]) ∧ Below W.heap.size W w') := fun W => zaP d.c hco W; have hm0 : (0 : Int) ≤ (m : Int) := by omega
 have hcut : ∀ W, (Instr.slice 22 (.slice h.a1 h.n1 h.c1) none (some (.int .i64 (m : Int))) none).run Tryz.prog W = .ok (.slice h.a1 m h.c1) W := fun W => rCh h.a1 h.n1 h.c1 W m hc; unfold devV; clear hco hc; obtain ⟨P1, hP1⟩ : ∃ P, w.heap.size = P := ⟨_, rfl⟩; have HS := LH (((MS.start w).alloc (p := P1) (by simp [hP1]) (dvC h d) 37)); go_enter Tryz.func64, Tryz.ntmps64; go_upto_region 1 with fail; refine zau HS.out (fun V0 HS1 => ?_); replace HS := LH HS1; clear HS1 hP1; replace HS := LH (MH.of HS.out); have bP1 := HS.out.gt 0 rfl
 go_wp2_with (first
  | ((with_reducible show wpList _ _ _ _ _ _); refine wLP rfl 31 (.tmp 6) rfl P1 2 rfl (dvC h d) 37 (0, 0) ?_ (cpC d.c) ?_ _ U31 rfl ?_ ?_; exact bP1; exact (zai h d); exact (sCp d.c)))
 clear bP1; refine (HNe.out _).mono ?_; rintro e W1 ⟨rfl, hb⟩; replace HS := LH (HS.out.later hb); clear hb; obtain ⟨P3, hP3⟩ : ∃ P, W1.heap.size = P := ⟨_, rfl⟩; replace HS := LH (HS.out.alloc hP3 (rcC (DevM.rc d)) 28); go_upto_region 2 with ((with_reducible show wpList _ _ _ _ _ _); refine wSN rfl 28 (.tmp 3) (.tmp 9) rfl P3 (rcC (DevM.rc d)) rfl rfl 28 _ ?_ ?_ ?_ ?_ ?_; exact hP3.symm; exact (sRc (DevM.rc d)); exact (lRc (DevM.rc d)); exact (oRc (DevM.rc d))); refine gnH HS.out (fun V1 HS1 => ?_); replace HS := LH HS1; clear HS1 hP3; refine rTu (S := MS w [(P3, (rcC (DevM.rc d)), 28), (P1, (dvC h d), 37)] [] []) [(0, false), (1, false), (2, false), (3, false), (4, false), (5, false), (6, false), (7, false), (8, false), (9, false), (10, false), (11, false), (12, false)] false 9999 (by kernel_rfl) (by kernel_rfl) HS.out.ms.drew ?_; simp only [turned, gA, gB, gC]; replace HS := LH HS.out.drew
 have uP3_1 : ∀ W, MS w [(P3, (rcC (DevM.rc d)), 28), (P1, (dvC h d), 37)] [] [] W → W.cell? ⟨P3, 1, none⟩ = some (.int .i64 1) := fun W hW => by
  have := cAt (k := 1) (v := .int .i64 (DevM.rc d).act) (hW.get 0 rfl) rfl
  rwa [ha] at this
 have uP1_1 : ∀ W, MS w [(P3, (rcC (DevM.rc d)), 28), (P1, (dvC h d), 37)] [] [] W → W.cell? ⟨P1, 1, none⟩ = some (.slice h.a1 h.n1 h.c1) := fun W hW => cAt (hW.get 1 rfl) rfl
 have uP3_9 : ∀ W, MS w [(P3, (rcC (DevM.rc d)), 28), (P1, (dvC h d), 37)] [] [] W → W.cell? ⟨P3, 9, none⟩ = some (.int .i64 (m : Int)) := fun W hW => by
  have := cAt (k := 9) (v := .int .i64 (DevM.rc d).i1.size) (hW.get 0 rfl) rfl
  rwa [hm] at this
 repeat (first
  | (refine tSt ?_ (by rfl) (fun W9 hW9 => ?_) ?_
     rotate_left
     · (go_simp <;> with_reducible rfl)
     simp only [Act.put, sA, sB, sC])
  | (refine tSk (by rfl) ?_; simp only [Act.put, sA, sB, sC]))
 clear uP3_1 uP1_1 uP3_9; refine tEn ?_; go_wp2_with fail; go_ret; exact ⟨rfl, HS.out.below⟩
theorem imageOf_any (h : DevH) (d : DevR) (m : Nat) (w : World) (hco : RecM.copies d.c = 0) (hm : (RecM.inf (DevM.rc d) (DevM.rc d).act).size = (m : Int)) (hc : m ≤ slC h (DevM.rc d).act) : Calls Tryz.prog 64 #[devV h d] w fun e w' => e = .returned (.slice (slA h (DevM.rc d).act) m (slC h (DevM.rc d).act)) ∧ Below w.heap.size w w' := by
 rcases (RecM.check_nums (RecM.cur_ok hco)).2.1 with ha | ha
 · have ha' : (DevM.rc d).act = 0 := ha
   rw [ha'] at hm hc ⊢; exact imageOf0 h d m w hco ha' hm hc
 · have ha' : (DevM.rc d).act = 1 := ha
   rw [ha'] at hm hc ⊢; exact imageOf1 h d m w hco ha' hm hc
theorem checkRef_any (r : RecR) (w : World) :
 Calls Tryz.prog 120 #[recV r] w fun e w' => e = .returned (.int .i64 (RecM.check r)) ∧ Below w.heap.size w w' := by
 have HBad : Hid (RecM.badNums r → RecM.check r = 2) := by
  show _ → _; intro h; unfold RecM.check; rw [if_pos h]
 have HOn : Hid (¬ RecM.badNums r → RecM.check r = if RecM.infErr r.i0 ≠ 0 then RecM.infErr r.i0 else if RecM.infErr r.i1 ≠ 0 then RecM.infErr r.i1 else if RecM.badRec r then 3 else 0) := by
  show _ → _; intro h; unfold RecM.check; rw [if_neg h]
 obtain ⟨g, a, tr, n, f, ⟨v0, s0, u0⟩, ⟨v1, s1, u1⟩⟩ := r; simp only [recV]; simp only at HOn; have HB := LH ((Below.refl w.heap.size w).alloc (Nat.le_refl _) (.cells #[.int .i64 g, .int .i64 a, .bool tr, .int .i64 n, .int .i64 f, .int .i64 v0, .int .i64 s0, .int .i64 u0, .int .i64 v1, .int .i64 s1, .int .i64 u1] 28)); have i0 : ∀ w : World, (Instr.index 26 (.agg #[.int .i64 v0, .int .i64 s0, .int .i64 u0, .int .i64 v1, .int .i64 s1, .int .i64 u1]) (.int .i64 0)).run Tryz.prog w = .ok (.agg #[.int .i64 v0, .int .i64 s0, .int .i64 u0]) w := fun _ => by kernel_rfl
 have i1 : ∀ w : World, (Instr.index 26 (.agg #[.int .i64 v0, .int .i64 s0, .int .i64 u0, .int .i64 v1, .int .i64 s1, .int .i64 u1]) (.int .i64 1)).run Tryz.prog w = .ok (.agg #[.int .i64 v1, .int .i64 s1, .int .i64 u1]) w := fun _ => by kernel_rfl
 go_enter Tryz.func120, Tryz.ntmps120; go_wp2_with fail; refine (zaH g 1 1000000 _).mono ?_; rintro e w' ⟨rfl, rfl⟩; by_cases c1 : 1 ≤ g ∧ g ≤ 1000000
 · rw [decide_eq_true c1]
   go_wp2_with fail; refine (zaH a 0 1 _).mono ?_; rintro e w' ⟨rfl, rfl⟩; by_cases c2 : 0 ≤ a ∧ a ≤ 1
   · rw [decide_eq_true c2]
     go_wp2_with fail; refine (zaH n 0 3 _).mono ?_; rintro e w' ⟨rfl, rfl⟩; by_cases c3 : 0 ≤ n ∧ n ≤ 3
     · rw [decide_eq_true c3]
       go_wp2_with fail; refine (zaH f 1 30 _).mono ?_; rintro e w' ⟨rfl, rfl⟩; by_cases c4 : 1 ≤ f ∧ f ≤ 30
       · rw [decide_eq_true c4]
         replace HOn := LH (HOn.out (by unfold RecM.badNums; simp only; omega)); go_wp2_with fail; go_loopw [31] (fun i wr => RchkRel w ⟨g, a, tr, n, f, ⟨v0, s0, u0⟩, ⟨v1, s1, u1⟩⟩ i wr) (fun i _ => 2 - (intOf i).toNat)
         case atStart => exact ⟨0, rfl, by omega, by omega, by omega, by rw [hpA, if_pos rfl]; rfl, HB.out⟩
         case round =>
          obtain ⟨k, rfl, hk, h0, h1, hblk, hbel⟩ := hrel; have HBk := LH hblk; have HBl := LH hbel; have H0 := LH h0; have H1 := LH h1; clear hblk hbel h0 h1; rcases (by omega : k = 0 ∨ k = 1 ∨ k = 2) with rfl | rfl | rfl
          · have hbl : Below wr.heap.size wr (wr.alloc (.cells #[.int .i64 v0, .int .i64 s0, .int .i64 u0] 25)) := (Below.refl _ _).alloc (Nat.le_refl _) _
            have HB3 := LH (bTn HBl.out hbl); have HBk3 := LH ((hbl.block _ (bLQ HBk.out)).trans HBk.out)
            have HBd : Hid (RecM.badInf ⟨v0, s0, u0⟩ → RecM.infErr ⟨v0, s0, u0⟩ = 2) := by
             show _ → _; intro h; unfold RecM.infErr; rw [if_pos h]
            clear hbl; go_wp2_with fail; refine (zaH v0 0 30 _).mono ?_; rintro e w' ⟨rfl, rfl⟩; by_cases d1 : 0 ≤ v0 ∧ v0 ≤ 30
            · rw [decide_eq_true d1]
              go_wp2_with fail; refine (zaH s0 0 64 _).mono ?_; rintro e w' ⟨rfl, rfl⟩; by_cases d2 : 0 ≤ s0 ∧ s0 ≤ 64
              · rw [decide_eq_true d2]
                go_wp2_with fail; refine (zaH u0 0 65535 _).mono ?_; rintro e w' ⟨rfl, rfl⟩; by_cases d3 : 0 ≤ u0 ∧ u0 ≤ 65535
                · rw [decide_eq_true d3]
                  have HG : Hid (RecM.infErr ⟨v0, s0, u0⟩ = if v0 = 0 ∧ (s0 ≠ 0 ∨ u0 ≠ 0) then 3 else 0) := by
                   show _ = _; unfold RecM.infErr; rw [if_neg]; unfold RecM.badInf; simp only; omega
                  by_cases d4 : v0 = 0
                  · have t4 : (v0 == 0) = true := by simp [d4]
                    by_cases d5 : 0 < s0
                    · have HI := LH (HG.out.trans (if_pos ⟨d4, .inl (by omega)⟩))
                      clear d4
                      have HE : Hid (RecM.check ⟨g, a, tr, n, f, ⟨v0, s0, u0⟩, ⟨v1, s1, u1⟩⟩ = 3) := by
                       show _ = _; have hE : RecM.infErr ⟨v0, s0, u0⟩ = 3 := HI.out; rw [HOn.out, if_pos (by rw [hE]; decide), hE]
                      go_wp2_with fail; go_ret; exact ⟨zaG HE.out.symm, HB3.out⟩
                    · have t5 : decide (0 < s0) = false := by simp; omega
                      by_cases d6 : 0 < u0
                      · have HI := LH (HG.out.trans (if_pos ⟨d4, .inr (by omega)⟩))
                        clear d4
                        have HE : Hid (RecM.check ⟨g, a, tr, n, f, ⟨v0, s0, u0⟩, ⟨v1, s1, u1⟩⟩ = 3) := by
                         show _ = _; have hE : RecM.infErr ⟨v0, s0, u0⟩ = 3 := HI.out; rw [HOn.out, if_pos (by rw [hE]; decide), hE]
                        go_wp2_with fail; go_ret; exact ⟨zaG HE.out.symm, HB3.out⟩
                      · have t6 : decide (0 < u0) = false := by simp; omega
                        have HI := LH (HG.out.trans (if_neg (by omega))); clear d4; have HE0 : Hid (RecM.infErr ⟨v0, s0, u0⟩ = 0) := HI.out; go_wp2_with fail; go_roundw
                        case rel => exact ⟨1, by go_num, by omega, fun _ => HE0.out, fun q => absurd q (by omega), HBk3.out, HB3.out⟩
                        case measure => simp [intOf]
                  · have t4 : (v0 == 0) = false := by simp [d4]
                    have HI := LH (HG.out.trans (if_neg (fun q => d4 q.1))); have HE0 : Hid (RecM.infErr ⟨v0, s0, u0⟩ = 0) := HI.out; go_wp2_with fail; go_roundw
                    case rel => exact ⟨1, by go_num, by omega, fun _ => HE0.out, fun q => absurd q (by omega), HBk3.out, HB3.out⟩
                    case measure => simp [intOf]
                · rw [decide_eq_false d3]
                  have HI := LH (HBd.out (.inr (.inr d3)))
                  have HE : Hid (RecM.check ⟨g, a, tr, n, f, ⟨v0, s0, u0⟩, ⟨v1, s1, u1⟩⟩ = 2) := by
                   show _ = _; have hE : RecM.infErr ⟨v0, s0, u0⟩ = 2 := HI.out; rw [HOn.out, if_pos (by rw [hE]; decide), hE]
                  go_wp2_with fail; go_ret; exact ⟨zaG HE.out.symm, HB3.out⟩
              · rw [decide_eq_false d2]
                have HI := LH (HBd.out (.inr (.inl d2)))
                have HE : Hid (RecM.check ⟨g, a, tr, n, f, ⟨v0, s0, u0⟩, ⟨v1, s1, u1⟩⟩ = 2) := by
                 show _ = _; have hE : RecM.infErr ⟨v0, s0, u0⟩ = 2 := HI.out; rw [HOn.out, if_pos (by rw [hE]; decide), hE]
                go_wp2_with fail; go_ret; exact ⟨zaG HE.out.symm, HB3.out⟩
            · rw [decide_eq_false d1]
              have HI := LH (HBd.out (.inl d1))
              have HE : Hid (RecM.check ⟨g, a, tr, n, f, ⟨v0, s0, u0⟩, ⟨v1, s1, u1⟩⟩ = 2) := by
               show _ = _; have hE : RecM.infErr ⟨v0, s0, u0⟩ = 2 := HI.out; rw [HOn.out, if_pos (by rw [hE]; decide), hE]
              go_wp2_with fail; go_ret; exact ⟨zaG HE.out.symm, HB3.out⟩
          · have hbl : Below wr.heap.size wr (wr.alloc (.cells #[.int .i64 v1, .int .i64 s1, .int .i64 u1] 25)) := (Below.refl _ _).alloc (Nat.le_refl _) _
            have HB3 := LH (bTn HBl.out hbl); have HBk3 := LH ((hbl.block _ (bLQ HBk.out)).trans HBk.out)
            have HBd : Hid (RecM.badInf ⟨v1, s1, u1⟩ → RecM.infErr ⟨v1, s1, u1⟩ = 2) := by
             show _ → _; intro h; unfold RecM.infErr; rw [if_pos h]
            clear hbl; go_wp2_with fail; refine (zaH v1 0 30 _).mono ?_; rintro e w' ⟨rfl, rfl⟩; by_cases d1 : 0 ≤ v1 ∧ v1 ≤ 30
            · rw [decide_eq_true d1]
              go_wp2_with fail; refine (zaH s1 0 64 _).mono ?_; rintro e w' ⟨rfl, rfl⟩; by_cases d2 : 0 ≤ s1 ∧ s1 ≤ 64
              · rw [decide_eq_true d2]
                go_wp2_with fail; refine (zaH u1 0 65535 _).mono ?_; rintro e w' ⟨rfl, rfl⟩; by_cases d3 : 0 ≤ u1 ∧ u1 ≤ 65535
                · rw [decide_eq_true d3]
                  have HG : Hid (RecM.infErr ⟨v1, s1, u1⟩ = if v1 = 0 ∧ (s1 ≠ 0 ∨ u1 ≠ 0) then 3 else 0) := by
                   show _ = _; unfold RecM.infErr; rw [if_neg]; unfold RecM.badInf; simp only; omega
                  by_cases d4 : v1 = 0
                  · have t4 : (v1 == 0) = true := by simp [d4]
                    by_cases d5 : 0 < s1
                    · have HI := LH (HG.out.trans (if_pos ⟨d4, .inl (by omega)⟩))
                      clear d4
                      have HE : Hid (RecM.check ⟨g, a, tr, n, f, ⟨v0, s0, u0⟩, ⟨v1, s1, u1⟩⟩ = 3) := by
                       show _ = _; have hE : RecM.infErr ⟨v1, s1, u1⟩ = 3 := HI.out; rw [HOn.out, if_neg (fun q => q (H0.out (by omega))), if_pos (by rw [hE]; decide), hE]
                      go_wp2_with fail; go_ret; exact ⟨zaG HE.out.symm, HB3.out⟩
                    · have t5 : decide (0 < s1) = false := by simp; omega
                      by_cases d6 : 0 < u1
                      · have HI := LH (HG.out.trans (if_pos ⟨d4, .inr (by omega)⟩))
                        clear d4
                        have HE : Hid (RecM.check ⟨g, a, tr, n, f, ⟨v0, s0, u0⟩, ⟨v1, s1, u1⟩⟩ = 3) := by
                         show _ = _; have hE : RecM.infErr ⟨v1, s1, u1⟩ = 3 := HI.out; rw [HOn.out, if_neg (fun q => q (H0.out (by omega))), if_pos (by rw [hE]; decide), hE]
                        go_wp2_with fail; go_ret; exact ⟨zaG HE.out.symm, HB3.out⟩
                      · have t6 : decide (0 < u1) = false := by simp; omega
                        have HI := LH (HG.out.trans (if_neg (by omega))); clear d4; have HE0 : Hid (RecM.infErr ⟨v1, s1, u1⟩ = 0) := HI.out; go_wp2_with fail; go_roundw
                        case rel => exact ⟨2, by go_num, by omega, fun _ => H0.out (by omega), fun _ => HE0.out, HBk3.out, HB3.out⟩
                        case measure => simp [intOf]
                  · have t4 : (v1 == 0) = false := by simp [d4]
                    have HI := LH (HG.out.trans (if_neg (fun q => d4 q.1))); have HE0 : Hid (RecM.infErr ⟨v1, s1, u1⟩ = 0) := HI.out; go_wp2_with fail; go_roundw
                    case rel => exact ⟨2, by go_num, by omega, fun _ => H0.out (by omega), fun _ => HE0.out, HBk3.out, HB3.out⟩
                    case measure => simp [intOf]
                · rw [decide_eq_false d3]
                  have HI := LH (HBd.out (.inr (.inr d3)))
                  have HE : Hid (RecM.check ⟨g, a, tr, n, f, ⟨v0, s0, u0⟩, ⟨v1, s1, u1⟩⟩ = 2) := by
                   show _ = _; have hE : RecM.infErr ⟨v1, s1, u1⟩ = 2 := HI.out; rw [HOn.out, if_neg (fun q => q (H0.out (by omega))), if_pos (by rw [hE]; decide), hE]
                  go_wp2_with fail; go_ret; exact ⟨zaG HE.out.symm, HB3.out⟩
              · rw [decide_eq_false d2]
                have HI := LH (HBd.out (.inr (.inl d2)))
                have HE : Hid (RecM.check ⟨g, a, tr, n, f, ⟨v0, s0, u0⟩, ⟨v1, s1, u1⟩⟩ = 2) := by
                 show _ = _; have hE : RecM.infErr ⟨v1, s1, u1⟩ = 2 := HI.out; rw [HOn.out, if_neg (fun q => q (H0.out (by omega))), if_pos (by rw [hE]; decide), hE]
                go_wp2_with fail; go_ret; exact ⟨zaG HE.out.symm, HB3.out⟩
            · rw [decide_eq_false d1]
              have HI := LH (HBd.out (.inl d1))
              have HE : Hid (RecM.check ⟨g, a, tr, n, f, ⟨v0, s0, u0⟩, ⟨v1, s1, u1⟩⟩ = 2) := by
               show _ = _; have hE : RecM.infErr ⟨v1, s1, u1⟩ = 2 := HI.out; rw [HOn.out, if_neg (fun q => q (H0.out (by omega))), if_pos (by rw [hE]; decide), hE]
              go_wp2_with fail; go_ret; exact ⟨zaG HE.out.symm, HB3.out⟩
          · have hblk := HBk.out
            unfold rcC at hblk; simp only at hblk; obtain ⟨q0, q1, q2, q3, q4, q5, q6, q7, q8, q9, q10⟩ := zbu hblk; clear hblk; replace HOn := LH ((HOn.out.trans (if_neg (fun q => q (H0.out (by omega))))).trans (if_neg (fun q => q (H1.out (by omega))))); rcases (by omega : a = 0 ∨ a = 1) with rfl | rfl
            · have HBR : Hid (RecM.badRec ⟨g, 0, tr, n, f, ⟨v0, s0, u0⟩, ⟨v1, s1, u1⟩⟩ ↔ (v0 < f ∨ (tr = true ∧ v1 < f) ∨ (tr = false ∧ n ≠ 0))) := Iff.rfl
              go_wp2_with fail; go_quiet (fail); have HB4 := LH (below_drewN HBl.out nq); by_cases x1 : v0 < f
              · have HE := LH (HOn.out.trans (if_pos (HBR.out.2 (.inl x1))))
                go_wp2_with fail; go_ret; exact ⟨zaG HE.out.symm, HB4.out⟩
              · have y1 : decide (v0 < f) = false := by simp; omega
                cases tr
                · by_cases x2 : 0 < n
                  · have HE := LH (HOn.out.trans (if_pos (HBR.out.2 (.inr (.inr ⟨rfl, by omega⟩)))))
                    go_wp2_with fail; go_ret; exact ⟨zaG HE.out.symm, HB4.out⟩
                  · have y2 : decide (0 < n) = false := by simp; omega
                    have HE := LH (HOn.out.trans (if_neg (fun q => by rcases HBR.out.1 q with q | q | q; exact x1 q; exact absurd q.1 (by simp); exact q.2 (by omega)))); go_wp2_with fail; go_ret; exact ⟨zaG HE.out.symm, HB4.out⟩
                · by_cases x2 : v1 < f
                  · have HE := LH (HOn.out.trans (if_pos (HBR.out.2 (.inr (.inl ⟨rfl, x2⟩)))))
                    go_wp2_with fail; go_ret; exact ⟨zaG HE.out.symm, HB4.out⟩
                  · have y2 : decide (v1 < f) = false := by simp; omega
                    have HE := LH (HOn.out.trans (if_neg (fun q => by rcases HBR.out.1 q with q | q | q; exact x1 q; exact x2 q.2; exact absurd q.1 (by simp)))); by_cases x3 : 0 < n
                    · go_wp2_with fail
                      go_ret; exact ⟨zaG HE.out.symm, HB4.out⟩
                    · have y3 : decide (0 < n) = false := by simp; omega
                      go_wp2_with fail; go_ret; exact ⟨zaG HE.out.symm, HB4.out⟩
            · have HBR : Hid (RecM.badRec ⟨g, 1, tr, n, f, ⟨v0, s0, u0⟩, ⟨v1, s1, u1⟩⟩ ↔ (v1 < f ∨ (tr = true ∧ v0 < f) ∨ (tr = false ∧ n ≠ 0))) := Iff.rfl
              go_wp2_with fail; go_quiet (fail); have HB4 := LH (below_drewN HBl.out nq); by_cases x1 : v1 < f
              · have HE := LH (HOn.out.trans (if_pos (HBR.out.2 (.inl x1))))
                go_wp2_with fail; go_ret; exact ⟨zaG HE.out.symm, HB4.out⟩
              · have y1 : decide (v1 < f) = false := by simp; omega
                cases tr
                · by_cases x2 : 0 < n
                  · have HE := LH (HOn.out.trans (if_pos (HBR.out.2 (.inr (.inr ⟨rfl, by omega⟩)))))
                    go_wp2_with fail; go_ret; exact ⟨zaG HE.out.symm, HB4.out⟩
                  · have y2 : decide (0 < n) = false := by simp; omega
                    have HE := LH (HOn.out.trans (if_neg (fun q => by rcases HBR.out.1 q with q | q | q; exact x1 q; exact absurd q.1 (by simp); exact q.2 (by omega)))); go_wp2_with fail; go_ret; exact ⟨zaG HE.out.symm, HB4.out⟩
                · by_cases x2 : v0 < f
                  · have HE := LH (HOn.out.trans (if_pos (HBR.out.2 (.inr (.inl ⟨rfl, x2⟩)))))
                    go_wp2_with fail; go_ret; exact ⟨zaG HE.out.symm, HB4.out⟩
                  · have y2 : decide (v0 < f) = false := by simp; omega
                    have HE := LH (HOn.out.trans (if_neg (fun q => by rcases HBR.out.1 q with q | q | q; exact x1 q; exact x2 q.2; exact absurd q.1 (by simp)))); by_cases x3 : 0 < n
                    · go_wp2_with fail
                      go_ret; exact ⟨zaG HE.out.symm, HB4.out⟩
                    · have y3 : decide (0 < n) = false := by simp; omega
                      go_wp2_with fail; go_ret; exact ⟨zaG HE.out.symm, HB4.out⟩
       · rw [decide_eq_false c4]
         have HE := LH (HBad.out (.inr (.inr (.inr c4)))); go_wp2_with fail; go_ret; exact ⟨zaG HE.out.symm, HB.out⟩
     · rw [decide_eq_false c3]
       have HE := LH (HBad.out (.inr (.inr (.inl c3)))); go_wp2_with fail; go_ret; exact ⟨zaG HE.out.symm, HB.out⟩
   · rw [decide_eq_false c2]
     have HE := LH (HBad.out (.inr (.inl c2))); go_wp2_with fail; go_ret; exact ⟨zaG HE.out.symm, HB.out⟩
 · rw [decide_eq_false c1]
   have HE := LH (HBad.out (.inl c1)); go_wp2_with fail; go_ret; exact ⟨zaG HE.out.symm, HB.out⟩
theorem copc_cells {W : World} {B : Nat} {v0 v1 v2 v3 v4 v5 v6 v7 v8 v9 v10 v11 : Value} (h : W.heap[B]? = some (.cells #[v0, v1, v2, v3, v4, v5, v6, v7, v8, v9, v10, v11] 30 (0, 0))) : W.cell? ⟨B, 0, none⟩ = some v0 ∧ W.cell? ⟨B, 1, none⟩ = some v1 ∧ W.cell? ⟨B, 2, none⟩ = some v2 ∧ W.cell? ⟨B, 3, none⟩ = some v3 ∧ W.cell? ⟨B, 4, none⟩ = some v4 ∧ W.cell? ⟨B, 5, none⟩ = some v5 ∧ W.cell? ⟨B, 6, none⟩ = some v6 ∧ W.cell? ⟨B, 7, none⟩ = some v7 ∧ W.cell? ⟨B, 8, none⟩ = some v8 ∧ W.cell? ⟨B, 9, none⟩ = some v9 ∧ W.cell? ⟨B, 10, none⟩ = some v10 ∧ W.cell? ⟨B, 11, none⟩ = some v11 := by
 simp [World.cell?, h]
def zbw (l : CopsR) (k : Nat) : Int := (if 0 < k ∧ l.c0.ok = true then 1 else 0) + (if 1 < k ∧ l.c1.ok = true then 1 else 0)
theorem wholes_bnd (l : CopsR) (k : Nat) : 0 ≤ zbw l k ∧ zbw l k ≤ 2 := by
 unfold zbw; split <;> split <;> omega
def RfcRel (w : World) (l : CopsR) (c i : Value) (wr : World) : Prop :=
 ∃ k : Nat, i = .int .i64 k ∧ k ≤ 2 ∧ c = .int .i64 (zbw l k) ∧ (0 < k → RecM.copErr l.c0 = 0) ∧ (1 < k → RecM.copErr l.c1 = 0) ∧ wr.heap[w.heap.size]? = some (.cells (cpC l) 31 (0, 0)) ∧ Below w.heap.size w wr
theorem zb5 (l : CopsR) (w : World) :
 Calls Tryz.prog 58 #[copsV l] w fun e w' => e = .returned (.int .i64 (RecM.copies l)) ∧ Below w.heap.size w w' := by
 have HI0 := LH (fun W => checkRef_any l.c0.r W); have HI1 := LH (fun W => checkRef_any l.c1.r W); have hn0 := fun W => rec_neq l.c0.r RecM.noRec W; have hn1 := fun W => rec_neq l.c1.r RecM.noRec W; have HZ : Hid (recV RecM.noRec = .agg #[.int .i64 0, .int .i64 0, .bool false, .int .i64 0, .int .i64 0, .int .i64 0, .int .i64 0, .int .i64 0, .int .i64 0, .int .i64 0, .int .i64 0]) := rfl; rw [HZ.out] at hn0 hn1; obtain ⟨q0, hq0⟩ : ∃ q, decide (l.c0.r = RecM.noRec) = q := ⟨_, rfl⟩; obtain ⟨q1, hq1⟩ : ∃ q, decide (l.c1.r = RecM.noRec) = q := ⟨_, rfl⟩; rw [hq0] at hn0; rw [hq1] at hn1; have HQ0 := LH hq0; have HQ1 := LH hq1; clear hq0 hq1 HZ; have HOn : Hid (RecM.copies l = if RecM.copErr l.c0 ≠ 0 then RecM.copErr l.c0 else if RecM.copErr l.c1 ≠ 0 then RecM.copErr l.c1 else if l.c0.ok = false ∧ l.c1.ok = false then 7 else 0) := rfl
 have HBk0 : Hid ((w.alloc (.cells (cpC l) 31)).heap[w.heap.size]? = some (.cells (cpC l) 31 (0, 0))) := by
  show _ = _; rw [hpA, if_pos rfl]
 have HB := LH ((Below.refl w.heap.size w).alloc (Nat.le_refl _) (.cells (cpC l) 31)); have i0 : ∀ w : World, (Instr.index 31 (.agg (cpC l)) (.int .i64 0)).run Tryz.prog w = .ok (copV l.c0) w := fun _ => by kernel_rfl
 have i1 : ∀ w : World, (Instr.index 31 (.agg (cpC l)) (.int .i64 1)).run Tryz.prog w = .ok (copV l.c1) w := fun _ => by kernel_rfl
 have hi : (Tryz.prog.info? 31).map (·.size) = some (cpC l).size := by kernel_rfl
 unfold copsV; obtain ⟨A, hA⟩ : ∃ A, cpC l = A := ⟨_, rfl⟩; rw [hA] at HBk0 HB i0 i1 hi ⊢; have HA := LH hA; clear hA; obtain ⟨⟨xok, xg, xa, xtr, xn, xf, ⟨xv0, xs0, xu0⟩, ⟨xv1, xs1, xu1⟩⟩, ⟨yok, yg, ya, ytr, yn, yf, ⟨yv0, ys0, yu0⟩, ⟨yv1, ys1, yu1⟩⟩⟩ := l; simp only [copV, recV] at HI0 HI1 i0 i1 hn0 hn1; simp only at HOn HQ0 HQ1; go_enter Tryz.func58, Tryz.ntmps58; go_wp2_with (refine wpList_load_row rfl 31 (.tmp 1) rfl w.heap.size rfl 31 A (0, 0) _ HBk0.out U31 rfl hi ?_); go_loopw [3, 8] (fun c i wr => RfcRel w ⟨⟨xok, ⟨xg, xa, xtr, xn, xf, ⟨xv0, xs0, xu0⟩, ⟨xv1, xs1, xu1⟩⟩⟩, ⟨yok, ⟨yg, ya, ytr, yn, yf, ⟨yv0, ys0, yu0⟩, ⟨yv1, ys1, yu1⟩⟩⟩⟩ c i wr) (fun _ i _ => 2 - (intOf i).toNat)
 case atStart => exact ⟨0, rfl, by omega, by simp [zbw], by omega, by omega, by rw [HA.out]; exact HBk0.out, HB.out⟩
 case round =>
  obtain ⟨k, rfl, hk, rfl, h0, h1, hblk, hbel⟩ := hrel; have HBk := LH hblk; have HBl := LH hbel; have H0 := LH h0; have H1 := LH h1; clear hblk hbel h0 h1; have hbd := wholes_bnd ⟨⟨xok, ⟨xg, xa, xtr, xn, xf, ⟨xv0, xs0, xu0⟩, ⟨xv1, xs1, xu1⟩⟩⟩, ⟨yok, ⟨yg, ya, ytr, yn, yf, ⟨yv0, ys0, yu0⟩, ⟨yv1, ys1, yu1⟩⟩⟩⟩ k; obtain ⟨M, hM⟩ : ∃ M, zbw ⟨⟨xok, ⟨xg, xa, xtr, xn, xf, ⟨xv0, xs0, xu0⟩, ⟨xv1, xs1, xu1⟩⟩⟩, ⟨yok, ⟨yg, ya, ytr, yn, yf, ⟨yv0, ys0, yu0⟩, ⟨yv1, ys1, yu1⟩⟩⟩⟩ k = M := ⟨_, rfl⟩; rw [hM] at hbd ⊢; have HM := LH hM; clear hM; have hwM : IntKind.i64.wrap (M + 1) = M + 1 := IntWalk.i64_in _ (by omega); rcases (by omega : k = 0 ∨ k = 1 ∨ k = 2) with rfl | rfl | rfl
  · have hbl : Below wr.heap.size wr (wr.alloc (.cells #[.bool xok, .int .i64 xg, .int .i64 xa, .bool xtr, .int .i64 xn, .int .i64 xf, .int .i64 xv0, .int .i64 xs0, .int .i64 xu0, .int .i64 xv1, .int .i64 xs1, .int .i64 xu1] 30)) := (Below.refl _ _).alloc (Nat.le_refl _) _
    have HBL := LH hbl; clear hbl; go_wp2_with fail; refine (HI0.out _).mono ?_; rintro e W2 ⟨rfl, hb2⟩; obtain ⟨z0, z1, z2, z3, z4, z5, z6, z7, z8, z9, z10, z11⟩ := copc_cells ((hb2.block wr.heap.size (by simp)).trans (by rw [hpA, if_pos rfl])); have hb3 := bTn HBL.out hb2; have HB3 := LH (bTn HBl.out hb3); have HBk3 := LH ((hb3.block _ (bLQ HBk.out)).trans HBk.out); clear hb2 hb3
    cases xok
    · have HCE : Hid (RecM.copErr ⟨false, ⟨xg, xa, xtr, xn, xf, ⟨xv0, xs0, xu0⟩, ⟨xv1, xs1, xu1⟩⟩⟩ = if (⟨xg, xa, xtr, xn, xf, ⟨xv0, xs0, xu0⟩, ⟨xv1, xs1, xu1⟩⟩ : RecR) ≠ RecM.noRec then 3 else 0) := rfl
      obtain ⟨CE, hCE⟩ : ∃ CE, RecM.check ⟨xg, xa, xtr, xn, xf, ⟨xv0, xs0, xu0⟩, ⟨xv1, xs1, xu1⟩⟩ = CE := ⟨_, rfl⟩; rw [hCE]; clear hCE
      have HCt : Hid (zbw ⟨⟨false, ⟨xg, xa, xtr, xn, xf, ⟨xv0, xs0, xu0⟩, ⟨xv1, xs1, xu1⟩⟩⟩, ⟨yok, ⟨yg, ya, ytr, yn, yf, ⟨yv0, ys0, yu0⟩, ⟨yv1, ys1, yu1⟩⟩⟩⟩ 1 = M) := by
       show _ = _; rw [← HM.out]; simp [zbw]
      cases q0
      · have HI := LH (HCE.out.trans (if_pos (of_decide_eq_false HQ0.out)))
        have HNE : Hid ((3 : Int) ≠ 0) := by show _ ≠ _; decide
        have HE : Hid (RecM.copies ⟨⟨false, ⟨xg, xa, xtr, xn, xf, ⟨xv0, xs0, xu0⟩, ⟨xv1, xs1, xu1⟩⟩⟩, ⟨yok, ⟨yg, ya, ytr, yn, yf, ⟨yv0, ys0, yu0⟩, ⟨yv1, ys1, yu1⟩⟩⟩⟩ = 3) := by
         show _ = _; have h := HI.out; rw [HOn.out, if_pos (by rw [h]; exact HNE.out), h]
        go_wp2_with fail; go_ret; exact ⟨zaG HE.out.symm, HB3.out⟩
      · have HI := LH (HCE.out.trans (if_neg (not_not_intro (of_decide_eq_true HQ0.out))))
        go_wp2_with fail; go_roundw
        case rel => exact ⟨1, by go_num, by omega, by rw [HCt.out], fun _ => HI.out, fun q => absurd q (by omega), HBk3.out, HB3.out⟩
        case measure => simp [intOf]
    · have HCE : Hid (RecM.copErr ⟨true, ⟨xg, xa, xtr, xn, xf, ⟨xv0, xs0, xu0⟩, ⟨xv1, xs1, xu1⟩⟩⟩ = RecM.check ⟨xg, xa, xtr, xn, xf, ⟨xv0, xs0, xu0⟩, ⟨xv1, xs1, xu1⟩⟩) := rfl
      have HCt : Hid (zbw ⟨⟨true, ⟨xg, xa, xtr, xn, xf, ⟨xv0, xs0, xu0⟩, ⟨xv1, xs1, xu1⟩⟩⟩, ⟨yok, ⟨yg, ya, ytr, yn, yf, ⟨yv0, ys0, yu0⟩, ⟨yv1, ys1, yu1⟩⟩⟩⟩ 1 = M + 1) := by
       show _ = _; rw [← HM.out]; simp [zbw]
      by_cases e0 : RecM.check ⟨xg, xa, xtr, xn, xf, ⟨xv0, xs0, xu0⟩, ⟨xv1, xs1, xu1⟩⟩ = 0
      · have HI := LH (HCE.out.trans e0)
        rw [e0]; clear e0 hn0; go_wp2_with fail; go_roundw
        case rel => exact ⟨1, by go_num, by omega, by rw [HCt.out], fun _ => HI.out, fun q => absurd q (by omega), HBk3.out, HB3.out⟩
        case measure => simp [intOf]
      · obtain ⟨E, hE⟩ : ∃ E, RecM.check ⟨xg, xa, xtr, xn, xf, ⟨xv0, xs0, xu0⟩, ⟨xv1, xs1, xu1⟩⟩ = E := ⟨_, rfl⟩
        have HI := LH (HCE.out.trans hE); rw [hE] at e0 ⊢; have HNE := LH e0; have t0 : (E != 0) = true := by simp [e0]
        clear hE e0 hn0
        have HE : Hid (RecM.copies ⟨⟨true, ⟨xg, xa, xtr, xn, xf, ⟨xv0, xs0, xu0⟩, ⟨xv1, xs1, xu1⟩⟩⟩, ⟨yok, ⟨yg, ya, ytr, yn, yf, ⟨yv0, ys0, yu0⟩, ⟨yv1, ys1, yu1⟩⟩⟩⟩ = E) := by
         show _ = _; have h := HI.out; rw [HOn.out, if_pos (by rw [h]; exact HNE.out), h]
        go_wp2_with fail; go_ret; exact ⟨zaG HE.out.symm, HB3.out⟩
  · have hbl : Below wr.heap.size wr (wr.alloc (.cells #[.bool yok, .int .i64 yg, .int .i64 ya, .bool ytr, .int .i64 yn, .int .i64 yf, .int .i64 yv0, .int .i64 ys0, .int .i64 yu0, .int .i64 yv1, .int .i64 ys1, .int .i64 yu1] 30)) := (Below.refl _ _).alloc (Nat.le_refl _) _
    have HBL := LH hbl; clear hbl; go_wp2_with fail; refine (HI1.out _).mono ?_; rintro e W2 ⟨rfl, hb2⟩; obtain ⟨z0, z1, z2, z3, z4, z5, z6, z7, z8, z9, z10, z11⟩ := copc_cells ((hb2.block wr.heap.size (by simp)).trans (by rw [hpA, if_pos rfl])); have hb3 := bTn HBL.out hb2; have HB3 := LH (bTn HBl.out hb3); have HBk3 := LH ((hb3.block _ (bLQ HBk.out)).trans HBk.out); clear hb2 hb3
    cases yok
    · have HCE : Hid (RecM.copErr ⟨false, ⟨yg, ya, ytr, yn, yf, ⟨yv0, ys0, yu0⟩, ⟨yv1, ys1, yu1⟩⟩⟩ = if (⟨yg, ya, ytr, yn, yf, ⟨yv0, ys0, yu0⟩, ⟨yv1, ys1, yu1⟩⟩ : RecR) ≠ RecM.noRec then 3 else 0) := rfl
      obtain ⟨CE, hCE⟩ : ∃ CE, RecM.check ⟨yg, ya, ytr, yn, yf, ⟨yv0, ys0, yu0⟩, ⟨yv1, ys1, yu1⟩⟩ = CE := ⟨_, rfl⟩; rw [hCE]; clear hCE
      have HCt : Hid (zbw ⟨⟨xok, ⟨xg, xa, xtr, xn, xf, ⟨xv0, xs0, xu0⟩, ⟨xv1, xs1, xu1⟩⟩⟩, ⟨false, ⟨yg, ya, ytr, yn, yf, ⟨yv0, ys0, yu0⟩, ⟨yv1, ys1, yu1⟩⟩⟩⟩ 2 = M) := by
       show _ = _; rw [← HM.out]; simp [zbw]
      cases q1
      · have HI := LH (HCE.out.trans (if_pos (of_decide_eq_false HQ1.out)))
        have HNE : Hid ((3 : Int) ≠ 0) := by show _ ≠ _; decide
        have HE : Hid (RecM.copies ⟨⟨xok, ⟨xg, xa, xtr, xn, xf, ⟨xv0, xs0, xu0⟩, ⟨xv1, xs1, xu1⟩⟩⟩, ⟨false, ⟨yg, ya, ytr, yn, yf, ⟨yv0, ys0, yu0⟩, ⟨yv1, ys1, yu1⟩⟩⟩⟩ = 3) := by
         show _ = _; have h := HI.out; rw [HOn.out, if_neg (fun q => q (H0.out (by omega))), if_pos (by rw [h]; exact HNE.out), h]
        go_wp2_with fail; go_ret; exact ⟨zaG HE.out.symm, HB3.out⟩
      · have HI := LH (HCE.out.trans (if_neg (not_not_intro (of_decide_eq_true HQ1.out))))
        go_wp2_with fail; go_roundw
        case rel => exact ⟨2, by go_num, by omega, by rw [HCt.out], fun _ => H0.out (by omega), fun _ => HI.out, HBk3.out, HB3.out⟩
        case measure => simp [intOf]
    · have HCE : Hid (RecM.copErr ⟨true, ⟨yg, ya, ytr, yn, yf, ⟨yv0, ys0, yu0⟩, ⟨yv1, ys1, yu1⟩⟩⟩ = RecM.check ⟨yg, ya, ytr, yn, yf, ⟨yv0, ys0, yu0⟩, ⟨yv1, ys1, yu1⟩⟩) := rfl
      have HCt : Hid (zbw ⟨⟨xok, ⟨xg, xa, xtr, xn, xf, ⟨xv0, xs0, xu0⟩, ⟨xv1, xs1, xu1⟩⟩⟩, ⟨true, ⟨yg, ya, ytr, yn, yf, ⟨yv0, ys0, yu0⟩, ⟨yv1, ys1, yu1⟩⟩⟩⟩ 2 = M + 1) := by
       show _ = _; rw [← HM.out]; simp [zbw]
      by_cases e0 : RecM.check ⟨yg, ya, ytr, yn, yf, ⟨yv0, ys0, yu0⟩, ⟨yv1, ys1, yu1⟩⟩ = 0
      · have HI := LH (HCE.out.trans e0)
        rw [e0]; clear e0 hn1; go_wp2_with fail; go_roundw
        case rel => exact ⟨2, by go_num, by omega, by rw [HCt.out], fun _ => H0.out (by omega), fun _ => HI.out, HBk3.out, HB3.out⟩
        case measure => simp [intOf]
      · obtain ⟨E, hE⟩ : ∃ E, RecM.check ⟨yg, ya, ytr, yn, yf, ⟨yv0, ys0, yu0⟩, ⟨yv1, ys1, yu1⟩⟩ = E := ⟨_, rfl⟩
        have HI := LH (HCE.out.trans hE); rw [hE] at e0 ⊢; have HNE := LH e0; have t0 : (E != 0) = true := by simp [e0]
        clear hE e0 hn1
        have HE : Hid (RecM.copies ⟨⟨xok, ⟨xg, xa, xtr, xn, xf, ⟨xv0, xs0, xu0⟩, ⟨xv1, xs1, xu1⟩⟩⟩, ⟨true, ⟨yg, ya, ytr, yn, yf, ⟨yv0, ys0, yu0⟩, ⟨yv1, ys1, yu1⟩⟩⟩⟩ = E) := by
         show _ = _; have h := HI.out; rw [HOn.out, if_neg (fun q => q (H0.out (by omega))), if_pos (by rw [h]; exact HNE.out), h]
        go_wp2_with fail; go_ret; exact ⟨zaG HE.out.symm, HB3.out⟩
  · replace HOn := LH ((HOn.out.trans (if_neg (fun q => q (H0.out (by omega))))).trans (if_neg (fun q => q (H1.out (by omega)))))
    by_cases hz : M = 0
    · have HE := LH (HOn.out.trans (if_pos (by
       have := HM.out; rw [hz] at this
       cases xok <;> cases yok <;> simp [zbw] at this ⊢)))
      have tz : (M == 0) = true := by simp [hz]
      clear hz; go_wp2_with fail; go_ret; exact ⟨zaG HE.out.symm, HBl.out⟩
    · have HE := LH (HOn.out.trans (if_neg (by
       rintro ⟨a1, a2⟩; have := HM.out; rw [a1, a2] at this; simp [zbw] at this
       exact hz this.symm)))
      have tz : (M == 0) = false := by simp [hz]
      go_wp2_with fail; go_ret; exact ⟨zaG HE.out.symm, HBl.out⟩
theorem checkCh_any (v : Value) (r : ChR) (w : World) (hv : CV w v r) :
 Calls Tryz.prog 104 #[v] w fun e w' => e = .returned (.int .i64 (ChunkM.check r)) ∧ Below w.heap.size w w' := by
 obtain ⟨a, m, c, rfl, hd, h1, h2, h3, h4⟩ := hv; obtain ⟨f, t, n, o, D⟩ := r; simp only at hd h1 h2 h3 h4 ⊢; have HDL := LH hd.len; have hm : m ≤ 9223372036854775807 := by have := hd.le; have := hd.max; omega
 have HB := LH ((Below.refl w.heap.size w).alloc (Nat.le_refl _) (.cells #[.int .i64 f, .int .i64 t, .int .i64 n, .int .i64 o, .slice a m c] 39))
 have HBad : Hid (ChunkM.badNums ⟨f, t, n, o, D⟩ → ChunkM.check ⟨f, t, n, o, D⟩ = 2) := by
  show _ → _; intro h; unfold ChunkM.check; rw [if_pos h]
 unfold I64 at h1 h2 h3 h4; clear hd; go_enter Tryz.func104, Tryz.ntmps104; go_wp2_with fail; refine (zaH f 1 30 _).mono ?_; rintro e w' ⟨rfl, rfl⟩; by_cases c1 : 1 ≤ f ∧ f ≤ 30
 · rw [decide_eq_true c1]
   go_wp2_with fail; refine (zaH t 1 30 _).mono ?_; rintro e w' ⟨rfl, rfl⟩; by_cases c2 : 1 ≤ t ∧ t ≤ 30
   · rw [decide_eq_true c2]
     go_wp2_with fail; refine (zaH o 1 52 _).mono ?_; rintro e w' ⟨rfl, rfl⟩; by_cases c3 : 1 ≤ o ∧ o ≤ 52
     · rw [decide_eq_true c3]
       by_cases c4 : n < 0
       · have HE := LH (HBad.out (.inr (.inr (.inr (.inl c4)))))
         go_wp2_with fail; go_ret; exact ⟨zao HE.out.symm, HB.out⟩
       · by_cases c5 : o ≤ n
         · have HE := LH (HBad.out (.inr (.inr (.inr (.inr c5)))))
           go_wp2_with fail; go_ret; exact ⟨zao HE.out.symm, HB.out⟩
         · have HG : Hid (¬ ChunkM.badNums ⟨f, t, n, o, D⟩) := by
            show ¬ _; unfold ChunkM.badNums; simp only; omega
           obtain ⟨O1, hO1⟩ : ∃ O1, o - 1 = O1 := ⟨_, rfl⟩; by_cases c6 : n = O1
           · subst c6
             have t6 : (n == n) = true := by simp
             have HE : Hid (ChunkM.check ⟨f, t, n, o, D⟩ = if ¬ (1 ≤ (m : Int) ∧ (m : Int) ≤ 16) then 3 else 0) := by
              show _ = _; rw [ChunkM.check_last HG.out hO1.symm]; simp only [HDL.out]
             go_wp2_with fail; refine (zaH m 1 16 _).mono ?_; rintro e w' ⟨rfl, rfl⟩; by_cases c7 : 1 ≤ (m : Int) ∧ (m : Int) ≤ 16
             · rw [decide_eq_true c7]
               go_wp2_with fail; go_ret; exact ⟨zao (by rw [HE.out, if_neg (not_not_intro c7)]), HB.out⟩
             · rw [decide_eq_false c7]
               go_wp2_with fail; go_ret; exact ⟨zao (by rw [HE.out, if_pos c7]), HB.out⟩
           · have t6 : (n == O1) = false := by simp [c6]
             have HE : Hid (ChunkM.check ⟨f, t, n, o, D⟩ = if ¬ (16 ≤ (m : Int) ∧ (m : Int) ≤ 16) then 3 else 0) := by
              show _ = _; rw [ChunkM.check_mid HG.out (by simp only; rw [hO1]; exact c6)]; simp only [HDL.out]
             go_wp2_with fail; refine (zaH m 16 16 _).mono ?_; rintro e w' ⟨rfl, rfl⟩; by_cases c7 : 16 ≤ (m : Int) ∧ (m : Int) ≤ 16
             · rw [decide_eq_true c7]
               go_wp2_with fail; go_ret; exact ⟨zao (by rw [HE.out, if_neg (not_not_intro c7)]), HB.out⟩
             · rw [decide_eq_false c7]
               go_wp2_with fail; go_ret; exact ⟨zao (by rw [HE.out, if_pos c7]), HB.out⟩
     · rw [decide_eq_false c3]
       have HE := LH (HBad.out (.inr (.inr (.inl c3)))); go_wp2_with fail; go_ret; exact ⟨zao HE.out.symm, HB.out⟩
   · rw [decide_eq_false c2]
     have HE := LH (HBad.out (.inr (.inl c2))); go_wp2_with fail; go_ret; exact ⟨zao HE.out.symm, HB.out⟩
 · rw [decide_eq_false c1]
   have HE := LH (HBad.out (.inl c1)); go_wp2_with fail; go_ret; exact ⟨zao HE.out.symm, HB.out⟩
def ChksRel (l : List ChR) (w : World) (last i : Value) (wr : World) : Prop :=
 ∃ (k : Nat) (m : Int), i = .int .i64 k ∧ k ≤ l.length ∧ last = .int .i64 m ∧ -1 ≤ m ∧ m ≤ 52 ∧ ChunkM.chks (l.getD 0 default) (l.drop k) m = ChunkM.checks l ∧ Below w.heap.size w wr
theorem checkChs_any (a : Option Addr) (n c : Nat) (l : List ChR) (w : World) (hl : CS w a n c l) :
 Calls Tryz.prog 62 #[.slice a n c] w fun e w' => e = .returned (.int .i64 (ChunkM.checks l)) ∧ Below w.heap.size w w' := by
 have HL := LH hl; have HLn := LH hl.len; have hlen : n ≤ 9223372036854775807 := by have := hl.le; have := hl.max; omega
 clear hl; go_enter Tryz.func62, Tryz.ntmps62; go_wp2_with fail; go_loopw [3, 9] (fun last i wr => ChksRel l w last i wr) (fun _ i _ => n - (intOf i).toNat)
 case atStart => exact ⟨0, -1, rfl, Nat.zero_le _, rfl, by omega, by omega, by cases l <;> rfl, Below.refl _ _⟩
 case round =>
  obtain ⟨k, m, rfl, hk, rfl, hm1, hm2, hc, hB⟩ := hrel; rw [HLn.out] at hk; have HC := LH hc; have HB := LH hB; clear hc hB; by_cases hlt : k < n
  · obtain ⟨b, off, rfl, hcs⟩ := (HL.out.later HB.out).cells (by omega)
    obtain ⟨za, zm, zc, z0, z1, z2, z3, z4, z5, zI⟩ := hcs 0 (by omega); obtain ⟨va, vm, vc, q0, q1, q2, q3, q4, q5, qI⟩ := hcs k hlt; have HD := LH (drop_ch l k (by rw [HLn.out]; exact hlt)); obtain ⟨z, hz⟩ : ∃ z, l.getD 0 default = z := ⟨_, rfl⟩; rw [hz] at z0 z1 z2 z3 z5 HC; have HZZ := LH hz; clear hz; generalize l.getD k default = x at q0 q1 q2 q3 q4 q5 qI HD; obtain ⟨ZF, ZT, ZN, ZO, ZD⟩ := z; obtain ⟨F, T, N, O, D⟩ := x; simp only [Nat.zero_mul, Nat.add_zero] at z0 z1 z3 q0 q1 q2 q3 q4 q5; have hbl : Below wr.heap.size wr (wr.alloc (.cells #[.int .i64 F, .int .i64 T, .int .i64 N, .int .i64 O, .slice va vm vc] 39)) := (Below.refl _ _).alloc (Nat.le_refl _) _; have HCV : Hid (CV (wr.alloc (.cells #[.int .i64 F, .int .i64 T, .int .i64 N, .int .i64 O, .slice va vm vc] 39)) (.agg #[.int .i64 F, .int .i64 T, .int .i64 N, .int .i64 O, .slice va vm vc]) ⟨F, T, N, O, D⟩) := ⟨va, vm, vc, rfl, q5.later hbl, qI⟩; have HBL := LH (bTh HB.out hbl); have HBlk := LH (ch_block wr (.int .i64 F) (.int .i64 T) (.int .i64 N) (.int .i64 O) (.slice va vm vc)); have HZ : Hid (∀ W, Below wr.heap.size wr W → W.cell? ⟨b, off, none⟩ = some (.int .i64 ZF) ∧ W.cell? ⟨b, off + 1, none⟩ = some (.int .i64 ZT) ∧ W.cell? ⟨b, off + 3, none⟩ = some (.int .i64 ZO)) := fun W h => ⟨cell_later h z0, cell_later h z1, cell_later h z3⟩; have HBl := LH hbl; clear hcs z0 z1 z2 z3 z4 z5 q5 qI hbl zI; go_wp2_with fail; refine (checkCh_any _ _ _ HCV.out).mono ?_; rintro e W2 ⟨rfl, hb2⟩; have HB2 := LH (bTh HBL.out hb2); obtain ⟨y0, y1, y2⟩ := HZ.out _ (bTh HBl.out hb2); obtain ⟨p0, p1, p2, p3, -⟩ := zbx ((hb2.block _ (by simp)).trans HBlk.out); clear hb2 HBlk HBL HCV HBl q0 q1 q2 q3 q4; by_cases e0 : ChunkM.check ⟨F, T, N, O, D⟩ = 0
    · have HE0 := LH e0
      rw [e0]; have hgood := ChunkM.check_good e0; simp only at hgood; obtain ⟨-, -, go, gn, -⟩ := hgood; clear e0; have h0 : (0 : Int) < (n : Int) := by omega
      have HF3 : Hid (¬ (F = ZF ∧ T = ZT ∧ O = ZO) ∨ N ≤ m → ChunkM.checks l = 3) := by
       show _ → _; intro h; rw [← HC.out, HD.out]; exact ChunkM.chks_form HE0.out h
      by_cases e1 : F = ZF
      · subst e1
        have t1 : (F != F) = false := by simp
        by_cases e2 : T = ZT
        · subst e2
          have t2 : (T != T) = false := by simp
          by_cases e3 : O = ZO
          · subst e3
            have t3 : (O != O) = false := by simp
            by_cases e4 : N ≤ m
            · go_wp2_with fail
              go_quiet (fail); have HB4 := LH (below_drewN HB2.out nq); go_wp2_with fail; go_ret; exact ⟨zao (HF3.out (.inr e4)).symm, HB4.out⟩
            · have t4 : decide (N ≤ m) = false := by simp; omega
              go_wp2_with fail; go_quiet (fail); have HB4 := LH (below_drewN HB2.out nq); go_wp2_with fail; go_roundw
              case rel =>
               refine ⟨k + 1, N, by go_num, by rw [HLn.out]; omega, rfl, by omega, by omega, ?_, HB4.out⟩; rw [← HC.out, HD.out, HZZ.out]; exact (ChunkM.chks_on (z := ⟨F, T, ZN, O, ZD⟩) (last := m) HE0.out ⟨rfl, rfl, rfl⟩ (by simp only; omega)).symm
              case measure => simp [intOf]; omega
          · have t3 : (O != ZO) = true := by simp [e3]
            have HR := LH (HF3.out (.inl (fun h => e3 h.2.2))); go_wp2_with fail; go_quiet (fail); have HB4 := LH (below_drewN HB2.out nq); go_wp2_with fail; go_ret; exact ⟨zao HR.out.symm, HB4.out⟩
        · have t2 : (T != ZT) = true := by simp [e2]
          have HR := LH (HF3.out (.inl (fun h => e2 h.2.1))); go_wp2_with fail; go_quiet (fail); have HB4 := LH (below_drewN HB2.out nq); go_wp2_with fail; go_ret; exact ⟨zao HR.out.symm, HB4.out⟩
      · have t1 : (F != ZF) = true := by simp [e1]
        have HR := LH (HF3.out (.inl (fun h => e1 h.1))); go_wp2_with fail; go_quiet (fail); have HB4 := LH (below_drewN HB2.out nq); go_wp2_with fail; go_ret; exact ⟨zao HR.out.symm, HB4.out⟩
    · obtain ⟨E, hE⟩ : ∃ E, ChunkM.check ⟨F, T, N, O, D⟩ = E := ⟨_, rfl⟩
      have HE : Hid (ChunkM.checks l = E) := by
       show _ = _; rw [← HC.out, HD.out, ChunkM.chks_bad e0, hE]
      rw [hE] at e0 ⊢; have t0 : (E != 0) = true := by simp [e0]
      clear hE; go_wp2_with fail; go_ret; exact ⟨zao HE.out.symm, HB2.out⟩
  · have hdr : l.drop k = [] := List.drop_eq_nil_of_le (by rw [HLn.out]; omega)
    have HE : Hid (ChunkM.checks l = 0) := by
     show _ = _; rw [← HC.out, hdr]
     rfl
    go_wp2_with fail; go_ret; exact ⟨zao HE.out.symm, HB.out⟩
theorem done_any (v : Value) (p : PatR) (a : Option Addr) (n c : Nat) (old : List Int) (w : World) (hp : PV w v p) (hx : BS w a n c old) :
 Calls Tryz.prog 63 #[v, .slice a n c] w (zb1 (zaz p old) w) := by
 have hp' := hp; obtain ⟨ao, no, co, rfl, ho, -⟩ := hp; obtain ⟨f, t, o, nw, s, ops⟩ := p; simp only at ho; have HLn := LH hx.len; have hb : Below w.heap.size w (w.alloc (.cells #[.int .i64 f, .int .i64 t, .int .i64 o, .int .i64 nw, .int .i64 s, .slice ao no co] 35)) := (Below.refl _ _).alloc (Nat.le_refl _) _; obtain ⟨B, hBw⟩ : ∃ B, w.heap.size = B := ⟨_, rfl⟩; have hB0 : (w.alloc (.cells #[.int .i64 f, .int .i64 t, .int .i64 o, .int .i64 nw, .int .i64 s, .slice ao no co] 35)).heap[B]? = some (.cells #[.int .i64 f, .int .i64 t, .int .i64 o, .int .i64 nw, .int .i64 s, .slice ao no co] 35 (0, 0)) := by rw [hpA, if_pos hBw.symm]
 replace hp' := hp'.later hb; replace ho := ho.later hb; replace hx := hx.later hb; obtain ⟨E, hE⟩ : ∃ E, PatM.check ⟨f, t, o, nw, s, ops⟩ = E := ⟨_, rfl⟩; have HE := LH hE; clear hE; go_enter Tryz.func63, Tryz.ntmps63; go_wp2_with fail; generalize w.alloc (.cells #[.int .i64 f, .int .i64 t, .int .i64 o, .int .i64 nw, .int .i64 s, .slice ao no co] 35) = W0 at hb hB0 hp' ho hx ⊢; refine (zbI _ _ _ hp').mono ?_; rintro e W1 ⟨rfl, b1⟩; rw [HE.out]; replace hB0 := (b1.block B (zax hB0)).trans hB0; replace ho := ho.later b1; replace hx := hx.later b1; replace b1 := bTh hb b1; clear hb hp' hBw W0; by_cases h0 : E = 0
 · subst h0
   by_cases h64 : 64 < n
   · have HK : Hid (zaz ⟨f, t, o, nw, s, ops⟩ old = ([], 1)) := by
      show _ = _; unfold zaz; rw [if_neg (by rw [HE.out]; simp), if_pos (by rw [HLn.out]; exact h64)]
     go_wp2_with fail; go_ret2; exact ⟨none, 0, 0, zbd (by rw [HK.out]), by rw [HK.out]; exact BS.nil_ _, b1⟩
   · obtain ⟨r0, r1, r2, r3, r4, r5, -⟩ := zak hB0
     have hq := fun m => sumOf_any a n c old (W1.drewN m) (hx.drewN m); have HQ := LH hq; clear hq; obtain ⟨S, hS⟩ : ∃ S, SumM.addL 1 old = S := ⟨_, rfl⟩; have HSu := LH hS; rw [hS] at HQ; clear hS; by_cases hs : S = o
     · subst hs
       have hsb : (S != S) = false := by simp
       go_wp2_with fail; go_quiet (exact zba (HQ.out _)); have bq : Below W1.heap.size W1 (W1.drewN nq) := below_drewN (Below.refl _ _) nq; have hB2 := (bq.block B (zax hB0)).trans hB0; have ho2 := ho.later bq; have hx2 := hx.later bq; have b2 := bTh b1 bq; clear bq r0 r1 r2 r3 r4 r5 hB0 ho hx b1 HQ; generalize W1.drewN nq = W2 at hB2 ho2 hx2 b2 ⊢; obtain ⟨r0, r1, r2, r3, r4, r5, -⟩ := zak hB2; go_wp2_with fail; refine (applied_any a n c old ao no co ops s _ hx2 ho2).mono ?_; rintro e W3 ⟨ar, nr, cr, rfl, sr, b3⟩; have hB3 := (b3.block B (zax hB2)).trans hB2; replace b3 := bTh b2 b3; obtain ⟨F, hF⟩ : ∃ F, DeltaM.check ops old.length s = F := ⟨_, rfl⟩; have HF := LH hF; rw [hF]; clear hF b2 hB2 ho2 hx2 r0 r1 r2 r3 r4 r5; obtain ⟨r0, r1, r2, r3, r4, r5, -⟩ := zak hB3; obtain ⟨R, hR⟩ : ∃ R, DeltaM.applied old ops s = R := ⟨_, rfl⟩; have HR := LH hR; rw [hR] at sr; clear hR; by_cases hf0 : F = 0
       · subst hf0
         obtain ⟨S2, hS2⟩ : ∃ S, SumM.addL 1 R = S := ⟨_, rfl⟩; have HS2 := LH hS2
         have HQ2 : Hid (∀ m, Calls Tryz.prog 73 #[.slice ar nr cr] (W3.drewN m) fun e w' => e = .returned (.int .i64 S2) ∧ W3.drewN m = w') := by
          show ∀ m, _; intro m; have := sumOf_any ar nr cr R (W3.drewN m) (sr.drewN m)
          rwa [hS2] at this
         clear hS2; by_cases hs2 : S2 = nw
         · subst hs2
           have hsb2 : (S2 != S2) = false := by simp
           have HK : Hid (zaz ⟨f, t, S, S2, s, ops⟩ old = (R, 0)) := by
            show _ = _; unfold zaz; rw [if_neg (by rw [HE.out]; simp), if_neg (by rw [HLn.out]; exact h64), if_neg (by simp only [HSu.out]; simp), if_neg (by simp only [HF.out]; simp)]; simp only [HR.out, HS2.out]; simp
           go_wp2_with fail; go_quiet (exact zba (HQ2.out _)); have b4 := below_drewN b3 nq; have s4 := sr.drewN nq; go_wp2_with fail; go_ret2; exact ⟨ar, nr, cr, zbd (by rw [HK.out]), by rw [HK.out]; exact s4, b4⟩
         · have hsb2 : (S2 != nw) = true := by simp [hs2]
           have HK : Hid (zaz ⟨f, t, S, nw, s, ops⟩ old = ([], 6)) := by
            show _ = _; unfold zaz; rw [if_neg (by rw [HE.out]; simp), if_neg (by rw [HLn.out]; exact h64), if_neg (by simp only [HSu.out]; simp), if_neg (by simp only [HF.out]; simp)]; simp only [HR.out, HS2.out]; rw [if_pos hs2]
           go_wp2_with fail; go_quiet (exact zba (HQ2.out _)); have b4 := below_drewN b3 nq; go_wp2_with fail; go_ret2; exact ⟨none, 0, 0, zbd (by rw [HK.out]), by rw [HK.out]; exact BS.nil_ _, b4⟩
       · have hfb : (F == 0) = false := by simp [hf0]
         have hfn : (F != 0) = true := by simp [hf0]
         have HK : Hid (zaz ⟨f, t, S, nw, s, ops⟩ old = ([], F)) := by
          show _ = _; unfold zaz; rw [if_neg (by rw [HE.out]; simp), if_neg (by rw [HLn.out]; exact h64), if_neg (by simp only [HSu.out]; simp), if_pos (by simp only [HF.out]; exact hf0)]; simp only [HF.out]
         go_wp2_with fail; go_quiet (fail); have b4 := below_drewN b3 nq; go_wp2_with fail; go_ret2; exact ⟨none, 0, 0, zbd (by rw [HK.out]), by rw [HK.out]; exact BS.nil_ _, b4⟩
     · have hsb : (S != o) = true := by simp [hs]
       have HK : Hid (zaz ⟨f, t, o, nw, s, ops⟩ old = ([], 6)) := by
        show _ = _; unfold zaz; rw [if_neg (by rw [HE.out]; simp), if_neg (by rw [HLn.out]; exact h64), if_pos (by simp only [HSu.out]; exact hs)]
       go_wp2_with fail; go_quiet (exact zba (HQ.out _)); have b4 := below_drewN b1 nq; go_wp2_with fail; go_ret2; exact ⟨none, 0, 0, zbd (by rw [HK.out]), by rw [HK.out]; exact BS.nil_ _, b4⟩
 · have hnb : (E != 0) = true := by simp [h0]
   have HK : Hid (zaz ⟨f, t, o, nw, s, ops⟩ old = ([], E)) := by
    show _ = _; unfold zaz; rw [if_pos (by rw [HE.out]; exact h0), HE.out]
   go_wp2_with fail; go_ret2; exact ⟨none, 0, 0, zbd (by rw [HK.out]), by rw [HK.out]; exact BS.nil_ _, b1⟩
theorem imgDone_any (h : DevH) (d : DevR) (X : List Int × Int) (hc : RecM.copies d.c = 0) (hn0 : h.n0 = 64) (hn1 : h.n1 = 64) (hX : zaz d.job (DevM.image d (DevM.act d)) = X) (w : World) (HD : DH w h d) : ∃ m : Nat, (∀ W, Calls Tryz.prog 64 #[.agg (dvC h d)] W fun e w' => e = .returned (.slice (slA h (DevM.rc d).act) m (slC h (DevM.rc d).act)) ∧ Below W.heap.size W w') ∧ ∀ W, DH W h d → Calls Tryz.prog 63 #[.agg (jbC h.oa h.on h.oc d.job), .slice (slA h (DevM.rc d).act) m (slC h (DevM.rc d).act)] W (zb1 X W) := by
 have q0 := HD.b0.le; have q1 := HD.b1.le; have hrk := RecM.cur_ok hc; have hi0 := RecM.check_inf hrk 0; have hi1 := RecM.check_inf hrk 1; have v0 := (RecM.inf_nums (show RecM.infErr (DevM.rc d).i0 = 0 from hi0)).2.1; have v1 := (RecM.inf_nums (show RecM.infErr (DevM.rc d).i1 = 0 from hi1)).2.1; have he : zaz d.job ((DevM.slot d (DevM.rc d).act).take (RecM.inf (DevM.rc d) (DevM.rc d).act).size.toNat) = X := hX; rcases (RecM.check_nums hrk).2.1 with e | e
 · have e : (DevM.rc d).act = 0 := e
   rw [e] at he ⊢; refine ⟨(DevM.rc d).i0.size.toNat, fun W => ?_, fun W hd => ?_⟩
   · have := imageOf_any h d (DevM.rc d).i0.size.toNat W hc (by rw [e]; show (DevM.rc d).i0.size = _; omega) (by rw [e]; show _ ≤ h.c0; omega)
     rw [e] at this; exact this
   · have := done_any _ _ _ _ _ _ W hd.job (hd.b0.head (DevM.rc d).i0.size.toNat (by omega))
     rw [show zaz d.job (d.s0.take (DevM.rc d).i0.size.toNat) = X from he] at this; exact this
 · have e : (DevM.rc d).act = 1 := e
   rw [e] at he ⊢; refine ⟨(DevM.rc d).i1.size.toNat, fun W => ?_, fun W hd => ?_⟩
   · have := imageOf_any h d (DevM.rc d).i1.size.toNat W hc (by rw [e]; show (DevM.rc d).i1.size = _; omega) (by rw [e]; show _ ≤ h.c1; omega)
     rw [e] at this; exact this
   · have := done_any _ _ _ _ _ _ W hd.job (hd.b1.head (DevM.rc d).i1.size.toNat (by omega))
     rw [show zaz d.job (d.s1.take (DevM.rc d).i1.size.toNat) = X from he] at this; exact this
theorem checkDevS0 (h : DevH) (d : DevR) (h0 : h.n0 ≠ 64) (w : World) (HD : DH w h d) : Calls Tryz.prog 12 #[devV h d] w fun e w' => e = .returned (.int .i64 3) ∧ Below w.heap.size w w' := by
 have q0 : ((h.n0 : Int) != 64) = true := by simp; omega
 clear h0; unfold devV; obtain ⟨P1, hP1⟩ : ∃ P, w.heap.size = P := ⟨_, rfl⟩; have HS := LH ((((MS.start w).arg HD.argR).alloc (p := P1) (by simp [hP1]) (dvC h d) 37)); go_enter Tryz.func12, Tryz.ntmps12; go_upto_region 1 with fail; refine zau HS.out (fun V0 HS1 => ?_); replace HS := LH HS1; clear HS1 hP1; have cP1_0 := HS.out.cel 0 0 (v := .slice h.a0 h.n0 h.c0) rfl rfl; have cP1_1 := HS.out.cel 0 1 (v := .slice h.a1 h.n1 h.c1) rfl rfl; go_wp2_with fail; clear cP1_0 cP1_1; go_ret; exact ⟨rfl, HS.out.below⟩
theorem checkDevS1 (h : DevH) (d : DevR) (h0 : h.n0 = 64) (h1 : h.n1 ≠ 64) (w : World) (HD : DH w h d) : Calls Tryz.prog 12 #[devV h d] w fun e w' => e = .returned (.int .i64 3) ∧ Below w.heap.size w w' := by
 have q0 : ((h.n0 : Int) != 64) = false := by simp; omega
 have q1 : ((h.n1 : Int) != 64) = true := by simp; omega
 clear h0 h1; unfold devV; obtain ⟨P1, hP1⟩ : ∃ P, w.heap.size = P := ⟨_, rfl⟩; have HS := LH ((((MS.start w).arg HD.argR).alloc (p := P1) (by simp [hP1]) (dvC h d) 37)); go_enter Tryz.func12, Tryz.ntmps12; go_upto_region 1 with fail; refine zau HS.out (fun V0 HS1 => ?_); replace HS := LH HS1; clear HS1 hP1; have cP1_0 := HS.out.cel 0 0 (v := .slice h.a0 h.n0 h.c0) rfl rfl; have cP1_1 := HS.out.cel 0 1 (v := .slice h.a1 h.n1 h.c1) rfl rfl; go_wp2_with fail; clear cP1_0 cP1_1; go_ret; exact ⟨rfl, HS.out.below⟩
theorem checkDevC (h : DevH) (d : DevR) (h0 : h.n0 = 64) (h1 : h.n1 = 64) (c0 : RecM.copies d.c ≠ 0) (w : World) (HD : DH w h d) : Calls Tryz.prog 12 #[devV h d] w fun e w' => e = .returned (.int .i64 (RecM.copies d.c)) ∧ Below w.heap.size w w' := by
 have q0 : ((h.n0 : Int) != 64) = false := by simp; omega
 have q1 : ((h.n1 : Int) != 64) = false := by simp; omega
 have HN0 := LH h0; have HN1 := LH h1; clear h0 h1; have HD0 := LH HD; have HCo : Hid (∀ W, Calls Tryz.prog 58 #[.agg (cpC d.c)] W fun e w' => e = .returned (.int .i64 (RecM.copies d.c)) ∧ Below W.heap.size W w') := fun W => zb5 d.c W; obtain ⟨E, hE⟩ : ∃ E, RecM.copies d.c = E := ⟨_, rfl⟩; rw [hE] at HCo c0 ⊢; have t0 : (E != 0) = true := by simp [c0]
 clear hE c0; unfold devV; obtain ⟨P1, hP1⟩ : ∃ P, w.heap.size = P := ⟨_, rfl⟩; have HS := LH ((((MS.start w).arg HD.argR).alloc (p := P1) (by simp [hP1]) (dvC h d) 37)); go_enter Tryz.func12, Tryz.ntmps12; go_upto_region 1 with fail; refine zau HS.out (fun V0 HS1 => ?_); replace HS := LH HS1; clear HS1 hP1; have cP1_0 := HS.out.cel 0 0 (v := .slice h.a0 h.n0 h.c0) rfl rfl; have cP1_1 := HS.out.cel 0 1 (v := .slice h.a1 h.n1 h.c1) rfl rfl; have bP1 := HS.out.gt 0 rfl
 go_wp2_with (first
  | ((with_reducible show wpList _ _ _ _ _ _); refine wLP rfl 31 (.tmp 22) rfl P1 2 rfl (dvC h d) 37 (0, 0) ?_ (cpC d.c) ?_ _ U31 rfl ?_ ?_; exact bP1; exact (zai h d); exact (sCp d.c)))
 clear cP1_0 cP1_1 bP1; refine (HCo.out _).mono ?_; rintro e W1 ⟨rfl, hb⟩; replace HS := LH (HS.out.later hb); clear hb; go_wp2_with fail; go_ret; exact ⟨rfl, HS.out.below⟩
theorem checkDevD (h : DevH) (d : DevR) (h0 : h.n0 = 64) (h1 : h.n1 = 64) (c0 : RecM.copies d.c = 0) (hu : d.up = false) (w : World) (HD : DH w h d) : Calls Tryz.prog 12 #[devV h d] w fun e w' => e = .returned (.int .i64 (if d.run ≠ 0 ∨ d.got ≠ [] ∨ d.busy = true ∨ d.done ≠ 0 ∨ d.job ≠ zap then 3 else 0)) ∧ Below w.heap.size w w' := by
 obtain ⟨X, hX⟩ : ∃ X : Int, (if d.run ≠ 0 ∨ d.got ≠ [] ∨ d.busy = true ∨ d.done ≠ 0 ∨ d.job ≠ zap then 3 else 0) = X := ⟨_, rfl⟩; rw [hX]; have HX := LH hX; clear hX; have q0 : ((h.n0 : Int) != 64) = false := by simp; omega
 have q1 : ((h.n1 : Int) != 64) = false := by simp; omega
 have HN0 := LH h0; have HN1 := LH h1; clear h0 h1; have HD0 := LH HD; have HCo : Hid (∀ W, Calls Tryz.prog 58 #[.agg (cpC d.c)] W fun e w' => e = .returned (.int .i64 (RecM.copies d.c)) ∧ Below W.heap.size W w') := fun W => zb5 d.c W; rw [c0] at HCo; have HC0 := LH c0; clear c0; unfold devV; obtain ⟨P1, hP1⟩ : ∃ P, w.heap.size = P := ⟨_, rfl⟩; have HS := LH ((((MS.start w).arg HD.argR).alloc (p := P1) (by simp [hP1]) (dvC h d) 37)); go_enter Tryz.func12, Tryz.ntmps12; go_upto_region 1 with fail; refine zau HS.out (fun V0 HS1 => ?_); replace HS := LH HS1; clear HS1 hP1; have cP1_0 := HS.out.cel 0 0 (v := .slice h.a0 h.n0 h.c0) rfl rfl; have cP1_1 := HS.out.cel 0 1 (v := .slice h.a1 h.n1 h.c1) rfl rfl; have bP1 := HS.out.gt 0 rfl
 go_wp2_with (first
  | ((with_reducible show wpList _ _ _ _ _ _); refine wLP rfl 31 (.tmp 22) rfl P1 2 rfl (dvC h d) 37 (0, 0) ?_ (cpC d.c) ?_ _ U31 rfl ?_ ?_; exact bP1; exact (zai h d); exact (sCp d.c)))
 clear cP1_0 cP1_1 bP1; refine (HCo.out _).mono ?_; rintro e W1 ⟨rfl, hb⟩; replace HS := LH (HS.out.later hb); clear hb; go_upto_region 6 with fail; go_cut [4] (fun s4 wx => s4 = .bool (decide (d.done = 0 ∧ d.job = zap)) ∧ MS w [(P1, (dvC h d), 37)] [(fun W => DH W h d)] [] wx)
 case first =>
  by_cases hd : d.done = 0
  · have td : (d.done == 0) = true := by simp [hd]
    have HSp : Hid (∀ W, DH W h d → Calls Tryz.prog 59 #[.agg (jbC h.oa h.on h.oc d.job), .agg #[.int .i64 0, .int .i64 0, .int .i64 0, .int .i64 0, .int .i64 0, .slice none 0 0]] W fun e w' => e = .returned (.bool (decide (d.job = zap))) ∧ Below W.heap.size W w') := fun W x => samePat_any _ _ d.job zap W x.job ⟨none, 0, 0, rfl, OS.nil_ _, zbv⟩; refine zaj ?_; have cP1_36 := HS.out.cel 0 36 (v := .int .i64 d.done) rfl rfl
    repeat (first
     | ((refine zah ?hw 35 (.tmp 32) rfl P1 30 rfl 37 (dvC h d) (HS.out.get 0 rfl) (jbC h.oa h.on h.oc d.job) (zay h d) _ U35 rfl (sJb _ _ _ _) ?_); (case hw => first | exact zaa rfl | exact zab rfl rfl); simp only [Act.put, sA, sB, sC])
     | (refine zag (by first | exact zaf rfl rfl rfl | exact zad rfl rfl) ?_; simp only [Act.put, sA, sB, sC])
     | (refine zae ?_ ?_ ?_ ?_
        rotate_left
        · first | exact zaa rfl | exact zab rfl rfl
        · (go_simp <;> with_reducible rfl)
        simp only [Act.put, sA, sB, sC]))
    clear cP1_36; refine zar (fun K hK => ?_); go_simp; go_at_call 59; with_reducible refine (HSp.out _ (HD0.out.later HS.out.below)).mono ?_
    rintro e W2 ⟨rfl, hb⟩; replace HS := LH (HS.out.later hb); clear hb
    try go_wp2_with fail
    refine hK.out _ _ ?_; clear hK K
    try simp only [Act.put, sA, sB, sC]
    repeat (first
     | (refine zag (by first | exact zaf rfl rfl rfl | exact zad rfl rfl) ?_; simp only [Act.put, sA, sB, sC])
     | (refine zae ?_ ?_ ?_ ?_
        rotate_left
        · first | exact zaa rfl | exact zab rfl rfl
        · (go_simp <;> with_reducible rfl)
        simp only [Act.put, sA, sB, sC]))
    refine zal ?_; go_wp2_with fail; go_meet; exact ⟨by simp [hd], HS.out⟩
  · have td : (d.done == 0) = false := by simp [hd]
    have cP1_36 := HS.out.cel 0 36 (v := .int .i64 d.done) rfl rfl; go_wp2_with fail; clear cP1_36; go_meet; exact ⟨by simp [hd], HS.out⟩
 case' rest =>
  obtain ⟨rfl, hs⟩ := hcut; replace HS := LH hs; clear hs
 obtain ⟨I, hI⟩ : ∃ b, decide (d.done = 0 ∧ d.job = zap) = b := ⟨_, rfl⟩; rw [hI]; have HI := LH hI; clear hI; have cP1_26 := HS.out.cel 0 26 (v := .bool d.up) rfl rfl; rw [hu] at cP1_26; clear hu; have HGl : Hid (d.got.length = h.gn) := HD0.out.got.len; go_upto_region 8 with fail; clear cP1_26; have cP1_27 := HS.out.cel 0 27 (v := .int .i64 d.run) rfl rfl; have cP1_28 := HS.out.cel 0 28 (v := .slice h.ga h.gn h.gc) rfl rfl; have cP1_29 := HS.out.cel 0 29 (v := .bool d.busy) rfl rfl; by_cases z1 : d.run = 0
 case neg =>
  have t1 : (d.run != 0) = true := by simp [z1]
  have Z1 := LH z1; clear z1
  have hx : X = 3 := by
   rw [← HX.out]; exact if_pos (.inl Z1.out)
  subst hx; go_wp2_with fail; go_ret; exact ⟨rfl, HS.out.below⟩
 have t1 : (d.run != 0) = false := by simp [z1]
 have Z1 := LH z1; clear z1; by_cases z2 : h.gn = 0
 case neg =>
  have z2' : Hid (d.got ≠ []) := fun q => z2 (by rw [← HGl.out, q]; rfl); have t2 : decide ((h.gn : Int) > 0) = true := by simp; omega
  have t2' : decide (0 < h.gn) = true := by simp; omega
  clear z2
  have hx : X = 3 := by
   rw [← HX.out]; exact if_pos (.inr (.inl z2'.out))
  subst hx; go_wp2_with fail; go_ret; exact ⟨rfl, HS.out.below⟩
 have z2' : Hid (d.got = []) := List.eq_nil_of_length_eq_zero (by rw [HGl.out]; exact z2); have t2 : decide ((h.gn : Int) > 0) = false := by simp; omega
 have t2' : decide (0 < h.gn) = false := by simp; omega
 clear z2; rcases Bool.eq_false_or_eq_true d.busy with hbu | hbu
 · rw [hbu] at cP1_29
   have HBU := LH hbu; clear hbu
   have hx : X = 3 := by
    rw [← HX.out]; exact if_pos (.inr (.inr (.inl HBU.out)))
   subst hx; go_wp2_with fail; go_ret; exact ⟨rfl, HS.out.below⟩
 · rw [hbu] at cP1_29
   have HBU := LH hbu; clear hbu
   cases I
   · have hx : X = 3 := by
      rw [← HX.out]
      exact if_pos (by
       have h2 := of_decide_eq_false HI.out; by_cases q3 : d.done = 0
       · exact .inr (.inr (.inr (.inr (fun q4 => h2 ⟨q3, q4⟩))))
       · exact .inr (.inr (.inr (.inl q3))))
     subst hx; go_wp2_with fail; go_ret; exact ⟨rfl, HS.out.below⟩
   · have hx : X = 0 := by
      rw [← HX.out]
      exact if_neg (by
       have h2 := of_decide_eq_true HI.out; rintro (q | q | q | q | q)
       · exact q Z1.out
       · exact q z2'.out
       · rw [HBU.out] at q; cases q
       · exact q h2.1
       · exact q h2.2)
     subst hx; go_wp2_with fail; go_ret; exact ⟨rfl, HS.out.below⟩
def RecR.setI (r : RecR) (O : Nat) (i : InfR) : RecR := if O = 0 then { r with i0 := i } else { r with i1 := i }
theorem put_infV (r : RecR) (O : Nat) (i : InfR) (hO : O < 2) : putAt (rcC r) (5 + O * 3) (#[Value.int .i64 i.ver, .int .i64 i.size, .int .i64 i.sum] : Array Value).toList = rcC (r.setI O i) := by
 rcases (show O = 0 ∨ O = 1 by omega) with rfl | rfl <;> kernel_rfl
theorem act_setI (r : RecR) (O : Nat) (i : InfR) : (rcC (r.setI O i))[1]? = some (.int .i64 r.act) := by
 unfold RecR.setI; split <;> rfl
theorem put_tryR (r : RecR) (b : Bool) : (rcC r).setIfInBounds 2 (.bool b) = rcC { r with trying := b } := by kernel_rfl
theorem put_triesR (r : RecR) (n : Int) : (rcC r).setIfInBounds 3 (.int .i64 n) = rcC { r with tries := n } := by kernel_rfl
theorem tried_is (d : DevR) (O : Nat) (ha : 1 - (DevM.rc d).act = (O : Int)) (hO2 : O < 2) : DevM.tried d = RecR.setI { DevM.rc d with trying := true, tries := 3 } O ⟨d.job.to_, d.job.size, d.job.new⟩ := by
 unfold DevM.tried DevM.put RecR.setI; by_cases h : O = 0
 · rw [if_pos h, if_neg (by omega)]
 · rw [if_neg h]
   by_cases h1 : (DevM.rc d).act = 0
   · rw [if_pos h1]
   · rw [if_neg h1]
     exact absurd (by omega : O = 0) h
theorem finishD_bad (h : DevH) (d : DevR) (torn : Bool) (w : World) (HD : DH w h d) (E : Int) (h0 : E ≠ 0) (HBg : Hid (∀ W, DH W h d → Calls Tryz.prog 74 #[.agg (dvC h d), .bool true] W fun e w' => e = .returned (.tuple #[.agg (rcC RecM.noRec), .int .i64 E]) ∧ Below W.heap.size W w')) : Calls Tryz.prog 22 #[devV h d, .bool torn] w (GDv (DevM.noDev, E) w) := by
 have t0 : (E != 0) = true := by simp [h0]
 have HDh := LH HD; clear HD; unfold devV; obtain ⟨P1, hP1⟩ : ∃ P, w.heap.size = P := ⟨_, rfl⟩; have HS := LH (((((MS.start w).alloc (p := P1) (by simp [hP1]) (dvC h d) 37)).alloc (p := (P1 + 1)) (by simp [hP1]) zDev 37)); go_enter Tryz.func22, Tryz.ntmps22; go_upto_region 1 with fail; refine zau HS.out (fun V0 HS1 => ?_); replace HS := LH HS1; clear HS1 hP1; replace HS := LH (MH.of HS.out); have bP1 := HS.out.gt 1 rfl
 go_wp2_with (first
  | ((with_reducible show wpList _ _ _ _ _ _); refine LR rfl (t := 37) U37 rfl (.tmp 2) rfl P1 rfl bP1 (sDv h d) ?_))
 clear bP1; refine (HBg.out _ (HDh.out.later HS.out.below)).mono ?_; rintro e W1 ⟨rfl, hb⟩; replace HS := LH (HS.out.later hb); clear hb; obtain ⟨P3, hP3⟩ : ∃ P, W1.heap.size = P := ⟨_, rfl⟩; replace HS := LH (HS.out.alloc hP3 (rcC RecM.noRec) 28); go_upto_region 2 with ((with_reducible show wpList _ _ _ _ _ _); refine wSN rfl 28 (.tmp 6) (.tmp 12) rfl P3 (rcC RecM.noRec) rfl rfl 28 _ ?_ ?_ ?_ ?_ ?_; exact hP3.symm; exact (sRc RecM.noRec); exact (lRc RecM.noRec); exact (oRc RecM.noRec)); refine gnH HS.out (fun V1 HS1 => ?_); replace HS := LH HS1; clear HS1 hP3; have bP1p1 := HS.out.gt 1 rfl; have HG := LH (HS.out.set 1 rfl zDev)
 go_wp2_with (first
  | ((with_reducible show wpList _ _ _ _ _ _); refine wpList_store_row rfl 37 (.tmp 4) (.tmp 16) rfl (P1 + 1) zDev rfl rfl 37 zDev ?_ ?_ ?_ ?_ ?_; exact bP1p1; exact zac; exact zav; exact zaq))
 clear bP1p1; refine bodyPost_ret (v := .tuple #[.agg zDev, .int .i64 E]) ?_ rfl ?_
 · exact zam (fn := Tryz.f22) (p := 4) (a := 5) rfl rfl rfl (HG.out.get 1 rfl) U37 rfl zac
 · exact GDv.bad HG.out.below
theorem finishD_ok (h : DevH) (d : DevR) (torn : Bool) (w : World) (HD : DH w h d) (HBg : Hid (∀ W, DH W h d → Calls Tryz.prog 74 #[.agg (dvC h d), .bool true] W fun e w' => e = .returned (.tuple #[.agg (rcC (DevM.rc d)), .int .i64 0]) ∧ Below W.heap.size W w')) (hok : DevM.Ok d) (hu : d.up = true) : Calls Tryz.prog 22 #[devV h d, .bool torn] w (GDv (DevM.finish d torn) w) := by
 have HF := LH (rfl : DevM.finish d torn = DevM.finish d torn); have HOk := LH hok; have ha := hok.act01; unfold DevM.act at ha; obtain ⟨O, hO, hO2⟩ := zb9 ha; have HO := othN_any _ O hO ha; have HTr := LH (tried_is d O hO hO2); have hO0 : (0 : Int) ≤ (O : Int) := by omega
 have hOI : (O : Int) < 2 := by omega
 have _hv := hu; clear hok hu ha hO HF _hv; generalize hr : DevM.rc d = r at HBg HO HTr; clear hr; have HDh := LH HD; clear HD; unfold devV; obtain ⟨P1, hP1⟩ : ∃ P, w.heap.size = P := ⟨_, rfl⟩; have HS := LH (((((MS.start w).alloc (p := P1) (by simp [hP1]) (dvC h d) 37)).alloc (p := (P1 + 1)) (by simp [hP1]) zDev 37)); go_enter Tryz.func22, Tryz.ntmps22; go_upto_region 1 with fail; refine zau HS.out (fun V0 HS1 => ?_); replace HS := LH HS1; clear HS1 hP1; replace HS := LH (MH.of HS.out); have bP1 := HS.out.gt 1 rfl
 go_wp2_with (first
  | ((with_reducible show wpList _ _ _ _ _ _); refine LR rfl (t := 37) U37 rfl (.tmp 2) rfl P1 rfl bP1 (sDv h d) ?_))
 clear bP1; refine (HBg.out _ (HDh.out.later HS.out.below)).mono ?_; rintro e W1 ⟨rfl, hb⟩; replace HS := LH (HS.out.later hb); clear hb; obtain ⟨P3, hP3⟩ : ∃ P, W1.heap.size = P := ⟨_, rfl⟩; replace HS := LH (HS.out.alloc hP3 (rcC r) 28); go_upto_region 2 with ((with_reducible show wpList _ _ _ _ _ _); refine wSN rfl 28 (.tmp 6) (.tmp 12) rfl P3 (rcC r) rfl rfl 28 _ ?_ ?_ ?_ ?_ ?_; exact hP3.symm; exact (sRc r); exact (lRc r); exact (oRc r)); refine gnH HS.out (fun V1 HS1 => ?_); replace HS := LH HS1; clear HS1 hP3; have cP1_29 := HS.out.cel 2 29 (v := .bool d.busy) rfl rfl; have cP1_36 := HS.out.cel 2 36 (v := .int .i64 d.done) rfl rfl; have cP1_34 := HS.out.cel 2 34 (v := .int .i64 d.job.size) rfl rfl; by_cases hl : d.busy = false ∨ d.done < d.job.size
 · have HR : Hid (DevM.finish d torn = (DevM.noDev, 5)) := by
    show _ = _; unfold DevM.finish; rw [if_pos hl]
   have HG := LH (HS.out.set 1 rfl zDev); have bR := HS.out.gt 1 rfl; have bP1p1 := HS.out.gt 1 rfl; rcases hl with hb | hlt
   · rw [hb] at cP1_29
     clear hb
     go_wp2_with (first
      | ((with_reducible show wpList _ _ _ _ _ _); refine wpList_store_row rfl 37 (.tmp 4) (.tmp 29) rfl (P1 + 1) zDev rfl rfl 37 zDev ?_ ?_ ?_ ?_ ?_; exact bP1p1; exact zac; exact zav; exact zaq))
     refine bodyPost_ret (v := .tuple #[.agg zDev, .int .i64 5]) ?_ rfl ?_
     · exact zam (fn := Tryz.f22) (p := 4) (a := 5) rfl rfl rfl (HG.out.get 1 rfl) U37 rfl zac
     · rw [HR.out]
       exact GDv.bad HG.out.below
   · have t2 : decide (d.done < d.job.size) = true := by simp [hlt]
     clear hlt
     cases hb : d.busy with
     | true =>
       rw [hb] at cP1_29; clear hb
       go_wp2_with (first
        | ((with_reducible show wpList _ _ _ _ _ _); refine wpList_store_row rfl 37 (.tmp 4) (.tmp 29) rfl (P1 + 1) zDev rfl rfl 37 zDev ?_ ?_ ?_ ?_ ?_; exact bP1p1; exact zac; exact zav; exact zaq))
       refine bodyPost_ret (v := .tuple #[.agg zDev, .int .i64 5]) ?_ rfl ?_
       · exact zam (fn := Tryz.f22) (p := 4) (a := 5) rfl rfl rfl (HG.out.get 1 rfl) U37 rfl zac
       · rw [HR.out]
         exact GDv.bad HG.out.below
     | false =>
       rw [hb] at cP1_29; clear hb
       go_wp2_with (first
        | ((with_reducible show wpList _ _ _ _ _ _); refine wpList_store_row rfl 37 (.tmp 4) (.tmp 29) rfl (P1 + 1) zDev rfl rfl 37 zDev ?_ ?_ ?_ ?_ ?_; exact bP1p1; exact zac; exact zav; exact zaq))
       refine bodyPost_ret (v := .tuple #[.agg zDev, .int .i64 5]) ?_ rfl ?_
       · exact zam (fn := Tryz.f22) (p := 4) (a := 5) rfl rfl rfl (HG.out.get 1 rfl) U37 rfl zac
       · rw [HR.out]
         exact GDv.bad HG.out.below
 · have hbu : d.busy = true := by
    cases q : d.busy with
    | true => rfl
    | false => exact absurd (.inl q) hl
   have t2 : decide (d.done < d.job.size) = false := by
    have : ¬ d.done < d.job.size := fun q => hl (.inr q); simp; omega
   rw [hbu] at cP1_29; obtain ⟨⟨L, E⟩, hW⟩ : ∃ x, RecM.writeOf d.c (DevM.tried d) torn = x := ⟨_, rfl⟩
   have HR : Hid (DevM.finish d torn = DevM.wrong E (if torn then (DevM.off { d with c := L }, 0) else ({ d with c := L, busy := false, done := 0, job := zap }, 0))) := by
    show _ = _; unfold DevM.finish; rw [if_neg hl, hW]
   have HCz := LH (fun q : E = 0 => cops_w (RecM.writeOf_zero HOk.out.cops (r := DevM.tried d) (torn := torn) (by rw [hW]; exact q)).2.1); rw [hW] at HCz; rw [HTr.out] at hW
   have HWr : Hid (∀ W, Calls Tryz.prog 82 #[.agg (cpC d.c), .agg (rcC (RecR.setI ({ r with trying := true, tries := 3 } : RecR) O ⟨d.job.to_, d.job.size, d.job.new⟩)), .bool torn] W fun e w' => e = .returned (.tuple #[.agg (cpC L), .int .i64 E]) ∧ Below W.heap.size W w') := fun W => by
    have := zbA d.c (RecR.setI ({ r with trying := true, tries := 3 } : RecR) O ⟨d.job.to_, d.job.size, d.job.new⟩) torn W; rw [hW] at this; exact this
   have HCy := LH (fun W (x : DH W h d) => za3 h d W x (DevM.few_of HOk.out)); unfold devV at HCy; clear hW hl hbu HTr HOk; have cP3_2 := HS.out.cel 0 2 (v := .bool r.trying) rfl rfl; have fP3_2 := HS.out.thw 0 2 rfl; have cP3_3 := HS.out.cel 0 3 (v := .int .i64 r.tries) rfl rfl; have fP3_3 := HS.out.thw 0 3 rfl; have HS2 := LH ((HS.out.cell 0 rfl (put_tryR r true)).cell 0 rfl (put_triesR { r with trying := true } 3)); go_upto_region 7 with fail; clear cP1_29 cP1_36 cP1_34 cP3_2 fP3_2 cP3_3 fP3_3; refine gnH HS2.out (fun V2 HS1 => ?_); replace HS := LH HS1; clear HS1 HS2; replace HS := LH HS.out.drew; refine rTu (S := (fun W => MS w [((P1 + 1), zDev, 37), (P1, (dvC h d), 37)] [] [] W ∧ W.cell? ⟨P3, 1, none⟩ = some (.int .i64 r.act))) [(0, false), (1, false), (3, false), (4, false), (5, false), (6, false), (7, false), (8, false), (9, false), (10, false), (11, false), (12, false), (13, false), (2, true), (14, false), (15, true)] false 9999 (by kernel_rfl) (by kernel_rfl) ⟨HS.out.ms.tail, cAt (k := 1) (v := .int .i64 r.act) (HS.out.get 0 rfl) rfl⟩ ?_; simp only [turned, gA, gB, gC]; have uP3_1 : ∀ W, (fun W => MS w [((P1 + 1), zDev, 37), (P1, (dvC h d), 37)] [] [] W ∧ W.cell? ⟨P3, 1, none⟩ = some (.int .i64 r.act)) W → W.cell? ⟨P3, 1, none⟩ = some (.int .i64 r.act) := fun W hW => hW.2; have uP1_31 : ∀ W, (fun W => MS w [((P1 + 1), zDev, 37), (P1, (dvC h d), 37)] [] [] W ∧ W.cell? ⟨P3, 1, none⟩ = some (.int .i64 r.act)) W → W.cell? ⟨P1, 31, none⟩ = some (.int .i64 d.job.to_) := fun W hW => cAt (hW.1.get 1 rfl) rfl; have uP1_34 : ∀ W, (fun W => MS w [((P1 + 1), zDev, 37), (P1, (dvC h d), 37)] [] [] W ∧ W.cell? ⟨P3, 1, none⟩ = some (.int .i64 r.act)) W → W.cell? ⟨P1, 34, none⟩ = some (.int .i64 d.job.size) := fun W hW => cAt (hW.1.get 1 rfl) rfl; have uP1_33 : ∀ W, (fun W => MS w [((P1 + 1), zDev, 37), (P1, (dvC h d), 37)] [] [] W ∧ W.cell? ⟨P3, 1, none⟩ = some (.int .i64 r.act)) W → W.cell? ⟨P1, 33, none⟩ = some (.int .i64 d.job.new) := fun W hW => cAt (hW.1.get 1 rfl) rfl
   repeat (first
    | (refine tSt ?_ (by rfl) (fun W9 hW9 => ?_) ?_
       rotate_left
       · (go_simp <;> with_reducible rfl)
       simp only [Act.put, sA, sB, sC])
    | (refine tSk (by rfl) ?_; simp only [Act.put, sA, sB, sC]))
   refine tCa (fun K hK => ?_); go_simp; go_at_call 81; with_reducible refine (HO.out _).mono ?_
   rintro e W2 ⟨rfl, hb⟩; replace HS := LH (HS.out.later hb); clear hb
   try go_wp2_with fail
   refine hK.out _ _ ⟨HS.out.ms.tail, cAt (k := 1) (v := .int .i64 r.act) (HS.out.get 0 rfl) rfl⟩ ?_; clear hK K
   try simp only [Act.put, sA, sB, sC]
   repeat (first
    | (refine tSt ?_ (by rfl) (fun W9 hW9 => ?_) ?_
       rotate_left
       · (go_simp <;> with_reducible rfl)
       simp only [Act.put, sA, sB, sC])
    | (refine tSk (by rfl) ?_; simp only [Act.put, sA, sB, sC]))
   have HS2 := LH (HS.out.cells 0 rfl (put_infV ({ r with trying := true, tries := 3 } : RecR) O ⟨d.job.to_, d.job.size, d.job.new⟩ hO2)); refine tCa (fun K hK => ?_); refine zaW (by rfl) 25 (.tmp 46) (.tmp 44) rfl P3 (5 + O * 3) #[Value.int .i64 d.job.to_, .int .i64 d.job.size, .int .i64 d.job.new] rfl rfl (HS.out.ms.there 0 rfl (by show 5 + O * 3 + 3 ≤ 11; omega)) (size_inf ⟨d.job.to_, d.job.size, d.job.new⟩) (one_inf ⟨d.job.to_, d.job.size, d.job.new⟩) ?_; refine hK.out _ _ ⟨HS2.out.ms.tail, cAt (k := 1) (v := .int .i64 r.act) (HS2.out.get 0 rfl) (act_setI _ _ _)⟩ ?_; clear hK K
   try simp only [Act.put]
   clear uP3_1 uP1_31 uP1_34 uP1_33; refine tEn ?_; go_upto_region 8 with fail; refine gnH HS2.out (fun V3 HS1 => ?_); replace HS := LH HS1; clear HS1 HS2; have bP1 := HS.out.gt 2 rfl; have bP3 := HS.out.gt 0 rfl
   go_wp2_with (first
    | ((with_reducible show wpList _ _ _ _ _ _); refine wLP rfl 31 (.tmp 48) rfl P1 2 rfl (dvC h d) 37 (0, 0) ?_ (cpC d.c) ?_ _ U31 rfl ?_ ?_; exact bP1; exact (zai h d); exact (sCp d.c))
    | ((with_reducible show wpList _ _ _ _ _ _); refine LR rfl (t := 28) U28 rfl (.tmp 6) rfl P3 rfl bP3 (sRc (RecR.setI ({ r with trying := true, tries := 3 } : RecR) O ⟨d.job.to_, d.job.size, d.job.new⟩)) ?_))
   clear bP1 bP3; refine (HWr.out _).mono ?_; rintro e W3 ⟨rfl, hb⟩; replace HS := LH (HS.out.later hb); clear hb; obtain ⟨P8, hP8⟩ : ∃ P, W3.heap.size = P := ⟨_, rfl⟩; replace HS := LH (HS.out.alloc hP8 (cpC L) 31); go_upto_region 9 with ((with_reducible show wpList _ _ _ _ _ _); refine wSN rfl 31 (.tmp 8) (.tmp 53) rfl P8 (cpC L) rfl rfl 31 _ ?_ ?_ ?_ ?_ ?_; exact hP8.symm; exact (sCp L); exact (zbS L); exact (za5 L)); refine gnH HS.out (fun V4 HS1 => ?_); replace HS := LH HS1; clear HS1 hP8 HWr HO; by_cases hE : E = 0
   · subst hE
     have HLW := LH (HCz.out rfl); have bP1 := HS.out.gt 3 rfl
     go_wp2_with (first
      | ((with_reducible show wpList _ _ _ _ _ _); refine LR rfl (t := 37) U37 rfl (.tmp 2) rfl P1 rfl bP1 (sDv h d) ?_))
     clear bP1; refine (HCy.out _ (HDh.out.later HS.out.below)).mono ?_; rintro e W4 ⟨h', rfl, hb, hn, -, -⟩; replace HS := LH (HS.out.gain hb hn); clear hb hn; unfold devV; have HS2 := LH (HS.out.set 3 rfl (dvC h' d)); have bP1 := HS.out.gt 3 rfl
     go_upto_region 12 with (first
      | ((with_reducible show wpList _ _ _ _ _ _); refine wpList_store_row rfl 37 (.tmp 2) (.tmp 60) rfl P1 (dvC h' d) rfl rfl 37 (dvC h d) ?_ ?_ ?_ ?_ ?_; exact bP1; exact (sDv h' d); exact (lDv h h' d d); exact (oDv h' d)))
     clear bP1; refine gnH HS2.out (fun V5 HS1 => ?_); replace HS := LH HS1; clear HS1 HS2; have HSa := LH (HS.out.cells 3 rfl (zbr h' d L)); have bP8 := HS.out.gt 0 rfl
     go_upto_region 13 with (first
      | ((with_reducible show wpList _ _ _ _ _ _); refine LR rfl (t := 31) U31 rfl (.tmp 8) rfl P8 rfl bP8 (sCp L) ?_)
      | ((with_reducible show wpList _ _ _ _ _ _); refine wpList_store_mid rfl 31 (.tmp 63) (.tmp 61) rfl P1 2 (cpC L) rfl rfl ?_ ?_ ?_ ?_; exact HS.out.ms.there 3 rfl (by show 26 ≤ 37; decide); exact (sCp L); exact (zbT L); refine glH HSa.out (fun Va HSv => ?_); have e29 := cAt (k := 29) (v := .bool d.busy) (HSv.get 3 rfl) rfl; have z29 := tAt (k := 29) (HSv.get 3 rfl); simp only at e29 z29; have HSb := LH (HSv.cell 3 rfl (zbH h' ({ d with c := L } : DevR) false)))
      | ((with_reducible show wpList _ _ _ _ _ _); refine wpList_store_mid rfl 35 (.tmp 65) (.tmp 62) rfl P1 30 (jbC none 0 0 zap) rfl rfl ?_ ?_ ?_ ?_; exact HSb.out.ms.there 3 rfl (by show 36 ≤ 37; decide); exact sJb _ _ _ _; exact zbg _ _ _ _; refine glH (HSb.out.cells 3 rfl (put_job h' ({ d with c := L, busy := false } : DevR) none 0 0 zap)) (fun Vb HSw => ?_); have e36 := cAt (k := 36) (v := .int .i64 d.done) (HSw.get 3 rfl) rfl; have z36 := tAt (k := 36) (HSw.get 3 rfl); simp only at e36 z36; have HS2 := LH (HSw.cell 3 rfl (zbe ({ h' with oa := none, on := 0, oc := 0 } : DevH) ({ d with c := L, busy := false, job := zap } : DevR) 0))))
     clear bP8; refine gnH HS2.out (fun V6 HS1 => ?_); replace HS := LH HS1; clear HS1 HS2; clear e29 z29 e36 z36 HSa HSb HSv HSw
     cases torn with
     | false =>
       have HR2 : Hid (DevM.finish d false = ({ d with c := L, busy := false, done := 0, job := zap }, 0)) := HR.out; have bP1 := HS.out.gt 3 rfl; have bP1p1 := HS.out.gt 2 rfl; have HG := LH (HS.out.set 2 rfl (dvC ({ h' with oa := none, on := 0, oc := 0 } : DevH) ({ d with c := L, busy := false, job := zap, done := 0 } : DevR)))
       go_wp2_with (first
        | ((with_reducible show wpList _ _ _ _ _ _); refine LR rfl (t := 37) U37 rfl (.tmp 2) rfl P1 rfl bP1 (sDv ({ h' with oa := none, on := 0, oc := 0 } : DevH) ({ d with c := L, busy := false, job := zap, done := 0 } : DevR)) ?_)
        | ((with_reducible show wpList _ _ _ _ _ _); refine wpList_store_row rfl 37 (.tmp 4) (.tmp 70) rfl (P1 + 1) (dvC ({ h' with oa := none, on := 0, oc := 0 } : DevH) ({ d with c := L, busy := false, job := zap, done := 0 } : DevR)) rfl rfl 37 zDev ?_ ?_ ?_ ?_ ?_; exact bP1p1; exact (sDv ({ h' with oa := none, on := 0, oc := 0 } : DevH) ({ d with c := L, busy := false, job := zap, done := 0 } : DevR)); exact (zat ({ h' with oa := none, on := 0, oc := 0 } : DevH) ({ d with c := L, busy := false, job := zap, done := 0 } : DevR)); exact (oDv ({ h' with oa := none, on := 0, oc := 0 } : DevH) ({ d with c := L, busy := false, job := zap, done := 0 } : DevR))))
       clear bP1 bP1p1; refine bodyPost_ret (v := .tuple #[.agg (dvC ({ h' with oa := none, on := 0, oc := 0 } : DevH) ({ d with c := L, busy := false, job := zap, done := 0 } : DevR)), .int .i64 0]) ?_ rfl ?_
       · exact zam (fn := Tryz.f22) (p := 4) (a := 5) rfl rfl rfl (HG.out.get 2 rfl) U37 rfl (sDv _ _)
       · rw [HR2.out]
         refine ⟨({ h' with oa := none, on := 0, oc := 0 } : DevH), rfl, HG.out.below, fun V v1 v2 => ?_⟩; have k1 := HG.out.newR 0 rfl V v1 v2; simp only at k1; exact ⟨k1.b0, k1.b1, k1.got, OS.nil_ _, HLW.out, k1.runI, zbv, zaS⟩
     | true =>
       have HR2 : Hid (DevM.finish d true = (DevM.off { d with c := L }, 0)) := HR.out; have HOf := LH (fun h W => offD_any h { d with c := L, busy := false, job := zap, done := 0 } W); unfold devV at HOf; have bP1 := HS.out.gt 3 rfl
       go_wp2_with (first
        | ((with_reducible show wpList _ _ _ _ _ _); refine LR rfl (t := 37) U37 rfl (.tmp 2) rfl P1 rfl bP1 (sDv ({ h' with oa := none, on := 0, oc := 0 } : DevH) ({ d with c := L, busy := false, job := zap, done := 0 } : DevR)) ?_))
       clear bP1; refine (HOf.out ({ h' with oa := none, on := 0, oc := 0 } : DevH) _).mono ?_; rintro e W5 ⟨rfl, hb⟩; replace HS := LH (HS.out.later hb); clear hb; have bP1p1 := HS.out.gt 2 rfl; have HG := LH (HS.out.set 2 rfl (dvC (offH ({ h' with oa := none, on := 0, oc := 0 } : DevH)) (DevM.off ({ d with c := L, busy := false, job := zap, done := 0 } : DevR))))
       go_wp2_with (first
        | ((with_reducible show wpList _ _ _ _ _ _); refine wpList_store_row rfl 37 (.tmp 4) (.tmp 69) rfl (P1 + 1) (dvC (offH ({ h' with oa := none, on := 0, oc := 0 } : DevH)) (DevM.off ({ d with c := L, busy := false, job := zap, done := 0 } : DevR))) rfl rfl 37 zDev ?_ ?_ ?_ ?_ ?_; exact bP1p1; exact (sDv (offH ({ h' with oa := none, on := 0, oc := 0 } : DevH)) (DevM.off ({ d with c := L, busy := false, job := zap, done := 0 } : DevR))); exact (zat (offH ({ h' with oa := none, on := 0, oc := 0 } : DevH)) (DevM.off ({ d with c := L, busy := false, job := zap, done := 0 } : DevR))); exact (oDv (offH ({ h' with oa := none, on := 0, oc := 0 } : DevH)) (DevM.off ({ d with c := L, busy := false, job := zap, done := 0 } : DevR)))))
       clear bP1p1; refine bodyPost_ret (v := .tuple #[.agg (dvC (offH ({ h' with oa := none, on := 0, oc := 0 } : DevH)) (DevM.off ({ d with c := L, busy := false, job := zap, done := 0 } : DevR))), .int .i64 0]) ?_ rfl ?_
       · exact zam (fn := Tryz.f22) (p := 4) (a := 5) rfl rfl rfl (HG.out.get 2 rfl) U37 rfl (sDv _ _)
       · rw [HR2.out]
         refine ⟨(offH ({ h' with oa := none, on := 0, oc := 0 } : DevH)), rfl, HG.out.below, fun V v1 v2 => ?_⟩; have k1 := HG.out.newR 0 rfl V v1 v2; simp only at k1; exact ⟨k1.b0, k1.b1, CS.nil_ _, OS.nil_ _, HLW.out, zaS, zbv, zaS⟩
   · have t3 : (E != 0) = true := by simp [hE]
     have HR2 : Hid (DevM.finish d torn = (DevM.noDev, E)) := by
      show _ = _; rw [HR.out]; unfold DevM.wrong; rw [if_pos hE]
     clear hE; have bP1p1 := HS.out.gt 2 rfl; have HG := LH (HS.out.set 2 rfl zDev)
     go_wp2_with (first
      | ((with_reducible show wpList _ _ _ _ _ _); refine wpList_store_row rfl 37 (.tmp 4) (.tmp 57) rfl (P1 + 1) zDev rfl rfl 37 zDev ?_ ?_ ?_ ?_ ?_; exact bP1p1; exact zac; exact zav; exact zaq))
     clear bP1p1; refine bodyPost_ret (v := .tuple #[.agg zDev, .int .i64 E]) ?_ rfl ?_
     · exact zam (fn := Tryz.f22) (p := 4) (a := 5) rfl rfl rfl (HG.out.get 2 rfl) U37 rfl zac
     · rw [HR2.out]
       exact GDv.bad HG.out.below
theorem zb2 (h : DevH) (d : DevR) (torn : Bool) (w : World) (HD : DH w h d) : Calls Tryz.prog 22 #[devV h d, .bool torn] w (GDv (DevM.told d true (DevM.finish d torn)) w) := by
 have HBg := fun W (x : DH W h d) => zbn zbF h d true W x; unfold devV at HBg; rcases DevM.beg_cases d true with ⟨E, h0, hb, ht⟩ | ⟨hok, hu, hb, ht⟩
 · rw [ht]
   rw [hb] at HBg; exact finishD_bad h d torn w HD E h0 (LH HBg)
 · rw [ht]
   rw [hb] at HBg; exact finishD_ok h d torn w HD (LH HBg) hok hu
theorem za7 {w W : World} {B : Nat} {v0 v1 v2 v3 v4 v5 : Value} (hB : W.heap[B]? = some (.cells #[v0, v1, v2, v3, v4, v5] 35 (0, 0))) (hb : Below w.heap.size w W) (hle : w.heap.size ≤ B) (u0 u1 u2 u3 u4 u5 : Value) :
 ∃ W6, (((((W.setCell ⟨B, 0, none⟩ u0).setCell ⟨B, 1, none⟩ u1).setCell ⟨B, 2, none⟩ u2).setCell ⟨B, 3, none⟩ u3).setCell ⟨B, 4, none⟩ u4).setCell ⟨B, 5, none⟩ u5 = W6 ∧
   W6.cell? ⟨B, 0, none⟩ = some u0 ∧ W6.cell? ⟨B, 1, none⟩ = some u1 ∧ W6.cell? ⟨B, 2, none⟩ = some u2 ∧ W6.cell? ⟨B, 3, none⟩ = some u3 ∧ W6.cell? ⟨B, 4, none⟩ = some u4 ∧ W6.cell? ⟨B, 5, none⟩ = some u5 ∧
   Below w.heap.size w W6 ∧ (∀ k, k ≠ B → W6.heap[k]? = W.heap[k]?) ∧ W6.heap.size = W.heap.size := by
 obtain ⟨W6, hW6, q0, q1, q2, q3, q4, q5, hoth, hsz⟩ := zbh hB u0 u1 u2 u3 u4 u5; refine ⟨W6, hW6, q0, q1, q2, q3, q4, q5, ?_, hoth, hsz⟩; rw [← hW6]; exact (((((hb.setCell hle _).setCell hle _).setCell hle _).setCell hle _).setCell hle _).setCell hle _
theorem CS.bytes {w : World} {a : Option Addr} {n c : Nat} {l : List ChR} (h : CS w a n c l) : ∀ x ∈ l, ∀ v ∈ x.data, 0 ≤ v ∧ v ≤ 255 := by
 intro x hx v hv; obtain ⟨i, hi, rfl⟩ := List.mem_iff_getElem.1 hx; have hlen := h.len; obtain ⟨b, off, _, hc⟩ := h.cells (by omega); obtain ⟨_, _, _, _, _, _, _, _, hb, _⟩ := hc i (by omega); rw [List.getD_eq_getElem?_getD, List.getElem?_eq_getElem hi, Option.getD_some] at hb; exact hb.bytes v hv
theorem flat_bytes {l : List ChR} (h : ∀ x ∈ l, ∀ v ∈ x.data, 0 ≤ v ∧ v ≤ 255) : ∀ v ∈ ChunkM.flatD l, 0 ≤ v ∧ v ≤ 255 := by
 induction l with
 | nil => simp [ChunkM.flatD]
 | cons x t ih =>
   intro v hv; simp only [ChunkM.flatD, List.mem_append] at hv; rcases hv with hv | hv
   · exact h x (by simp) v hv
   · exact ih (fun y hy => h y (by simp [hy])) v hv
def JoinRel (l : List ChR) (W1 : World) (vb i : Value) (wr : World) : Prop :=
 ∃ k : Nat, i = .int .i64 k ∧ k ≤ l.length ∧ wr.ownsRow W1.heap.size 5 1 vb (ChunkM.flatD (l.take k)).length ((ChunkM.flatD (l.take k)).map (Value.int .u8)) ∧ Below W1.heap.size W1 wr
theorem ret_run {a b : Int} (h : a = b) : Ending.returned (.int .i64 a) = .returned (.int .i64 b) := by rw [h]
def GivesPk (l : List Int) (w : World) (e : Ending) (w' : World) : Prop :=
 ∃ (o : List Int) (a : Option Addr) (n c : Nat), PackM.Packs l o ∧ e = .returned (.slice a n c) ∧ BS w' a n c o ∧ Below w.heap.size w w'
def GivesU (most : Int) (l : List Int) (w : World) (e : Ending) (w' : World) : Prop :=
 ∃ (r : List Int × Int) (a : Option Addr) (n c : Nat), PackM.Unp most l [] r ∧ e = .returned (.tuple #[.slice a n c, .int .i64 r.2]) ∧ BS w' a n c r.1 ∧ Below w.heap.size w w'
def lenV : Value → Nat
 | .slice _ n _ => n
 | _ => 0
end Go.Proofs.YtnnmpoknghbdnacGreat
