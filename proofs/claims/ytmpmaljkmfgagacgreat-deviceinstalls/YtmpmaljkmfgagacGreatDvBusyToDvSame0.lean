/-
  Texts put into one: DvBusy, CCheck, CKin, ChL, CList, SameChL, CSame, DeltaSame, PSame, DvUp, DvSame0.
-/
import Derived.Test.YtmpmaljkmfgagacGreatDiffedToLawG
import Derived.Test.YtmpmaljkmfgagacGreatMemStToStep
import Derived.BigQuiet
import Derived.Deep.QuietTactic
import Derived.Deep.Cut
import Derived.Test.YtmpmaljkmfgagacGreatRowToNewR
import Derived.Deep.RegionHeld3
set_option maxRecDepth 100000
set_option maxHeartbeats 4000000
namespace Go.Proofs.YtmpmaljkmfgagacGreat
open Go.RowKit
namespace DevM
def busyE (d : DevR) (r : RecR) : Int :=
 if r.trying = true ∨ d.job.to_ < r.floor ∨ d.job.from_ ≠ (RecM.inf r r.act).ver ∨ (RecM.inf r (1 - r.act)).ver ≠ 0 then 3
 else if (doneOf d.job ((slot d r.act).take (RecM.inf r r.act).size.toNat)).2 ≠ 0 then (doneOf d.job ((slot d r.act).take (RecM.inf r r.act).size.toNat)).2
 else if ¬ (0 ≤ d.done ∧ d.done ≤ 64 ∧ d.done < d.job.size + 8) ∨ d.done % 8 ≠ 0 then 2
 else if (slot d (1 - r.act)).take d.done.toNat ≠ (fill (doneOf d.job ((slot d r.act).take (RecM.inf r r.act).size.toNat)).1).take d.done.toNat then 3 else 0
end DevM
theorem RecM.inf_none {i : InfR} (h : RecM.infErr i = 0) : i.ver = 0 ↔ i = RecM.noInf := by
 constructor
 · intro hv
   obtain ⟨-, h2⟩ := RecM.infErr_zero.1 h
   rw [InfR.eq_iff]
   refine ⟨hv, ?_, ?_⟩
   · rcases Classical.em (i.size = 0) with q | q
     · exact q
     · exact absurd ⟨hv, .inl q⟩ h2
   · rcases Classical.em (i.sum = 0) with q | q
     · exact q
     · exact absurd ⟨hv, .inr q⟩ h2
 · rintro rfl
   rfl
section
variable {P : Program}
end
theorem busyT0 (h : DevH) (d : DevR) (g n f : Int) (i0 i1 : InfR)  (w : World) (HD : DH w h d) : Calls Tryz.prog 94 #[devV h d, .agg (rcC ⟨g, 0, true, n, f, i0, i1⟩)] w fun e w' => e = .returned (.int .i64 3) ∧ Below w.heap.size w w' := by
 have HO : Hid (∀ W, Calls Tryz.prog 62 #[.int .i64 0] W fun e w' => e = .returned (.int .i64 1) ∧ W = w') := fun W => by simpa using otherD_any 0 W (by decide)
 unfold devV
 obtain ⟨P1, hP1⟩ : ∃ P, w.heap.size = P := ⟨_, rfl⟩
 have HS := LH ((((((MS.start w).arg HD.argR).alloc (p := P1) (by simp [hP1]) (dvC h d) 37)).alloc (p := (P1 + 1)) (by simp [hP1]) (rcC ⟨g, 0, true, n, f, i0, i1⟩) 28))
 go_enter Tryz.func94, Tryz.ntmps94
 go_upto_region 1 with fail
 refine wp_gen HS.out (fun V0 HS1 => ?_)
 replace HS := LH HS1
 clear HS1 hP1
 have cP1p1_1 := cAt (k := 1) (v := .int .i64 0) (HS.out.get 0 rfl) rfl
 simp only at cP1p1_1
 go_wp2_with fail
 clear cP1p1_1
 refine (HO.out _).mono ?_
 rintro e W0 ⟨rfl, rfl⟩
 have cP1p1_2 := cAt (k := 2) (v := .bool true) (HS.out.get 0 rfl) rfl
 simp only at cP1p1_2
 go_wp2_with fail
 go_ret
 exact ⟨rfl, HS.out.below⟩
theorem busyS0 (h : DevH) (d : DevR) (g n f : Int) (i0 i1 : InfR) (hs : ¬ (d.job.from_ = (RecM.inf (⟨g, 0, false, n, f, i0, i1⟩ : RecR) 0).ver ∧ f ≤ d.job.to_)) (w : World) (HD : DH w h d) : Calls Tryz.prog 94 #[devV h d, .agg (rcC ⟨g, 0, false, n, f, i0, i1⟩)] w fun e w' => e = .returned (.int .i64 3) ∧ Below w.heap.size w w' := by
 have HO : Hid (∀ W, Calls Tryz.prog 62 #[.int .i64 0] W fun e w' => e = .returned (.int .i64 1) ∧ W = w') := fun W => by simpa using otherD_any 0 W (by decide)
 have HSu : Hid (∀ W, Calls Tryz.prog 59 #[.agg (jbC h.oa h.on h.oc d.job), .agg (rcC ⟨g, 0, false, n, f, i0, i1⟩)] W fun e w' => e = .returned (.bool false) ∧ Below W.heap.size W w') := fun W => by
   have := suitsD_any h.oa h.on h.oc d.job ⟨g, 0, false, n, f, i0, i1⟩ (.inl rfl) W
   rw [decide_eq_false hs] at this
   exact this
 unfold jbC at HSu
 clear hs
 unfold devV
 obtain ⟨P1, hP1⟩ : ∃ P, w.heap.size = P := ⟨_, rfl⟩
 have HS := LH ((((((MS.start w).arg HD.argR).alloc (p := P1) (by simp [hP1]) (dvC h d) 37)).alloc (p := (P1 + 1)) (by simp [hP1]) (rcC ⟨g, 0, false, n, f, i0, i1⟩) 28))
 go_enter Tryz.func94, Tryz.ntmps94
 go_upto_region 1 with fail
 refine wp_gen HS.out (fun V0 HS1 => ?_)
 replace HS := LH HS1
 clear HS1 hP1
 have cP1p1_1 := cAt (k := 1) (v := .int .i64 0) (HS.out.get 0 rfl) rfl
 simp only at cP1p1_1
 go_wp2_with fail
 clear cP1p1_1
 refine (HO.out _).mono ?_
 rintro e W0 ⟨rfl, rfl⟩
 have cP1p1_2 := cAt (k := 2) (v := .bool false) (HS.out.get 0 rfl) rfl
 simp only at cP1p1_2
 have cP1_30 := cAt (k := 30) (v := .int .i64 d.job.from_) (HS.out.get 1 rfl) rfl
 simp only at cP1_30
 have cP1_31 := cAt (k := 31) (v := .int .i64 d.job.to_) (HS.out.get 1 rfl) rfl
 simp only at cP1_31
 have cP1_32 := cAt (k := 32) (v := .int .i64 d.job.old) (HS.out.get 1 rfl) rfl
 simp only at cP1_32
 have cP1_33 := cAt (k := 33) (v := .int .i64 d.job.new) (HS.out.get 1 rfl) rfl
 simp only at cP1_33
 have cP1_34 := cAt (k := 34) (v := .int .i64 d.job.size) (HS.out.get 1 rfl) rfl
 simp only at cP1_34
 have cP1_35 := cAt (k := 35) (v := .slice h.oa h.on h.oc) (HS.out.get 1 rfl) rfl
 simp only at cP1_35
 have bP1p1 := HS.out.get 0 rfl
 simp only at bP1p1
 go_wp2_with (first
   | (refine wLW (by rfl) 28 (.tmp 3) rfl (P1 + 1) rfl 28 (rcC ⟨g, 0, false, n, f, i0, i1⟩) (0, 0) _ bP1p1 Tryz.underlying28 rfl (sRc ⟨g, 0, false, n, f, i0, i1⟩) ?_))
 clear cP1p1_2 cP1_30 cP1_31 cP1_32 cP1_33 cP1_34 cP1_35 bP1p1
 refine (HSu.out _).mono ?_
 rintro e W1 ⟨rfl, hb⟩
 replace HS := LH (HS.out.later hb)
 clear hb
 go_wp2_with fail
 go_ret
 exact ⟨rfl, HS.out.below⟩
theorem busyI0 (h : DevH) (d : DevR) (g n f : Int) (i0 i1 : InfR) (hs : d.job.from_ = (RecM.inf (⟨g, 0, false, n, f, i0, i1⟩ : RecR) 0).ver ∧ f ≤ d.job.to_) (hi : i1 ≠ RecM.noInf) (w : World) (HD : DH w h d) : Calls Tryz.prog 94 #[devV h d, .agg (rcC ⟨g, 0, false, n, f, i0, i1⟩)] w fun e w' => e = .returned (.int .i64 3) ∧ Below w.heap.size w w' := by
 have HO : Hid (∀ W, Calls Tryz.prog 62 #[.int .i64 0] W fun e w' => e = .returned (.int .i64 1) ∧ W = w') := fun W => by simpa using otherD_any 0 W (by decide)
 have HSu : Hid (∀ W, Calls Tryz.prog 59 #[.agg (jbC h.oa h.on h.oc d.job), .agg (rcC ⟨g, 0, false, n, f, i0, i1⟩)] W fun e w' => e = .returned (.bool true) ∧ Below W.heap.size W w') := fun W => by
   have := suitsD_any h.oa h.on h.oc d.job ⟨g, 0, false, n, f, i0, i1⟩ (.inl rfl) W
   rw [decide_eq_true hs] at this
   exact this
 unfold jbC at HSu
 clear hs
 have hq : ∀ W, (binOp .neq 25 (.agg #[.int .i64 i1.ver, .int .i64 i1.size, .int .i64 i1.sum]) (.agg #[.int .i64 0, .int .i64 0, .int .i64 0])).run Tryz.prog W = .ok (.bool true) W := fun W => by
   have := inf_neq i1 RecM.noInf W
   rw [decide_eq_false hi] at this
   exact this
 clear hi
 unfold devV
 obtain ⟨P1, hP1⟩ : ∃ P, w.heap.size = P := ⟨_, rfl⟩
 have HS := LH ((((((MS.start w).arg HD.argR).alloc (p := P1) (by simp [hP1]) (dvC h d) 37)).alloc (p := (P1 + 1)) (by simp [hP1]) (rcC ⟨g, 0, false, n, f, i0, i1⟩) 28))
 go_enter Tryz.func94, Tryz.ntmps94
 go_upto_region 1 with fail
 refine wp_gen HS.out (fun V0 HS1 => ?_)
 replace HS := LH HS1
 clear HS1 hP1
 have cP1p1_1 := cAt (k := 1) (v := .int .i64 0) (HS.out.get 0 rfl) rfl
 simp only at cP1p1_1
 go_wp2_with fail
 clear cP1p1_1
 refine (HO.out _).mono ?_
 rintro e W0 ⟨rfl, rfl⟩
 have cP1p1_2 := cAt (k := 2) (v := .bool false) (HS.out.get 0 rfl) rfl
 simp only at cP1p1_2
 have cP1_30 := cAt (k := 30) (v := .int .i64 d.job.from_) (HS.out.get 1 rfl) rfl
 simp only at cP1_30
 have cP1_31 := cAt (k := 31) (v := .int .i64 d.job.to_) (HS.out.get 1 rfl) rfl
 simp only at cP1_31
 have cP1_32 := cAt (k := 32) (v := .int .i64 d.job.old) (HS.out.get 1 rfl) rfl
 simp only at cP1_32
 have cP1_33 := cAt (k := 33) (v := .int .i64 d.job.new) (HS.out.get 1 rfl) rfl
 simp only at cP1_33
 have cP1_34 := cAt (k := 34) (v := .int .i64 d.job.size) (HS.out.get 1 rfl) rfl
 simp only at cP1_34
 have cP1_35 := cAt (k := 35) (v := .slice h.oa h.on h.oc) (HS.out.get 1 rfl) rfl
 simp only at cP1_35
 have bP1p1 := HS.out.get 0 rfl
 simp only at bP1p1
 go_wp2_with (first
   | (refine wLW (by rfl) 28 (.tmp 3) rfl (P1 + 1) rfl 28 (rcC ⟨g, 0, false, n, f, i0, i1⟩) (0, 0) _ bP1p1 Tryz.underlying28 rfl (sRc ⟨g, 0, false, n, f, i0, i1⟩) ?_))
 clear cP1p1_2 cP1_30 cP1_31 cP1_32 cP1_33 cP1_34 cP1_35 bP1p1
 refine (HSu.out _).mono ?_
 rintro e W1 ⟨rfl, hb⟩
 replace HS := LH (HS.out.later hb)
 clear hb
 have cP1p1_8 := cAt (k := 8) (v := .int .i64 i1.ver) (HS.out.get 0 rfl) rfl
 simp only at cP1p1_8
 have cP1p1_9 := cAt (k := 9) (v := .int .i64 i1.size) (HS.out.get 0 rfl) rfl
 simp only at cP1p1_9
 have cP1p1_10 := cAt (k := 10) (v := .int .i64 i1.sum) (HS.out.get 0 rfl) rfl
 simp only at cP1p1_10
 go_wp2_with fail
 go_ret
 exact ⟨rfl, HS.out.below⟩
theorem busyB0 (h : DevH) (d : DevR) (g n f : Int) (i0 i1 : InfR) (hs : d.job.from_ = (RecM.inf (⟨g, 0, false, n, f, i0, i1⟩ : RecR) 0).ver ∧ f ≤ d.job.to_) (hi : i1 = RecM.noInf) (m : Nat) (hm : i0.size = m) (hmn : m ≤ h.n0) (hc : h.n0 ≤ h.c0) (hno : h.n1 = 64) (hco : h.n1 ≤ h.c1) (w : World) (HD : DH w h d) : Calls Tryz.prog 94 #[devV h d, .agg (rcC ⟨g, 0, false, n, f, i0, i1⟩)] w fun e w' => e = .returned (.int .i64 (DevM.busyE d ⟨g, 0, false, n, f, i0, i1⟩)) ∧ Below w.heap.size w w' := by
 have HO : Hid (∀ W, Calls Tryz.prog 62 #[.int .i64 0] W fun e w' => e = .returned (.int .i64 1) ∧ W = w') := fun W => by simpa using otherD_any 0 W (by decide)
 have HSu : Hid (∀ W, Calls Tryz.prog 59 #[.agg (jbC h.oa h.on h.oc d.job), .agg (rcC ⟨g, 0, false, n, f, i0, i1⟩)] W fun e w' => e = .returned (.bool true) ∧ Below W.heap.size W w') := fun W => by
   have := suitsD_any h.oa h.on h.oc d.job ⟨g, 0, false, n, f, i0, i1⟩ (.inl rfl) W
   rw [decide_eq_true hs] at this
   exact this
 unfold jbC at HSu
 have HSh := hs
 clear hs
 have hq : ∀ W, (binOp .neq 25 (.agg #[.int .i64 i1.ver, .int .i64 i1.size, .int .i64 i1.sum]) (.agg #[.int .i64 0, .int .i64 0, .int .i64 0])).run Tryz.prog W = .ok (.bool false) W := fun W => by
   have := inf_neq i1 RecM.noInf W
   rw [decide_eq_true hi] at this
   exact this
 obtain ⟨X, hX⟩ : ∃ X, doneOf d.job ((DevM.slot d 0).take m) = X := ⟨_, rfl⟩
 have HB : Hid (DevM.busyE d ⟨g, 0, false, n, f, i0, i1⟩ = if X.2 ≠ 0 then X.2 else if ¬ (0 ≤ d.done ∧ d.done ≤ 64 ∧ d.done < d.job.size + 8) ∨ d.done % 8 ≠ 0 then 2 else if (DevM.slot d 1).take d.done.toNat ≠ (DevM.fill X.1).take d.done.toNat then 3 else 0) := by
   show _ = _
   have ht : (RecM.inf (⟨g, 0, false, n, f, i0, i1⟩ : RecR) 0).size.toNat = m := by
     have : (RecM.inf (⟨g, 0, false, n, f, i0, i1⟩ : RecR) 0).size = m := hm
     omega
   unfold DevM.busyE
   rw [if_neg, ht, hX]
   · rfl
   · rintro (q | q | q | q)
     · cases q
     · have := HSh.2
       simp only at q
       omega
     · exact q HSh.1
     · apply q
       show i1.ver = 0
       rw [hi]
       rfl
 clear hi HSh
 have HI : Hid (∀ W, Calls Tryz.prog 61 #[.agg (dvC h d), .agg (rcC ⟨g, 0, false, n, f, i0, i1⟩)] W fun e w' => e = .returned (.slice h.a0 m h.c0) ∧ Below W.heap.size W w') := fun W => imageD_any h d ⟨g, 0, false, n, f, i0, i1⟩ (.inl rfl) m hm (Nat.le_trans hmn hc) W
 have HDo : Hid (∀ W, DH W h d → Calls Tryz.prog 60 #[.agg (jbC h.oa h.on h.oc d.job), .slice h.a0 m h.c0] W (GivesBE X W)) := fun W hd => by
   have := doP_any _ _ _ _ _ _ W hd.job (hd.b0.head m hmn)
   rw [show d.s0 = DevM.slot d 0 from rfl, hX] at this
   exact this
 have hsz0 : X.2 = 0 → 0 ≤ d.job.size ∧ d.job.size ≤ 64 := fun q => DevM.size_le (DevM.done_ok (by rw [hX]; exact q)).1
 have HLx0 : X.2 = 0 → X.1.length ≤ 64 := fun q => by
   have h1 := DevM.done_ok (by rw [hX]; exact q)
   have h2 := DevM.size_le h1.1
   have h3 := h1.2.2.2.1
   rw [hX] at h3
   omega
 have HNo := LH hno
 have HCo := LH hco
 clear hm hmn hc hX hno hco
 unfold devV
 obtain ⟨P1, hP1⟩ : ∃ P, w.heap.size = P := ⟨_, rfl⟩
 have HS := LH ((((((MS.start w).arg HD.argR).alloc (p := P1) (by simp [hP1]) (dvC h d) 37)).alloc (p := (P1 + 1)) (by simp [hP1]) (rcC ⟨g, 0, false, n, f, i0, i1⟩) 28))
 go_enter Tryz.func94, Tryz.ntmps94
 go_upto_region 1 with fail
 refine wp_gen HS.out (fun V0 HS1 => ?_)
 replace HS := LH HS1
 clear HS1 hP1
 have cP1p1_1 := cAt (k := 1) (v := .int .i64 0) (HS.out.get 0 rfl) rfl
 simp only at cP1p1_1
 go_wp2_with fail
 clear cP1p1_1
 refine (HO.out _).mono ?_
 rintro e W0 ⟨rfl, rfl⟩
 have cP1p1_2 := cAt (k := 2) (v := .bool false) (HS.out.get 0 rfl) rfl
 simp only at cP1p1_2
 have cP1_30 := cAt (k := 30) (v := .int .i64 d.job.from_) (HS.out.get 1 rfl) rfl
 simp only at cP1_30
 have cP1_31 := cAt (k := 31) (v := .int .i64 d.job.to_) (HS.out.get 1 rfl) rfl
 simp only at cP1_31
 have cP1_32 := cAt (k := 32) (v := .int .i64 d.job.old) (HS.out.get 1 rfl) rfl
 simp only at cP1_32
 have cP1_33 := cAt (k := 33) (v := .int .i64 d.job.new) (HS.out.get 1 rfl) rfl
 simp only at cP1_33
 have cP1_34 := cAt (k := 34) (v := .int .i64 d.job.size) (HS.out.get 1 rfl) rfl
 simp only at cP1_34
 have cP1_35 := cAt (k := 35) (v := .slice h.oa h.on h.oc) (HS.out.get 1 rfl) rfl
 simp only at cP1_35
 have bP1p1 := HS.out.get 0 rfl
 simp only at bP1p1
 go_wp2_with (first
   | (refine wLW (by rfl) 28 (.tmp 3) rfl (P1 + 1) rfl 28 (rcC ⟨g, 0, false, n, f, i0, i1⟩) (0, 0) _ bP1p1 Tryz.underlying28 rfl (sRc ⟨g, 0, false, n, f, i0, i1⟩) ?_))
 clear cP1p1_2 cP1_30 cP1_31 cP1_32 cP1_33 cP1_34 cP1_35 bP1p1
 refine (HSu.out _).mono ?_
 rintro e W1 ⟨rfl, hb⟩
 replace HS := LH (HS.out.later hb)
 clear hb
 have cP1p1_8 := cAt (k := 8) (v := .int .i64 i1.ver) (HS.out.get 0 rfl) rfl
 simp only at cP1p1_8
 have cP1p1_9 := cAt (k := 9) (v := .int .i64 i1.size) (HS.out.get 0 rfl) rfl
 simp only at cP1p1_9
 have cP1p1_10 := cAt (k := 10) (v := .int .i64 i1.sum) (HS.out.get 0 rfl) rfl
 simp only at cP1p1_10
 go_wp2_with fail
 clear cP1p1_8 cP1p1_9 cP1p1_10
 refine rTu (S := MS w [((P1 + 1), (rcC ⟨g, 0, false, n, f, i0, i1⟩), 28), (P1, (dvC h d), 37)] [(fun W => DH W h d)] []) [(0, false), (1, false), (2, false), (3, false), (4, true), (5, true), (6, false), (7, false), (8, false), (9, false), (10, false)] false 9999 (by kernel_rfl) (by kernel_rfl) HS.out.drew ?_
 simp only [turned, gA, gB, gC]
 replace HS := LH HS.out.drew
 repeat (first
   | ((refine turn_part (by rfl) 35 (.tmp 29) rfl P1 30 rfl 37 (dvC h d) (fun W hW => hW.get 1 rfl) (jbC h.oa h.on h.oc d.job) (part_job h d) _ Tryz.underlying35 rfl (sJb _ _ _ _) ?_); simp only [Act.put, sA, sB, sC])
   | ((refine turn_row (by rfl) 37 (.tmp 2) rfl P1 rfl 37 (dvC h d) _ (fun W hW => hW.get 1 rfl) Tryz.underlying37 rfl (sDv h d) ?_); simp only [Act.put, sA, sB, sC])
   | ((refine turn_row (by rfl) 28 (.tmp 3) rfl (P1 + 1) rfl 28 (rcC ⟨g, 0, false, n, f, i0, i1⟩) _ (fun W hW => hW.get 0 rfl) Tryz.underlying28 rfl (sRc ⟨g, 0, false, n, f, i0, i1⟩) ?_); simp only [Act.put, sA, sB, sC])
   | (refine tSt ?_ (by rfl) (fun W9 hW9 => ?_) ?_
      rotate_left
      · (go_simp <;> with_reducible rfl)
      simp only [Act.put, sA, sB, sC])
   | (refine tSk (by rfl) ?_; simp only [Act.put, sA, sB, sC]))
 refine tCa (fun K hK => ?_)
 go_simp
 go_at_call 61
 with_reducible refine (HI.out _).mono ?_
 rintro e W2 ⟨rfl, hb⟩
 replace HS := LH (HS.out.later hb)
 clear hb
 try go_wp2_with fail
 refine hK.out _ _ HS.out ?_
 clear hK K
 try simp only [Act.put, sA, sB, sC]
 refine tCa (fun K hK => ?_)
 go_simp
 go_at_call 60
 with_reducible refine (HDo.out _ (HS.out.read 0 rfl)).mono ?_
 rintro e W3 ⟨ab, nb, cb, rfl, hbs, hb⟩
 replace HS := LH (HS.out.later hb)
 have HBS := LH hbs
 clear hbs
 clear hb
 try go_wp2_with fail
 refine hK.out _ _ HS.out ?_
 clear hK K
 try simp only [Act.put, sA, sB, sC]
 repeat (first
   | (refine tSt ?_ (by rfl) (fun W9 hW9 => ?_) ?_
      rotate_left
      · (go_simp <;> with_reducible rfl)
      simp only [Act.put, sA, sB, sC])
   | (refine tSk (by rfl) ?_; simp only [Act.put, sA, sB, sC]))
 refine tEn ?_
 obtain ⟨xb, xe⟩ := X
 simp only at HB HBS ⊢
 by_cases hE : xe = 0
 case neg =>
   have t0 : (xe != 0) = true := by simp [hE]
   have HR := LH (HB.out.trans (if_pos hE))
   go_wp2_with fail
   go_ret
   exact ⟨ret_i HR.out.symm, HS.out.below⟩
 subst hE
 replace HB := LH (HB.out.trans (if_neg (fun q => q rfl)))
 replace hsz0 := hsz0 rfl
 have HLx : Hid (xb.length ≤ 64) := HLx0 rfl
 clear HLx0
 have hsz : 0 ≤ d.job.size ∧ d.job.size ≤ 64 := hsz0
 have hw8 : IntKind.i64.wrap (d.job.size + 8) = d.job.size + 8 := IntWalk.i64_in _ (by omega)
 clear hsz0
 by_cases r1 : d.done < 0
 case pos =>
   have HR := LH (HB.out.trans (if_pos (.inl (by omega))))
   have cP1_36 := cAt (k := 36) (v := .int .i64 d.done) (HS.out.get 1 rfl) rfl
   simp only at cP1_36
   have cP1_34 := cAt (k := 34) (v := .int .i64 d.job.size) (HS.out.get 1 rfl) rfl
   simp only at cP1_34
   clear hw8 hsz
   go_wp2_with fail
   clear cP1_36 cP1_34
   go_ret
   exact ⟨ret_i HR.out.symm, HS.out.below⟩
 have n1 : decide (d.done < 0) = false := by simp; omega
 by_cases r2 : 64 < d.done
 case pos =>
   have HR := LH (HB.out.trans (if_pos (.inl (by omega))))
   have cP1_36 := cAt (k := 36) (v := .int .i64 d.done) (HS.out.get 1 rfl) rfl
   simp only at cP1_36
   have cP1_34 := cAt (k := 34) (v := .int .i64 d.job.size) (HS.out.get 1 rfl) rfl
   simp only at cP1_34
   clear hw8 hsz
   go_wp2_with fail
   clear cP1_36 cP1_34
   go_ret
   exact ⟨ret_i HR.out.symm, HS.out.below⟩
 have n2 : decide (64 < d.done) = false := by simp; omega
 obtain ⟨M, hM⟩ : ∃ M : Nat, d.done = M := ⟨d.done.toNat, by omega⟩
 have hM64 : M ≤ 64 := by omega
 have hmod : (M : Int).tmod 8 = ((M % 8 : Nat) : Int) := by rw [Int.tmod_eq_emod_of_nonneg (by omega)]; rfl
 by_cases r3 : M % 8 = 0
 case neg =>
   have n3 : (((M % 8 : Nat) : Int) != 0) = true := by simp; omega
   have HR := LH (HB.out.trans (if_pos (.inr (by omega))))
   have cP1_36 := cAt (k := 36) (v := .int .i64 d.done) (HS.out.get 1 rfl) rfl
   simp only at cP1_36
   have cP1_34 := cAt (k := 34) (v := .int .i64 d.job.size) (HS.out.get 1 rfl) rfl
   simp only at cP1_34
   rw [hM] at cP1_36 n1 n2 r1 r2
   clear hw8 hsz hM
   go_wp2_with fail
   clear cP1_36 cP1_34
   go_ret
   exact ⟨ret_i HR.out.symm, HS.out.below⟩
 have n3 : (((M % 8 : Nat) : Int) != 0) = false := by simp; omega
 by_cases r4 : d.job.size + 8 ≤ (M : Int)
 case pos =>
   have HR := LH (HB.out.trans (if_pos (.inl (by omega))))
   have cP1_36 := cAt (k := 36) (v := .int .i64 d.done) (HS.out.get 1 rfl) rfl
   simp only at cP1_36
   have cP1_34 := cAt (k := 34) (v := .int .i64 d.job.size) (HS.out.get 1 rfl) rfl
   simp only at cP1_34
   rw [hM] at cP1_36 n1 n2 r1 r2
   clear hsz hM
   go_wp2_with fail
   clear cP1_36 cP1_34
   go_ret
   exact ⟨ret_i HR.out.symm, HS.out.below⟩
 have n4 : decide (d.job.size + 8 ≤ (M : Int)) = false := by simp; omega
 replace HB := LH (HB.out.trans (if_neg (by omega)))
 have hTN : d.done.toNat = M := by omega
 rw [hTN] at HB
 clear hTN
 have cP1_36 := cAt (k := 36) (v := .int .i64 d.done) (HS.out.get 1 rfl) rfl
 simp only at cP1_36
 have cP1_34 := cAt (k := 34) (v := .int .i64 d.job.size) (HS.out.get 1 rfl) rfl
 simp only at cP1_34
 rw [hM] at cP1_36 n1 n2 r1 r2
 go_wp2_with fail
 clear cP1_36 cP1_34
 clear hw8 hsz n1 n2 n3 n4 r1 r2 r3 r4 hmod
 have hcl := fun W => rCh h.a1 h.n1 h.c1 W M (Nat.le_trans (by rw [HNo.out]; exact hM64) HCo.out)
 have hcr := fun F W => rCh (some ⟨F, 0, none⟩) 64 64 W M hM64
 have hM0 : (0 : Int) ≤ (M : Int) := by omega
 have HFl := LH (fun W (hb : BS W ab nb cb xb) => filledD_gives ab nb cb xb W hb (by rw [← hb.len]; exact HLx.out))
 have HBy := LH HBS.out.bytes
 by_cases hq2 : (DevM.slot d 1).take M = (DevM.fill xb).take M
 case pos =>
   have HEq : Hid (∀ W F, DH W h d → BS W (some ⟨F, 0, none⟩) 64 64 (DevM.fill xb) → Calls Tryz.prog 27 #[.slice h.a1 M h.c1, .slice (some ⟨F, 0, none⟩) M 64] W fun e w' => e = .returned (.bool true) ∧ Below W.heap.size W w') := fun W F hd hb => by
     refine (eqB _ _ _ _ _ _ _ _ W (hd.b1.head M (by rw [HNo.out]; exact hM64)) (hb.head M hM64)).mono ?_
     rintro e w' ⟨rfl, rfl⟩
     refine ⟨?_, Below.refl _ _⟩
     rw [decide_eq_true (show d.s1.take M = _ from hq2)]
   have HR := LH (HB.out.trans (if_neg (fun q => q hq2)))
   clear hq2
   refine rTu (S := MS w [((P1 + 1), (rcC ⟨g, 0, false, n, f, i0, i1⟩), 28), (P1, (dvC h d), 37)] [(fun W => DH W h d)] []) [(0, false), (1, false), (2, false), (3, false), (4, false), (5, false), (6, false), (7, false), (9, false), (10, false), (8, true), (11, false), (12, true), (13, false)] false 9999 (by kernel_rfl) (by kernel_rfl) HS.out.drew ?_
   simp only [turned, gA, gB, gC]
   replace HS := LH HS.out.drew
   have uP1_1 : ∀ W, MS w [((P1 + 1), (rcC ⟨g, 0, false, n, f, i0, i1⟩), 28), (P1, (dvC h d), 37)] [(fun W => DH W h d)] [] W → W.cell? ⟨P1, 1, none⟩ = some (.slice h.a1 h.n1 h.c1) := fun W hW => cAt (hW.get 1 rfl) rfl
   have uP1_36 : ∀ W, MS w [((P1 + 1), (rcC ⟨g, 0, false, n, f, i0, i1⟩), 28), (P1, (dvC h d), 37)] [(fun W => DH W h d)] [] W → W.cell? ⟨P1, 36, none⟩ = some (.int .i64 (M : Int)) := fun W hW => by
     have := cAt (k := 36) (v := .int .i64 d.done) (hW.get 1 rfl) rfl
     rwa [hM] at this
   repeat (first
     | (refine tSt ?_ (by rfl) (fun W9 hW9 => ?_) ?_
        rotate_left
        · (go_simp <;> with_reducible rfl)
        simp only [Act.put, sA, sB, sC])
     | (refine tSk (by rfl) ?_; simp only [Act.put, sA, sB, sC]))
   refine tCa (fun K hK => ?_)
   go_simp
   go_at_call 37
   with_reducible refine (HFl.out _ (HBS.out.later (Below.refl _ _).drew)).mono ?_
   rintro e W4 ⟨F, rfl, -, hbf, -, -, hb⟩
   replace HS := LH (HS.out.later hb)
   have HBF := LH hbf
   clear hbf
   clear hb
   try go_wp2_with fail
   refine hK.out _ _ HS.out ?_
   clear hK K
   try simp only [Act.put, sA, sB, sC]
   repeat (first
     | (refine tSt ?_ (by rfl) (fun W9 hW9 => ?_) ?_
        rotate_left
        · (go_simp <;> with_reducible rfl)
        simp only [Act.put, sA, sB, sC])
     | (refine tSk (by rfl) ?_; simp only [Act.put, sA, sB, sC]))
   refine tCa (fun K hK => ?_)
   go_simp
   go_at_call 27
   with_reducible refine (HEq.out _ _ (HS.out.read 0 rfl) HBF.out).mono ?_
   rintro e W5 ⟨rfl, hb⟩
   replace HS := LH (HS.out.later hb)
   clear hb
   try go_wp2_with fail
   refine hK.out _ _ HS.out ?_
   clear hK K
   try simp only [Act.put, sA, sB, sC]
   repeat (first
     | (refine tSt ?_ (by rfl) (fun W9 hW9 => ?_) ?_
        rotate_left
        · (go_simp <;> with_reducible rfl)
        simp only [Act.put, sA, sB, sC])
     | (refine tSk (by rfl) ?_; simp only [Act.put, sA, sB, sC]))
   clear uP1_1 uP1_36
   refine tEn ?_
   go_wp2_with fail
   go_ret
   exact ⟨ret_i HR.out.symm, HS.out.below⟩
 -- otherwise
 have HEq : Hid (∀ W F, DH W h d → BS W (some ⟨F, 0, none⟩) 64 64 (DevM.fill xb) → Calls Tryz.prog 27 #[.slice h.a1 M h.c1, .slice (some ⟨F, 0, none⟩) M 64] W fun e w' => e = .returned (.bool false) ∧ Below W.heap.size W w') := fun W F hd hb => by
   refine (eqB _ _ _ _ _ _ _ _ W (hd.b1.head M (by rw [HNo.out]; exact hM64)) (hb.head M hM64)).mono ?_
   rintro e w' ⟨rfl, rfl⟩
   refine ⟨?_, Below.refl _ _⟩
   rw [decide_eq_false (show ¬ d.s1.take M = _ from hq2)]
 have HR := LH (HB.out.trans (if_pos hq2))
 clear hq2
 refine rTu (S := MS w [((P1 + 1), (rcC ⟨g, 0, false, n, f, i0, i1⟩), 28), (P1, (dvC h d), 37)] [(fun W => DH W h d)] []) [(0, false), (1, false), (2, false), (3, false), (4, false), (5, false), (6, false), (7, false), (9, false), (10, false), (8, true), (11, false), (12, true), (13, false)] false 9999 (by kernel_rfl) (by kernel_rfl) HS.out.drew ?_
 simp only [turned, gA, gB, gC]
 replace HS := LH HS.out.drew
 have uP1_1 : ∀ W, MS w [((P1 + 1), (rcC ⟨g, 0, false, n, f, i0, i1⟩), 28), (P1, (dvC h d), 37)] [(fun W => DH W h d)] [] W → W.cell? ⟨P1, 1, none⟩ = some (.slice h.a1 h.n1 h.c1) := fun W hW => cAt (hW.get 1 rfl) rfl
 have uP1_36 : ∀ W, MS w [((P1 + 1), (rcC ⟨g, 0, false, n, f, i0, i1⟩), 28), (P1, (dvC h d), 37)] [(fun W => DH W h d)] [] W → W.cell? ⟨P1, 36, none⟩ = some (.int .i64 (M : Int)) := fun W hW => by
   have := cAt (k := 36) (v := .int .i64 d.done) (hW.get 1 rfl) rfl
   rwa [hM] at this
 repeat (first
   | (refine tSt ?_ (by rfl) (fun W9 hW9 => ?_) ?_
      rotate_left
      · (go_simp <;> with_reducible rfl)
      simp only [Act.put, sA, sB, sC])
   | (refine tSk (by rfl) ?_; simp only [Act.put, sA, sB, sC]))
 refine tCa (fun K hK => ?_)
 go_simp
 go_at_call 37
 with_reducible refine (HFl.out _ (HBS.out.later (Below.refl _ _).drew)).mono ?_
 rintro e W4 ⟨F, rfl, -, hbf, -, -, hb⟩
 replace HS := LH (HS.out.later hb)
 have HBF := LH hbf
 clear hbf
 clear hb
 try go_wp2_with fail
 refine hK.out _ _ HS.out ?_
 clear hK K
 try simp only [Act.put, sA, sB, sC]
 repeat (first
   | (refine tSt ?_ (by rfl) (fun W9 hW9 => ?_) ?_
      rotate_left
      · (go_simp <;> with_reducible rfl)
      simp only [Act.put, sA, sB, sC])
   | (refine tSk (by rfl) ?_; simp only [Act.put, sA, sB, sC]))
 refine tCa (fun K hK => ?_)
 go_simp
 go_at_call 27
 with_reducible refine (HEq.out _ _ (HS.out.read 0 rfl) HBF.out).mono ?_
 rintro e W5 ⟨rfl, hb⟩
 replace HS := LH (HS.out.later hb)
 clear hb
 try go_wp2_with fail
 refine hK.out _ _ HS.out ?_
 clear hK K
 try simp only [Act.put, sA, sB, sC]
 repeat (first
   | (refine tSt ?_ (by rfl) (fun W9 hW9 => ?_) ?_
      rotate_left
      · (go_simp <;> with_reducible rfl)
      simp only [Act.put, sA, sB, sC])
   | (refine tSk (by rfl) ?_; simp only [Act.put, sA, sB, sC]))
 clear uP1_1 uP1_36
 refine tEn ?_
 go_wp2_with fail
 go_ret
 exact ⟨ret_i HR.out.symm, HS.out.below⟩
theorem busyT1 (h : DevH) (d : DevR) (g n f : Int) (i0 i1 : InfR)  (w : World) (HD : DH w h d) : Calls Tryz.prog 94 #[devV h d, .agg (rcC ⟨g, 1, true, n, f, i0, i1⟩)] w fun e w' => e = .returned (.int .i64 3) ∧ Below w.heap.size w w' := by
 have HO : Hid (∀ W, Calls Tryz.prog 62 #[.int .i64 1] W fun e w' => e = .returned (.int .i64 0) ∧ W = w') := fun W => by simpa using otherD_any 1 W (by decide)
 unfold devV
 obtain ⟨P1, hP1⟩ : ∃ P, w.heap.size = P := ⟨_, rfl⟩
 have HS := LH ((((((MS.start w).arg HD.argR).alloc (p := P1) (by simp [hP1]) (dvC h d) 37)).alloc (p := (P1 + 1)) (by simp [hP1]) (rcC ⟨g, 1, true, n, f, i0, i1⟩) 28))
 go_enter Tryz.func94, Tryz.ntmps94
 go_upto_region 1 with fail
 refine wp_gen HS.out (fun V0 HS1 => ?_)
 replace HS := LH HS1
 clear HS1 hP1
 have cP1p1_1 := cAt (k := 1) (v := .int .i64 1) (HS.out.get 0 rfl) rfl
 simp only at cP1p1_1
 go_wp2_with fail
 clear cP1p1_1
 refine (HO.out _).mono ?_
 rintro e W0 ⟨rfl, rfl⟩
 have cP1p1_2 := cAt (k := 2) (v := .bool true) (HS.out.get 0 rfl) rfl
 simp only at cP1p1_2
 go_wp2_with fail
 go_ret
 exact ⟨rfl, HS.out.below⟩
theorem busyS1 (h : DevH) (d : DevR) (g n f : Int) (i0 i1 : InfR) (hs : ¬ (d.job.from_ = (RecM.inf (⟨g, 1, false, n, f, i0, i1⟩ : RecR) 1).ver ∧ f ≤ d.job.to_)) (w : World) (HD : DH w h d) : Calls Tryz.prog 94 #[devV h d, .agg (rcC ⟨g, 1, false, n, f, i0, i1⟩)] w fun e w' => e = .returned (.int .i64 3) ∧ Below w.heap.size w w' := by
 have HO : Hid (∀ W, Calls Tryz.prog 62 #[.int .i64 1] W fun e w' => e = .returned (.int .i64 0) ∧ W = w') := fun W => by simpa using otherD_any 1 W (by decide)
 have HSu : Hid (∀ W, Calls Tryz.prog 59 #[.agg (jbC h.oa h.on h.oc d.job), .agg (rcC ⟨g, 1, false, n, f, i0, i1⟩)] W fun e w' => e = .returned (.bool false) ∧ Below W.heap.size W w') := fun W => by
   have := suitsD_any h.oa h.on h.oc d.job ⟨g, 1, false, n, f, i0, i1⟩ (.inr rfl) W
   rw [decide_eq_false hs] at this
   exact this
 unfold jbC at HSu
 clear hs
 unfold devV
 obtain ⟨P1, hP1⟩ : ∃ P, w.heap.size = P := ⟨_, rfl⟩
 have HS := LH ((((((MS.start w).arg HD.argR).alloc (p := P1) (by simp [hP1]) (dvC h d) 37)).alloc (p := (P1 + 1)) (by simp [hP1]) (rcC ⟨g, 1, false, n, f, i0, i1⟩) 28))
 go_enter Tryz.func94, Tryz.ntmps94
 go_upto_region 1 with fail
 refine wp_gen HS.out (fun V0 HS1 => ?_)
 replace HS := LH HS1
 clear HS1 hP1
 have cP1p1_1 := cAt (k := 1) (v := .int .i64 1) (HS.out.get 0 rfl) rfl
 simp only at cP1p1_1
 go_wp2_with fail
 clear cP1p1_1
 refine (HO.out _).mono ?_
 rintro e W0 ⟨rfl, rfl⟩
 have cP1p1_2 := cAt (k := 2) (v := .bool false) (HS.out.get 0 rfl) rfl
 simp only at cP1p1_2
 have cP1_30 := cAt (k := 30) (v := .int .i64 d.job.from_) (HS.out.get 1 rfl) rfl
 simp only at cP1_30
 have cP1_31 := cAt (k := 31) (v := .int .i64 d.job.to_) (HS.out.get 1 rfl) rfl
 simp only at cP1_31
 have cP1_32 := cAt (k := 32) (v := .int .i64 d.job.old) (HS.out.get 1 rfl) rfl
 simp only at cP1_32
 have cP1_33 := cAt (k := 33) (v := .int .i64 d.job.new) (HS.out.get 1 rfl) rfl
 simp only at cP1_33
 have cP1_34 := cAt (k := 34) (v := .int .i64 d.job.size) (HS.out.get 1 rfl) rfl
 simp only at cP1_34
 have cP1_35 := cAt (k := 35) (v := .slice h.oa h.on h.oc) (HS.out.get 1 rfl) rfl
 simp only at cP1_35
 have bP1p1 := HS.out.get 0 rfl
 simp only at bP1p1
 go_wp2_with (first
   | (refine wLW (by rfl) 28 (.tmp 3) rfl (P1 + 1) rfl 28 (rcC ⟨g, 1, false, n, f, i0, i1⟩) (0, 0) _ bP1p1 Tryz.underlying28 rfl (sRc ⟨g, 1, false, n, f, i0, i1⟩) ?_))
 clear cP1p1_2 cP1_30 cP1_31 cP1_32 cP1_33 cP1_34 cP1_35 bP1p1
 refine (HSu.out _).mono ?_
 rintro e W1 ⟨rfl, hb⟩
 replace HS := LH (HS.out.later hb)
 clear hb
 go_wp2_with fail
 go_ret
 exact ⟨rfl, HS.out.below⟩
theorem busyI1 (h : DevH) (d : DevR) (g n f : Int) (i0 i1 : InfR) (hs : d.job.from_ = (RecM.inf (⟨g, 1, false, n, f, i0, i1⟩ : RecR) 1).ver ∧ f ≤ d.job.to_) (hi : i0 ≠ RecM.noInf) (w : World) (HD : DH w h d) : Calls Tryz.prog 94 #[devV h d, .agg (rcC ⟨g, 1, false, n, f, i0, i1⟩)] w fun e w' => e = .returned (.int .i64 3) ∧ Below w.heap.size w w' := by
 have HO : Hid (∀ W, Calls Tryz.prog 62 #[.int .i64 1] W fun e w' => e = .returned (.int .i64 0) ∧ W = w') := fun W => by simpa using otherD_any 1 W (by decide)
 have HSu : Hid (∀ W, Calls Tryz.prog 59 #[.agg (jbC h.oa h.on h.oc d.job), .agg (rcC ⟨g, 1, false, n, f, i0, i1⟩)] W fun e w' => e = .returned (.bool true) ∧ Below W.heap.size W w') := fun W => by
   have := suitsD_any h.oa h.on h.oc d.job ⟨g, 1, false, n, f, i0, i1⟩ (.inr rfl) W
   rw [decide_eq_true hs] at this
   exact this
 unfold jbC at HSu
 clear hs
 have hq : ∀ W, (binOp .neq 25 (.agg #[.int .i64 i0.ver, .int .i64 i0.size, .int .i64 i0.sum]) (.agg #[.int .i64 0, .int .i64 0, .int .i64 0])).run Tryz.prog W = .ok (.bool true) W := fun W => by
   have := inf_neq i0 RecM.noInf W
   rw [decide_eq_false hi] at this
   exact this
 clear hi
 unfold devV
 obtain ⟨P1, hP1⟩ : ∃ P, w.heap.size = P := ⟨_, rfl⟩
 have HS := LH ((((((MS.start w).arg HD.argR).alloc (p := P1) (by simp [hP1]) (dvC h d) 37)).alloc (p := (P1 + 1)) (by simp [hP1]) (rcC ⟨g, 1, false, n, f, i0, i1⟩) 28))
 go_enter Tryz.func94, Tryz.ntmps94
 go_upto_region 1 with fail
 refine wp_gen HS.out (fun V0 HS1 => ?_)
 replace HS := LH HS1
 clear HS1 hP1
 have cP1p1_1 := cAt (k := 1) (v := .int .i64 1) (HS.out.get 0 rfl) rfl
 simp only at cP1p1_1
 go_wp2_with fail
 clear cP1p1_1
 refine (HO.out _).mono ?_
 rintro e W0 ⟨rfl, rfl⟩
 have cP1p1_2 := cAt (k := 2) (v := .bool false) (HS.out.get 0 rfl) rfl
 simp only at cP1p1_2
 have cP1_30 := cAt (k := 30) (v := .int .i64 d.job.from_) (HS.out.get 1 rfl) rfl
 simp only at cP1_30
 have cP1_31 := cAt (k := 31) (v := .int .i64 d.job.to_) (HS.out.get 1 rfl) rfl
 simp only at cP1_31
 have cP1_32 := cAt (k := 32) (v := .int .i64 d.job.old) (HS.out.get 1 rfl) rfl
 simp only at cP1_32
 have cP1_33 := cAt (k := 33) (v := .int .i64 d.job.new) (HS.out.get 1 rfl) rfl
 simp only at cP1_33
 have cP1_34 := cAt (k := 34) (v := .int .i64 d.job.size) (HS.out.get 1 rfl) rfl
 simp only at cP1_34
 have cP1_35 := cAt (k := 35) (v := .slice h.oa h.on h.oc) (HS.out.get 1 rfl) rfl
 simp only at cP1_35
 have bP1p1 := HS.out.get 0 rfl
 simp only at bP1p1
 go_wp2_with (first
   | (refine wLW (by rfl) 28 (.tmp 3) rfl (P1 + 1) rfl 28 (rcC ⟨g, 1, false, n, f, i0, i1⟩) (0, 0) _ bP1p1 Tryz.underlying28 rfl (sRc ⟨g, 1, false, n, f, i0, i1⟩) ?_))
 clear cP1p1_2 cP1_30 cP1_31 cP1_32 cP1_33 cP1_34 cP1_35 bP1p1
 refine (HSu.out _).mono ?_
 rintro e W1 ⟨rfl, hb⟩
 replace HS := LH (HS.out.later hb)
 clear hb
 have cP1p1_5 := cAt (k := 5) (v := .int .i64 i0.ver) (HS.out.get 0 rfl) rfl
 simp only at cP1p1_5
 have cP1p1_6 := cAt (k := 6) (v := .int .i64 i0.size) (HS.out.get 0 rfl) rfl
 simp only at cP1p1_6
 have cP1p1_7 := cAt (k := 7) (v := .int .i64 i0.sum) (HS.out.get 0 rfl) rfl
 simp only at cP1p1_7
 go_wp2_with fail
 go_ret
 exact ⟨rfl, HS.out.below⟩
theorem busyB1 (h : DevH) (d : DevR) (g n f : Int) (i0 i1 : InfR) (hs : d.job.from_ = (RecM.inf (⟨g, 1, false, n, f, i0, i1⟩ : RecR) 1).ver ∧ f ≤ d.job.to_) (hi : i0 = RecM.noInf) (m : Nat) (hm : i1.size = m) (hmn : m ≤ h.n1) (hc : h.n1 ≤ h.c1) (hno : h.n0 = 64) (hco : h.n0 ≤ h.c0) (w : World) (HD : DH w h d) : Calls Tryz.prog 94 #[devV h d, .agg (rcC ⟨g, 1, false, n, f, i0, i1⟩)] w fun e w' => e = .returned (.int .i64 (DevM.busyE d ⟨g, 1, false, n, f, i0, i1⟩)) ∧ Below w.heap.size w w' := by
 have HO : Hid (∀ W, Calls Tryz.prog 62 #[.int .i64 1] W fun e w' => e = .returned (.int .i64 0) ∧ W = w') := fun W => by simpa using otherD_any 1 W (by decide)
 have HSu : Hid (∀ W, Calls Tryz.prog 59 #[.agg (jbC h.oa h.on h.oc d.job), .agg (rcC ⟨g, 1, false, n, f, i0, i1⟩)] W fun e w' => e = .returned (.bool true) ∧ Below W.heap.size W w') := fun W => by
   have := suitsD_any h.oa h.on h.oc d.job ⟨g, 1, false, n, f, i0, i1⟩ (.inr rfl) W
   rw [decide_eq_true hs] at this
   exact this
 unfold jbC at HSu
 have HSh := hs
 clear hs
 have hq : ∀ W, (binOp .neq 25 (.agg #[.int .i64 i0.ver, .int .i64 i0.size, .int .i64 i0.sum]) (.agg #[.int .i64 0, .int .i64 0, .int .i64 0])).run Tryz.prog W = .ok (.bool false) W := fun W => by
   have := inf_neq i0 RecM.noInf W
   rw [decide_eq_true hi] at this
   exact this
 obtain ⟨X, hX⟩ : ∃ X, doneOf d.job ((DevM.slot d 1).take m) = X := ⟨_, rfl⟩
 have HB : Hid (DevM.busyE d ⟨g, 1, false, n, f, i0, i1⟩ = if X.2 ≠ 0 then X.2 else if ¬ (0 ≤ d.done ∧ d.done ≤ 64 ∧ d.done < d.job.size + 8) ∨ d.done % 8 ≠ 0 then 2 else if (DevM.slot d 0).take d.done.toNat ≠ (DevM.fill X.1).take d.done.toNat then 3 else 0) := by
   show _ = _
   have ht : (RecM.inf (⟨g, 1, false, n, f, i0, i1⟩ : RecR) 1).size.toNat = m := by
     have : (RecM.inf (⟨g, 1, false, n, f, i0, i1⟩ : RecR) 1).size = m := hm
     omega
   unfold DevM.busyE
   rw [if_neg, ht, hX]
   · rfl
   · rintro (q | q | q | q)
     · cases q
     · have := HSh.2
       simp only at q
       omega
     · exact q HSh.1
     · apply q
       show i0.ver = 0
       rw [hi]
       rfl
 clear hi HSh
 have HI : Hid (∀ W, Calls Tryz.prog 61 #[.agg (dvC h d), .agg (rcC ⟨g, 1, false, n, f, i0, i1⟩)] W fun e w' => e = .returned (.slice h.a1 m h.c1) ∧ Below W.heap.size W w') := fun W => imageD_any h d ⟨g, 1, false, n, f, i0, i1⟩ (.inr rfl) m hm (Nat.le_trans hmn hc) W
 have HDo : Hid (∀ W, DH W h d → Calls Tryz.prog 60 #[.agg (jbC h.oa h.on h.oc d.job), .slice h.a1 m h.c1] W (GivesBE X W)) := fun W hd => by
   have := doP_any _ _ _ _ _ _ W hd.job (hd.b1.head m hmn)
   rw [show d.s1 = DevM.slot d 1 from rfl, hX] at this
   exact this
 have hsz0 : X.2 = 0 → 0 ≤ d.job.size ∧ d.job.size ≤ 64 := fun q => DevM.size_le (DevM.done_ok (by rw [hX]; exact q)).1
 have HLx0 : X.2 = 0 → X.1.length ≤ 64 := fun q => by
   have h1 := DevM.done_ok (by rw [hX]; exact q)
   have h2 := DevM.size_le h1.1
   have h3 := h1.2.2.2.1
   rw [hX] at h3
   omega
 have HNo := LH hno
 have HCo := LH hco
 clear hm hmn hc hX hno hco
 unfold devV
 obtain ⟨P1, hP1⟩ : ∃ P, w.heap.size = P := ⟨_, rfl⟩
 have HS := LH ((((((MS.start w).arg HD.argR).alloc (p := P1) (by simp [hP1]) (dvC h d) 37)).alloc (p := (P1 + 1)) (by simp [hP1]) (rcC ⟨g, 1, false, n, f, i0, i1⟩) 28))
 go_enter Tryz.func94, Tryz.ntmps94
 go_upto_region 1 with fail
 refine wp_gen HS.out (fun V0 HS1 => ?_)
 replace HS := LH HS1
 clear HS1 hP1
 have cP1p1_1 := cAt (k := 1) (v := .int .i64 1) (HS.out.get 0 rfl) rfl
 simp only at cP1p1_1
 go_wp2_with fail
 clear cP1p1_1
 refine (HO.out _).mono ?_
 rintro e W0 ⟨rfl, rfl⟩
 have cP1p1_2 := cAt (k := 2) (v := .bool false) (HS.out.get 0 rfl) rfl
 simp only at cP1p1_2
 have cP1_30 := cAt (k := 30) (v := .int .i64 d.job.from_) (HS.out.get 1 rfl) rfl
 simp only at cP1_30
 have cP1_31 := cAt (k := 31) (v := .int .i64 d.job.to_) (HS.out.get 1 rfl) rfl
 simp only at cP1_31
 have cP1_32 := cAt (k := 32) (v := .int .i64 d.job.old) (HS.out.get 1 rfl) rfl
 simp only at cP1_32
 have cP1_33 := cAt (k := 33) (v := .int .i64 d.job.new) (HS.out.get 1 rfl) rfl
 simp only at cP1_33
 have cP1_34 := cAt (k := 34) (v := .int .i64 d.job.size) (HS.out.get 1 rfl) rfl
 simp only at cP1_34
 have cP1_35 := cAt (k := 35) (v := .slice h.oa h.on h.oc) (HS.out.get 1 rfl) rfl
 simp only at cP1_35
 have bP1p1 := HS.out.get 0 rfl
 simp only at bP1p1
 go_wp2_with (first
   | (refine wLW (by rfl) 28 (.tmp 3) rfl (P1 + 1) rfl 28 (rcC ⟨g, 1, false, n, f, i0, i1⟩) (0, 0) _ bP1p1 Tryz.underlying28 rfl (sRc ⟨g, 1, false, n, f, i0, i1⟩) ?_))
 clear cP1p1_2 cP1_30 cP1_31 cP1_32 cP1_33 cP1_34 cP1_35 bP1p1
 refine (HSu.out _).mono ?_
 rintro e W1 ⟨rfl, hb⟩
 replace HS := LH (HS.out.later hb)
 clear hb
 have cP1p1_5 := cAt (k := 5) (v := .int .i64 i0.ver) (HS.out.get 0 rfl) rfl
 simp only at cP1p1_5
 have cP1p1_6 := cAt (k := 6) (v := .int .i64 i0.size) (HS.out.get 0 rfl) rfl
 simp only at cP1p1_6
 have cP1p1_7 := cAt (k := 7) (v := .int .i64 i0.sum) (HS.out.get 0 rfl) rfl
 simp only at cP1p1_7
 go_wp2_with fail
 clear cP1p1_5 cP1p1_6 cP1p1_7
 refine rTu (S := MS w [((P1 + 1), (rcC ⟨g, 1, false, n, f, i0, i1⟩), 28), (P1, (dvC h d), 37)] [(fun W => DH W h d)] []) [(0, false), (1, false), (2, false), (3, false), (4, true), (5, true), (6, false), (7, false), (8, false), (9, false), (10, false)] false 9999 (by kernel_rfl) (by kernel_rfl) HS.out.drew ?_
 simp only [turned, gA, gB, gC]
 replace HS := LH HS.out.drew
 repeat (first
   | ((refine turn_part (by rfl) 35 (.tmp 29) rfl P1 30 rfl 37 (dvC h d) (fun W hW => hW.get 1 rfl) (jbC h.oa h.on h.oc d.job) (part_job h d) _ Tryz.underlying35 rfl (sJb _ _ _ _) ?_); simp only [Act.put, sA, sB, sC])
   | ((refine turn_row (by rfl) 37 (.tmp 2) rfl P1 rfl 37 (dvC h d) _ (fun W hW => hW.get 1 rfl) Tryz.underlying37 rfl (sDv h d) ?_); simp only [Act.put, sA, sB, sC])
   | ((refine turn_row (by rfl) 28 (.tmp 3) rfl (P1 + 1) rfl 28 (rcC ⟨g, 1, false, n, f, i0, i1⟩) _ (fun W hW => hW.get 0 rfl) Tryz.underlying28 rfl (sRc ⟨g, 1, false, n, f, i0, i1⟩) ?_); simp only [Act.put, sA, sB, sC])
   | (refine tSt ?_ (by rfl) (fun W9 hW9 => ?_) ?_
      rotate_left
      · (go_simp <;> with_reducible rfl)
      simp only [Act.put, sA, sB, sC])
   | (refine tSk (by rfl) ?_; simp only [Act.put, sA, sB, sC]))
 refine tCa (fun K hK => ?_)
 go_simp
 go_at_call 61
 with_reducible refine (HI.out _).mono ?_
 rintro e W2 ⟨rfl, hb⟩
 replace HS := LH (HS.out.later hb)
 clear hb
 try go_wp2_with fail
 refine hK.out _ _ HS.out ?_
 clear hK K
 try simp only [Act.put, sA, sB, sC]
 refine tCa (fun K hK => ?_)
 go_simp
 go_at_call 60
 with_reducible refine (HDo.out _ (HS.out.read 0 rfl)).mono ?_
 rintro e W3 ⟨ab, nb, cb, rfl, hbs, hb⟩
 replace HS := LH (HS.out.later hb)
 have HBS := LH hbs
 clear hbs
 clear hb
 try go_wp2_with fail
 refine hK.out _ _ HS.out ?_
 clear hK K
 try simp only [Act.put, sA, sB, sC]
 repeat (first
   | (refine tSt ?_ (by rfl) (fun W9 hW9 => ?_) ?_
      rotate_left
      · (go_simp <;> with_reducible rfl)
      simp only [Act.put, sA, sB, sC])
   | (refine tSk (by rfl) ?_; simp only [Act.put, sA, sB, sC]))
 refine tEn ?_
 obtain ⟨xb, xe⟩ := X
 simp only at HB HBS ⊢
 by_cases hE : xe = 0
 case neg =>
   have t0 : (xe != 0) = true := by simp [hE]
   have HR := LH (HB.out.trans (if_pos hE))
   go_wp2_with fail
   go_ret
   exact ⟨ret_i HR.out.symm, HS.out.below⟩
 subst hE
 replace HB := LH (HB.out.trans (if_neg (fun q => q rfl)))
 replace hsz0 := hsz0 rfl
 have HLx : Hid (xb.length ≤ 64) := HLx0 rfl
 clear HLx0
 have hsz : 0 ≤ d.job.size ∧ d.job.size ≤ 64 := hsz0
 have hw8 : IntKind.i64.wrap (d.job.size + 8) = d.job.size + 8 := IntWalk.i64_in _ (by omega)
 clear hsz0
 by_cases r1 : d.done < 0
 case pos =>
   have HR := LH (HB.out.trans (if_pos (.inl (by omega))))
   have cP1_36 := cAt (k := 36) (v := .int .i64 d.done) (HS.out.get 1 rfl) rfl
   simp only at cP1_36
   have cP1_34 := cAt (k := 34) (v := .int .i64 d.job.size) (HS.out.get 1 rfl) rfl
   simp only at cP1_34
   clear hw8 hsz
   go_wp2_with fail
   clear cP1_36 cP1_34
   go_ret
   exact ⟨ret_i HR.out.symm, HS.out.below⟩
 have n1 : decide (d.done < 0) = false := by simp; omega
 by_cases r2 : 64 < d.done
 case pos =>
   have HR := LH (HB.out.trans (if_pos (.inl (by omega))))
   have cP1_36 := cAt (k := 36) (v := .int .i64 d.done) (HS.out.get 1 rfl) rfl
   simp only at cP1_36
   have cP1_34 := cAt (k := 34) (v := .int .i64 d.job.size) (HS.out.get 1 rfl) rfl
   simp only at cP1_34
   clear hw8 hsz
   go_wp2_with fail
   clear cP1_36 cP1_34
   go_ret
   exact ⟨ret_i HR.out.symm, HS.out.below⟩
 have n2 : decide (64 < d.done) = false := by simp; omega
 obtain ⟨M, hM⟩ : ∃ M : Nat, d.done = M := ⟨d.done.toNat, by omega⟩
 have hM64 : M ≤ 64 := by omega
 have hmod : (M : Int).tmod 8 = ((M % 8 : Nat) : Int) := by rw [Int.tmod_eq_emod_of_nonneg (by omega)]; rfl
 by_cases r3 : M % 8 = 0
 case neg =>
   have n3 : (((M % 8 : Nat) : Int) != 0) = true := by simp; omega
   have HR := LH (HB.out.trans (if_pos (.inr (by omega))))
   have cP1_36 := cAt (k := 36) (v := .int .i64 d.done) (HS.out.get 1 rfl) rfl
   simp only at cP1_36
   have cP1_34 := cAt (k := 34) (v := .int .i64 d.job.size) (HS.out.get 1 rfl) rfl
   simp only at cP1_34
   rw [hM] at cP1_36 n1 n2 r1 r2
   clear hw8 hsz hM
   go_wp2_with fail
   clear cP1_36 cP1_34
   go_ret
   exact ⟨ret_i HR.out.symm, HS.out.below⟩
 have n3 : (((M % 8 : Nat) : Int) != 0) = false := by simp; omega
 by_cases r4 : d.job.size + 8 ≤ (M : Int)
 case pos =>
   have HR := LH (HB.out.trans (if_pos (.inl (by omega))))
   have cP1_36 := cAt (k := 36) (v := .int .i64 d.done) (HS.out.get 1 rfl) rfl
   simp only at cP1_36
   have cP1_34 := cAt (k := 34) (v := .int .i64 d.job.size) (HS.out.get 1 rfl) rfl
   simp only at cP1_34
   rw [hM] at cP1_36 n1 n2 r1 r2
   clear hsz hM
   go_wp2_with fail
   clear cP1_36 cP1_34
   go_ret
   exact ⟨ret_i HR.out.symm, HS.out.below⟩
 have n4 : decide (d.job.size + 8 ≤ (M : Int)) = false := by simp; omega
 replace HB := LH (HB.out.trans (if_neg (by omega)))
 have hTN : d.done.toNat = M := by omega
 rw [hTN] at HB
 clear hTN
 have cP1_36 := cAt (k := 36) (v := .int .i64 d.done) (HS.out.get 1 rfl) rfl
 simp only at cP1_36
 have cP1_34 := cAt (k := 34) (v := .int .i64 d.job.size) (HS.out.get 1 rfl) rfl
 simp only at cP1_34
 rw [hM] at cP1_36 n1 n2 r1 r2
 go_wp2_with fail
 clear cP1_36 cP1_34
 clear hw8 hsz n1 n2 n3 n4 r1 r2 r3 r4 hmod
 have hcl := fun W => rCh h.a0 h.n0 h.c0 W M (Nat.le_trans (by rw [HNo.out]; exact hM64) HCo.out)
 have hcr := fun F W => rCh (some ⟨F, 0, none⟩) 64 64 W M hM64
 have hM0 : (0 : Int) ≤ (M : Int) := by omega
 have HFl := LH (fun W (hb : BS W ab nb cb xb) => filledD_gives ab nb cb xb W hb (by rw [← hb.len]; exact HLx.out))
 have HBy := LH HBS.out.bytes
 by_cases hq2 : (DevM.slot d 0).take M = (DevM.fill xb).take M
 case pos =>
   have HEq : Hid (∀ W F, DH W h d → BS W (some ⟨F, 0, none⟩) 64 64 (DevM.fill xb) → Calls Tryz.prog 27 #[.slice h.a0 M h.c0, .slice (some ⟨F, 0, none⟩) M 64] W fun e w' => e = .returned (.bool true) ∧ Below W.heap.size W w') := fun W F hd hb => by
     refine (eqB _ _ _ _ _ _ _ _ W (hd.b0.head M (by rw [HNo.out]; exact hM64)) (hb.head M hM64)).mono ?_
     rintro e w' ⟨rfl, rfl⟩
     refine ⟨?_, Below.refl _ _⟩
     rw [decide_eq_true (show d.s0.take M = _ from hq2)]
   have HR := LH (HB.out.trans (if_neg (fun q => q hq2)))
   clear hq2
   refine rTu (S := MS w [((P1 + 1), (rcC ⟨g, 1, false, n, f, i0, i1⟩), 28), (P1, (dvC h d), 37)] [(fun W => DH W h d)] []) [(0, false), (1, false), (2, false), (3, false), (4, false), (5, false), (6, false), (7, false), (9, false), (10, false), (8, true), (11, false), (12, true), (13, false)] false 9999 (by kernel_rfl) (by kernel_rfl) HS.out.drew ?_
   simp only [turned, gA, gB, gC]
   replace HS := LH HS.out.drew
   have uP1_0 : ∀ W, MS w [((P1 + 1), (rcC ⟨g, 1, false, n, f, i0, i1⟩), 28), (P1, (dvC h d), 37)] [(fun W => DH W h d)] [] W → W.cell? ⟨P1, 0, none⟩ = some (.slice h.a0 h.n0 h.c0) := fun W hW => cAt (hW.get 1 rfl) rfl
   have uP1_36 : ∀ W, MS w [((P1 + 1), (rcC ⟨g, 1, false, n, f, i0, i1⟩), 28), (P1, (dvC h d), 37)] [(fun W => DH W h d)] [] W → W.cell? ⟨P1, 36, none⟩ = some (.int .i64 (M : Int)) := fun W hW => by
     have := cAt (k := 36) (v := .int .i64 d.done) (hW.get 1 rfl) rfl
     rwa [hM] at this
   repeat (first
     | (refine tSt ?_ (by rfl) (fun W9 hW9 => ?_) ?_
        rotate_left
        · (go_simp <;> with_reducible rfl)
        simp only [Act.put, sA, sB, sC])
     | (refine tSk (by rfl) ?_; simp only [Act.put, sA, sB, sC]))
   refine tCa (fun K hK => ?_)
   go_simp
   go_at_call 37
   with_reducible refine (HFl.out _ (HBS.out.later (Below.refl _ _).drew)).mono ?_
   rintro e W4 ⟨F, rfl, -, hbf, -, -, hb⟩
   replace HS := LH (HS.out.later hb)
   have HBF := LH hbf
   clear hbf
   clear hb
   try go_wp2_with fail
   refine hK.out _ _ HS.out ?_
   clear hK K
   try simp only [Act.put, sA, sB, sC]
   repeat (first
     | (refine tSt ?_ (by rfl) (fun W9 hW9 => ?_) ?_
        rotate_left
        · (go_simp <;> with_reducible rfl)
        simp only [Act.put, sA, sB, sC])
     | (refine tSk (by rfl) ?_; simp only [Act.put, sA, sB, sC]))
   refine tCa (fun K hK => ?_)
   go_simp
   go_at_call 27
   with_reducible refine (HEq.out _ _ (HS.out.read 0 rfl) HBF.out).mono ?_
   rintro e W5 ⟨rfl, hb⟩
   replace HS := LH (HS.out.later hb)
   clear hb
   try go_wp2_with fail
   refine hK.out _ _ HS.out ?_
   clear hK K
   try simp only [Act.put, sA, sB, sC]
   repeat (first
     | (refine tSt ?_ (by rfl) (fun W9 hW9 => ?_) ?_
        rotate_left
        · (go_simp <;> with_reducible rfl)
        simp only [Act.put, sA, sB, sC])
     | (refine tSk (by rfl) ?_; simp only [Act.put, sA, sB, sC]))
   clear uP1_0 uP1_36
   refine tEn ?_
   go_wp2_with fail
   go_ret
   exact ⟨ret_i HR.out.symm, HS.out.below⟩
 -- otherwise
 have HEq : Hid (∀ W F, DH W h d → BS W (some ⟨F, 0, none⟩) 64 64 (DevM.fill xb) → Calls Tryz.prog 27 #[.slice h.a0 M h.c0, .slice (some ⟨F, 0, none⟩) M 64] W fun e w' => e = .returned (.bool false) ∧ Below W.heap.size W w') := fun W F hd hb => by
   refine (eqB _ _ _ _ _ _ _ _ W (hd.b0.head M (by rw [HNo.out]; exact hM64)) (hb.head M hM64)).mono ?_
   rintro e w' ⟨rfl, rfl⟩
   refine ⟨?_, Below.refl _ _⟩
   rw [decide_eq_false (show ¬ d.s0.take M = _ from hq2)]
 have HR := LH (HB.out.trans (if_pos hq2))
 clear hq2
 refine rTu (S := MS w [((P1 + 1), (rcC ⟨g, 1, false, n, f, i0, i1⟩), 28), (P1, (dvC h d), 37)] [(fun W => DH W h d)] []) [(0, false), (1, false), (2, false), (3, false), (4, false), (5, false), (6, false), (7, false), (9, false), (10, false), (8, true), (11, false), (12, true), (13, false)] false 9999 (by kernel_rfl) (by kernel_rfl) HS.out.drew ?_
 simp only [turned, gA, gB, gC]
 replace HS := LH HS.out.drew
 have uP1_0 : ∀ W, MS w [((P1 + 1), (rcC ⟨g, 1, false, n, f, i0, i1⟩), 28), (P1, (dvC h d), 37)] [(fun W => DH W h d)] [] W → W.cell? ⟨P1, 0, none⟩ = some (.slice h.a0 h.n0 h.c0) := fun W hW => cAt (hW.get 1 rfl) rfl
 have uP1_36 : ∀ W, MS w [((P1 + 1), (rcC ⟨g, 1, false, n, f, i0, i1⟩), 28), (P1, (dvC h d), 37)] [(fun W => DH W h d)] [] W → W.cell? ⟨P1, 36, none⟩ = some (.int .i64 (M : Int)) := fun W hW => by
   have := cAt (k := 36) (v := .int .i64 d.done) (hW.get 1 rfl) rfl
   rwa [hM] at this
 repeat (first
   | (refine tSt ?_ (by rfl) (fun W9 hW9 => ?_) ?_
      rotate_left
      · (go_simp <;> with_reducible rfl)
      simp only [Act.put, sA, sB, sC])
   | (refine tSk (by rfl) ?_; simp only [Act.put, sA, sB, sC]))
 refine tCa (fun K hK => ?_)
 go_simp
 go_at_call 37
 with_reducible refine (HFl.out _ (HBS.out.later (Below.refl _ _).drew)).mono ?_
 rintro e W4 ⟨F, rfl, -, hbf, -, -, hb⟩
 replace HS := LH (HS.out.later hb)
 have HBF := LH hbf
 clear hbf
 clear hb
 try go_wp2_with fail
 refine hK.out _ _ HS.out ?_
 clear hK K
 try simp only [Act.put, sA, sB, sC]
 repeat (first
   | (refine tSt ?_ (by rfl) (fun W9 hW9 => ?_) ?_
      rotate_left
      · (go_simp <;> with_reducible rfl)
      simp only [Act.put, sA, sB, sC])
   | (refine tSk (by rfl) ?_; simp only [Act.put, sA, sB, sC]))
 refine tCa (fun K hK => ?_)
 go_simp
 go_at_call 27
 with_reducible refine (HEq.out _ _ (HS.out.read 0 rfl) HBF.out).mono ?_
 rintro e W5 ⟨rfl, hb⟩
 replace HS := LH (HS.out.later hb)
 clear hb
 try go_wp2_with fail
 refine hK.out _ _ HS.out ?_
 clear hK K
 try simp only [Act.put, sA, sB, sC]
 repeat (first
   | (refine tSt ?_ (by rfl) (fun W9 hW9 => ?_) ?_
      rotate_left
      · (go_simp <;> with_reducible rfl)
      simp only [Act.put, sA, sB, sC])
   | (refine tSk (by rfl) ?_; simp only [Act.put, sA, sB, sC]))
 clear uP1_0 uP1_36
 refine tEn ?_
 go_wp2_with fail
 go_ret
 exact ⟨ret_i HR.out.symm, HS.out.below⟩
theorem checkBusyD_any (h : DevH) (d : DevR) (r : RecR) (w : World) (HD : DH w h d) (hr : RecM.check r = 0) (l0 : d.s0.length = 64) (l1 : d.s1.length = 64) :
   Calls Tryz.prog 94 #[devV h d, .agg (rcC r)] w fun e w' => e = .returned (.int .i64 (DevM.busyE d r)) ∧ Below w.heap.size w w' := by
 have hn := RecM.check_nums hr
 have ha := hn.2.1
 have hi0 := RecM.check_inf hr 0
 have hi1 := RecM.check_inf hr 1
 have n0 : h.n0 = 64 := by have := HD.b0.len; omega
 have n1 : h.n1 = 64 := by have := HD.b1.len; omega
 have e0 := HD.b0.le
 have e1 := HD.b1.le
 obtain ⟨g, a, tr, n, f, i0, i1⟩ := r
 simp only at ha
 clear hr hn
 have hs0 := (RecM.inf_nums (show RecM.infErr i0 = 0 from hi0)).2.1
 have hs1 := (RecM.inf_nums (show RecM.infErr i1 = 0 from hi1)).2.1
 have z0 : i0.ver = 0 ↔ i0 = RecM.noInf := RecM.inf_none hi0
 have z1 : i1.ver = 0 ↔ i1 = RecM.noInf := RecM.inf_none hi1
 rcases ha with rfl | rfl
 · cases tr with
   | true =>
     rw [show DevM.busyE d ⟨g, 0, true, n, f, i0, i1⟩ = 3 from if_pos (.inl rfl)]
     exact busyT0 h d g n f i0 i1 w HD
   | false =>
     by_cases hs : d.job.from_ = (RecM.inf (⟨g, 0, false, n, f, i0, i1⟩ : RecR) 0).ver ∧ f ≤ d.job.to_
     · by_cases hi : i1 = RecM.noInf
       · exact busyB0 h d g n f i0 i1 hs hi i0.size.toNat (by omega) (by omega) (by omega) n1 (by omega) w HD
       · rw [show DevM.busyE d ⟨g, 0, false, n, f, i0, i1⟩ = 3 from if_pos (.inr (.inr (.inr (fun q => hi (z1.1 q)))))]
         exact busyI0 h d g n f i0 i1 hs hi w HD
     · rw [show DevM.busyE d ⟨g, 0, false, n, f, i0, i1⟩ = 3 from if_pos (by
         by_cases q : d.job.from_ = (RecM.inf (⟨g, 0, false, n, f, i0, i1⟩ : RecR) 0).ver
         · exact .inr (.inl (by simp only; omega))
         · exact .inr (.inr (.inl q)))]
       exact busyS0 h d g n f i0 i1 hs w HD
 · cases tr with
   | true =>
     rw [show DevM.busyE d ⟨g, 1, true, n, f, i0, i1⟩ = 3 from if_pos (.inl rfl)]
     exact busyT1 h d g n f i0 i1 w HD
   | false =>
     by_cases hs : d.job.from_ = (RecM.inf (⟨g, 1, false, n, f, i0, i1⟩ : RecR) 1).ver ∧ f ≤ d.job.to_
     · by_cases hi : i0 = RecM.noInf
       · exact busyB1 h d g n f i0 i1 hs hi i1.size.toNat (by omega) (by omega) (by omega) n0 (by omega) w HD
       · rw [show DevM.busyE d ⟨g, 1, false, n, f, i0, i1⟩ = 3 from if_pos (.inr (.inr (.inr (fun q => hi (z0.1 q)))))]
         exact busyI1 h d g n f i0 i1 hs hi w HD
     · rw [show DevM.busyE d ⟨g, 1, false, n, f, i0, i1⟩ = 3 from if_pos (by
         by_cases q : d.job.from_ = (RecM.inf (⟨g, 1, false, n, f, i0, i1⟩ : RecR) 1).ver
         · exact .inr (.inl (by simp only; omega))
         · exact .inr (.inr (.inl q)))]
       exact busyS1 h d g n f i0 i1 hs w HD
theorem isVersionC_any (x : Int) (w : World) :
   Calls Tryz.prog 133 #[.int .i64 x] w fun e w' => e = .returned (.bool (decide (1 ≤ x ∧ x ≤ 30))) ∧ w = w' := by
 by_cases h : 1 ≤ x
 · go_enter Tryz.func133, Tryz.ntmps133
   go_wp2
   go_ret
   exact ⟨by simp [h], rfl⟩
 · go_enter Tryz.func133, Tryz.ntmps133
   go_wp2
   go_ret
   exact ⟨by simp; omega, rfl⟩
theorem checkC_ok : CheckCC := by
 intro v r w hv
 obtain ⟨a, m, c, rfl, hd, h1, h2, h3, h4⟩ := hv
 obtain ⟨f, t, n, o, D⟩ := r
 simp only at hd h1 h2 h3 h4 ⊢
 have HDL := LH hd.len
 have hm : m ≤ 9223372036854775807 := by have := hd.le; have := hd.max; omega
 have HB := LH ((Below.refl w.heap.size w).alloc (Nat.le_refl _) (.cells #[.int .i64 f, .int .i64 t, .int .i64 n, .int .i64 o, .slice a m c] 39))
 have HBad : Hid (ChunkM.badNums ⟨f, t, n, o, D⟩ → ChunkM.check ⟨f, t, n, o, D⟩ = 2) := by
   show _ → _
   intro h
   unfold ChunkM.check
   rw [if_pos h]
 unfold I64 at h1 h2 h3 h4
 clear hd
 go_enter Tryz.func101, Tryz.ntmps101
 go_wp2_with fail
 refine (isVersionC_any f _).mono ?_
 rintro e w' ⟨rfl, rfl⟩
 by_cases c1 : 1 ≤ f ∧ f ≤ 30
 · rw [decide_eq_true c1]
   go_wp2_with fail
   refine (isVersionC_any t _).mono ?_
   rintro e w' ⟨rfl, rfl⟩
   by_cases c2 : 1 ≤ t ∧ t ≤ 30
   · rw [decide_eq_true c2]
     by_cases c3 : o < 1
     · have HE := LH (HBad.out (.inr (.inr (.inl (fun h => absurd h.1 (by simp only; omega))))))
       go_wp2_with fail
       go_ret
       exact ⟨ret_chk HE.out.symm, HB.out⟩
     by_cases c3' : 52 < o
     · have HE := LH (HBad.out (.inr (.inr (.inl (fun h => absurd h.2 (by simp only; omega))))))
       go_wp2_with fail
       go_ret
       exact ⟨ret_chk HE.out.symm, HB.out⟩
     by_cases c4 : n < 0
     · have HE := LH (HBad.out (.inr (.inr (.inr (.inl c4)))))
       go_wp2_with fail
       go_ret
       exact ⟨ret_chk HE.out.symm, HB.out⟩
     by_cases c5 : o ≤ n
     · have HE := LH (HBad.out (.inr (.inr (.inr (.inr c5)))))
       go_wp2_with fail
       go_ret
       exact ⟨ret_chk HE.out.symm, HB.out⟩
     have HG : Hid (¬ ChunkM.badNums ⟨f, t, n, o, D⟩) := by
       show ¬ _
       unfold ChunkM.badNums
       simp only
       omega
     obtain ⟨O1, hO1⟩ : ∃ O1, o - 1 = O1 := ⟨_, rfl⟩
     by_cases c6 : n = O1
     · subst c6
       have t6 : (n == n) = true := by simp
       have HE : Hid (ChunkM.check ⟨f, t, n, o, D⟩ = if ¬ (1 ≤ (m : Int) ∧ (m : Int) ≤ 16) then 3 else 0) := by
         show _ = _
         rw [ChunkM.check_last HG.out hO1.symm]
         simp only [HDL.out]
       by_cases c7 : (m : Int) < 1
       · go_wp2_with fail
         go_ret
         exact ⟨ret_chk (by rw [HE.out, if_pos (by omega)]), HB.out⟩
       by_cases c8 : (16 : Int) < m
       · have c8' : 16 < m := by omega
         go_wp2_with fail
         go_ret
         exact ⟨ret_chk (by rw [HE.out, if_pos (by omega)]), HB.out⟩
       · have c8' : ¬ 16 < m := by omega
         go_wp2_with fail
         go_ret
         exact ⟨ret_chk (by rw [HE.out, if_neg (by omega)]), HB.out⟩
     · have t6 : (n == O1) = false := by simp [c6]
       have HE : Hid (ChunkM.check ⟨f, t, n, o, D⟩ = if ¬ (16 ≤ (m : Int) ∧ (m : Int) ≤ 16) then 3 else 0) := by
         show _ = _
         rw [ChunkM.check_mid HG.out (by simp only; rw [hO1]; exact c6)]
         simp only [HDL.out]
       by_cases c7 : (m : Int) < 16
       · have c7' : m < 16 := by omega
         go_wp2_with fail
         go_ret
         exact ⟨ret_chk (by rw [HE.out, if_pos (by omega)]), HB.out⟩
       have c7' : ¬ m < 16 := by omega
       by_cases c8 : (16 : Int) < m
       · have c8' : 16 < m := by omega
         go_wp2_with fail
         go_ret
         exact ⟨ret_chk (by rw [HE.out, if_pos (by omega)]), HB.out⟩
       · have c8' : ¬ 16 < m := by omega
         go_wp2_with fail
         go_ret
         exact ⟨ret_chk (by rw [HE.out, if_neg (by omega)]), HB.out⟩
   · rw [decide_eq_false c2]
     have HE := LH (HBad.out (.inr (.inl c2)))
     go_wp2_with fail
     go_ret
     exact ⟨ret_chk HE.out.symm, HB.out⟩
 · rw [decide_eq_false c1]
   have HE := LH (HBad.out (.inl c1))
   go_wp2_with fail
   go_ret
   exact ⟨ret_chk HE.out.symm, HB.out⟩
theorem two_chs (w : World) (A B C E A' B' C' E' : Int) (v v' : Value) : ∀ W, Below ((w.alloc (.cells #[.int .i64 A, .int .i64 B, .int .i64 C, .int .i64 E, v] 39)).alloc (.cells #[.int .i64 A', .int .i64 B', .int .i64 C', .int .i64 E', v'] 39)).heap.size ((w.alloc (.cells #[.int .i64 A, .int .i64 B, .int .i64 C, .int .i64 E, v] 39)).alloc (.cells #[.int .i64 A', .int .i64 B', .int .i64 C', .int .i64 E', v'] 39)) W →
   W.cell? ⟨w.heap.size, 2, none⟩ = some (.int .i64 C) ∧ W.cell? ⟨w.heap.size, 4, none⟩ = some v ∧ W.cell? ⟨w.heap.size + 1, 2, none⟩ = some (.int .i64 C') ∧ W.cell? ⟨w.heap.size + 1, 4, none⟩ = some v' := by
 intro W hb
 have e1 : (w.alloc (.cells #[.int .i64 A, .int .i64 B, .int .i64 C, .int .i64 E, v] 39)).heap.size = w.heap.size + 1 := by simp
 have h0 : ((w.alloc (.cells #[.int .i64 A, .int .i64 B, .int .i64 C, .int .i64 E, v] 39)).alloc (.cells #[.int .i64 A', .int .i64 B', .int .i64 C', .int .i64 E', v'] 39)).heap[w.heap.size]? = some (.cells #[.int .i64 A, .int .i64 B, .int .i64 C, .int .i64 E, v] 39 (0, 0)) := by
   rw [hpA, if_neg (by rw [e1]; omega), hpA, if_pos rfl]
 have h1 : ((w.alloc (.cells #[.int .i64 A, .int .i64 B, .int .i64 C, .int .i64 E, v] 39)).alloc (.cells #[.int .i64 A', .int .i64 B', .int .i64 C', .int .i64 E', v'] 39)).heap[w.heap.size + 1]? = some (.cells #[.int .i64 A', .int .i64 B', .int .i64 C', .int .i64 E', v'] 39 (0, 0)) := by
   rw [hpA, if_pos e1.symm]
 refine ⟨cell_later hb ?_, cell_later hb ?_, cell_later hb ?_, cell_later hb ?_⟩
 · simp only [World.cell?, h0]; rfl
 · simp only [World.cell?, h0]; rfl
 · simp only [World.cell?, h1]; rfl
 · simp only [World.cell?, h1]; rfl
theorem kinC_any (v v' : Value) (x y : ChR) (w : World) (h : CV w v x) (h' : CV w v' y) :
   Calls Tryz.prog 97 #[v, v'] w fun e w' => e = .returned (.bool (decide (ChunkM.kin x y))) ∧ Below w.heap.size w w' := by
 obtain ⟨va, vn, vc, rfl, hd, -⟩ := h
 obtain ⟨va', vn', vc', rfl, hd', -⟩ := h'
 obtain ⟨A, B, C, E, D⟩ := x
 obtain ⟨A', B', C', E', D'⟩ := y
 simp only at hd hd' ⊢
 have hB1 := (Below.refl w.heap.size w).alloc (Nat.le_refl _) (.cells #[.int .i64 A, .int .i64 B, .int .i64 C, .int .i64 E, .slice va vn vc] 39)
 have HB := LH (hB1.alloc (by simp) (.cells #[.int .i64 A', .int .i64 B', .int .i64 C', .int .i64 E', .slice va' vn' vc'] 39))
 clear hB1 hd hd'
 by_cases h1 : A = A'
 · subst h1
   have t1 : (A == A) = true := by simp
   by_cases h2 : B = B'
   · subst h2
     have t2 : (B == B) = true := by simp
     by_cases h4 : E = E'
     · subst h4
       have t4 : (E == E) = true := by simp
       go_enter Tryz.func97, Tryz.ntmps97
       go_wp2_with fail
       go_ret
       exact ⟨ret_bool (by simp [ChunkM.kin]), HB.out⟩
     · have t4 : (E == E') = false := by simp [h4]
       go_enter Tryz.func97, Tryz.ntmps97
       go_wp2_with fail
       go_ret
       exact ⟨ret_bool (by simp [ChunkM.kin, h4]), HB.out⟩
   · have t2 : (B == B') = false := by simp [h2]
     go_enter Tryz.func97, Tryz.ntmps97
     go_wp2_with fail
     go_ret
     exact ⟨ret_bool (by simp [ChunkM.kin, h2]), HB.out⟩
 · have t1 : (A == A') = false := by simp [h1]
   go_enter Tryz.func97, Tryz.ntmps97
   go_wp2_with fail
   go_ret
   exact ⟨ret_bool (by simp [ChunkM.kin, h1]), HB.out⟩
structure KinW (w : World) (b o C : Nat) (x y : ChR) (xa : Option Addr) (xm xc : Nat) (ya : Option Addr) (ym yc : Nat) (W : World) : Prop where
 x0 : W.cell? ⟨b, o, none⟩ = some (.int .i64 x.fr)
 x1 : W.cell? ⟨b, o + 1, none⟩ = some (.int .i64 x.to_)
 x2 : W.cell? ⟨b, o + 2, none⟩ = some (.int .i64 x.n)
 x3 : W.cell? ⟨b, o + 3, none⟩ = some (.int .i64 x.of_)
 x4 : W.cell? ⟨b, o + 4, none⟩ = some (.slice xa xm xc)
 blk : W.heap[C]? = some (.cells #[.int .i64 y.fr, .int .i64 y.to_, .int .i64 y.n, .int .i64 y.of_, .slice ya ym yc] 39 (0, 0))
 cx : CV W (.agg #[.int .i64 x.fr, .int .i64 x.to_, .int .i64 x.n, .int .i64 x.of_, .slice xa xm xc]) x
 cy : CV W (.agg #[.int .i64 y.fr, .int .i64 y.to_, .int .i64 y.n, .int .i64 y.of_, .slice ya ym yc]) y
 below : Below w.heap.size w W
section
variable {w : World} {b o C : Nat} {x y : ChR} {xa : Option Addr} {xm xc : Nat} {ya : Option Addr} {ym yc : Nat} {W W' : World}
theorem KinW.later (h : KinW w b o C x y xa xm xc ya ym yc W) (hb : Below W.heap.size W W') : KinW w b o C x y xa xm xc ya ym yc W' :=
 ⟨cell_later hb h.x0, cell_later hb h.x1, cell_later hb h.x2, cell_later hb h.x3, cell_later hb h.x4, (hb.block C (lt_blk h.blk)).trans h.blk, h.cx.later hb, h.cy.later hb, bTh h.below hb⟩
theorem KinW.cells (h : KinW w b o C x y xa xm xc ya ym yc W) : W.cell? ⟨b, o, none⟩ = some (.int .i64 x.fr) ∧ W.cell? ⟨b, o + 1, none⟩ = some (.int .i64 x.to_) ∧ W.cell? ⟨b, o + 2, none⟩ = some (.int .i64 x.n) ∧ W.cell? ⟨b, o + 3, none⟩ = some (.int .i64 x.of_) ∧ W.cell? ⟨b, o + 4, none⟩ = some (.slice xa xm xc) ∧
   W.cell? ⟨C, 0, none⟩ = some (.int .i64 y.fr) ∧ W.cell? ⟨C, 1, none⟩ = some (.int .i64 y.to_) ∧ W.cell? ⟨C, 2, none⟩ = some (.int .i64 y.n) ∧ W.cell? ⟨C, 3, none⟩ = some (.int .i64 y.of_) ∧ W.cell? ⟨C, 4, none⟩ = some (.slice ya ym yc) := by
 refine ⟨h.x0, h.x1, h.x2, h.x3, h.x4, ?_⟩
 simp [World.cell?, h.blk]
end
theorem ch_cells {W : World} {B : Nat} {v0 v1 v2 v3 v4 : Value} (h : W.heap[B]? = some (.cells #[v0, v1, v2, v3, v4] 39 (0, 0))) : W.cell? ⟨B, 0, none⟩ = some v0 ∧ W.cell? ⟨B, 1, none⟩ = some v1 ∧ W.cell? ⟨B, 2, none⟩ = some v2 ∧ W.cell? ⟨B, 3, none⟩ = some v3 ∧ W.cell? ⟨B, 4, none⟩ = some v4 := by
 simp [World.cell?, h]
theorem drop_ch (l : List ChR) (k : Nat) (h : k < l.length) : l.drop k = l.getD k default :: l.drop (k + 1) := by
 rw [List.drop_eq_getElem_cons h]; simp [List.getD_eq_getElem?_getD, List.getElem?_eq_getElem h]
def lastOf (l : List ChR) (k : Nat) : Int := if k = 0 then -1 else (l.getD (k - 1) default).n
theorem lastOf_succ (l : List ChR) (k : Nat) : lastOf l (k + 1) = (l.getD k default).n := by unfold lastOf; rw [if_neg (by omega)]; rfl
def ListRel (l : List ChR) (w : World) (i : Value) (wr : World) : Prop :=
 ∃ k : Nat, i = .int .i64 k ∧ k ≤ l.length ∧ ChunkM.chks (l.getD 0 default) (l.drop k) (lastOf l k) = ChunkM.checks l ∧ (0 < k → ChunkM.kin (l.getD (k - 1) default) (l.getD 0 default)) ∧ Below w.heap.size w wr
theorem kin_via {p x z : ChR} (h : ChunkM.kin p z) : ChunkM.kin x z ↔ ChunkM.kin p x := by
 obtain ⟨h1, h2, h3⟩ := h
 unfold ChunkM.kin
 rw [h1, h2, h3]
 exact ⟨fun q => ⟨q.1.symm, q.2.1.symm, q.2.2.symm⟩, fun q => ⟨q.1.symm, q.2.1.symm, q.2.2.symm⟩⟩
theorem listC_ok : ListCC := by
 intro a n c l w hl
 have HL := LH hl
 have HLn := LH hl.len
 have hlen : n ≤ 9223372036854775807 := by have := hl.le; have := hl.max; omega
 clear hl
 go_enter Tryz.func93, Tryz.ntmps93
 go_wp2_with fail
 go_loopw [8] (fun i wr => ListRel l w i wr) (fun i _ => n - (intOf i).toNat)
 case atStart => exact ⟨0, rfl, Nat.zero_le _, by cases l <;> rfl, fun h => absurd h (by omega), Below.refl _ _⟩
 case round =>
   obtain ⟨k, rfl, hk, hc, hkin, hB⟩ := hrel
   rw [HLn.out] at hk
   have HC := LH hc
   have HB := LH hB
   have HKin := LH hkin
   clear hc hB hkin
   by_cases hlt : k < n
   · obtain ⟨b, off, rfl, hcs⟩ := (HL.out.later HB.out).cells (by omega)
     have hqk := hcs k hlt
     have HD := LH (drop_ch l k (by rw [HLn.out]; exact hlt))
     have HLs := LH (lastOf_succ l k)
     have HZ0 : Hid (k = 0 → l.getD k default = l.getD 0 default) := by
       show _ → _
       rintro rfl
       rfl
     obtain ⟨x, hx⟩ : ∃ x, l.getD k default = x := ⟨_, rfl⟩
     rw [hx] at hqk HD HLs HZ0
     clear hx
     obtain ⟨va, vm, vc, q0, q1, q2, q3, q4, q5, qI⟩ := hqk
     obtain ⟨F, T, N, O, D⟩ := x
     simp only at q0 q1 q2 q3 q4 q5 HLs
     have hbl : Below wr.heap.size wr (wr.alloc (.cells #[.int .i64 F, .int .i64 T, .int .i64 N, .int .i64 O, .slice va vm vc] 39)) := (Below.refl _ _).alloc (Nat.le_refl _) _
     have HCV : Hid (CV (wr.alloc (.cells #[.int .i64 F, .int .i64 T, .int .i64 N, .int .i64 O, .slice va vm vc] 39)) (.agg #[.int .i64 F, .int .i64 T, .int .i64 N, .int .i64 O, .slice va vm vc]) ⟨F, T, N, O, D⟩) := ⟨va, vm, vc, rfl, q5.later hbl, qI⟩
     have HBL := LH (bTh HB.out hbl)
     obtain ⟨C, hCC⟩ : ∃ C, wr.heap.size = C := ⟨_, rfl⟩
     have hblk : (wr.alloc (.cells #[.int .i64 F, .int .i64 T, .int .i64 N, .int .i64 O, .slice va vm vc] 39)).heap[C]? = some (.cells #[.int .i64 F, .int .i64 T, .int .i64 N, .int .i64 O, .slice va vm vc] 39 (0, 0)) := by rw [hpA, if_pos hCC.symm]
     have HBlk := LH hblk
     have HBl := LH hbl
     have HCS : Hid (∀ i, i < n → ChAt wr b (off + i * 5) (l.getD i default)) := hcs
     clear hcs q5 qI hbl hblk
     go_wp2_with fail
     refine (checkC_ok _ _ _ HCV.out).mono ?_
     rintro e W2 ⟨rfl, hb2⟩
     have hb02 := bTh HBl.out hb2
     have HB2 := LH (bTh HBL.out hb2)
     have hblk2 := (hb2.block _ (lt_blk HBlk.out)).trans HBlk.out
     have HCV2 := LH (HCV.out.later hb2)
     have HB02 := LH hb02
     have HBlk2 := LH hblk2
     obtain ⟨p0, p1, p2, p3, p4⟩ := ch_cells hblk2
     clear hb2 HBlk HBL HCV HBl q0 q1 q2 q3 q4 hb02 hblk2
     by_cases e0 : ChunkM.check ⟨F, T, N, O, D⟩ = 0
     · have HE0 := LH e0
       rw [e0]
       have hgood := ChunkM.check_good e0
       simp only at hgood
       obtain ⟨-, -, go, gn, -⟩ := hgood
       clear e0
       by_cases hk0 : 0 < k
       · obtain ⟨J, hJ⟩ : ∃ J : Nat, (k : Int) - 1 = J := ⟨k - 1, by omega⟩
         have hJk : k - 1 = J := by omega
         have hJn : J < n := by omega
         have hJ0 : (0 : Int) ≤ (J : Int) := by omega
         have hJn' : (J : Int) < (n : Int) := by omega
         have hk0' : (0 : Int) < (k : Int) := by omega
         have dk0 : decide (0 < k) = true := by simp [hk0]
         have hw1 : IntKind.i64.wrap ((k : Int) - 1) = J := by rw [hJ]; exact IntWalk.i64_in _ (by omega)
         have hw2 : IntKind.i64.wrap (J : Int) = J := IntWalk.i64_in _ (by omega)
         have hqj := HCS.out J hJn
         have HKz := LH (HKin.out hk0)
         have HLast : Hid (lastOf l k = (l.getD J default).n) := by
           show _ = _
           unfold lastOf
           rw [if_neg (by omega), hJk]
         rw [hJk] at HKz
         generalize l.getD J default = pv at hqj HKz HLast
         obtain ⟨ua, um, uc, u0, u1, u2, u3, u4, u5, uI⟩ := hqj
         obtain ⟨PF, PT, PN, PO, PD⟩ := pv
         simp only at u0 u1 u2 u3 u4 u5 HLast
         have HW : Hid (KinW w b (off + J * 5) C ⟨PF, PT, PN, PO, PD⟩ ⟨F, T, N, O, D⟩ ua um uc va vm vc W2) :=
           ⟨cell_later HB02.out u0, cell_later HB02.out u1, cell_later HB02.out u2, cell_later HB02.out u3, cell_later HB02.out u4, HBlk2.out, ⟨ua, um, uc, rfl, u5.later HB02.out, uI⟩, HCV2.out, HB2.out⟩
         obtain ⟨J5, hJ5⟩ : ∃ J5, off + J * 5 = J5 := ⟨_, rfl⟩
         rw [hJ5] at HW
         clear u0 u1 u2 u3 u4 u5 uI HCV2 HBlk2 HB02 HB2 p0 p1 p2 p3 p4 hJk
         have HF3 : Hid (¬ ChunkM.kin ⟨PF, PT, PN, PO, PD⟩ ⟨F, T, N, O, D⟩ ∨ N ≤ PN → ChunkM.checks l = 3) := by
           show _ → _
           intro h
           rw [← HC.out, HD.out, HLast.out]
           refine ChunkM.chks_form HE0.out ?_
           rw [kin_via HKz.out]
           exact h
         obtain ⟨c0, c1, c2, c3, c4, d0, d1, d2, d3, d4⟩ := HW.out.cells
         simp only at c0 c1 c2 c3 c4 d0 d1 d2 d3 d4
         by_cases hkk : ChunkM.kin ⟨PF, PT, PN, PO, PD⟩ ⟨F, T, N, O, D⟩
         · have HKK : Hid (∀ W, CV W (.agg #[.int .i64 PF, .int .i64 PT, .int .i64 PN, .int .i64 PO, .slice ua um uc]) ⟨PF, PT, PN, PO, PD⟩ → CV W (.agg #[.int .i64 F, .int .i64 T, .int .i64 N, .int .i64 O, .slice va vm vc]) ⟨F, T, N, O, D⟩ → Calls Tryz.prog 97 #[.agg #[.int .i64 PF, .int .i64 PT, .int .i64 PN, .int .i64 PO, .slice ua um uc], .agg #[.int .i64 F, .int .i64 T, .int .i64 N, .int .i64 O, .slice va vm vc]] W fun e w' => e = .returned (.bool true) ∧ Below W.heap.size W w') := by
             show ∀ W, _
             intro W h1 h2
             have := kinC_any _ _ _ _ W h1 h2
             rwa [decide_eq_true hkk] at this
           have HKn := LH hkk
           clear hkk
           by_cases e4 : N ≤ PN
           · have t4 : decide (N ≤ PN) = true := by simp [e4]
             have HR := LH (HF3.out (.inr e4))
             go_wp2_with fail
             replace HW := LH (HW.out.later (Below.refl _ _).drew)
             go_region_held3 (fun W => W.cell? ⟨b, J5, none⟩ = some (.int .i64 PF) ∧ W.cell? ⟨b, J5 + 1, none⟩ = some (.int .i64 PT) ∧ W.cell? ⟨b, J5 + 2, none⟩ = some (.int .i64 PN) ∧ W.cell? ⟨b, J5 + 3, none⟩ = some (.int .i64 PO) ∧ W.cell? ⟨b, J5 + 4, none⟩ = some (.slice ua um uc) ∧
               W.cell? ⟨C, 0, none⟩ = some (.int .i64 F) ∧ W.cell? ⟨C, 1, none⟩ = some (.int .i64 T) ∧ W.cell? ⟨C, 2, none⟩ = some (.int .i64 N) ∧ W.cell? ⟨C, 3, none⟩ = some (.int .i64 O) ∧ W.cell? ⟨C, 4, none⟩ = some (.slice va vm vc))
               (exact HW.out.cells)
               (first | (go_at_call 97; refine (HKK.out _ HW.out.cx HW.out.cy).mono ?_; rintro e Wa ⟨rfl, da⟩; replace HW := LH (HW.out.later da); clear da))
             all_goals
               go_wp2_with fail
               go_ret
               exact ⟨ret_chk HR.out.symm, HW.out.below⟩
           · have t4 : decide (N ≤ PN) = false := by simp; omega
             go_wp2_with fail
             replace HW := LH (HW.out.later (Below.refl _ _).drew)
             go_region_held3 (fun W => W.cell? ⟨b, J5, none⟩ = some (.int .i64 PF) ∧ W.cell? ⟨b, J5 + 1, none⟩ = some (.int .i64 PT) ∧ W.cell? ⟨b, J5 + 2, none⟩ = some (.int .i64 PN) ∧ W.cell? ⟨b, J5 + 3, none⟩ = some (.int .i64 PO) ∧ W.cell? ⟨b, J5 + 4, none⟩ = some (.slice ua um uc) ∧
               W.cell? ⟨C, 0, none⟩ = some (.int .i64 F) ∧ W.cell? ⟨C, 1, none⟩ = some (.int .i64 T) ∧ W.cell? ⟨C, 2, none⟩ = some (.int .i64 N) ∧ W.cell? ⟨C, 3, none⟩ = some (.int .i64 O) ∧ W.cell? ⟨C, 4, none⟩ = some (.slice va vm vc))
               (exact HW.out.cells)
               (first | (go_at_call 97; refine (HKK.out _ HW.out.cx HW.out.cy).mono ?_; rintro e Wa ⟨rfl, da⟩; replace HW := LH (HW.out.later da); clear da))
             all_goals
               go_wp2_with fail
               go_roundw
               case rel =>
                 refine ⟨k + 1, by go_num, by rw [HLn.out]; omega, ?_, fun _ => ?_, HW.out.below⟩
                 · rw [HLs.out, ← HC.out, HD.out, HLast.out]
                   exact (ChunkM.chks_on (last := PN) HE0.out ((kin_via HKz.out).2 HKn.out) (by simp only; omega)).symm
                 · have := (kin_via HKz.out).2 HKn.out
                   have h9 := congrArg (·.getD 0 default) HD.out
                   simp only [List.getD_cons_zero] at h9
                   rw [Nat.add_sub_cancel]
                   rw [List.getD_eq_getElem?_getD, List.getElem?_drop, Nat.add_zero, ← List.getD_eq_getElem?_getD] at h9
                   rw [h9]
                   exact this
               case measure => simp [intOf]; omega
         · have HKK : Hid (∀ W, CV W (.agg #[.int .i64 PF, .int .i64 PT, .int .i64 PN, .int .i64 PO, .slice ua um uc]) ⟨PF, PT, PN, PO, PD⟩ → CV W (.agg #[.int .i64 F, .int .i64 T, .int .i64 N, .int .i64 O, .slice va vm vc]) ⟨F, T, N, O, D⟩ → Calls Tryz.prog 97 #[.agg #[.int .i64 PF, .int .i64 PT, .int .i64 PN, .int .i64 PO, .slice ua um uc], .agg #[.int .i64 F, .int .i64 T, .int .i64 N, .int .i64 O, .slice va vm vc]] W fun e w' => e = .returned (.bool false) ∧ Below W.heap.size W w') := by
             show ∀ W, _
             intro W h1 h2
             have := kinC_any _ _ _ _ W h1 h2
             rwa [decide_eq_false hkk] at this
           have HR := LH (HF3.out (.inl hkk))
           clear hkk
           go_wp2_with fail
           refine wp_region_quiet (C := fun W => KinW w b J5 C ⟨PF, PT, PN, PO, PD⟩ ⟨F, T, N, O, D⟩ ua um uc va vm vc W) (by kernel_rfl) (by kernel_rfl) (HW.out.later (Below.refl _ _).drew) ?_
           clear c0 c1 c2 c3 c4 d0 d1 d2 d3 d4
           dsimp only
           repeat (first
             | go_big_quiet_skip
             | (go_big_quiet_want
                first
                  | (go_big_quiet_op
                     go_big_quiet_on)
                  | (unfold Oper.quiet
                     apply Exists.intro
                     refine ⟨fun W9 hW9 => ?_, ?_⟩
                     · obtain ⟨c0, c1, c2, c3, c4, d0, d1, d2, d3, d4⟩ := hW9.cells
                       simp only at c0 c1 c2 c3 c4 d0 d1 d2 d3 d4
                       go_simp
                       first
                         | with_reducible rfl
                         | (go_at_call 97; exact (HKK.out _ hW9.cx hW9.cy).mono (fun _ _ h => ⟨h.1, hW9.later h.2⟩))
                     simp only [Act.put, sA, sB, sC]
                     go_big_quiet_on)))
           refine wpQuiet_nil ?_
           intro W9 hW9
           go_wp2_with fail
           go_ret
           exact ⟨ret_chk HR.out.symm, hW9.below⟩
       · obtain rfl : k = 0 := by omega
         have HZ := LH (HZ0.out rfl)
         clear HCV2 HBlk2 HB02 HCS
         go_wp2_with fail
         go_quiet (fail)
         have HB4 := LH (below_drewN HB2.out nq)
         go_wp2_with fail
         go_roundw
         case rel =>
           refine ⟨1, by go_num, by rw [HLn.out]; omega, ?_, fun _ => ?_, HB4.out⟩
           · rw [HLs.out, ← HC.out, HD.out, ← HZ.out]
             exact (ChunkM.chks_on (z := ⟨F, T, N, O, D⟩) (last := -1) HE0.out ⟨rfl, rfl, rfl⟩ (by simp only; omega)).symm
           · exact ⟨rfl, rfl, rfl⟩
         case measure => simp [intOf]; omega
     · obtain ⟨E, hE⟩ : ∃ E, ChunkM.check ⟨F, T, N, O, D⟩ = E := ⟨_, rfl⟩
       have HE : Hid (ChunkM.checks l = E) := by
         show _ = _
         rw [← HC.out, HD.out, ChunkM.chks_bad e0, hE]
       rw [hE] at e0 ⊢
       have t0 : (E != 0) = true := by simp [e0]
       clear hE
       go_wp2_with fail
       go_ret
       exact ⟨ret_chk HE.out.symm, HB2.out⟩
   · have hdr : l.drop k = [] := List.drop_eq_nil_of_le (by rw [HLn.out]; omega)
     have HE : Hid (ChunkM.checks l = 0) := by
       show _ = _
       rw [← HC.out, hdr]
       rfl
     go_wp2_with fail
     go_ret
     exact ⟨ret_chk HE.out.symm, HB.out⟩
def SameRelC (x y : List ChR) (w : World) (i : Value) (wr : World) : Prop :=
 ∃ k : Nat, i = .int .i64 k ∧ k ≤ x.length ∧ x.take k = y.take k ∧ Below w.heap.size w wr
theorem take_moreC {x y : List ChR} {k : Nat} (h : x.take k = y.take k) (hx : k < x.length) (hy : k < y.length) (he : x.getD k default = y.getD k default) : x.take (k + 1) = y.take (k + 1) := by
 rw [List.take_add_one, List.take_add_one, h]
 simp only [List.getD_eq_getElem?_getD, List.getElem?_eq_getElem hx, List.getElem?_eq_getElem hy, Option.getD_some] at he
 simp [List.getElem?_eq_getElem hx, List.getElem?_eq_getElem hy, he]
theorem ne_of_atC {x y : List ChR} {k : Nat} (h : x.getD k default ≠ y.getD k default) : decide (x = y) = false := by
 rw [decide_eq_false]
 rintro rfl
 exact h rfl
theorem sameC1_any (v v' : Value) (x y : ChR) (w : World) (h : CV w v x) (h' : CV w v' y) :
   Calls Tryz.prog 96 #[v, v'] w fun e w' => e = .returned (.bool (decide (x = y))) ∧ Below w.heap.size w w' := by
 obtain ⟨va, vn, vc, rfl, hd, hI⟩ := h
 obtain ⟨va', vn', vc', rfl, hd', hI'⟩ := h'
 obtain ⟨A, B, C, E, D⟩ := x
 obtain ⟨A', B', C', E', D'⟩ := y
 simp only at hd hd' ⊢
 have hB1 := (Below.refl w.heap.size w).alloc (Nat.le_refl _) (.cells #[.int .i64 A, .int .i64 B, .int .i64 C, .int .i64 E, .slice va vn vc] 39)
 have hB2 := hB1.alloc (by simp) (.cells #[.int .i64 A', .int .i64 B', .int .i64 C', .int .i64 E', .slice va' vn' vc'] 39)
 have HX : Hid (CV ((w.alloc (.cells #[.int .i64 A, .int .i64 B, .int .i64 C, .int .i64 E, .slice va vn vc] 39)).alloc (.cells #[.int .i64 A', .int .i64 B', .int .i64 C', .int .i64 E', .slice va' vn' vc'] 39)) (.agg #[.int .i64 A, .int .i64 B, .int .i64 C, .int .i64 E, .slice va vn vc]) ⟨A, B, C, E, D⟩) := ⟨va, vn, vc, rfl, hd.later hB2, hI⟩
 have HY : Hid (CV ((w.alloc (.cells #[.int .i64 A, .int .i64 B, .int .i64 C, .int .i64 E, .slice va vn vc] 39)).alloc (.cells #[.int .i64 A', .int .i64 B', .int .i64 C', .int .i64 E', .slice va' vn' vc'] 39)) (.agg #[.int .i64 A', .int .i64 B', .int .i64 C', .int .i64 E', .slice va' vn' vc']) ⟨A', B', C', E', D'⟩) := ⟨va', vn', vc', rfl, hd'.later hB2, hI'⟩
 have HQ := LH (hd.later hB2)
 have HP := LH (hd'.later hB2)
 have HB := LH hB2
 have HEQ := LH (eqB va va' vn vc vn' vc' D D')
 have HBk := LH (two_chs w A B C E A' B' C' E' (.slice va vn vc) (.slice va' vn' vc'))
 obtain ⟨B0, hB0⟩ : ∃ B0, w.heap.size = B0 := ⟨_, rfl⟩
 clear hB1 hB2 hd hd'
 go_enter Tryz.func96, Tryz.ntmps96
 go_wp2_with fail
 refine (kinC_any _ _ _ _ _ HX.out HY.out).mono ?_
 rintro e W2 ⟨rfl, b2⟩
 have HB2 := LH (bTh HB.out b2)
 have HQ2 := LH (HQ.out.later b2)
 have HP2 := LH (HP.out.later b2)
 obtain ⟨p2, p4, q2, q4⟩ := HBk.out _ b2
 rw [hB0] at p2 p4 q2 q4
 clear b2 HX HY HQ HP HBk
 by_cases hk : ChunkM.kin ⟨A, B, C, E, D⟩ ⟨A', B', C', E', D'⟩
 · rw [decide_eq_true hk]
   obtain ⟨k1, k2, k3⟩ := hk
   simp only at k1 k2 k3
   subst k1 k2 k3
   by_cases h3 : C = C'
   · subst h3
     have t3 : (C == C) = true := by simp
     go_wp2_with fail
     refine (HEQ.out _ HQ2.out HP2.out).mono ?_
     rintro e w' ⟨rfl, rfl⟩
     go_wp2_with fail
     go_ret
     exact ⟨ret_bool (by simp), HB2.out⟩
   · have t3 : (C == C') = false := by simp [h3]
     go_wp2_with fail
     go_ret
     exact ⟨ret_bool (by simp [h3]), HB2.out⟩
 · rw [decide_eq_false hk]
   have hne : decide ((⟨A, B, C, E, D⟩ : ChR) = ⟨A', B', C', E', D'⟩) = false := by
     rw [decide_eq_false]
     intro h
     rw [h] at hk
     exact hk ⟨rfl, rfl, rfl⟩
   have HNE := LH hne
   clear hne hk
   go_wp2_with fail
   go_ret
   exact ⟨ret_bool HNE.out.symm, HB2.out⟩
theorem equalCs_any (a a' : Option Addr) (n c n' c' : Nat) (x y : List ChR) (w : World) (hx : CS w a n c x) (hy : CS w a' n' c' y) :
   Calls Tryz.prog 95 #[.slice a n c, .slice a' n' c', .func (.func 96) #[] #[]] w fun e w' => e = .returned (.bool (decide (x = y))) ∧ Below w.heap.size w w' := by
 have hlen : n ≤ 9223372036854775807 := by have := hx.le; have := hx.max; omega
 have hlen' : n' ≤ 9223372036854775807 := by have := hy.le; have := hy.max; omega
 have HX := LH hx
 have HY := LH hy
 have HLX := LH hx.len
 have HLY := LH hy.len
 clear hx hy
 by_cases hnn : n = n'
 · subst hnn
   have hb : ((n : Int) != n) = false := by simp
   go_enter Tryz.func95, Tryz.ntmps95
   go_wp2_with fail
   go_loopw [17] (fun i wr => SameRelC x y w i wr) (fun i _ => n - (intOf i).toNat)
   case atStart => exact ⟨0, rfl, Nat.zero_le _, rfl, Below.refl _ _⟩
   case round =>
     obtain ⟨k, rfl, hk, ht, hB⟩ := hrel
     rw [HLX.out] at hk
     have HT := LH ht
     have HB := LH hB
     clear ht hB
     by_cases hlt : k < n
     · obtain ⟨b, off, rfl, hcs⟩ := (HX.out.later HB.out).cells (by omega)
       obtain ⟨b', off', rfl, hcs'⟩ := (HY.out.later HB.out).cells (by omega)
       have HN := LH (fun h => ne_of_atC (x := x) (y := y) (k := k) h)
       have HM : Hid (x.getD k default = y.getD k default → x.take (k + 1) = y.take (k + 1)) := by
         show _ → _
         exact take_moreC HT.out (by rw [HLX.out]; exact hlt) (by rw [HLY.out]; exact hlt)
       have hqx := hcs k hlt
       have hqy := hcs' k hlt
       generalize x.getD k default = o at HN HM hqx
       generalize y.getD k default = o' at HN HM hqy
       obtain ⟨va, vn, vc, q0, q1, q2, q3, q4, q5, qI⟩ := hqx
       obtain ⟨A, B, C, E, D⟩ := o
       simp only at q0 q1 q2 q3 q4 q5
       have hbx : Below wr.heap.size wr (wr.alloc (.cells #[.int .i64 A, .int .i64 B, .int .i64 C, .int .i64 E, .slice va vn vc] 39)) := (Below.refl _ _).alloc (Nat.le_refl _) _
       obtain ⟨va', vn', vc', p0, p1, p2, p3, p4, p5, pI⟩ := hqy.keep (fun _ _ hc => cell_later hbx hc)
       obtain ⟨A', B', C', E', D'⟩ := o'
       simp only at p0 p1 p2 p3 p4 p5
       have hby := (Below.refl _ (wr.alloc (.cells #[.int .i64 A, .int .i64 B, .int .i64 C, .int .i64 E, .slice va vn vc] 39))).alloc (Nat.le_refl _) (.cells #[.int .i64 A', .int .i64 B', .int .i64 C', .int .i64 E', .slice va' vn' vc'] 39)
       have HQ := LH ((q5.later hbx).later hby)
       have HP := LH (p5.later hby)
       have HB2 := LH (bTh HB.out (bTh hbx hby))
       have HQI := LH qI
       have HPI := LH pI
       clear hcs hcs' hbx hby q5 p5 qI pI hqy
       go_wp2_with fail
       refine (sameC1_any _ _ ⟨A, B, C, E, D⟩ ⟨A', B', C', E', D'⟩ _ ⟨va, vn, vc, rfl, HQ.out, HQI.out⟩ ⟨va', vn', vc', rfl, HP.out, HPI.out⟩).mono ?_
       rintro e W2 ⟨rfl, hb2⟩
       have HB3 := LH (bTh HB2.out hb2)
       clear hb2 HB2 HQ HP
       by_cases he : (⟨A, B, C, E, D⟩ : ChR) = ⟨A', B', C', E', D'⟩
       · rw [decide_eq_true he]
         have HE := LH he
         clear he
         go_wp2_with fail
         go_roundw
         case rel => exact ⟨k + 1, by go_num, by rw [HLX.out]; omega, HM.out HE.out, HB3.out⟩
         case measure => simp [intOf]; omega
       · rw [decide_eq_false he]
         have HE := LH he
         clear he
         go_wp2_with fail
         go_ret
         exact ⟨ret_bool (HN.out HE.out).symm, HB3.out⟩
     · have hkn : k = n := by omega
       go_wp2_with fail
       go_ret
       have e1 : x.take k = x := List.take_of_length_le (by rw [HLX.out]; omega)
       have e2 : y.take k = y := List.take_of_length_le (by rw [HLY.out]; omega)
       have e3 := HT.out
       rw [e1, e2] at e3
       exact ⟨ret_bool (by rw [e3]; simp), HB.out⟩
 · have he : decide (x = y) = false := by
     rw [decide_eq_false]
     rintro rfl
     exact hnn (HLX.out.symm.trans HLY.out)
   have hb : ((n : Int) != n') = true := by simp; omega
   rw [he]
   go_enter Tryz.func95, Tryz.ntmps95
   go_wp2_with fail
   go_ret
   exact ⟨rfl, Below.refl _ _⟩
theorem sameC_ok : SameCC := by
 intro a a' n c n' c' x y w hx hy
 go_enter Tryz.func51, Tryz.ntmps51
 go_wp2_with fail
 refine (equalCs_any a a' n c n' c' x y _ hx hy).mono ?_
 rintro e w' ⟨rfl, hb⟩
 go_wp2_with fail
 go_ret
 exact ⟨rfl, hb⟩
theorem sameStep_any (A L A' L' : Int) (va va' : Option Addr) (vn vc vn' vc' : Nat) (D D' : List Int) (w : World) (h : BS w va vn vc D) (h' : BS w va' vn' vc' D') :
   Calls Tryz.prog 132 #[.agg #[.int .i64 A, .int .i64 L, .slice va vn vc], .agg #[.int .i64 A', .int .i64 L', .slice va' vn' vc']] w fun e w' => e = .returned (.bool (decide ((⟨A, L, D⟩ : OpR) = ⟨A', L', D'⟩))) ∧ Below w.heap.size w w' := by
 have hB1 := (Below.refl w.heap.size w).alloc (Nat.le_refl _) (.cells #[.int .i64 A, .int .i64 L, .slice va vn vc] 123)
 have hB2 := hB1.alloc (by simp) (.cells #[.int .i64 A', .int .i64 L', .slice va' vn' vc'] 123)
 have HQ := LH (h.later hB2)
 have HP := LH (h'.later hB2)
 have HB := LH hB2
 clear hB1 hB2 h h'
 by_cases hA : A = A'
 · subst hA
   by_cases hL : L = L'
   · subst hL
     have ba : (A == A) = true := by simp
     have bl : (L == L) = true := by simp
     have HEQ := LH (eqB va va' vn vc vn' vc' D D')
     go_enter Tryz.func132, Tryz.ntmps132
     go_wp2_with fail
     refine (HEQ.out _ HQ.out HP.out).mono ?_
     rintro e w' ⟨rfl, rfl⟩
     go_wp2_with fail
     go_ret
     exact ⟨ret_bool (by simp), HB.out⟩
   · have ba : (A == A) = true := by simp
     have bl : (L == L') = false := by simp [hL]
     go_enter Tryz.func132, Tryz.ntmps132
     go_wp2_with fail
     go_ret
     exact ⟨ret_bool (by simp [hL]), HB.out⟩
 · have ba : (A == A') = false := by simp [hA]
   go_enter Tryz.func132, Tryz.ntmps132
   go_wp2_with fail
   go_ret
   exact ⟨ret_bool (by simp [hA]), HB.out⟩
theorem equalSteps_any (a a' : Option Addr) (n c n' c' : Nat) (x y : List OpR) (w : World) (hx : OS w a n c x) (hy : OS w a' n' c' y) :
   Calls Tryz.prog 131 #[.slice a n c, .slice a' n' c', .func (.func 132) #[] #[]] w fun e w' => e = .returned (.bool (decide (x = y))) ∧ Below w.heap.size w w' := by
 have hlen : n ≤ 9223372036854775807 := by have := hx.le; have := hx.max; omega
 have hlen' : n' ≤ 9223372036854775807 := by have := hy.le; have := hy.max; omega
 have HX := LH hx
 have HY := LH hy
 have HLX := LH hx.len
 have HLY := LH hy.len
 clear hx hy
 by_cases hnn : n = n'
 · subst hnn
   have hb : ((n : Int) != n) = false := by simp
   go_enter Tryz.func131, Tryz.ntmps131
   go_wp2_with fail
   go_loopw [17] (fun i wr => SameRel x y w i wr) (fun i _ => n - (intOf i).toNat)
   case atStart => exact ⟨0, rfl, Nat.zero_le _, rfl, Below.refl _ _⟩
   case round =>
     obtain ⟨k, rfl, hk, ht, hB⟩ := hrel
     rw [HLX.out] at hk
     have HT := LH ht
     clear ht
     by_cases hlt : k < n
     · obtain ⟨b, off, rfl, hcs⟩ := (HX.out.later hB).cells (by omega)
       obtain ⟨b', off', rfl, hcs'⟩ := (HY.out.later hB).cells (by omega)
       obtain ⟨va, vn, vc, q0, q1, q2, q3, -, -⟩ := hcs k hlt
       have hB1 := hB.alloc hB.size (.cells #[.int .i64 (x.getD k default).at_, .int .i64 (x.getD k default).len, .slice va vn vc] 123)
       have hbx : Below wr.heap.size wr (wr.alloc (.cells #[.int .i64 (x.getD k default).at_, .int .i64 (x.getD k default).len, .slice va vn vc] 123)) := (Below.refl _ _).alloc (Nat.le_refl _) _
       obtain ⟨va', vn', vc', p0, p1, p2, p3, -, -⟩ := (hcs' k hlt).keep (fun _ _ hc => cell_later hbx hc)
       replace q3 := q3.later hbx
       have hB2 := hB1.alloc hB1.size (.cells #[.int .i64 (y.getD k default).at_, .int .i64 (y.getD k default).len, .slice va' vn' vc'] 123)
       have hby := (Below.refl _ (wr.alloc (.cells #[.int .i64 (x.getD k default).at_, .int .i64 (x.getD k default).len, .slice va vn vc] 123))).alloc (Nat.le_refl _) (.cells #[.int .i64 (y.getD k default).at_, .int .i64 (y.getD k default).len, .slice va' vn' vc'] 123)
       have HN := LH (fun h => ne_of_at (x := x) (y := y) (k := k) h)
       have HM : Hid (x.getD k default = y.getD k default → x.take (k + 1) = y.take (k + 1)) := by
         show _ → _
         exact take_more HT.out (by rw [HLX.out]; exact hlt) (by rw [HLY.out]; exact hlt)
       have HQ := LH (q3.later hby)
       have HP := LH (p3.later hby)
       clear hcs hcs' hbx hby q3 p3
       generalize x.getD k default = o at *
       generalize y.getD k default = o' at *
       obtain ⟨A, L, D⟩ := o
       obtain ⟨A', L', D'⟩ := o'
       simp only at q0 q1 q2 p0 p1 p2 hB1 hB2
       have HB2 := LH hB2
       clear hB1 hB2
       go_wp2_with fail
       refine (sameStep_any A L A' L' va va' vn vc vn' vc' D D' _ HQ.out HP.out).mono ?_
       rintro e W2 ⟨rfl, hb2⟩
       have HB3 := LH (bTh HB2.out hb2)
       clear hb2 HB2 HQ HP
       by_cases he : (⟨A, L, D⟩ : OpR) = ⟨A', L', D'⟩
       · rw [decide_eq_true he]
         have HE := LH he
         clear he
         go_wp2_with fail
         go_roundw
         case rel => exact ⟨k + 1, by go_num, by rw [HLX.out]; omega, HM.out HE.out, HB3.out⟩
         case measure => simp [intOf]; omega
       · rw [decide_eq_false he]
         have HE := LH he
         clear he
         go_wp2_with fail
         go_ret
         exact ⟨ret_bool (HN.out HE.out).symm, HB3.out⟩
     · have hkn : k = n := by omega
       go_wp2_with fail
       go_ret
       have e1 : x.take k = x := List.take_of_length_le (by rw [HLX.out]; omega)
       have e2 : y.take k = y := List.take_of_length_le (by rw [HLY.out]; omega)
       have e3 := HT.out
       rw [e1, e2] at e3
       exact ⟨ret_bool (by rw [e3]; simp), hB⟩
 · have he : decide (x = y) = false := by
     rw [decide_eq_false]
     rintro rfl
     exact hnn (HLX.out.symm.trans HLY.out)
   have hb : ((n : Int) != n') = true := by simp; omega
   rw [he]
   go_enter Tryz.func131, Tryz.ntmps131
   go_wp2_with fail
   go_ret
   exact ⟨rfl, Below.refl _ _⟩
theorem same_any (a a' : Option Addr) (n c n' c' : Nat) (x y : List OpR) (w : World) (hx : OS w a n c x) (hy : OS w a' n' c' y) :
   Calls Tryz.prog 98 #[.slice a n c, .slice a' n' c'] w fun e w' => e = .returned (.bool (decide (x = y))) ∧ Below w.heap.size w w' := by
 go_enter Tryz.func98, Tryz.ntmps98
 go_wp2_with fail
 refine (equalSteps_any a a' n c n' c' x y _ hx hy).mono ?_
 rintro e w' ⟨rfl, hb⟩
 go_wp2_with fail
 go_ret
 exact ⟨rfl, hb⟩
theorem ret_decP {a b : PatR} (h : a ≠ b) : Ending.returned (.bool false) = .returned (.bool (decide (a = b))) := by rw [decide_eq_false h]
theorem sameP_any (v v' : Value) (p q : PatR) (w : World) (hp : PV w v p) (hq : PV w v' q) :
   Calls Tryz.prog 52 #[v, v'] w fun e w' => e = .returned (.bool (decide (p = q))) ∧ Below w.heap.size w w' := by
 obtain ⟨a, n, c, rfl, ho, -⟩ := hp
 obtain ⟨a', n', c', rfl, ho', -⟩ := hq
 obtain ⟨f, t, o, nw, s, ops⟩ := p
 obtain ⟨f', t', o', nw', s', ops'⟩ := q
 simp only at ho ho' ⊢
 have hb1 : Below w.heap.size w (w.alloc (.cells #[.int .i64 f, .int .i64 t, .int .i64 o, .int .i64 nw, .int .i64 s, .slice a n c] 35)) := (Below.refl _ _).alloc (Nat.le_refl _) _
 have hb := hb1.alloc hb1.size (.cells #[.int .i64 f', .int .i64 t', .int .i64 o', .int .i64 nw', .int .i64 s', .slice a' n' c'] 35)
 have HO := LH (ho.later hb)
 have HO' := LH (ho'.later hb)
 clear ho ho' hb1
 by_cases h1 : f = f'
 · subst h1
   have b1 : (f == f) = true := by simp
   by_cases h2 : t = t'
   · subst h2
     have b2 : (t == t) = true := by simp
     by_cases h3 : o = o'
     · subst h3
       have b3 : (o == o) = true := by simp
       by_cases h4 : nw = nw'
       · subst h4
         have b4 : (nw == nw) = true := by simp
         by_cases h5 : s = s'
         · subst h5
           have b5 : (s == s) = true := by simp
           have HB := LH hb
           clear hb
           rw [show decide ((⟨f, t, o, nw, s, ops⟩ : PatR) = ⟨f, t, o, nw, s, ops'⟩) = decide (ops = ops') by simp]
           go_enter Tryz.func52, Tryz.ntmps52
           go_wp2_with fail
           refine (same_any a a' n c n' c' ops ops' _ HO.out HO'.out).mono ?_
           rintro e w' ⟨rfl, hb2⟩
           have hb3 := bTh HB.out hb2
           go_wp2_with fail
           go_ret
           exact ⟨by simp, hb3⟩
         · have b5 : (s == s') = false := by simp [h5]
           go_enter Tryz.func52, Tryz.ntmps52
           go_wp2_with fail
           go_ret
           exact ⟨ret_decP (by simp [h5]), hb⟩
       · have b4 : (nw == nw') = false := by simp [h4]
         go_enter Tryz.func52, Tryz.ntmps52
         go_wp2_with fail
         go_ret
         exact ⟨ret_decP (by simp [h4]), hb⟩
     · have b3 : (o == o') = false := by simp [h3]
       go_enter Tryz.func52, Tryz.ntmps52
       go_wp2_with fail
       go_ret
       exact ⟨ret_decP (by simp [h3]), hb⟩
   · have b2 : (t == t') = false := by simp [h2]
     go_enter Tryz.func52, Tryz.ntmps52
     go_wp2_with fail
     go_ret
     exact ⟨ret_decP (by simp [h2]), hb⟩
 · have b1 : (f == f') = false := by simp [h1]
   go_enter Tryz.func52, Tryz.ntmps52
   go_wp2_with fail
   go_ret
   exact ⟨ret_decP (by simp [h1]), hb⟩
namespace DevM
def upE (d : DevR) (r : RecR) : Int :=
 if ¬ (0 ≤ d.run ∧ d.run ≤ 1) ∨ (r.trying = false ∧ d.run ≠ r.act) then 2
 else if ChunkM.checks d.got ≠ 0 then ChunkM.checks d.got
 else if d.busy = false then (if d.done ≠ 0 ∨ d.job ≠ noPat then 3 else 0)
 else busyE d r
end DevM
theorem up0FG (h : DevH) (d : DevR) (g n f : Int) (i0 i1 : InfR) (hrn : d.run = 0) (w : World) (HD : DH w h d) (HBu : Hid (∀ W, DH W h d → Calls Tryz.prog 94 #[devV h d, .agg (rcC ⟨g, 0, false, n, f, i0, i1⟩)] W fun e w' => e = .returned (.int .i64 (DevM.busyE d ⟨g, 0, false, n, f, i0, i1⟩)) ∧ Below W.heap.size W w')) : Calls Tryz.prog 49 #[devV h d, .agg (rcC ⟨g, 0, false, n, f, i0, i1⟩)] w fun e w' => e = .returned (.int .i64 (DevM.upE d ⟨g, 0, false, n, f, i0, i1⟩)) ∧ Below w.heap.size w w' := by
 obtain ⟨E, hE⟩ : ∃ E, ChunkM.checks d.got = E := ⟨_, rfl⟩
 have HB : Hid (DevM.upE d ⟨g, 0, false, n, f, i0, i1⟩ = if E ≠ 0 then E else if d.busy = false then (if d.done ≠ 0 ∨ d.job ≠ noPat then 3 else 0) else DevM.busyE d ⟨g, 0, false, n, f, i0, i1⟩) := by
   show _ = _
   unfold DevM.upE
   rw [if_neg (by simp only; omega), hE]
 have HLi : Hid (∀ W, DH W h d → Calls Tryz.prog 93 #[.slice h.ga h.gn h.gc] W fun e w' => e = .returned (.int .i64 E) ∧ Below W.heap.size W w') := fun W x => by
   have := listC_ok _ _ _ _ W x.got
   rw [hE] at this
   exact this
 clear hE
 have k1 : (d.run != 0) = false := by simp [hrn]
 clear hrn
 unfold devV at HBu
 unfold devV
 obtain ⟨P1, hP1⟩ : ∃ P, w.heap.size = P := ⟨_, rfl⟩
 have HS := LH ((((((MS.start w).arg HD.argR).alloc (p := P1) (by simp [hP1]) (dvC h d) 37)).alloc (p := (P1 + 1)) (by simp [hP1]) (rcC ⟨g, 0, false, n, f, i0, i1⟩) 28))
 go_enter Tryz.func49, Tryz.ntmps49
 go_upto_region 1 with fail
 refine wp_gen HS.out (fun V0 HS1 => ?_)
 replace HS := LH HS1
 clear HS1 hP1
 refine rTu (S := MS w [((P1 + 1), (rcC ⟨g, 0, false, n, f, i0, i1⟩), 28), (P1, (dvC h d), 37)] [(fun W => DH W h d)] []) [(0, false), (1, false), (2, false), (3, false), (4, false), (5, false), (6, false), (7, false), (8, false), (9, false), (10, false)] false 9999 (by kernel_rfl) (by kernel_rfl) HS.out.drew ?_
 simp only [turned, gA, gB, gC]
 replace HS := LH HS.out.drew
 have uP1p1_2 : ∀ W, MS w [((P1 + 1), (rcC ⟨g, 0, false, n, f, i0, i1⟩), 28), (P1, (dvC h d), 37)] [(fun W => DH W h d)] [] W → W.cell? ⟨P1 + 1, 2, none⟩ = some (.bool false) := fun W hW => cAt (hW.get 0 rfl) rfl
 repeat (first
   | (refine tSt ?_ (by rfl) (fun W9 hW9 => ?_) ?_
      rotate_left
      · (go_simp <;> with_reducible rfl)
      simp only [Act.put, sA, sB, sC])
   | (refine tSk (by rfl) ?_; simp only [Act.put, sA, sB, sC]))
 clear uP1p1_2
 refine tEn ?_
 have cP1_27 := cAt (k := 27) (v := .int .i64 d.run) (HS.out.get 1 rfl) rfl
 simp only at cP1_27
 have cP1p1_1 := cAt (k := 1) (v := .int .i64 0) (HS.out.get 0 rfl) rfl
 simp only at cP1p1_1
 have cP1_28 := cAt (k := 28) (v := .slice h.ga h.gn h.gc) (HS.out.get 1 rfl) rfl
 simp only at cP1_28
 go_wp2_with fail
 clear cP1_27 cP1p1_1 cP1_28
 refine (HLi.out _ (HS.out.read 0 rfl)).mono ?_
 rintro e W5 ⟨rfl, hb⟩
 replace HS := LH (HS.out.later hb)
 clear hb
 by_cases e0 : E = 0
 case neg =>
   have t0 : (E != 0) = true := by simp [e0]
   have HR := LH (HB.out.trans (if_pos e0))
   go_wp2_with fail
   go_ret
   exact ⟨ret_i HR.out.symm, HS.out.below⟩
 subst e0
 replace HB := LH (HB.out.trans (if_neg (fun q => q rfl)))
 cases hbu : d.busy with
 | true =>
   rw [hbu] at HB
   replace HB := LH (HB.out.trans (if_neg (by decide)))
   have cP1_29 := cAt (k := 29) (v := .bool d.busy) (HS.out.get 1 rfl) rfl
   simp only at cP1_29
   rw [hbu] at cP1_29
   clear hbu
   have bP1 := HS.out.get 1 rfl
   simp only at bP1
   have bP1p1 := HS.out.get 0 rfl
   simp only at bP1p1
   go_wp2_with (first
     | (refine wpList_load_row rfl 37 (.tmp 2) rfl P1 rfl 37 (dvC h d) (0, 0) _ bP1 Tryz.underlying37 rfl (sDv h d) ?_)
     | (refine wpList_load_row rfl 28 (.tmp 3) rfl (P1 + 1) rfl 28 (rcC ⟨g, 0, false, n, f, i0, i1⟩) (0, 0) _ bP1p1 Tryz.underlying28 rfl (sRc ⟨g, 0, false, n, f, i0, i1⟩) ?_))
   clear cP1_29 bP1 bP1p1
   refine (HBu.out _ (HS.out.read 0 rfl)).mono ?_
   rintro e W6 ⟨rfl, hb⟩
   replace HS := LH (HS.out.later hb)
   clear hb
   go_wp2_with fail
   go_ret
   exact ⟨ret_i HB.out.symm, HS.out.below⟩
 | false =>
   rw [hbu] at HB
   replace HB := LH (HB.out.trans (if_pos rfl))
   have cP1_29 := cAt (k := 29) (v := .bool d.busy) (HS.out.get 1 rfl) rfl
   simp only at cP1_29
   rw [hbu] at cP1_29
   clear hbu
   have cP1_36 := cAt (k := 36) (v := .int .i64 d.done) (HS.out.get 1 rfl) rfl
   simp only at cP1_36
   by_cases d0 : d.done = 0
   case neg =>
     have t1 : (d.done != 0) = true := by simp [d0]
     have HR := LH (HB.out.trans (if_pos (.inl d0)))
     go_wp2_with fail
     go_ret
     exact ⟨ret_i HR.out.symm, HS.out.below⟩
   have t1 : (d.done != 0) = false := by simp [d0]
   rw [d0] at cP1_36 t1
   have cP1_30 := cAt (k := 30) (v := .int .i64 d.job.from_) (HS.out.get 1 rfl) rfl
   simp only at cP1_30
   have cP1_31 := cAt (k := 31) (v := .int .i64 d.job.to_) (HS.out.get 1 rfl) rfl
   simp only at cP1_31
   have cP1_32 := cAt (k := 32) (v := .int .i64 d.job.old) (HS.out.get 1 rfl) rfl
   simp only at cP1_32
   have cP1_33 := cAt (k := 33) (v := .int .i64 d.job.new) (HS.out.get 1 rfl) rfl
   simp only at cP1_33
   have cP1_34 := cAt (k := 34) (v := .int .i64 d.job.size) (HS.out.get 1 rfl) rfl
   simp only at cP1_34
   have cP1_35 := cAt (k := 35) (v := .slice h.oa h.on h.oc) (HS.out.get 1 rfl) rfl
   simp only at cP1_35
   go_wp2_with fail
   clear cP1_29 cP1_36 cP1_30 cP1_31 cP1_32 cP1_33 cP1_34 cP1_35
   by_cases j0 : d.job = noPat
   case pos =>
     have HSm : Hid (∀ W, DH W h d → Calls Tryz.prog 52 #[.agg #[.int .i64 d.job.from_, .int .i64 d.job.to_, .int .i64 d.job.old, .int .i64 d.job.new, .int .i64 d.job.size, .slice h.oa h.on h.oc], .agg #[.int .i64 0, .int .i64 0, .int .i64 0, .int .i64 0, .int .i64 0, .slice none 0 0]] W fun e w' => e = .returned (.bool true) ∧ Below W.heap.size W w') := fun W x => by
       have := sameP_any _ _ _ _ W x.job (noPat_pv W)
       rw [decide_eq_true j0] at this
       exact this
     have HR := LH (HB.out.trans (if_neg (fun q => q.elim (fun q => q d0) (fun q => q j0))))
     clear j0
     refine (HSm.out _ (HS.out.read 0 rfl)).mono ?_
     rintro e W7 ⟨rfl, hb⟩
     replace HS := LH (HS.out.later hb)
     clear hb
     go_wp2_with fail
     go_ret
     exact ⟨ret_i HR.out.symm, HS.out.below⟩
   have HSm : Hid (∀ W, DH W h d → Calls Tryz.prog 52 #[.agg #[.int .i64 d.job.from_, .int .i64 d.job.to_, .int .i64 d.job.old, .int .i64 d.job.new, .int .i64 d.job.size, .slice h.oa h.on h.oc], .agg #[.int .i64 0, .int .i64 0, .int .i64 0, .int .i64 0, .int .i64 0, .slice none 0 0]] W fun e w' => e = .returned (.bool false) ∧ Below W.heap.size W w') := fun W x => by
     have := sameP_any _ _ _ _ W x.job (noPat_pv W)
     rw [decide_eq_false j0] at this
     exact this
   have HR := LH (HB.out.trans (if_pos (.inr j0)))
   clear j0
   refine (HSm.out _ (HS.out.read 0 rfl)).mono ?_
   rintro e W7 ⟨rfl, hb⟩
   replace HS := LH (HS.out.later hb)
   clear hb
   go_wp2_with fail
   go_ret
   exact ⟨ret_i HR.out.symm, HS.out.below⟩
theorem up0FB (h : DevH) (d : DevR) (g n f : Int) (i0 i1 : InfR) (hrn : d.run ≠ 0) (w : World) (HD : DH w h d) : Calls Tryz.prog 49 #[devV h d, .agg (rcC ⟨g, 0, false, n, f, i0, i1⟩)] w fun e w' => e = .returned (.int .i64 2) ∧ Below w.heap.size w w' := by
 have k1 : (d.run != 0) = true := by simp [hrn]
 clear hrn
 unfold devV
 obtain ⟨P1, hP1⟩ : ∃ P, w.heap.size = P := ⟨_, rfl⟩
 have HS := LH ((((((MS.start w).arg HD.argR).alloc (p := P1) (by simp [hP1]) (dvC h d) 37)).alloc (p := (P1 + 1)) (by simp [hP1]) (rcC ⟨g, 0, false, n, f, i0, i1⟩) 28))
 go_enter Tryz.func49, Tryz.ntmps49
 go_upto_region 1 with fail
 refine wp_gen HS.out (fun V0 HS1 => ?_)
 replace HS := LH HS1
 clear HS1 hP1
 refine rTu (S := MS w [((P1 + 1), (rcC ⟨g, 0, false, n, f, i0, i1⟩), 28), (P1, (dvC h d), 37)] [(fun W => DH W h d)] []) [(0, false), (1, false), (2, false), (3, false), (4, false), (5, false), (6, false), (7, false), (8, false), (9, false), (10, false)] false 9999 (by kernel_rfl) (by kernel_rfl) HS.out.drew ?_
 simp only [turned, gA, gB, gC]
 replace HS := LH HS.out.drew
 have uP1p1_2 : ∀ W, MS w [((P1 + 1), (rcC ⟨g, 0, false, n, f, i0, i1⟩), 28), (P1, (dvC h d), 37)] [(fun W => DH W h d)] [] W → W.cell? ⟨P1 + 1, 2, none⟩ = some (.bool false) := fun W hW => cAt (hW.get 0 rfl) rfl
 repeat (first
   | (refine tSt ?_ (by rfl) (fun W9 hW9 => ?_) ?_
      rotate_left
      · (go_simp <;> with_reducible rfl)
      simp only [Act.put, sA, sB, sC])
   | (refine tSk (by rfl) ?_; simp only [Act.put, sA, sB, sC]))
 clear uP1p1_2
 refine tEn ?_
 have cP1_27 := cAt (k := 27) (v := .int .i64 d.run) (HS.out.get 1 rfl) rfl
 simp only at cP1_27
 have cP1p1_1 := cAt (k := 1) (v := .int .i64 0) (HS.out.get 0 rfl) rfl
 simp only at cP1p1_1
 go_wp2_with fail
 go_ret
 exact ⟨rfl, HS.out.below⟩
theorem up0TG (h : DevH) (d : DevR) (g n f : Int) (i0 i1 : InfR) (hrn : d.run = 0 ∨ d.run = 1) (w : World) (HD : DH w h d) (HBu : Hid (∀ W, DH W h d → Calls Tryz.prog 94 #[devV h d, .agg (rcC ⟨g, 0, true, n, f, i0, i1⟩)] W fun e w' => e = .returned (.int .i64 (DevM.busyE d ⟨g, 0, true, n, f, i0, i1⟩)) ∧ Below W.heap.size W w')) : Calls Tryz.prog 49 #[devV h d, .agg (rcC ⟨g, 0, true, n, f, i0, i1⟩)] w fun e w' => e = .returned (.int .i64 (DevM.upE d ⟨g, 0, true, n, f, i0, i1⟩)) ∧ Below w.heap.size w w' := by
 have HO : Hid (∀ W, Calls Tryz.prog 62 #[.int .i64 0] W fun e w' => e = .returned (.int .i64 1) ∧ Below W.heap.size W w') := fun W => (show Calls Tryz.prog 62 #[.int .i64 0] W fun e w' => e = .returned (.int .i64 1) ∧ W = w' by simpa using otherD_any 0 W (by decide)).mono (fun _ _ ⟨h1, h2⟩ => ⟨h1, h2 ▸ Below.refl _ _⟩)
 obtain ⟨E, hE⟩ : ∃ E, ChunkM.checks d.got = E := ⟨_, rfl⟩
 have HB : Hid (DevM.upE d ⟨g, 0, true, n, f, i0, i1⟩ = if E ≠ 0 then E else if d.busy = false then (if d.done ≠ 0 ∨ d.job ≠ noPat then 3 else 0) else DevM.busyE d ⟨g, 0, true, n, f, i0, i1⟩) := by
   show _ = _
   unfold DevM.upE
   rw [if_neg (fun q => q.elim (fun q => by omega) (fun q => by cases q.1)), hE]
 have HLi : Hid (∀ W, DH W h d → Calls Tryz.prog 93 #[.slice h.ga h.gn h.gc] W fun e w' => e = .returned (.int .i64 E) ∧ Below W.heap.size W w') := fun W x => by
   have := listC_ok _ _ _ _ W x.got
   rw [hE] at this
   exact this
 clear hE
 have HKK := LH (show d.run = 0 ∨ d.run = 1 by omega)
 clear hrn
 rcases HKK.out with hw | hw
 · skip
   unfold devV at HBu
   unfold devV
   obtain ⟨P1, hP1⟩ : ∃ P, w.heap.size = P := ⟨_, rfl⟩
   have HS := LH ((((((MS.start w).arg HD.argR).alloc (p := P1) (by simp [hP1]) (dvC h d) 37)).alloc (p := (P1 + 1)) (by simp [hP1]) (rcC ⟨g, 0, true, n, f, i0, i1⟩) 28))
   go_enter Tryz.func49, Tryz.ntmps49
   go_upto_region 1 with fail
   refine wp_gen HS.out (fun V0 HS1 => ?_)
   replace HS := LH HS1
   clear HS1 hP1
   refine rTu (S := MS w [((P1 + 1), (rcC ⟨g, 0, true, n, f, i0, i1⟩), 28), (P1, (dvC h d), 37)] [(fun W => DH W h d)] []) [(0, false), (1, false), (2, false), (3, false), (4, false), (5, false), (6, false), (7, true), (8, false), (9, false), (10, false)] false 9999 (by kernel_rfl) (by kernel_rfl) HS.out.drew ?_
   simp only [turned, gA, gB, gC]
   replace HS := LH HS.out.drew
   have uP1p1_2 : ∀ W, MS w [((P1 + 1), (rcC ⟨g, 0, true, n, f, i0, i1⟩), 28), (P1, (dvC h d), 37)] [(fun W => DH W h d)] [] W → W.cell? ⟨P1 + 1, 2, none⟩ = some (.bool true) := fun W hW => cAt (hW.get 0 rfl) rfl
   have uP1_27 : ∀ W, MS w [((P1 + 1), (rcC ⟨g, 0, true, n, f, i0, i1⟩), 28), (P1, (dvC h d), 37)] [(fun W => DH W h d)] [] W → W.cell? ⟨P1, 27, none⟩ = some (.int .i64 0) := fun W hW => by
     have := cAt (k := 27) (v := .int .i64 d.run) (hW.get 1 rfl) rfl
     rwa [hw] at this
   have uP1p1_1 : ∀ W, MS w [((P1 + 1), (rcC ⟨g, 0, true, n, f, i0, i1⟩), 28), (P1, (dvC h d), 37)] [(fun W => DH W h d)] [] W → W.cell? ⟨P1 + 1, 1, none⟩ = some (.int .i64 0) := fun W hW => cAt (hW.get 0 rfl) rfl
   repeat (first
     | (refine tSt ?_ (by rfl) (fun W9 hW9 => ?_) ?_
        rotate_left
        · (go_simp <;> with_reducible rfl)
        simp only [Act.put, sA, sB, sC])
     | (refine tSk (by rfl) ?_; simp only [Act.put, sA, sB, sC]))
   refine tCa (fun K hK => ?_)
   go_simp
   go_at_call 62
   with_reducible refine (HO.out _).mono ?_
   rintro e W1 ⟨rfl, hb⟩
   replace HS := LH (HS.out.later hb)
   clear hb
   try go_wp2_with fail
   refine hK.out _ _ HS.out ?_
   clear hK K
   try simp only [Act.put, sA, sB, sC]
   repeat (first
     | (refine tSt ?_ (by rfl) (fun W9 hW9 => ?_) ?_
        rotate_left
        · (go_simp <;> with_reducible rfl)
        simp only [Act.put, sA, sB, sC])
     | (refine tSk (by rfl) ?_; simp only [Act.put, sA, sB, sC]))
   clear uP1p1_2 uP1_27 uP1p1_1
   refine tEn ?_
   have cP1_27 := cAt (k := 27) (v := .int .i64 d.run) (HS.out.get 1 rfl) rfl
   simp only at cP1_27
   rw [hw] at cP1_27
   clear hw
   have cP1p1_1 := cAt (k := 1) (v := .int .i64 0) (HS.out.get 0 rfl) rfl
   simp only at cP1p1_1
   have cP1_28 := cAt (k := 28) (v := .slice h.ga h.gn h.gc) (HS.out.get 1 rfl) rfl
   simp only at cP1_28
   go_wp2_with fail
   clear cP1_27 cP1p1_1 cP1_28
   refine (HLi.out _ (HS.out.read 0 rfl)).mono ?_
   rintro e W5 ⟨rfl, hb⟩
   replace HS := LH (HS.out.later hb)
   clear hb
   by_cases e0 : E = 0
   case neg =>
     have t0 : (E != 0) = true := by simp [e0]
     have HR := LH (HB.out.trans (if_pos e0))
     go_wp2_with fail
     go_ret
     exact ⟨ret_i HR.out.symm, HS.out.below⟩
   subst e0
   replace HB := LH (HB.out.trans (if_neg (fun q => q rfl)))
   cases hbu : d.busy with
   | true =>
     rw [hbu] at HB
     replace HB := LH (HB.out.trans (if_neg (by decide)))
     have cP1_29 := cAt (k := 29) (v := .bool d.busy) (HS.out.get 1 rfl) rfl
     simp only at cP1_29
     rw [hbu] at cP1_29
     clear hbu
     have bP1 := HS.out.get 1 rfl
     simp only at bP1
     have bP1p1 := HS.out.get 0 rfl
     simp only at bP1p1
     go_wp2_with (first
       | (refine wpList_load_row rfl 37 (.tmp 2) rfl P1 rfl 37 (dvC h d) (0, 0) _ bP1 Tryz.underlying37 rfl (sDv h d) ?_)
       | (refine wpList_load_row rfl 28 (.tmp 3) rfl (P1 + 1) rfl 28 (rcC ⟨g, 0, true, n, f, i0, i1⟩) (0, 0) _ bP1p1 Tryz.underlying28 rfl (sRc ⟨g, 0, true, n, f, i0, i1⟩) ?_))
     clear cP1_29 bP1 bP1p1
     refine (HBu.out _ (HS.out.read 0 rfl)).mono ?_
     rintro e W6 ⟨rfl, hb⟩
     replace HS := LH (HS.out.later hb)
     clear hb
     go_wp2_with fail
     go_ret
     exact ⟨ret_i HB.out.symm, HS.out.below⟩
   | false =>
     rw [hbu] at HB
     replace HB := LH (HB.out.trans (if_pos rfl))
     have cP1_29 := cAt (k := 29) (v := .bool d.busy) (HS.out.get 1 rfl) rfl
     simp only at cP1_29
     rw [hbu] at cP1_29
     clear hbu
     have cP1_36 := cAt (k := 36) (v := .int .i64 d.done) (HS.out.get 1 rfl) rfl
     simp only at cP1_36
     by_cases d0 : d.done = 0
     case neg =>
       have t1 : (d.done != 0) = true := by simp [d0]
       have HR := LH (HB.out.trans (if_pos (.inl d0)))
       go_wp2_with fail
       go_ret
       exact ⟨ret_i HR.out.symm, HS.out.below⟩
     have t1 : (d.done != 0) = false := by simp [d0]
     rw [d0] at cP1_36 t1
     have cP1_30 := cAt (k := 30) (v := .int .i64 d.job.from_) (HS.out.get 1 rfl) rfl
     simp only at cP1_30
     have cP1_31 := cAt (k := 31) (v := .int .i64 d.job.to_) (HS.out.get 1 rfl) rfl
     simp only at cP1_31
     have cP1_32 := cAt (k := 32) (v := .int .i64 d.job.old) (HS.out.get 1 rfl) rfl
     simp only at cP1_32
     have cP1_33 := cAt (k := 33) (v := .int .i64 d.job.new) (HS.out.get 1 rfl) rfl
     simp only at cP1_33
     have cP1_34 := cAt (k := 34) (v := .int .i64 d.job.size) (HS.out.get 1 rfl) rfl
     simp only at cP1_34
     have cP1_35 := cAt (k := 35) (v := .slice h.oa h.on h.oc) (HS.out.get 1 rfl) rfl
     simp only at cP1_35
     go_wp2_with fail
     clear cP1_29 cP1_36 cP1_30 cP1_31 cP1_32 cP1_33 cP1_34 cP1_35
     by_cases j0 : d.job = noPat
     case pos =>
       have HSm : Hid (∀ W, DH W h d → Calls Tryz.prog 52 #[.agg #[.int .i64 d.job.from_, .int .i64 d.job.to_, .int .i64 d.job.old, .int .i64 d.job.new, .int .i64 d.job.size, .slice h.oa h.on h.oc], .agg #[.int .i64 0, .int .i64 0, .int .i64 0, .int .i64 0, .int .i64 0, .slice none 0 0]] W fun e w' => e = .returned (.bool true) ∧ Below W.heap.size W w') := fun W x => by
         have := sameP_any _ _ _ _ W x.job (noPat_pv W)
         rw [decide_eq_true j0] at this
         exact this
       have HR := LH (HB.out.trans (if_neg (fun q => q.elim (fun q => q d0) (fun q => q j0))))
       clear j0
       refine (HSm.out _ (HS.out.read 0 rfl)).mono ?_
       rintro e W7 ⟨rfl, hb⟩
       replace HS := LH (HS.out.later hb)
       clear hb
       go_wp2_with fail
       go_ret
       exact ⟨ret_i HR.out.symm, HS.out.below⟩
     have HSm : Hid (∀ W, DH W h d → Calls Tryz.prog 52 #[.agg #[.int .i64 d.job.from_, .int .i64 d.job.to_, .int .i64 d.job.old, .int .i64 d.job.new, .int .i64 d.job.size, .slice h.oa h.on h.oc], .agg #[.int .i64 0, .int .i64 0, .int .i64 0, .int .i64 0, .int .i64 0, .slice none 0 0]] W fun e w' => e = .returned (.bool false) ∧ Below W.heap.size W w') := fun W x => by
       have := sameP_any _ _ _ _ W x.job (noPat_pv W)
       rw [decide_eq_false j0] at this
       exact this
     have HR := LH (HB.out.trans (if_pos (.inr j0)))
     clear j0
     refine (HSm.out _ (HS.out.read 0 rfl)).mono ?_
     rintro e W7 ⟨rfl, hb⟩
     replace HS := LH (HS.out.later hb)
     clear hb
     go_wp2_with fail
     go_ret
     exact ⟨ret_i HR.out.symm, HS.out.below⟩
 · skip
   unfold devV at HBu
   unfold devV
   obtain ⟨P1, hP1⟩ : ∃ P, w.heap.size = P := ⟨_, rfl⟩
   have HS := LH ((((((MS.start w).arg HD.argR).alloc (p := P1) (by simp [hP1]) (dvC h d) 37)).alloc (p := (P1 + 1)) (by simp [hP1]) (rcC ⟨g, 0, true, n, f, i0, i1⟩) 28))
   go_enter Tryz.func49, Tryz.ntmps49
   go_upto_region 1 with fail
   refine wp_gen HS.out (fun V0 HS1 => ?_)
   replace HS := LH HS1
   clear HS1 hP1
   refine rTu (S := MS w [((P1 + 1), (rcC ⟨g, 0, true, n, f, i0, i1⟩), 28), (P1, (dvC h d), 37)] [(fun W => DH W h d)] []) [(0, false), (1, false), (2, false), (3, false), (4, false), (5, false), (6, false), (7, true), (8, false), (9, false), (10, false)] false 9999 (by kernel_rfl) (by kernel_rfl) HS.out.drew ?_
   simp only [turned, gA, gB, gC]
   replace HS := LH HS.out.drew
   have uP1p1_2 : ∀ W, MS w [((P1 + 1), (rcC ⟨g, 0, true, n, f, i0, i1⟩), 28), (P1, (dvC h d), 37)] [(fun W => DH W h d)] [] W → W.cell? ⟨P1 + 1, 2, none⟩ = some (.bool true) := fun W hW => cAt (hW.get 0 rfl) rfl
   have uP1_27 : ∀ W, MS w [((P1 + 1), (rcC ⟨g, 0, true, n, f, i0, i1⟩), 28), (P1, (dvC h d), 37)] [(fun W => DH W h d)] [] W → W.cell? ⟨P1, 27, none⟩ = some (.int .i64 1) := fun W hW => by
     have := cAt (k := 27) (v := .int .i64 d.run) (hW.get 1 rfl) rfl
     rwa [hw] at this
   have uP1p1_1 : ∀ W, MS w [((P1 + 1), (rcC ⟨g, 0, true, n, f, i0, i1⟩), 28), (P1, (dvC h d), 37)] [(fun W => DH W h d)] [] W → W.cell? ⟨P1 + 1, 1, none⟩ = some (.int .i64 0) := fun W hW => cAt (hW.get 0 rfl) rfl
   repeat (first
     | (refine tSt ?_ (by rfl) (fun W9 hW9 => ?_) ?_
        rotate_left
        · (go_simp <;> with_reducible rfl)
        simp only [Act.put, sA, sB, sC])
     | (refine tSk (by rfl) ?_; simp only [Act.put, sA, sB, sC]))
   refine tCa (fun K hK => ?_)
   go_simp
   go_at_call 62
   with_reducible refine (HO.out _).mono ?_
   rintro e W1 ⟨rfl, hb⟩
   replace HS := LH (HS.out.later hb)
   clear hb
   try go_wp2_with fail
   refine hK.out _ _ HS.out ?_
   clear hK K
   try simp only [Act.put, sA, sB, sC]
   repeat (first
     | (refine tSt ?_ (by rfl) (fun W9 hW9 => ?_) ?_
        rotate_left
        · (go_simp <;> with_reducible rfl)
        simp only [Act.put, sA, sB, sC])
     | (refine tSk (by rfl) ?_; simp only [Act.put, sA, sB, sC]))
   clear uP1p1_2 uP1_27 uP1p1_1
   refine tEn ?_
   have cP1_27 := cAt (k := 27) (v := .int .i64 d.run) (HS.out.get 1 rfl) rfl
   simp only at cP1_27
   rw [hw] at cP1_27
   clear hw
   have cP1p1_1 := cAt (k := 1) (v := .int .i64 0) (HS.out.get 0 rfl) rfl
   simp only at cP1p1_1
   have cP1_28 := cAt (k := 28) (v := .slice h.ga h.gn h.gc) (HS.out.get 1 rfl) rfl
   simp only at cP1_28
   go_wp2_with fail
   clear cP1_27 cP1p1_1 cP1_28
   refine (HLi.out _ (HS.out.read 0 rfl)).mono ?_
   rintro e W5 ⟨rfl, hb⟩
   replace HS := LH (HS.out.later hb)
   clear hb
   by_cases e0 : E = 0
   case neg =>
     have t0 : (E != 0) = true := by simp [e0]
     have HR := LH (HB.out.trans (if_pos e0))
     go_wp2_with fail
     go_ret
     exact ⟨ret_i HR.out.symm, HS.out.below⟩
   subst e0
   replace HB := LH (HB.out.trans (if_neg (fun q => q rfl)))
   cases hbu : d.busy with
   | true =>
     rw [hbu] at HB
     replace HB := LH (HB.out.trans (if_neg (by decide)))
     have cP1_29 := cAt (k := 29) (v := .bool d.busy) (HS.out.get 1 rfl) rfl
     simp only at cP1_29
     rw [hbu] at cP1_29
     clear hbu
     have bP1 := HS.out.get 1 rfl
     simp only at bP1
     have bP1p1 := HS.out.get 0 rfl
     simp only at bP1p1
     go_wp2_with (first
       | (refine wpList_load_row rfl 37 (.tmp 2) rfl P1 rfl 37 (dvC h d) (0, 0) _ bP1 Tryz.underlying37 rfl (sDv h d) ?_)
       | (refine wpList_load_row rfl 28 (.tmp 3) rfl (P1 + 1) rfl 28 (rcC ⟨g, 0, true, n, f, i0, i1⟩) (0, 0) _ bP1p1 Tryz.underlying28 rfl (sRc ⟨g, 0, true, n, f, i0, i1⟩) ?_))
     clear cP1_29 bP1 bP1p1
     refine (HBu.out _ (HS.out.read 0 rfl)).mono ?_
     rintro e W6 ⟨rfl, hb⟩
     replace HS := LH (HS.out.later hb)
     clear hb
     go_wp2_with fail
     go_ret
     exact ⟨ret_i HB.out.symm, HS.out.below⟩
   | false =>
     rw [hbu] at HB
     replace HB := LH (HB.out.trans (if_pos rfl))
     have cP1_29 := cAt (k := 29) (v := .bool d.busy) (HS.out.get 1 rfl) rfl
     simp only at cP1_29
     rw [hbu] at cP1_29
     clear hbu
     have cP1_36 := cAt (k := 36) (v := .int .i64 d.done) (HS.out.get 1 rfl) rfl
     simp only at cP1_36
     by_cases d0 : d.done = 0
     case neg =>
       have t1 : (d.done != 0) = true := by simp [d0]
       have HR := LH (HB.out.trans (if_pos (.inl d0)))
       go_wp2_with fail
       go_ret
       exact ⟨ret_i HR.out.symm, HS.out.below⟩
     have t1 : (d.done != 0) = false := by simp [d0]
     rw [d0] at cP1_36 t1
     have cP1_30 := cAt (k := 30) (v := .int .i64 d.job.from_) (HS.out.get 1 rfl) rfl
     simp only at cP1_30
     have cP1_31 := cAt (k := 31) (v := .int .i64 d.job.to_) (HS.out.get 1 rfl) rfl
     simp only at cP1_31
     have cP1_32 := cAt (k := 32) (v := .int .i64 d.job.old) (HS.out.get 1 rfl) rfl
     simp only at cP1_32
     have cP1_33 := cAt (k := 33) (v := .int .i64 d.job.new) (HS.out.get 1 rfl) rfl
     simp only at cP1_33
     have cP1_34 := cAt (k := 34) (v := .int .i64 d.job.size) (HS.out.get 1 rfl) rfl
     simp only at cP1_34
     have cP1_35 := cAt (k := 35) (v := .slice h.oa h.on h.oc) (HS.out.get 1 rfl) rfl
     simp only at cP1_35
     go_wp2_with fail
     clear cP1_29 cP1_36 cP1_30 cP1_31 cP1_32 cP1_33 cP1_34 cP1_35
     by_cases j0 : d.job = noPat
     case pos =>
       have HSm : Hid (∀ W, DH W h d → Calls Tryz.prog 52 #[.agg #[.int .i64 d.job.from_, .int .i64 d.job.to_, .int .i64 d.job.old, .int .i64 d.job.new, .int .i64 d.job.size, .slice h.oa h.on h.oc], .agg #[.int .i64 0, .int .i64 0, .int .i64 0, .int .i64 0, .int .i64 0, .slice none 0 0]] W fun e w' => e = .returned (.bool true) ∧ Below W.heap.size W w') := fun W x => by
         have := sameP_any _ _ _ _ W x.job (noPat_pv W)
         rw [decide_eq_true j0] at this
         exact this
       have HR := LH (HB.out.trans (if_neg (fun q => q.elim (fun q => q d0) (fun q => q j0))))
       clear j0
       refine (HSm.out _ (HS.out.read 0 rfl)).mono ?_
       rintro e W7 ⟨rfl, hb⟩
       replace HS := LH (HS.out.later hb)
       clear hb
       go_wp2_with fail
       go_ret
       exact ⟨ret_i HR.out.symm, HS.out.below⟩
     have HSm : Hid (∀ W, DH W h d → Calls Tryz.prog 52 #[.agg #[.int .i64 d.job.from_, .int .i64 d.job.to_, .int .i64 d.job.old, .int .i64 d.job.new, .int .i64 d.job.size, .slice h.oa h.on h.oc], .agg #[.int .i64 0, .int .i64 0, .int .i64 0, .int .i64 0, .int .i64 0, .slice none 0 0]] W fun e w' => e = .returned (.bool false) ∧ Below W.heap.size W w') := fun W x => by
       have := sameP_any _ _ _ _ W x.job (noPat_pv W)
       rw [decide_eq_false j0] at this
       exact this
     have HR := LH (HB.out.trans (if_pos (.inr j0)))
     clear j0
     refine (HSm.out _ (HS.out.read 0 rfl)).mono ?_
     rintro e W7 ⟨rfl, hb⟩
     replace HS := LH (HS.out.later hb)
     clear hb
     go_wp2_with fail
     go_ret
     exact ⟨ret_i HR.out.symm, HS.out.below⟩
theorem up0TB (h : DevH) (d : DevR) (g n f : Int) (i0 i1 : InfR) (hrn : d.run ≠ 0) (hro : d.run ≠ 1) (w : World) (HD : DH w h d) : Calls Tryz.prog 49 #[devV h d, .agg (rcC ⟨g, 0, true, n, f, i0, i1⟩)] w fun e w' => e = .returned (.int .i64 2) ∧ Below w.heap.size w w' := by
 have HO : Hid (∀ W, Calls Tryz.prog 62 #[.int .i64 0] W fun e w' => e = .returned (.int .i64 1) ∧ Below W.heap.size W w') := fun W => (show Calls Tryz.prog 62 #[.int .i64 0] W fun e w' => e = .returned (.int .i64 1) ∧ W = w' by simpa using otherD_any 0 W (by decide)).mono (fun _ _ ⟨h1, h2⟩ => ⟨h1, h2 ▸ Below.refl _ _⟩)
 have k1 : (d.run != 0) = true := by simp [hrn]
 have k2 : (d.run == 1) = false := by simp [hro]
 clear hrn hro
 unfold devV
 obtain ⟨P1, hP1⟩ : ∃ P, w.heap.size = P := ⟨_, rfl⟩
 have HS := LH ((((((MS.start w).arg HD.argR).alloc (p := P1) (by simp [hP1]) (dvC h d) 37)).alloc (p := (P1 + 1)) (by simp [hP1]) (rcC ⟨g, 0, true, n, f, i0, i1⟩) 28))
 go_enter Tryz.func49, Tryz.ntmps49
 go_upto_region 1 with fail
 refine wp_gen HS.out (fun V0 HS1 => ?_)
 replace HS := LH HS1
 clear HS1 hP1
 refine rTu (S := MS w [((P1 + 1), (rcC ⟨g, 0, true, n, f, i0, i1⟩), 28), (P1, (dvC h d), 37)] [(fun W => DH W h d)] []) [(0, false), (1, false), (2, false), (3, false), (4, false), (5, false), (6, false), (7, true), (8, false), (9, false), (10, false)] false 9999 (by kernel_rfl) (by kernel_rfl) HS.out.drew ?_
 simp only [turned, gA, gB, gC]
 replace HS := LH HS.out.drew
 have uP1p1_2 : ∀ W, MS w [((P1 + 1), (rcC ⟨g, 0, true, n, f, i0, i1⟩), 28), (P1, (dvC h d), 37)] [(fun W => DH W h d)] [] W → W.cell? ⟨P1 + 1, 2, none⟩ = some (.bool true) := fun W hW => cAt (hW.get 0 rfl) rfl
 have uP1_27 : ∀ W, MS w [((P1 + 1), (rcC ⟨g, 0, true, n, f, i0, i1⟩), 28), (P1, (dvC h d), 37)] [(fun W => DH W h d)] [] W → W.cell? ⟨P1, 27, none⟩ = some (.int .i64 d.run) := fun W hW => cAt (hW.get 1 rfl) rfl
 have uP1p1_1 : ∀ W, MS w [((P1 + 1), (rcC ⟨g, 0, true, n, f, i0, i1⟩), 28), (P1, (dvC h d), 37)] [(fun W => DH W h d)] [] W → W.cell? ⟨P1 + 1, 1, none⟩ = some (.int .i64 0) := fun W hW => cAt (hW.get 0 rfl) rfl
 repeat (first
   | (refine tSt ?_ (by rfl) (fun W9 hW9 => ?_) ?_
      rotate_left
      · (go_simp <;> with_reducible rfl)
      simp only [Act.put, sA, sB, sC])
   | (refine tSk (by rfl) ?_; simp only [Act.put, sA, sB, sC]))
 refine tCa (fun K hK => ?_)
 go_simp
 go_at_call 62
 with_reducible refine (HO.out _).mono ?_
 rintro e W1 ⟨rfl, hb⟩
 replace HS := LH (HS.out.later hb)
 clear hb
 try go_wp2_with fail
 refine hK.out _ _ HS.out ?_
 clear hK K
 try simp only [Act.put, sA, sB, sC]
 repeat (first
   | (refine tSt ?_ (by rfl) (fun W9 hW9 => ?_) ?_
      rotate_left
      · (go_simp <;> with_reducible rfl)
      simp only [Act.put, sA, sB, sC])
   | (refine tSk (by rfl) ?_; simp only [Act.put, sA, sB, sC]))
 clear uP1p1_2 uP1_27 uP1p1_1
 refine tEn ?_
 have cP1_27 := cAt (k := 27) (v := .int .i64 d.run) (HS.out.get 1 rfl) rfl
 simp only at cP1_27
 have cP1p1_1 := cAt (k := 1) (v := .int .i64 0) (HS.out.get 0 rfl) rfl
 simp only at cP1p1_1
 go_wp2_with fail
 go_ret
 exact ⟨rfl, HS.out.below⟩
theorem up1FG (h : DevH) (d : DevR) (g n f : Int) (i0 i1 : InfR) (hrn : d.run = 1) (w : World) (HD : DH w h d) (HBu : Hid (∀ W, DH W h d → Calls Tryz.prog 94 #[devV h d, .agg (rcC ⟨g, 1, false, n, f, i0, i1⟩)] W fun e w' => e = .returned (.int .i64 (DevM.busyE d ⟨g, 1, false, n, f, i0, i1⟩)) ∧ Below W.heap.size W w')) : Calls Tryz.prog 49 #[devV h d, .agg (rcC ⟨g, 1, false, n, f, i0, i1⟩)] w fun e w' => e = .returned (.int .i64 (DevM.upE d ⟨g, 1, false, n, f, i0, i1⟩)) ∧ Below w.heap.size w w' := by
 obtain ⟨E, hE⟩ : ∃ E, ChunkM.checks d.got = E := ⟨_, rfl⟩
 have HB : Hid (DevM.upE d ⟨g, 1, false, n, f, i0, i1⟩ = if E ≠ 0 then E else if d.busy = false then (if d.done ≠ 0 ∨ d.job ≠ noPat then 3 else 0) else DevM.busyE d ⟨g, 1, false, n, f, i0, i1⟩) := by
   show _ = _
   unfold DevM.upE
   rw [if_neg (by simp only; omega), hE]
 have HLi : Hid (∀ W, DH W h d → Calls Tryz.prog 93 #[.slice h.ga h.gn h.gc] W fun e w' => e = .returned (.int .i64 E) ∧ Below W.heap.size W w') := fun W x => by
   have := listC_ok _ _ _ _ W x.got
   rw [hE] at this
   exact this
 clear hE
 have k1 : (d.run != 1) = false := by simp [hrn]
 clear hrn
 unfold devV at HBu
 unfold devV
 obtain ⟨P1, hP1⟩ : ∃ P, w.heap.size = P := ⟨_, rfl⟩
 have HS := LH ((((((MS.start w).arg HD.argR).alloc (p := P1) (by simp [hP1]) (dvC h d) 37)).alloc (p := (P1 + 1)) (by simp [hP1]) (rcC ⟨g, 1, false, n, f, i0, i1⟩) 28))
 go_enter Tryz.func49, Tryz.ntmps49
 go_upto_region 1 with fail
 refine wp_gen HS.out (fun V0 HS1 => ?_)
 replace HS := LH HS1
 clear HS1 hP1
 refine rTu (S := MS w [((P1 + 1), (rcC ⟨g, 1, false, n, f, i0, i1⟩), 28), (P1, (dvC h d), 37)] [(fun W => DH W h d)] []) [(0, false), (1, false), (2, false), (3, false), (4, false), (5, false), (6, false), (7, false), (8, false), (9, false), (10, false)] false 9999 (by kernel_rfl) (by kernel_rfl) HS.out.drew ?_
 simp only [turned, gA, gB, gC]
 replace HS := LH HS.out.drew
 have uP1p1_2 : ∀ W, MS w [((P1 + 1), (rcC ⟨g, 1, false, n, f, i0, i1⟩), 28), (P1, (dvC h d), 37)] [(fun W => DH W h d)] [] W → W.cell? ⟨P1 + 1, 2, none⟩ = some (.bool false) := fun W hW => cAt (hW.get 0 rfl) rfl
 repeat (first
   | (refine tSt ?_ (by rfl) (fun W9 hW9 => ?_) ?_
      rotate_left
      · (go_simp <;> with_reducible rfl)
      simp only [Act.put, sA, sB, sC])
   | (refine tSk (by rfl) ?_; simp only [Act.put, sA, sB, sC]))
 clear uP1p1_2
 refine tEn ?_
 have cP1_27 := cAt (k := 27) (v := .int .i64 d.run) (HS.out.get 1 rfl) rfl
 simp only at cP1_27
 have cP1p1_1 := cAt (k := 1) (v := .int .i64 1) (HS.out.get 0 rfl) rfl
 simp only at cP1p1_1
 have cP1_28 := cAt (k := 28) (v := .slice h.ga h.gn h.gc) (HS.out.get 1 rfl) rfl
 simp only at cP1_28
 go_wp2_with fail
 clear cP1_27 cP1p1_1 cP1_28
 refine (HLi.out _ (HS.out.read 0 rfl)).mono ?_
 rintro e W5 ⟨rfl, hb⟩
 replace HS := LH (HS.out.later hb)
 clear hb
 by_cases e0 : E = 0
 case neg =>
   have t0 : (E != 0) = true := by simp [e0]
   have HR := LH (HB.out.trans (if_pos e0))
   go_wp2_with fail
   go_ret
   exact ⟨ret_i HR.out.symm, HS.out.below⟩
 subst e0
 replace HB := LH (HB.out.trans (if_neg (fun q => q rfl)))
 cases hbu : d.busy with
 | true =>
   rw [hbu] at HB
   replace HB := LH (HB.out.trans (if_neg (by decide)))
   have cP1_29 := cAt (k := 29) (v := .bool d.busy) (HS.out.get 1 rfl) rfl
   simp only at cP1_29
   rw [hbu] at cP1_29
   clear hbu
   have bP1 := HS.out.get 1 rfl
   simp only at bP1
   have bP1p1 := HS.out.get 0 rfl
   simp only at bP1p1
   go_wp2_with (first
     | (refine wpList_load_row rfl 37 (.tmp 2) rfl P1 rfl 37 (dvC h d) (0, 0) _ bP1 Tryz.underlying37 rfl (sDv h d) ?_)
     | (refine wpList_load_row rfl 28 (.tmp 3) rfl (P1 + 1) rfl 28 (rcC ⟨g, 1, false, n, f, i0, i1⟩) (0, 0) _ bP1p1 Tryz.underlying28 rfl (sRc ⟨g, 1, false, n, f, i0, i1⟩) ?_))
   clear cP1_29 bP1 bP1p1
   refine (HBu.out _ (HS.out.read 0 rfl)).mono ?_
   rintro e W6 ⟨rfl, hb⟩
   replace HS := LH (HS.out.later hb)
   clear hb
   go_wp2_with fail
   go_ret
   exact ⟨ret_i HB.out.symm, HS.out.below⟩
 | false =>
   rw [hbu] at HB
   replace HB := LH (HB.out.trans (if_pos rfl))
   have cP1_29 := cAt (k := 29) (v := .bool d.busy) (HS.out.get 1 rfl) rfl
   simp only at cP1_29
   rw [hbu] at cP1_29
   clear hbu
   have cP1_36 := cAt (k := 36) (v := .int .i64 d.done) (HS.out.get 1 rfl) rfl
   simp only at cP1_36
   by_cases d0 : d.done = 0
   case neg =>
     have t1 : (d.done != 0) = true := by simp [d0]
     have HR := LH (HB.out.trans (if_pos (.inl d0)))
     go_wp2_with fail
     go_ret
     exact ⟨ret_i HR.out.symm, HS.out.below⟩
   have t1 : (d.done != 0) = false := by simp [d0]
   rw [d0] at cP1_36 t1
   have cP1_30 := cAt (k := 30) (v := .int .i64 d.job.from_) (HS.out.get 1 rfl) rfl
   simp only at cP1_30
   have cP1_31 := cAt (k := 31) (v := .int .i64 d.job.to_) (HS.out.get 1 rfl) rfl
   simp only at cP1_31
   have cP1_32 := cAt (k := 32) (v := .int .i64 d.job.old) (HS.out.get 1 rfl) rfl
   simp only at cP1_32
   have cP1_33 := cAt (k := 33) (v := .int .i64 d.job.new) (HS.out.get 1 rfl) rfl
   simp only at cP1_33
   have cP1_34 := cAt (k := 34) (v := .int .i64 d.job.size) (HS.out.get 1 rfl) rfl
   simp only at cP1_34
   have cP1_35 := cAt (k := 35) (v := .slice h.oa h.on h.oc) (HS.out.get 1 rfl) rfl
   simp only at cP1_35
   go_wp2_with fail
   clear cP1_29 cP1_36 cP1_30 cP1_31 cP1_32 cP1_33 cP1_34 cP1_35
   by_cases j0 : d.job = noPat
   case pos =>
     have HSm : Hid (∀ W, DH W h d → Calls Tryz.prog 52 #[.agg #[.int .i64 d.job.from_, .int .i64 d.job.to_, .int .i64 d.job.old, .int .i64 d.job.new, .int .i64 d.job.size, .slice h.oa h.on h.oc], .agg #[.int .i64 0, .int .i64 0, .int .i64 0, .int .i64 0, .int .i64 0, .slice none 0 0]] W fun e w' => e = .returned (.bool true) ∧ Below W.heap.size W w') := fun W x => by
       have := sameP_any _ _ _ _ W x.job (noPat_pv W)
       rw [decide_eq_true j0] at this
       exact this
     have HR := LH (HB.out.trans (if_neg (fun q => q.elim (fun q => q d0) (fun q => q j0))))
     clear j0
     refine (HSm.out _ (HS.out.read 0 rfl)).mono ?_
     rintro e W7 ⟨rfl, hb⟩
     replace HS := LH (HS.out.later hb)
     clear hb
     go_wp2_with fail
     go_ret
     exact ⟨ret_i HR.out.symm, HS.out.below⟩
   have HSm : Hid (∀ W, DH W h d → Calls Tryz.prog 52 #[.agg #[.int .i64 d.job.from_, .int .i64 d.job.to_, .int .i64 d.job.old, .int .i64 d.job.new, .int .i64 d.job.size, .slice h.oa h.on h.oc], .agg #[.int .i64 0, .int .i64 0, .int .i64 0, .int .i64 0, .int .i64 0, .slice none 0 0]] W fun e w' => e = .returned (.bool false) ∧ Below W.heap.size W w') := fun W x => by
     have := sameP_any _ _ _ _ W x.job (noPat_pv W)
     rw [decide_eq_false j0] at this
     exact this
   have HR := LH (HB.out.trans (if_pos (.inr j0)))
   clear j0
   refine (HSm.out _ (HS.out.read 0 rfl)).mono ?_
   rintro e W7 ⟨rfl, hb⟩
   replace HS := LH (HS.out.later hb)
   clear hb
   go_wp2_with fail
   go_ret
   exact ⟨ret_i HR.out.symm, HS.out.below⟩
theorem up1FB (h : DevH) (d : DevR) (g n f : Int) (i0 i1 : InfR) (hrn : d.run ≠ 1) (w : World) (HD : DH w h d) : Calls Tryz.prog 49 #[devV h d, .agg (rcC ⟨g, 1, false, n, f, i0, i1⟩)] w fun e w' => e = .returned (.int .i64 2) ∧ Below w.heap.size w w' := by
 have k1 : (d.run != 1) = true := by simp [hrn]
 clear hrn
 unfold devV
 obtain ⟨P1, hP1⟩ : ∃ P, w.heap.size = P := ⟨_, rfl⟩
 have HS := LH ((((((MS.start w).arg HD.argR).alloc (p := P1) (by simp [hP1]) (dvC h d) 37)).alloc (p := (P1 + 1)) (by simp [hP1]) (rcC ⟨g, 1, false, n, f, i0, i1⟩) 28))
 go_enter Tryz.func49, Tryz.ntmps49
 go_upto_region 1 with fail
 refine wp_gen HS.out (fun V0 HS1 => ?_)
 replace HS := LH HS1
 clear HS1 hP1
 refine rTu (S := MS w [((P1 + 1), (rcC ⟨g, 1, false, n, f, i0, i1⟩), 28), (P1, (dvC h d), 37)] [(fun W => DH W h d)] []) [(0, false), (1, false), (2, false), (3, false), (4, false), (5, false), (6, false), (7, false), (8, false), (9, false), (10, false)] false 9999 (by kernel_rfl) (by kernel_rfl) HS.out.drew ?_
 simp only [turned, gA, gB, gC]
 replace HS := LH HS.out.drew
 have uP1p1_2 : ∀ W, MS w [((P1 + 1), (rcC ⟨g, 1, false, n, f, i0, i1⟩), 28), (P1, (dvC h d), 37)] [(fun W => DH W h d)] [] W → W.cell? ⟨P1 + 1, 2, none⟩ = some (.bool false) := fun W hW => cAt (hW.get 0 rfl) rfl
 repeat (first
   | (refine tSt ?_ (by rfl) (fun W9 hW9 => ?_) ?_
      rotate_left
      · (go_simp <;> with_reducible rfl)
      simp only [Act.put, sA, sB, sC])
   | (refine tSk (by rfl) ?_; simp only [Act.put, sA, sB, sC]))
 clear uP1p1_2
 refine tEn ?_
 have cP1_27 := cAt (k := 27) (v := .int .i64 d.run) (HS.out.get 1 rfl) rfl
 simp only at cP1_27
 have cP1p1_1 := cAt (k := 1) (v := .int .i64 1) (HS.out.get 0 rfl) rfl
 simp only at cP1p1_1
 go_wp2_with fail
 go_ret
 exact ⟨rfl, HS.out.below⟩
theorem up1TG (h : DevH) (d : DevR) (g n f : Int) (i0 i1 : InfR) (hrn : d.run = 0 ∨ d.run = 1) (w : World) (HD : DH w h d) (HBu : Hid (∀ W, DH W h d → Calls Tryz.prog 94 #[devV h d, .agg (rcC ⟨g, 1, true, n, f, i0, i1⟩)] W fun e w' => e = .returned (.int .i64 (DevM.busyE d ⟨g, 1, true, n, f, i0, i1⟩)) ∧ Below W.heap.size W w')) : Calls Tryz.prog 49 #[devV h d, .agg (rcC ⟨g, 1, true, n, f, i0, i1⟩)] w fun e w' => e = .returned (.int .i64 (DevM.upE d ⟨g, 1, true, n, f, i0, i1⟩)) ∧ Below w.heap.size w w' := by
 have HO : Hid (∀ W, Calls Tryz.prog 62 #[.int .i64 1] W fun e w' => e = .returned (.int .i64 0) ∧ Below W.heap.size W w') := fun W => (show Calls Tryz.prog 62 #[.int .i64 1] W fun e w' => e = .returned (.int .i64 0) ∧ W = w' by simpa using otherD_any 1 W (by decide)).mono (fun _ _ ⟨h1, h2⟩ => ⟨h1, h2 ▸ Below.refl _ _⟩)
 obtain ⟨E, hE⟩ : ∃ E, ChunkM.checks d.got = E := ⟨_, rfl⟩
 have HB : Hid (DevM.upE d ⟨g, 1, true, n, f, i0, i1⟩ = if E ≠ 0 then E else if d.busy = false then (if d.done ≠ 0 ∨ d.job ≠ noPat then 3 else 0) else DevM.busyE d ⟨g, 1, true, n, f, i0, i1⟩) := by
   show _ = _
   unfold DevM.upE
   rw [if_neg (fun q => q.elim (fun q => by omega) (fun q => by cases q.1)), hE]
 have HLi : Hid (∀ W, DH W h d → Calls Tryz.prog 93 #[.slice h.ga h.gn h.gc] W fun e w' => e = .returned (.int .i64 E) ∧ Below W.heap.size W w') := fun W x => by
   have := listC_ok _ _ _ _ W x.got
   rw [hE] at this
   exact this
 clear hE
 have HKK := LH (show d.run = 1 ∨ d.run = 0 by omega)
 clear hrn
 rcases HKK.out with hw | hw
 · skip
   unfold devV at HBu
   unfold devV
   obtain ⟨P1, hP1⟩ : ∃ P, w.heap.size = P := ⟨_, rfl⟩
   have HS := LH ((((((MS.start w).arg HD.argR).alloc (p := P1) (by simp [hP1]) (dvC h d) 37)).alloc (p := (P1 + 1)) (by simp [hP1]) (rcC ⟨g, 1, true, n, f, i0, i1⟩) 28))
   go_enter Tryz.func49, Tryz.ntmps49
   go_upto_region 1 with fail
   refine wp_gen HS.out (fun V0 HS1 => ?_)
   replace HS := LH HS1
   clear HS1 hP1
   refine rTu (S := MS w [((P1 + 1), (rcC ⟨g, 1, true, n, f, i0, i1⟩), 28), (P1, (dvC h d), 37)] [(fun W => DH W h d)] []) [(0, false), (1, false), (2, false), (3, false), (4, false), (5, false), (6, false), (7, true), (8, false), (9, false), (10, false)] false 9999 (by kernel_rfl) (by kernel_rfl) HS.out.drew ?_
   simp only [turned, gA, gB, gC]
   replace HS := LH HS.out.drew
   have uP1p1_2 : ∀ W, MS w [((P1 + 1), (rcC ⟨g, 1, true, n, f, i0, i1⟩), 28), (P1, (dvC h d), 37)] [(fun W => DH W h d)] [] W → W.cell? ⟨P1 + 1, 2, none⟩ = some (.bool true) := fun W hW => cAt (hW.get 0 rfl) rfl
   have uP1_27 : ∀ W, MS w [((P1 + 1), (rcC ⟨g, 1, true, n, f, i0, i1⟩), 28), (P1, (dvC h d), 37)] [(fun W => DH W h d)] [] W → W.cell? ⟨P1, 27, none⟩ = some (.int .i64 1) := fun W hW => by
     have := cAt (k := 27) (v := .int .i64 d.run) (hW.get 1 rfl) rfl
     rwa [hw] at this
   have uP1p1_1 : ∀ W, MS w [((P1 + 1), (rcC ⟨g, 1, true, n, f, i0, i1⟩), 28), (P1, (dvC h d), 37)] [(fun W => DH W h d)] [] W → W.cell? ⟨P1 + 1, 1, none⟩ = some (.int .i64 1) := fun W hW => cAt (hW.get 0 rfl) rfl
   repeat (first
     | (refine tSt ?_ (by rfl) (fun W9 hW9 => ?_) ?_
        rotate_left
        · (go_simp <;> with_reducible rfl)
        simp only [Act.put, sA, sB, sC])
     | (refine tSk (by rfl) ?_; simp only [Act.put, sA, sB, sC]))
   refine tCa (fun K hK => ?_)
   go_simp
   go_at_call 62
   with_reducible refine (HO.out _).mono ?_
   rintro e W1 ⟨rfl, hb⟩
   replace HS := LH (HS.out.later hb)
   clear hb
   try go_wp2_with fail
   refine hK.out _ _ HS.out ?_
   clear hK K
   try simp only [Act.put, sA, sB, sC]
   repeat (first
     | (refine tSt ?_ (by rfl) (fun W9 hW9 => ?_) ?_
        rotate_left
        · (go_simp <;> with_reducible rfl)
        simp only [Act.put, sA, sB, sC])
     | (refine tSk (by rfl) ?_; simp only [Act.put, sA, sB, sC]))
   clear uP1p1_2 uP1_27 uP1p1_1
   refine tEn ?_
   have cP1_27 := cAt (k := 27) (v := .int .i64 d.run) (HS.out.get 1 rfl) rfl
   simp only at cP1_27
   rw [hw] at cP1_27
   clear hw
   have cP1p1_1 := cAt (k := 1) (v := .int .i64 1) (HS.out.get 0 rfl) rfl
   simp only at cP1p1_1
   have cP1_28 := cAt (k := 28) (v := .slice h.ga h.gn h.gc) (HS.out.get 1 rfl) rfl
   simp only at cP1_28
   go_wp2_with fail
   clear cP1_27 cP1p1_1 cP1_28
   refine (HLi.out _ (HS.out.read 0 rfl)).mono ?_
   rintro e W5 ⟨rfl, hb⟩
   replace HS := LH (HS.out.later hb)
   clear hb
   by_cases e0 : E = 0
   case neg =>
     have t0 : (E != 0) = true := by simp [e0]
     have HR := LH (HB.out.trans (if_pos e0))
     go_wp2_with fail
     go_ret
     exact ⟨ret_i HR.out.symm, HS.out.below⟩
   subst e0
   replace HB := LH (HB.out.trans (if_neg (fun q => q rfl)))
   cases hbu : d.busy with
   | true =>
     rw [hbu] at HB
     replace HB := LH (HB.out.trans (if_neg (by decide)))
     have cP1_29 := cAt (k := 29) (v := .bool d.busy) (HS.out.get 1 rfl) rfl
     simp only at cP1_29
     rw [hbu] at cP1_29
     clear hbu
     have bP1 := HS.out.get 1 rfl
     simp only at bP1
     have bP1p1 := HS.out.get 0 rfl
     simp only at bP1p1
     go_wp2_with (first
       | (refine wpList_load_row rfl 37 (.tmp 2) rfl P1 rfl 37 (dvC h d) (0, 0) _ bP1 Tryz.underlying37 rfl (sDv h d) ?_)
       | (refine wpList_load_row rfl 28 (.tmp 3) rfl (P1 + 1) rfl 28 (rcC ⟨g, 1, true, n, f, i0, i1⟩) (0, 0) _ bP1p1 Tryz.underlying28 rfl (sRc ⟨g, 1, true, n, f, i0, i1⟩) ?_))
     clear cP1_29 bP1 bP1p1
     refine (HBu.out _ (HS.out.read 0 rfl)).mono ?_
     rintro e W6 ⟨rfl, hb⟩
     replace HS := LH (HS.out.later hb)
     clear hb
     go_wp2_with fail
     go_ret
     exact ⟨ret_i HB.out.symm, HS.out.below⟩
   | false =>
     rw [hbu] at HB
     replace HB := LH (HB.out.trans (if_pos rfl))
     have cP1_29 := cAt (k := 29) (v := .bool d.busy) (HS.out.get 1 rfl) rfl
     simp only at cP1_29
     rw [hbu] at cP1_29
     clear hbu
     have cP1_36 := cAt (k := 36) (v := .int .i64 d.done) (HS.out.get 1 rfl) rfl
     simp only at cP1_36
     by_cases d0 : d.done = 0
     case neg =>
       have t1 : (d.done != 0) = true := by simp [d0]
       have HR := LH (HB.out.trans (if_pos (.inl d0)))
       go_wp2_with fail
       go_ret
       exact ⟨ret_i HR.out.symm, HS.out.below⟩
     have t1 : (d.done != 0) = false := by simp [d0]
     rw [d0] at cP1_36 t1
     have cP1_30 := cAt (k := 30) (v := .int .i64 d.job.from_) (HS.out.get 1 rfl) rfl
     simp only at cP1_30
     have cP1_31 := cAt (k := 31) (v := .int .i64 d.job.to_) (HS.out.get 1 rfl) rfl
     simp only at cP1_31
     have cP1_32 := cAt (k := 32) (v := .int .i64 d.job.old) (HS.out.get 1 rfl) rfl
     simp only at cP1_32
     have cP1_33 := cAt (k := 33) (v := .int .i64 d.job.new) (HS.out.get 1 rfl) rfl
     simp only at cP1_33
     have cP1_34 := cAt (k := 34) (v := .int .i64 d.job.size) (HS.out.get 1 rfl) rfl
     simp only at cP1_34
     have cP1_35 := cAt (k := 35) (v := .slice h.oa h.on h.oc) (HS.out.get 1 rfl) rfl
     simp only at cP1_35
     go_wp2_with fail
     clear cP1_29 cP1_36 cP1_30 cP1_31 cP1_32 cP1_33 cP1_34 cP1_35
     by_cases j0 : d.job = noPat
     case pos =>
       have HSm : Hid (∀ W, DH W h d → Calls Tryz.prog 52 #[.agg #[.int .i64 d.job.from_, .int .i64 d.job.to_, .int .i64 d.job.old, .int .i64 d.job.new, .int .i64 d.job.size, .slice h.oa h.on h.oc], .agg #[.int .i64 0, .int .i64 0, .int .i64 0, .int .i64 0, .int .i64 0, .slice none 0 0]] W fun e w' => e = .returned (.bool true) ∧ Below W.heap.size W w') := fun W x => by
         have := sameP_any _ _ _ _ W x.job (noPat_pv W)
         rw [decide_eq_true j0] at this
         exact this
       have HR := LH (HB.out.trans (if_neg (fun q => q.elim (fun q => q d0) (fun q => q j0))))
       clear j0
       refine (HSm.out _ (HS.out.read 0 rfl)).mono ?_
       rintro e W7 ⟨rfl, hb⟩
       replace HS := LH (HS.out.later hb)
       clear hb
       go_wp2_with fail
       go_ret
       exact ⟨ret_i HR.out.symm, HS.out.below⟩
     have HSm : Hid (∀ W, DH W h d → Calls Tryz.prog 52 #[.agg #[.int .i64 d.job.from_, .int .i64 d.job.to_, .int .i64 d.job.old, .int .i64 d.job.new, .int .i64 d.job.size, .slice h.oa h.on h.oc], .agg #[.int .i64 0, .int .i64 0, .int .i64 0, .int .i64 0, .int .i64 0, .slice none 0 0]] W fun e w' => e = .returned (.bool false) ∧ Below W.heap.size W w') := fun W x => by
       have := sameP_any _ _ _ _ W x.job (noPat_pv W)
       rw [decide_eq_false j0] at this
       exact this
     have HR := LH (HB.out.trans (if_pos (.inr j0)))
     clear j0
     refine (HSm.out _ (HS.out.read 0 rfl)).mono ?_
     rintro e W7 ⟨rfl, hb⟩
     replace HS := LH (HS.out.later hb)
     clear hb
     go_wp2_with fail
     go_ret
     exact ⟨ret_i HR.out.symm, HS.out.below⟩
 · skip
   unfold devV at HBu
   unfold devV
   obtain ⟨P1, hP1⟩ : ∃ P, w.heap.size = P := ⟨_, rfl⟩
   have HS := LH ((((((MS.start w).arg HD.argR).alloc (p := P1) (by simp [hP1]) (dvC h d) 37)).alloc (p := (P1 + 1)) (by simp [hP1]) (rcC ⟨g, 1, true, n, f, i0, i1⟩) 28))
   go_enter Tryz.func49, Tryz.ntmps49
   go_upto_region 1 with fail
   refine wp_gen HS.out (fun V0 HS1 => ?_)
   replace HS := LH HS1
   clear HS1 hP1
   refine rTu (S := MS w [((P1 + 1), (rcC ⟨g, 1, true, n, f, i0, i1⟩), 28), (P1, (dvC h d), 37)] [(fun W => DH W h d)] []) [(0, false), (1, false), (2, false), (3, false), (4, false), (5, false), (6, false), (7, true), (8, false), (9, false), (10, false)] false 9999 (by kernel_rfl) (by kernel_rfl) HS.out.drew ?_
   simp only [turned, gA, gB, gC]
   replace HS := LH HS.out.drew
   have uP1p1_2 : ∀ W, MS w [((P1 + 1), (rcC ⟨g, 1, true, n, f, i0, i1⟩), 28), (P1, (dvC h d), 37)] [(fun W => DH W h d)] [] W → W.cell? ⟨P1 + 1, 2, none⟩ = some (.bool true) := fun W hW => cAt (hW.get 0 rfl) rfl
   have uP1_27 : ∀ W, MS w [((P1 + 1), (rcC ⟨g, 1, true, n, f, i0, i1⟩), 28), (P1, (dvC h d), 37)] [(fun W => DH W h d)] [] W → W.cell? ⟨P1, 27, none⟩ = some (.int .i64 0) := fun W hW => by
     have := cAt (k := 27) (v := .int .i64 d.run) (hW.get 1 rfl) rfl
     rwa [hw] at this
   have uP1p1_1 : ∀ W, MS w [((P1 + 1), (rcC ⟨g, 1, true, n, f, i0, i1⟩), 28), (P1, (dvC h d), 37)] [(fun W => DH W h d)] [] W → W.cell? ⟨P1 + 1, 1, none⟩ = some (.int .i64 1) := fun W hW => cAt (hW.get 0 rfl) rfl
   repeat (first
     | (refine tSt ?_ (by rfl) (fun W9 hW9 => ?_) ?_
        rotate_left
        · (go_simp <;> with_reducible rfl)
        simp only [Act.put, sA, sB, sC])
     | (refine tSk (by rfl) ?_; simp only [Act.put, sA, sB, sC]))
   refine tCa (fun K hK => ?_)
   go_simp
   go_at_call 62
   with_reducible refine (HO.out _).mono ?_
   rintro e W1 ⟨rfl, hb⟩
   replace HS := LH (HS.out.later hb)
   clear hb
   try go_wp2_with fail
   refine hK.out _ _ HS.out ?_
   clear hK K
   try simp only [Act.put, sA, sB, sC]
   repeat (first
     | (refine tSt ?_ (by rfl) (fun W9 hW9 => ?_) ?_
        rotate_left
        · (go_simp <;> with_reducible rfl)
        simp only [Act.put, sA, sB, sC])
     | (refine tSk (by rfl) ?_; simp only [Act.put, sA, sB, sC]))
   clear uP1p1_2 uP1_27 uP1p1_1
   refine tEn ?_
   have cP1_27 := cAt (k := 27) (v := .int .i64 d.run) (HS.out.get 1 rfl) rfl
   simp only at cP1_27
   rw [hw] at cP1_27
   clear hw
   have cP1p1_1 := cAt (k := 1) (v := .int .i64 1) (HS.out.get 0 rfl) rfl
   simp only at cP1p1_1
   have cP1_28 := cAt (k := 28) (v := .slice h.ga h.gn h.gc) (HS.out.get 1 rfl) rfl
   simp only at cP1_28
   go_wp2_with fail
   clear cP1_27 cP1p1_1 cP1_28
   refine (HLi.out _ (HS.out.read 0 rfl)).mono ?_
   rintro e W5 ⟨rfl, hb⟩
   replace HS := LH (HS.out.later hb)
   clear hb
   by_cases e0 : E = 0
   case neg =>
     have t0 : (E != 0) = true := by simp [e0]
     have HR := LH (HB.out.trans (if_pos e0))
     go_wp2_with fail
     go_ret
     exact ⟨ret_i HR.out.symm, HS.out.below⟩
   subst e0
   replace HB := LH (HB.out.trans (if_neg (fun q => q rfl)))
   cases hbu : d.busy with
   | true =>
     rw [hbu] at HB
     replace HB := LH (HB.out.trans (if_neg (by decide)))
     have cP1_29 := cAt (k := 29) (v := .bool d.busy) (HS.out.get 1 rfl) rfl
     simp only at cP1_29
     rw [hbu] at cP1_29
     clear hbu
     have bP1 := HS.out.get 1 rfl
     simp only at bP1
     have bP1p1 := HS.out.get 0 rfl
     simp only at bP1p1
     go_wp2_with (first
       | (refine wpList_load_row rfl 37 (.tmp 2) rfl P1 rfl 37 (dvC h d) (0, 0) _ bP1 Tryz.underlying37 rfl (sDv h d) ?_)
       | (refine wpList_load_row rfl 28 (.tmp 3) rfl (P1 + 1) rfl 28 (rcC ⟨g, 1, true, n, f, i0, i1⟩) (0, 0) _ bP1p1 Tryz.underlying28 rfl (sRc ⟨g, 1, true, n, f, i0, i1⟩) ?_))
     clear cP1_29 bP1 bP1p1
     refine (HBu.out _ (HS.out.read 0 rfl)).mono ?_
     rintro e W6 ⟨rfl, hb⟩
     replace HS := LH (HS.out.later hb)
     clear hb
     go_wp2_with fail
     go_ret
     exact ⟨ret_i HB.out.symm, HS.out.below⟩
   | false =>
     rw [hbu] at HB
     replace HB := LH (HB.out.trans (if_pos rfl))
     have cP1_29 := cAt (k := 29) (v := .bool d.busy) (HS.out.get 1 rfl) rfl
     simp only at cP1_29
     rw [hbu] at cP1_29
     clear hbu
     have cP1_36 := cAt (k := 36) (v := .int .i64 d.done) (HS.out.get 1 rfl) rfl
     simp only at cP1_36
     by_cases d0 : d.done = 0
     case neg =>
       have t1 : (d.done != 0) = true := by simp [d0]
       have HR := LH (HB.out.trans (if_pos (.inl d0)))
       go_wp2_with fail
       go_ret
       exact ⟨ret_i HR.out.symm, HS.out.below⟩
     have t1 : (d.done != 0) = false := by simp [d0]
     rw [d0] at cP1_36 t1
     have cP1_30 := cAt (k := 30) (v := .int .i64 d.job.from_) (HS.out.get 1 rfl) rfl
     simp only at cP1_30
     have cP1_31 := cAt (k := 31) (v := .int .i64 d.job.to_) (HS.out.get 1 rfl) rfl
     simp only at cP1_31
     have cP1_32 := cAt (k := 32) (v := .int .i64 d.job.old) (HS.out.get 1 rfl) rfl
     simp only at cP1_32
     have cP1_33 := cAt (k := 33) (v := .int .i64 d.job.new) (HS.out.get 1 rfl) rfl
     simp only at cP1_33
     have cP1_34 := cAt (k := 34) (v := .int .i64 d.job.size) (HS.out.get 1 rfl) rfl
     simp only at cP1_34
     have cP1_35 := cAt (k := 35) (v := .slice h.oa h.on h.oc) (HS.out.get 1 rfl) rfl
     simp only at cP1_35
     go_wp2_with fail
     clear cP1_29 cP1_36 cP1_30 cP1_31 cP1_32 cP1_33 cP1_34 cP1_35
     by_cases j0 : d.job = noPat
     case pos =>
       have HSm : Hid (∀ W, DH W h d → Calls Tryz.prog 52 #[.agg #[.int .i64 d.job.from_, .int .i64 d.job.to_, .int .i64 d.job.old, .int .i64 d.job.new, .int .i64 d.job.size, .slice h.oa h.on h.oc], .agg #[.int .i64 0, .int .i64 0, .int .i64 0, .int .i64 0, .int .i64 0, .slice none 0 0]] W fun e w' => e = .returned (.bool true) ∧ Below W.heap.size W w') := fun W x => by
         have := sameP_any _ _ _ _ W x.job (noPat_pv W)
         rw [decide_eq_true j0] at this
         exact this
       have HR := LH (HB.out.trans (if_neg (fun q => q.elim (fun q => q d0) (fun q => q j0))))
       clear j0
       refine (HSm.out _ (HS.out.read 0 rfl)).mono ?_
       rintro e W7 ⟨rfl, hb⟩
       replace HS := LH (HS.out.later hb)
       clear hb
       go_wp2_with fail
       go_ret
       exact ⟨ret_i HR.out.symm, HS.out.below⟩
     have HSm : Hid (∀ W, DH W h d → Calls Tryz.prog 52 #[.agg #[.int .i64 d.job.from_, .int .i64 d.job.to_, .int .i64 d.job.old, .int .i64 d.job.new, .int .i64 d.job.size, .slice h.oa h.on h.oc], .agg #[.int .i64 0, .int .i64 0, .int .i64 0, .int .i64 0, .int .i64 0, .slice none 0 0]] W fun e w' => e = .returned (.bool false) ∧ Below W.heap.size W w') := fun W x => by
       have := sameP_any _ _ _ _ W x.job (noPat_pv W)
       rw [decide_eq_false j0] at this
       exact this
     have HR := LH (HB.out.trans (if_pos (.inr j0)))
     clear j0
     refine (HSm.out _ (HS.out.read 0 rfl)).mono ?_
     rintro e W7 ⟨rfl, hb⟩
     replace HS := LH (HS.out.later hb)
     clear hb
     go_wp2_with fail
     go_ret
     exact ⟨ret_i HR.out.symm, HS.out.below⟩
theorem up1TB (h : DevH) (d : DevR) (g n f : Int) (i0 i1 : InfR) (hrn : d.run ≠ 1) (hro : d.run ≠ 0) (w : World) (HD : DH w h d) : Calls Tryz.prog 49 #[devV h d, .agg (rcC ⟨g, 1, true, n, f, i0, i1⟩)] w fun e w' => e = .returned (.int .i64 2) ∧ Below w.heap.size w w' := by
 have HO : Hid (∀ W, Calls Tryz.prog 62 #[.int .i64 1] W fun e w' => e = .returned (.int .i64 0) ∧ Below W.heap.size W w') := fun W => (show Calls Tryz.prog 62 #[.int .i64 1] W fun e w' => e = .returned (.int .i64 0) ∧ W = w' by simpa using otherD_any 1 W (by decide)).mono (fun _ _ ⟨h1, h2⟩ => ⟨h1, h2 ▸ Below.refl _ _⟩)
 have k1 : (d.run != 1) = true := by simp [hrn]
 have k2 : (d.run == 0) = false := by simp [hro]
 clear hrn hro
 unfold devV
 obtain ⟨P1, hP1⟩ : ∃ P, w.heap.size = P := ⟨_, rfl⟩
 have HS := LH ((((((MS.start w).arg HD.argR).alloc (p := P1) (by simp [hP1]) (dvC h d) 37)).alloc (p := (P1 + 1)) (by simp [hP1]) (rcC ⟨g, 1, true, n, f, i0, i1⟩) 28))
 go_enter Tryz.func49, Tryz.ntmps49
 go_upto_region 1 with fail
 refine wp_gen HS.out (fun V0 HS1 => ?_)
 replace HS := LH HS1
 clear HS1 hP1
 refine rTu (S := MS w [((P1 + 1), (rcC ⟨g, 1, true, n, f, i0, i1⟩), 28), (P1, (dvC h d), 37)] [(fun W => DH W h d)] []) [(0, false), (1, false), (2, false), (3, false), (4, false), (5, false), (6, false), (7, true), (8, false), (9, false), (10, false)] false 9999 (by kernel_rfl) (by kernel_rfl) HS.out.drew ?_
 simp only [turned, gA, gB, gC]
 replace HS := LH HS.out.drew
 have uP1p1_2 : ∀ W, MS w [((P1 + 1), (rcC ⟨g, 1, true, n, f, i0, i1⟩), 28), (P1, (dvC h d), 37)] [(fun W => DH W h d)] [] W → W.cell? ⟨P1 + 1, 2, none⟩ = some (.bool true) := fun W hW => cAt (hW.get 0 rfl) rfl
 have uP1_27 : ∀ W, MS w [((P1 + 1), (rcC ⟨g, 1, true, n, f, i0, i1⟩), 28), (P1, (dvC h d), 37)] [(fun W => DH W h d)] [] W → W.cell? ⟨P1, 27, none⟩ = some (.int .i64 d.run) := fun W hW => cAt (hW.get 1 rfl) rfl
 have uP1p1_1 : ∀ W, MS w [((P1 + 1), (rcC ⟨g, 1, true, n, f, i0, i1⟩), 28), (P1, (dvC h d), 37)] [(fun W => DH W h d)] [] W → W.cell? ⟨P1 + 1, 1, none⟩ = some (.int .i64 1) := fun W hW => cAt (hW.get 0 rfl) rfl
 repeat (first
   | (refine tSt ?_ (by rfl) (fun W9 hW9 => ?_) ?_
      rotate_left
      · (go_simp <;> with_reducible rfl)
      simp only [Act.put, sA, sB, sC])
   | (refine tSk (by rfl) ?_; simp only [Act.put, sA, sB, sC]))
 refine tCa (fun K hK => ?_)
 go_simp
 go_at_call 62
 with_reducible refine (HO.out _).mono ?_
 rintro e W1 ⟨rfl, hb⟩
 replace HS := LH (HS.out.later hb)
 clear hb
 try go_wp2_with fail
 refine hK.out _ _ HS.out ?_
 clear hK K
 try simp only [Act.put, sA, sB, sC]
 repeat (first
   | (refine tSt ?_ (by rfl) (fun W9 hW9 => ?_) ?_
      rotate_left
      · (go_simp <;> with_reducible rfl)
      simp only [Act.put, sA, sB, sC])
   | (refine tSk (by rfl) ?_; simp only [Act.put, sA, sB, sC]))
 clear uP1p1_2 uP1_27 uP1p1_1
 refine tEn ?_
 have cP1_27 := cAt (k := 27) (v := .int .i64 d.run) (HS.out.get 1 rfl) rfl
 simp only at cP1_27
 have cP1p1_1 := cAt (k := 1) (v := .int .i64 1) (HS.out.get 0 rfl) rfl
 simp only at cP1p1_1
 go_wp2_with fail
 go_ret
 exact ⟨rfl, HS.out.below⟩
theorem checkUpD_any (h : DevH) (d : DevR) (r : RecR) (w : World) (HD : DH w h d) (hr : RecM.check r = 0) (l0 : d.s0.length = 64) (l1 : d.s1.length = 64) :
   Calls Tryz.prog 49 #[devV h d, .agg (rcC r)] w fun e w' => e = .returned (.int .i64 (DevM.upE d r)) ∧ Below w.heap.size w w' := by
 have ha := (RecM.check_nums hr).2.1
 have HBu := LH (fun W x => checkBusyD_any h d r W x hr l0 l1)
 obtain ⟨g, a, tr, n, f, i0, i1⟩ := r
 simp only at ha
 clear hr
 rcases ha with rfl | rfl
 · cases tr with
   | false =>
     by_cases h1 : d.run = 0
     · exact up0FG h d g n f i0 i1 h1 w HD HBu
     · rw [show DevM.upE d ⟨g, 0, false, n, f, i0, i1⟩ = 2 from if_pos (.inr ⟨rfl, h1⟩)]
       exact up0FB h d g n f i0 i1 h1 w HD
   | true =>
     by_cases h1 : d.run = 0 ∨ d.run = 1
     · exact up0TG h d g n f i0 i1 h1 w HD HBu
     · rw [show DevM.upE d ⟨g, 0, true, n, f, i0, i1⟩ = 2 from if_pos (.inl (by omega))]
       exact up0TB h d g n f i0 i1 (by omega) (by omega) w HD
 · cases tr with
   | false =>
     by_cases h1 : d.run = 1
     · exact up1FG h d g n f i0 i1 h1 w HD HBu
     · rw [show DevM.upE d ⟨g, 1, false, n, f, i0, i1⟩ = 2 from if_pos (.inr ⟨rfl, h1⟩)]
       exact up1FB h d g n f i0 i1 h1 w HD
   | true =>
     by_cases h1 : d.run = 0 ∨ d.run = 1
     · exact up1TG h d g n f i0 i1 h1 w HD HBu
     · rw [show DevM.upE d ⟨g, 1, true, n, f, i0, i1⟩ = 2 from if_pos (.inl (by omega))]
       exact up1TB h d g n f i0 i1 (by omega) (by omega) w HD
theorem cops_eql (a b : CopsR) (w : World) : (binOp .eql 31 (.agg (cpC a)) (.agg (cpC b))).run Tryz.prog w = .ok (.bool (decide (a = b))) w := by
 have h := cops_equal 9994 a b w
 unfold copsV at h
 rw [run_eql_struct, h]
 rfl
theorem DH.jobV {w : World} {h : DevH} {d : DevR} (x : DH w h d) : PV w (.agg (jbC h.oa h.on h.oc d.job)) d.job := x.job
theorem same0 (h h' : DevH) (d d' : DevR) (w : World) (HD : DH w h d) (HD' : DH w h' d') (h0 : d.s0 ≠ d'.s0) : Calls Tryz.prog 11 #[devV h d, devV h' d'] w fun e w' => e = .returned (.bool false) ∧ Below w.heap.size w w' := by
 unfold devV
 have HE0 : Hid (∀ W, DH W h d → DH W h' d' → Calls Tryz.prog 27 #[.slice h.a0 h.n0 h.c0, .slice h'.a0 h'.n0 h'.c0] W fun e w' => e = .returned (.bool false) ∧ W = w') := fun W x y => by
   have := eqB _ _ _ _ _ _ _ _ W x.b0 y.b0
   rw [decide_eq_false h0] at this
   exact this
 clear h0
 obtain ⟨P1, hP1⟩ : ∃ P, w.heap.size = P := ⟨_, rfl⟩
 have HS := LH (((((((MS.start w).arg HD.argR).arg HD'.argR).alloc (p := P1) (by simp [hP1]) (dvC h d) 37)).alloc (p := (P1 + 1)) (by simp [hP1]) (dvC h' d') 37))
 go_enter Tryz.func11, Tryz.ntmps11
 go_upto_region 1 with fail
 refine wp_gen HS.out (fun V0 HS1 => ?_)
 replace HS := LH HS1
 clear HS1 hP1
 go_wp2_with fail
 go_loopw [6] (fun i wr => ∃ k : Nat, i = .int .i64 k ∧ k ≤ 0 ∧ MS w [((P1 + 1), dvC h' d', 37), (P1, dvC h d, 37)] [fun W => DH W h' d', fun W => DH W h d] [] wr) (fun i _ => 2 - (intOf i).toNat)
 case atStart => exact ⟨0, rfl, by omega, HS.out⟩
 case round =>
   obtain ⟨k, rfl, hk, hs⟩ := hrel
   replace HS := LH hs
   clear hs
   rcases (by omega : k = 0) with rfl
   · skip
     have HQ : Hid (∀ m, Calls Tryz.prog 27 #[.slice h.a0 h.n0 h.c0, .slice h'.a0 h'.n0 h'.c0] (wr.drewN m) fun e w' => e = .returned (.bool false) ∧ wr.drewN m = w') := fun m => HE0.out _ ((HS.out.drewN m).read 1 rfl) ((HS.out.drewN m).read 0 rfl)
     have cP1_0 := cAt (k := 0) (v := .slice h.a0 h.n0 h.c0) (HS.out.get 1 rfl) rfl
     simp only at cP1_0
     have cP1p1_0 := cAt (k := 0) (v := .slice h'.a0 h'.n0 h'.c0) (HS.out.get 0 rfl) rfl
     simp only at cP1p1_0
     go_wp2_with fail
     go_quiet (exact quiet_eq (HQ.out _))
     have HS9 := LH (HS.out.drewN nq)
     go_wp2_with fail
     go_ret
     exact ⟨rfl, HS9.out.below⟩
theorem same1 (h h' : DevH) (d d' : DevR) (w : World) (HD : DH w h d) (HD' : DH w h' d') (h0 : d.s0 = d'.s0) (h1 : d.s1 ≠ d'.s1) : Calls Tryz.prog 11 #[devV h d, devV h' d'] w fun e w' => e = .returned (.bool false) ∧ Below w.heap.size w w' := by
 unfold devV
 have HE0 : Hid (∀ W, DH W h d → DH W h' d' → Calls Tryz.prog 27 #[.slice h.a0 h.n0 h.c0, .slice h'.a0 h'.n0 h'.c0] W fun e w' => e = .returned (.bool true) ∧ W = w') := fun W x y => by
   have := eqB _ _ _ _ _ _ _ _ W x.b0 y.b0
   rw [decide_eq_true h0] at this
   exact this
 have HE1 : Hid (∀ W, DH W h d → DH W h' d' → Calls Tryz.prog 27 #[.slice h.a1 h.n1 h.c1, .slice h'.a1 h'.n1 h'.c1] W fun e w' => e = .returned (.bool false) ∧ W = w') := fun W x y => by
   have := eqB _ _ _ _ _ _ _ _ W x.b1 y.b1
   rw [decide_eq_false h1] at this
   exact this
 clear h0 h1
 obtain ⟨P1, hP1⟩ : ∃ P, w.heap.size = P := ⟨_, rfl⟩
 have HS := LH (((((((MS.start w).arg HD.argR).arg HD'.argR).alloc (p := P1) (by simp [hP1]) (dvC h d) 37)).alloc (p := (P1 + 1)) (by simp [hP1]) (dvC h' d') 37))
 go_enter Tryz.func11, Tryz.ntmps11
 go_upto_region 1 with fail
 refine wp_gen HS.out (fun V0 HS1 => ?_)
 replace HS := LH HS1
 clear HS1 hP1
 go_wp2_with fail
 go_loopw [6] (fun i wr => ∃ k : Nat, i = .int .i64 k ∧ k ≤ 1 ∧ MS w [((P1 + 1), dvC h' d', 37), (P1, dvC h d, 37)] [fun W => DH W h' d', fun W => DH W h d] [] wr) (fun i _ => 2 - (intOf i).toNat)
 case atStart => exact ⟨0, rfl, by omega, HS.out⟩
 case round =>
   obtain ⟨k, rfl, hk, hs⟩ := hrel
   replace HS := LH hs
   clear hs
   rcases (by omega : k = 0 ∨ k = 1) with rfl | rfl
   · skip
     have HQ : Hid (∀ m, Calls Tryz.prog 27 #[.slice h.a0 h.n0 h.c0, .slice h'.a0 h'.n0 h'.c0] (wr.drewN m) fun e w' => e = .returned (.bool true) ∧ wr.drewN m = w') := fun m => HE0.out _ ((HS.out.drewN m).read 1 rfl) ((HS.out.drewN m).read 0 rfl)
     have cP1_0 := cAt (k := 0) (v := .slice h.a0 h.n0 h.c0) (HS.out.get 1 rfl) rfl
     simp only at cP1_0
     have cP1p1_0 := cAt (k := 0) (v := .slice h'.a0 h'.n0 h'.c0) (HS.out.get 0 rfl) rfl
     simp only at cP1p1_0
     go_wp2_with fail
     go_quiet (exact quiet_eq (HQ.out _))
     have HS9 := LH (HS.out.drewN nq)
     go_wp2_with fail
     go_roundw
     case rel => exact ⟨1, by go_num, by omega, HS9.out⟩
     case measure => simp [intOf]
   · skip
     have HQ : Hid (∀ m, Calls Tryz.prog 27 #[.slice h.a1 h.n1 h.c1, .slice h'.a1 h'.n1 h'.c1] (wr.drewN m) fun e w' => e = .returned (.bool false) ∧ wr.drewN m = w') := fun m => HE1.out _ ((HS.out.drewN m).read 1 rfl) ((HS.out.drewN m).read 0 rfl)
     have cP1_1 := cAt (k := 1) (v := .slice h.a1 h.n1 h.c1) (HS.out.get 1 rfl) rfl
     simp only at cP1_1
     have cP1p1_1 := cAt (k := 1) (v := .slice h'.a1 h'.n1 h'.c1) (HS.out.get 0 rfl) rfl
     simp only at cP1p1_1
     go_wp2_with fail
     go_quiet (exact quiet_eq (HQ.out _))
     have HS9 := LH (HS.out.drewN nq)
     go_wp2_with fail
     go_ret
     exact ⟨rfl, HS9.out.below⟩
theorem same2 (h h' : DevH) (d d' : DevR) (w : World) (HD : DH w h d) (HD' : DH w h' d') (h0 : d.s0 = d'.s0) (h1 : d.s1 = d'.s1) (h2 : d.c ≠ d'.c) : Calls Tryz.prog 11 #[devV h d, devV h' d'] w fun e w' => e = .returned (.bool false) ∧ Below w.heap.size w w' := by
 unfold devV
 have HE0 : Hid (∀ W, DH W h d → DH W h' d' → Calls Tryz.prog 27 #[.slice h.a0 h.n0 h.c0, .slice h'.a0 h'.n0 h'.c0] W fun e w' => e = .returned (.bool true) ∧ W = w') := fun W x y => by
   have := eqB _ _ _ _ _ _ _ _ W x.b0 y.b0
   rw [decide_eq_true h0] at this
   exact this
 have HE1 : Hid (∀ W, DH W h d → DH W h' d' → Calls Tryz.prog 27 #[.slice h.a1 h.n1 h.c1, .slice h'.a1 h'.n1 h'.c1] W fun e w' => e = .returned (.bool true) ∧ W = w') := fun W x y => by
   have := eqB _ _ _ _ _ _ _ _ W x.b1 y.b1
   rw [decide_eq_true h1] at this
   exact this
 have q2 : ∀ W, (binOp .eql 31 (.agg (cpC d.c)) (.agg (cpC d'.c))).run Tryz.prog W = .ok (.bool false) W := fun W => by
   rw [cops_eql, decide_eq_false h2]
 clear h0 h1 h2
 obtain ⟨P1, hP1⟩ : ∃ P, w.heap.size = P := ⟨_, rfl⟩
 have HS := LH (((((((MS.start w).arg HD.argR).arg HD'.argR).alloc (p := P1) (by simp [hP1]) (dvC h d) 37)).alloc (p := (P1 + 1)) (by simp [hP1]) (dvC h' d') 37))
 go_enter Tryz.func11, Tryz.ntmps11
 go_upto_region 1 with fail
 refine wp_gen HS.out (fun V0 HS1 => ?_)
 replace HS := LH HS1
 clear HS1 hP1
 go_wp2_with fail
 go_loopw [6] (fun i wr => ∃ k : Nat, i = .int .i64 k ∧ k ≤ 2 ∧ MS w [((P1 + 1), dvC h' d', 37), (P1, dvC h d, 37)] [fun W => DH W h' d', fun W => DH W h d] [] wr) (fun i _ => 2 - (intOf i).toNat)
 case atStart => exact ⟨0, rfl, by omega, HS.out⟩
 case round =>
   obtain ⟨k, rfl, hk, hs⟩ := hrel
   replace HS := LH hs
   clear hs
   rcases (by omega : k = 0 ∨ k = 1 ∨ k = 2) with rfl | rfl | rfl
   · skip
     have HQ : Hid (∀ m, Calls Tryz.prog 27 #[.slice h.a0 h.n0 h.c0, .slice h'.a0 h'.n0 h'.c0] (wr.drewN m) fun e w' => e = .returned (.bool true) ∧ wr.drewN m = w') := fun m => HE0.out _ ((HS.out.drewN m).read 1 rfl) ((HS.out.drewN m).read 0 rfl)
     have cP1_0 := cAt (k := 0) (v := .slice h.a0 h.n0 h.c0) (HS.out.get 1 rfl) rfl
     simp only at cP1_0
     have cP1p1_0 := cAt (k := 0) (v := .slice h'.a0 h'.n0 h'.c0) (HS.out.get 0 rfl) rfl
     simp only at cP1p1_0
     go_wp2_with fail
     go_quiet (exact quiet_eq (HQ.out _))
     have HS9 := LH (HS.out.drewN nq)
     go_wp2_with fail
     go_roundw
     case rel => exact ⟨1, by go_num, by omega, HS9.out⟩
     case measure => simp [intOf]
   · skip
     have HQ : Hid (∀ m, Calls Tryz.prog 27 #[.slice h.a1 h.n1 h.c1, .slice h'.a1 h'.n1 h'.c1] (wr.drewN m) fun e w' => e = .returned (.bool true) ∧ wr.drewN m = w') := fun m => HE1.out _ ((HS.out.drewN m).read 1 rfl) ((HS.out.drewN m).read 0 rfl)
     have cP1_1 := cAt (k := 1) (v := .slice h.a1 h.n1 h.c1) (HS.out.get 1 rfl) rfl
     simp only at cP1_1
     have cP1p1_1 := cAt (k := 1) (v := .slice h'.a1 h'.n1 h'.c1) (HS.out.get 0 rfl) rfl
     simp only at cP1p1_1
     go_wp2_with fail
     go_quiet (exact quiet_eq (HQ.out _))
     have HS9 := LH (HS.out.drewN nq)
     go_wp2_with fail
     go_roundw
     case rel => exact ⟨2, by go_num, by omega, HS9.out⟩
     case measure => simp [intOf]
   · skip
     have bP1 := HS.out.get 1 rfl
     simp only at bP1
     have bP1p1 := HS.out.get 0 rfl
     simp only at bP1p1
     go_wp2_with (first
       | (refine wLP rfl 31 (.tmp 20) rfl P1 2 rfl (dvC h d) 37 (0, 0) bP1 (cpC d.c) (part_cops h d) _ Tryz.underlying31 rfl (sCp d.c) ?_)
       | (refine wLP rfl 31 (.tmp 22) rfl (P1 + 1) 2 rfl (dvC h' d') 37 (0, 0) bP1p1 (cpC d'.c) (part_cops h' d') _ Tryz.underlying31 rfl (sCp d'.c) ?_))
     clear bP1 bP1p1
     go_ret
     exact ⟨rfl, HS.out.below⟩
theorem same3 (h h' : DevH) (d d' : DevR) (w : World) (HD : DH w h d) (HD' : DH w h' d') (h0 : d.s0 = d'.s0) (h1 : d.s1 = d'.s1) (h2 : d.c = d'.c) (h3 : d.up ≠ d'.up) : Calls Tryz.prog 11 #[devV h d, devV h' d'] w fun e w' => e = .returned (.bool false) ∧ Below w.heap.size w w' := by
 unfold devV
 have HE0 : Hid (∀ W, DH W h d → DH W h' d' → Calls Tryz.prog 27 #[.slice h.a0 h.n0 h.c0, .slice h'.a0 h'.n0 h'.c0] W fun e w' => e = .returned (.bool true) ∧ W = w') := fun W x y => by
   have := eqB _ _ _ _ _ _ _ _ W x.b0 y.b0
   rw [decide_eq_true h0] at this
   exact this
 have HE1 : Hid (∀ W, DH W h d → DH W h' d' → Calls Tryz.prog 27 #[.slice h.a1 h.n1 h.c1, .slice h'.a1 h'.n1 h'.c1] W fun e w' => e = .returned (.bool true) ∧ W = w') := fun W x y => by
   have := eqB _ _ _ _ _ _ _ _ W x.b1 y.b1
   rw [decide_eq_true h1] at this
   exact this
 have q2 : ∀ W, (binOp .eql 31 (.agg (cpC d.c)) (.agg (cpC d'.c))).run Tryz.prog W = .ok (.bool true) W := fun W => by
   rw [cops_eql, decide_eq_true h2]
 have q3 : (d.up == d'.up) = false := by simpa using h3
 clear h0 h1 h2 h3
 obtain ⟨P1, hP1⟩ : ∃ P, w.heap.size = P := ⟨_, rfl⟩
 have HS := LH (((((((MS.start w).arg HD.argR).arg HD'.argR).alloc (p := P1) (by simp [hP1]) (dvC h d) 37)).alloc (p := (P1 + 1)) (by simp [hP1]) (dvC h' d') 37))
 go_enter Tryz.func11, Tryz.ntmps11
 go_upto_region 1 with fail
 refine wp_gen HS.out (fun V0 HS1 => ?_)
 replace HS := LH HS1
 clear HS1 hP1
 go_wp2_with fail
 go_loopw [6] (fun i wr => ∃ k : Nat, i = .int .i64 k ∧ k ≤ 2 ∧ MS w [((P1 + 1), dvC h' d', 37), (P1, dvC h d, 37)] [fun W => DH W h' d', fun W => DH W h d] [] wr) (fun i _ => 2 - (intOf i).toNat)
 case atStart => exact ⟨0, rfl, by omega, HS.out⟩
 case round =>
   obtain ⟨k, rfl, hk, hs⟩ := hrel
   replace HS := LH hs
   clear hs
   rcases (by omega : k = 0 ∨ k = 1 ∨ k = 2) with rfl | rfl | rfl
   · skip
     have HQ : Hid (∀ m, Calls Tryz.prog 27 #[.slice h.a0 h.n0 h.c0, .slice h'.a0 h'.n0 h'.c0] (wr.drewN m) fun e w' => e = .returned (.bool true) ∧ wr.drewN m = w') := fun m => HE0.out _ ((HS.out.drewN m).read 1 rfl) ((HS.out.drewN m).read 0 rfl)
     have cP1_0 := cAt (k := 0) (v := .slice h.a0 h.n0 h.c0) (HS.out.get 1 rfl) rfl
     simp only at cP1_0
     have cP1p1_0 := cAt (k := 0) (v := .slice h'.a0 h'.n0 h'.c0) (HS.out.get 0 rfl) rfl
     simp only at cP1p1_0
     go_wp2_with fail
     go_quiet (exact quiet_eq (HQ.out _))
     have HS9 := LH (HS.out.drewN nq)
     go_wp2_with fail
     go_roundw
     case rel => exact ⟨1, by go_num, by omega, HS9.out⟩
     case measure => simp [intOf]
   · skip
     have HQ : Hid (∀ m, Calls Tryz.prog 27 #[.slice h.a1 h.n1 h.c1, .slice h'.a1 h'.n1 h'.c1] (wr.drewN m) fun e w' => e = .returned (.bool true) ∧ wr.drewN m = w') := fun m => HE1.out _ ((HS.out.drewN m).read 1 rfl) ((HS.out.drewN m).read 0 rfl)
     have cP1_1 := cAt (k := 1) (v := .slice h.a1 h.n1 h.c1) (HS.out.get 1 rfl) rfl
     simp only at cP1_1
     have cP1p1_1 := cAt (k := 1) (v := .slice h'.a1 h'.n1 h'.c1) (HS.out.get 0 rfl) rfl
     simp only at cP1p1_1
     go_wp2_with fail
     go_quiet (exact quiet_eq (HQ.out _))
     have HS9 := LH (HS.out.drewN nq)
     go_wp2_with fail
     go_roundw
     case rel => exact ⟨2, by go_num, by omega, HS9.out⟩
     case measure => simp [intOf]
   · skip
     have cP1_26 := cAt (k := 26) (v := .bool d.up) (HS.out.get 1 rfl) rfl
     simp only at cP1_26
     have cP1p1_26 := cAt (k := 26) (v := .bool d'.up) (HS.out.get 0 rfl) rfl
     simp only at cP1p1_26
     have bP1 := HS.out.get 1 rfl
     simp only at bP1
     have bP1p1 := HS.out.get 0 rfl
     simp only at bP1p1
     go_wp2_with (first
       | (refine wLP rfl 31 (.tmp 20) rfl P1 2 rfl (dvC h d) 37 (0, 0) bP1 (cpC d.c) (part_cops h d) _ Tryz.underlying31 rfl (sCp d.c) ?_)
       | (refine wLP rfl 31 (.tmp 22) rfl (P1 + 1) 2 rfl (dvC h' d') 37 (0, 0) bP1p1 (cpC d'.c) (part_cops h' d') _ Tryz.underlying31 rfl (sCp d'.c) ?_))
     clear cP1_26 cP1p1_26 bP1 bP1p1
     go_ret
     exact ⟨rfl, HS.out.below⟩
end Go.Proofs.YtmpmaljkmfgagacGreat
