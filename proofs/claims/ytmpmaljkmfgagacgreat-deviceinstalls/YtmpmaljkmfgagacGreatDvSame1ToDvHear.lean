/-
  Texts put into one: DvSame1, DvSame2, DvSame3, DvSame4, DvSame5, DvSame, DvOff, DvCheck, IdxC, CAdd, DvHear.
-/
import Derived.Test.YtmpmaljkmfgagacGreatDvBusyToDvSame0
import Derived.BigQuiet
import Derived.Deep.QuietTactic
import Derived.Deep.Cut
import Derived.Test.YtmpmaljkmfgagacGreatMemStToStep
import Derived.Test.YtmpmaljkmfgagacGreatRowToNewR
import Derived.Deep.RegionHeld3
import Derived.Deep.DeepCutAuto
import Derived.Test.YtmpmaljkmfgagacGreatDiffedToLawG
set_option maxRecDepth 100000
set_option maxHeartbeats 4000000
namespace Go.Proofs.YtmpmaljkmfgagacGreat
open Go.RowKit
theorem same4 (h h' : DevH) (d d' : DevR) (w : World) (HD : DH w h d) (HD' : DH w h' d') (h0 : d.s0 = d'.s0) (h1 : d.s1 = d'.s1) (h2 : d.c = d'.c) (h3 : d.up = d'.up) (h4 : d.run ≠ d'.run) : Calls Tryz.prog 11 #[devV h d, devV h' d'] w fun e w' => e = .returned (.bool false) ∧ Below w.heap.size w w' := by
 unfold devV
 have HE0 : Hid (∀ W, DH W h d → DH W h' d' → Calls Tryz.prog 27 #[.slice h.a0 h.n0 h.c0, .slice h'.a0 h'.n0 h'.c0] W fun e w' => e = .returned (.bool true) ∧ W = w') := fun W x y => by
   have := eqB _ _ _ _ _ _ _ _ W x.b0 y.b0
   rw [decide_eq_true h0] at this
   exact this
 have HE1 : Hid (∀ W, DH W h d → DH W h' d' → Calls Tryz.prog 27 #[.slice h.a1 h.n1 h.c1, .slice h'.a1 h'.n1 h'.c1] W fun e w' => e = .returned (.bool true) ∧ W = w') := fun W x y => by
   have := eqB _ _ _ _ _ _ _ _ W x.b1 y.b1
   rw [decide_eq_true h1] at this
   exact this
 have q2 : ∀ W, (binOp .eql 31 (.agg (cpC d.c)) (.agg (cpC d'.c))).run Tryz.prog W = .ok (.bool true) W := fun W => by
   rw [cops_eql, decide_eq_true h2]
 have q3 : (d.up == d'.up) = true := by simpa using h3
 have q4 : (d.run == d'.run) = false := by simp [h4]
 clear h0 h1 h2 h3 h4
 obtain ⟨P1, hP1⟩ : ∃ P, w.heap.size = P := ⟨_, rfl⟩
 have HS := LH (((((((MS.start w).arg HD.argR).arg HD'.argR).alloc (p := P1) (by simp [hP1]) (dvC h d) 37)).alloc (p := (P1 + 1)) (by simp [hP1]) (dvC h' d') 37))
 go_enter Tryz.func11, Tryz.ntmps11
 go_upto_region 1 with fail
 refine wp_gen HS.out (fun V0 HS1 => ?_)
 replace HS := LH HS1
 clear HS1 hP1
 go_wp2_with fail
 go_loopw [6] (fun i wr => ∃ k : Nat, i = .int .i64 k ∧ k ≤ 2 ∧ MS w [((P1 + 1), dvC h' d', 37), (P1, dvC h d, 37)] [fun W => DH W h' d', fun W => DH W h d] [] wr) (fun i _ => 2 - (intOf i).toNat)
 case atStart => exact ⟨0, rfl, by omega, HS.out⟩
 case round =>
   obtain ⟨k, rfl, hk, hs⟩ := hrel
   replace HS := LH hs
   clear hs
   rcases (by omega : k = 0 ∨ k = 1 ∨ k = 2) with rfl | rfl | rfl
   · skip
     have HQ : Hid (∀ m, Calls Tryz.prog 27 #[.slice h.a0 h.n0 h.c0, .slice h'.a0 h'.n0 h'.c0] (wr.drewN m) fun e w' => e = .returned (.bool true) ∧ wr.drewN m = w') := fun m => HE0.out _ ((HS.out.drewN m).read 1 rfl) ((HS.out.drewN m).read 0 rfl)
     have cP1_0 := cAt (k := 0) (v := .slice h.a0 h.n0 h.c0) (HS.out.get 1 rfl) rfl
     simp only at cP1_0
     have cP1p1_0 := cAt (k := 0) (v := .slice h'.a0 h'.n0 h'.c0) (HS.out.get 0 rfl) rfl
     simp only at cP1p1_0
     go_wp2_with fail
     go_quiet (exact quiet_eq (HQ.out _))
     have HS9 := LH (HS.out.drewN nq)
     go_wp2_with fail
     go_roundw
     case rel => exact ⟨1, by go_num, by omega, HS9.out⟩
     case measure => simp [intOf]
   · skip
     have HQ : Hid (∀ m, Calls Tryz.prog 27 #[.slice h.a1 h.n1 h.c1, .slice h'.a1 h'.n1 h'.c1] (wr.drewN m) fun e w' => e = .returned (.bool true) ∧ wr.drewN m = w') := fun m => HE1.out _ ((HS.out.drewN m).read 1 rfl) ((HS.out.drewN m).read 0 rfl)
     have cP1_1 := cAt (k := 1) (v := .slice h.a1 h.n1 h.c1) (HS.out.get 1 rfl) rfl
     simp only at cP1_1
     have cP1p1_1 := cAt (k := 1) (v := .slice h'.a1 h'.n1 h'.c1) (HS.out.get 0 rfl) rfl
     simp only at cP1p1_1
     go_wp2_with fail
     go_quiet (exact quiet_eq (HQ.out _))
     have HS9 := LH (HS.out.drewN nq)
     go_wp2_with fail
     go_roundw
     case rel => exact ⟨2, by go_num, by omega, HS9.out⟩
     case measure => simp [intOf]
   · skip
     have cP1_26 := cAt (k := 26) (v := .bool d.up) (HS.out.get 1 rfl) rfl
     simp only at cP1_26
     have cP1p1_26 := cAt (k := 26) (v := .bool d'.up) (HS.out.get 0 rfl) rfl
     simp only at cP1p1_26
     have cP1_27 := cAt (k := 27) (v := .int .i64 d.run) (HS.out.get 1 rfl) rfl
     simp only at cP1_27
     have cP1p1_27 := cAt (k := 27) (v := .int .i64 d'.run) (HS.out.get 0 rfl) rfl
     simp only at cP1p1_27
     have bP1 := HS.out.get 1 rfl
     simp only at bP1
     have bP1p1 := HS.out.get 0 rfl
     simp only at bP1p1
     go_wp2_with (first
       | (refine wLP rfl 31 (.tmp 20) rfl P1 2 rfl (dvC h d) 37 (0, 0) bP1 (cpC d.c) (part_cops h d) _ Tryz.underlying31 rfl (sCp d.c) ?_)
       | (refine wLP rfl 31 (.tmp 22) rfl (P1 + 1) 2 rfl (dvC h' d') 37 (0, 0) bP1p1 (cpC d'.c) (part_cops h' d') _ Tryz.underlying31 rfl (sCp d'.c) ?_))
     clear cP1_26 cP1p1_26 cP1_27 cP1p1_27 bP1 bP1p1
     go_ret
     exact ⟨rfl, HS.out.below⟩
theorem same5 (h h' : DevH) (d d' : DevR) (w : World) (HD : DH w h d) (HD' : DH w h' d') (h0 : d.s0 = d'.s0) (h1 : d.s1 = d'.s1) (h2 : d.c = d'.c) (h3 : d.up = d'.up) (h4 : d.run = d'.run) (h5 : d.busy ≠ d'.busy) : Calls Tryz.prog 11 #[devV h d, devV h' d'] w fun e w' => e = .returned (.bool false) ∧ Below w.heap.size w w' := by
 unfold devV
 have HE0 : Hid (∀ W, DH W h d → DH W h' d' → Calls Tryz.prog 27 #[.slice h.a0 h.n0 h.c0, .slice h'.a0 h'.n0 h'.c0] W fun e w' => e = .returned (.bool true) ∧ W = w') := fun W x y => by
   have := eqB _ _ _ _ _ _ _ _ W x.b0 y.b0
   rw [decide_eq_true h0] at this
   exact this
 have HE1 : Hid (∀ W, DH W h d → DH W h' d' → Calls Tryz.prog 27 #[.slice h.a1 h.n1 h.c1, .slice h'.a1 h'.n1 h'.c1] W fun e w' => e = .returned (.bool true) ∧ W = w') := fun W x y => by
   have := eqB _ _ _ _ _ _ _ _ W x.b1 y.b1
   rw [decide_eq_true h1] at this
   exact this
 have q2 : ∀ W, (binOp .eql 31 (.agg (cpC d.c)) (.agg (cpC d'.c))).run Tryz.prog W = .ok (.bool true) W := fun W => by
   rw [cops_eql, decide_eq_true h2]
 have q3 : (d.up == d'.up) = true := by simpa using h3
 have q4 : (d.run == d'.run) = true := by simp [h4]
 have q5 : (d.busy == d'.busy) = false := by simpa using h5
 clear h0 h1 h2 h3 h4 h5
 obtain ⟨P1, hP1⟩ : ∃ P, w.heap.size = P := ⟨_, rfl⟩
 have HS := LH (((((((MS.start w).arg HD.argR).arg HD'.argR).alloc (p := P1) (by simp [hP1]) (dvC h d) 37)).alloc (p := (P1 + 1)) (by simp [hP1]) (dvC h' d') 37))
 go_enter Tryz.func11, Tryz.ntmps11
 go_upto_region 1 with fail
 refine wp_gen HS.out (fun V0 HS1 => ?_)
 replace HS := LH HS1
 clear HS1 hP1
 go_wp2_with fail
 go_loopw [6] (fun i wr => ∃ k : Nat, i = .int .i64 k ∧ k ≤ 2 ∧ MS w [((P1 + 1), dvC h' d', 37), (P1, dvC h d, 37)] [fun W => DH W h' d', fun W => DH W h d] [] wr) (fun i _ => 2 - (intOf i).toNat)
 case atStart => exact ⟨0, rfl, by omega, HS.out⟩
 case round =>
   obtain ⟨k, rfl, hk, hs⟩ := hrel
   replace HS := LH hs
   clear hs
   rcases (by omega : k = 0 ∨ k = 1 ∨ k = 2) with rfl | rfl | rfl
   · skip
     have HQ : Hid (∀ m, Calls Tryz.prog 27 #[.slice h.a0 h.n0 h.c0, .slice h'.a0 h'.n0 h'.c0] (wr.drewN m) fun e w' => e = .returned (.bool true) ∧ wr.drewN m = w') := fun m => HE0.out _ ((HS.out.drewN m).read 1 rfl) ((HS.out.drewN m).read 0 rfl)
     have cP1_0 := cAt (k := 0) (v := .slice h.a0 h.n0 h.c0) (HS.out.get 1 rfl) rfl
     simp only at cP1_0
     have cP1p1_0 := cAt (k := 0) (v := .slice h'.a0 h'.n0 h'.c0) (HS.out.get 0 rfl) rfl
     simp only at cP1p1_0
     go_wp2_with fail
     go_quiet (exact quiet_eq (HQ.out _))
     have HS9 := LH (HS.out.drewN nq)
     go_wp2_with fail
     go_roundw
     case rel => exact ⟨1, by go_num, by omega, HS9.out⟩
     case measure => simp [intOf]
   · skip
     have HQ : Hid (∀ m, Calls Tryz.prog 27 #[.slice h.a1 h.n1 h.c1, .slice h'.a1 h'.n1 h'.c1] (wr.drewN m) fun e w' => e = .returned (.bool true) ∧ wr.drewN m = w') := fun m => HE1.out _ ((HS.out.drewN m).read 1 rfl) ((HS.out.drewN m).read 0 rfl)
     have cP1_1 := cAt (k := 1) (v := .slice h.a1 h.n1 h.c1) (HS.out.get 1 rfl) rfl
     simp only at cP1_1
     have cP1p1_1 := cAt (k := 1) (v := .slice h'.a1 h'.n1 h'.c1) (HS.out.get 0 rfl) rfl
     simp only at cP1p1_1
     go_wp2_with fail
     go_quiet (exact quiet_eq (HQ.out _))
     have HS9 := LH (HS.out.drewN nq)
     go_wp2_with fail
     go_roundw
     case rel => exact ⟨2, by go_num, by omega, HS9.out⟩
     case measure => simp [intOf]
   · skip
     have cP1_26 := cAt (k := 26) (v := .bool d.up) (HS.out.get 1 rfl) rfl
     simp only at cP1_26
     have cP1p1_26 := cAt (k := 26) (v := .bool d'.up) (HS.out.get 0 rfl) rfl
     simp only at cP1p1_26
     have cP1_27 := cAt (k := 27) (v := .int .i64 d.run) (HS.out.get 1 rfl) rfl
     simp only at cP1_27
     have cP1p1_27 := cAt (k := 27) (v := .int .i64 d'.run) (HS.out.get 0 rfl) rfl
     simp only at cP1p1_27
     have cP1_29 := cAt (k := 29) (v := .bool d.busy) (HS.out.get 1 rfl) rfl
     simp only at cP1_29
     have cP1p1_29 := cAt (k := 29) (v := .bool d'.busy) (HS.out.get 0 rfl) rfl
     simp only at cP1p1_29
     have bP1 := HS.out.get 1 rfl
     simp only at bP1
     have bP1p1 := HS.out.get 0 rfl
     simp only at bP1p1
     go_wp2_with (first
       | (refine wLP rfl 31 (.tmp 20) rfl P1 2 rfl (dvC h d) 37 (0, 0) bP1 (cpC d.c) (part_cops h d) _ Tryz.underlying31 rfl (sCp d.c) ?_)
       | (refine wLP rfl 31 (.tmp 22) rfl (P1 + 1) 2 rfl (dvC h' d') 37 (0, 0) bP1p1 (cpC d'.c) (part_cops h' d') _ Tryz.underlying31 rfl (sCp d'.c) ?_))
     clear cP1_26 cP1p1_26 cP1_27 cP1p1_27 cP1_29 cP1p1_29 bP1 bP1p1
     go_ret
     exact ⟨rfl, HS.out.below⟩
theorem same6 (h h' : DevH) (d d' : DevR) (w : World) (HD : DH w h d) (HD' : DH w h' d') (h0 : d.s0 = d'.s0) (h1 : d.s1 = d'.s1) (h2 : d.c = d'.c) (h3 : d.up = d'.up) (h4 : d.run = d'.run) (h5 : d.busy = d'.busy) (h6 : d.done ≠ d'.done) : Calls Tryz.prog 11 #[devV h d, devV h' d'] w fun e w' => e = .returned (.bool false) ∧ Below w.heap.size w w' := by
 unfold devV
 have HE0 : Hid (∀ W, DH W h d → DH W h' d' → Calls Tryz.prog 27 #[.slice h.a0 h.n0 h.c0, .slice h'.a0 h'.n0 h'.c0] W fun e w' => e = .returned (.bool true) ∧ W = w') := fun W x y => by
   have := eqB _ _ _ _ _ _ _ _ W x.b0 y.b0
   rw [decide_eq_true h0] at this
   exact this
 have HE1 : Hid (∀ W, DH W h d → DH W h' d' → Calls Tryz.prog 27 #[.slice h.a1 h.n1 h.c1, .slice h'.a1 h'.n1 h'.c1] W fun e w' => e = .returned (.bool true) ∧ W = w') := fun W x y => by
   have := eqB _ _ _ _ _ _ _ _ W x.b1 y.b1
   rw [decide_eq_true h1] at this
   exact this
 have q2 : ∀ W, (binOp .eql 31 (.agg (cpC d.c)) (.agg (cpC d'.c))).run Tryz.prog W = .ok (.bool true) W := fun W => by
   rw [cops_eql, decide_eq_true h2]
 have q3 : (d.up == d'.up) = true := by simpa using h3
 have q4 : (d.run == d'.run) = true := by simp [h4]
 have q5 : (d.busy == d'.busy) = true := by simpa using h5
 have q6 : (d.done == d'.done) = false := by simp [h6]
 clear h0 h1 h2 h3 h4 h5 h6
 obtain ⟨P1, hP1⟩ : ∃ P, w.heap.size = P := ⟨_, rfl⟩
 have HS := LH (((((((MS.start w).arg HD.argR).arg HD'.argR).alloc (p := P1) (by simp [hP1]) (dvC h d) 37)).alloc (p := (P1 + 1)) (by simp [hP1]) (dvC h' d') 37))
 go_enter Tryz.func11, Tryz.ntmps11
 go_upto_region 1 with fail
 refine wp_gen HS.out (fun V0 HS1 => ?_)
 replace HS := LH HS1
 clear HS1 hP1
 go_wp2_with fail
 go_loopw [6] (fun i wr => ∃ k : Nat, i = .int .i64 k ∧ k ≤ 2 ∧ MS w [((P1 + 1), dvC h' d', 37), (P1, dvC h d, 37)] [fun W => DH W h' d', fun W => DH W h d] [] wr) (fun i _ => 2 - (intOf i).toNat)
 case atStart => exact ⟨0, rfl, by omega, HS.out⟩
 case round =>
   obtain ⟨k, rfl, hk, hs⟩ := hrel
   replace HS := LH hs
   clear hs
   rcases (by omega : k = 0 ∨ k = 1 ∨ k = 2) with rfl | rfl | rfl
   · skip
     have HQ : Hid (∀ m, Calls Tryz.prog 27 #[.slice h.a0 h.n0 h.c0, .slice h'.a0 h'.n0 h'.c0] (wr.drewN m) fun e w' => e = .returned (.bool true) ∧ wr.drewN m = w') := fun m => HE0.out _ ((HS.out.drewN m).read 1 rfl) ((HS.out.drewN m).read 0 rfl)
     have cP1_0 := cAt (k := 0) (v := .slice h.a0 h.n0 h.c0) (HS.out.get 1 rfl) rfl
     simp only at cP1_0
     have cP1p1_0 := cAt (k := 0) (v := .slice h'.a0 h'.n0 h'.c0) (HS.out.get 0 rfl) rfl
     simp only at cP1p1_0
     go_wp2_with fail
     go_quiet (exact quiet_eq (HQ.out _))
     have HS9 := LH (HS.out.drewN nq)
     go_wp2_with fail
     go_roundw
     case rel => exact ⟨1, by go_num, by omega, HS9.out⟩
     case measure => simp [intOf]
   · skip
     have HQ : Hid (∀ m, Calls Tryz.prog 27 #[.slice h.a1 h.n1 h.c1, .slice h'.a1 h'.n1 h'.c1] (wr.drewN m) fun e w' => e = .returned (.bool true) ∧ wr.drewN m = w') := fun m => HE1.out _ ((HS.out.drewN m).read 1 rfl) ((HS.out.drewN m).read 0 rfl)
     have cP1_1 := cAt (k := 1) (v := .slice h.a1 h.n1 h.c1) (HS.out.get 1 rfl) rfl
     simp only at cP1_1
     have cP1p1_1 := cAt (k := 1) (v := .slice h'.a1 h'.n1 h'.c1) (HS.out.get 0 rfl) rfl
     simp only at cP1p1_1
     go_wp2_with fail
     go_quiet (exact quiet_eq (HQ.out _))
     have HS9 := LH (HS.out.drewN nq)
     go_wp2_with fail
     go_roundw
     case rel => exact ⟨2, by go_num, by omega, HS9.out⟩
     case measure => simp [intOf]
   · skip
     have cP1_26 := cAt (k := 26) (v := .bool d.up) (HS.out.get 1 rfl) rfl
     simp only at cP1_26
     have cP1p1_26 := cAt (k := 26) (v := .bool d'.up) (HS.out.get 0 rfl) rfl
     simp only at cP1p1_26
     have cP1_27 := cAt (k := 27) (v := .int .i64 d.run) (HS.out.get 1 rfl) rfl
     simp only at cP1_27
     have cP1p1_27 := cAt (k := 27) (v := .int .i64 d'.run) (HS.out.get 0 rfl) rfl
     simp only at cP1p1_27
     have cP1_29 := cAt (k := 29) (v := .bool d.busy) (HS.out.get 1 rfl) rfl
     simp only at cP1_29
     have cP1p1_29 := cAt (k := 29) (v := .bool d'.busy) (HS.out.get 0 rfl) rfl
     simp only at cP1p1_29
     have cP1_36 := cAt (k := 36) (v := .int .i64 d.done) (HS.out.get 1 rfl) rfl
     simp only at cP1_36
     have cP1p1_36 := cAt (k := 36) (v := .int .i64 d'.done) (HS.out.get 0 rfl) rfl
     simp only at cP1p1_36
     have bP1 := HS.out.get 1 rfl
     simp only at bP1
     have bP1p1 := HS.out.get 0 rfl
     simp only at bP1p1
     go_wp2_with (first
       | (refine wLP rfl 31 (.tmp 20) rfl P1 2 rfl (dvC h d) 37 (0, 0) bP1 (cpC d.c) (part_cops h d) _ Tryz.underlying31 rfl (sCp d.c) ?_)
       | (refine wLP rfl 31 (.tmp 22) rfl (P1 + 1) 2 rfl (dvC h' d') 37 (0, 0) bP1p1 (cpC d'.c) (part_cops h' d') _ Tryz.underlying31 rfl (sCp d'.c) ?_))
     clear cP1_26 cP1p1_26 cP1_27 cP1p1_27 cP1_29 cP1p1_29 cP1_36 cP1p1_36 bP1 bP1p1
     go_ret
     exact ⟨rfl, HS.out.below⟩
theorem same7 (h h' : DevH) (d d' : DevR) (w : World) (HD : DH w h d) (HD' : DH w h' d') (h0 : d.s0 = d'.s0) (h1 : d.s1 = d'.s1) (h2 : d.c = d'.c) (h3 : d.up = d'.up) (h4 : d.run = d'.run) (h5 : d.busy = d'.busy) (h6 : d.done = d'.done) (h7 : d.got ≠ d'.got) : Calls Tryz.prog 11 #[devV h d, devV h' d'] w fun e w' => e = .returned (.bool false) ∧ Below w.heap.size w w' := by
 unfold devV
 have HE0 : Hid (∀ W, DH W h d → DH W h' d' → Calls Tryz.prog 27 #[.slice h.a0 h.n0 h.c0, .slice h'.a0 h'.n0 h'.c0] W fun e w' => e = .returned (.bool true) ∧ W = w') := fun W x y => by
   have := eqB _ _ _ _ _ _ _ _ W x.b0 y.b0
   rw [decide_eq_true h0] at this
   exact this
 have HE1 : Hid (∀ W, DH W h d → DH W h' d' → Calls Tryz.prog 27 #[.slice h.a1 h.n1 h.c1, .slice h'.a1 h'.n1 h'.c1] W fun e w' => e = .returned (.bool true) ∧ W = w') := fun W x y => by
   have := eqB _ _ _ _ _ _ _ _ W x.b1 y.b1
   rw [decide_eq_true h1] at this
   exact this
 have HC : Hid (∀ W, DH W h d → DH W h' d' → Calls Tryz.prog 51 #[.slice h.ga h.gn h.gc, .slice h'.ga h'.gn h'.gc] W fun e w' => e = .returned (.bool false) ∧ Below W.heap.size W w') := fun W x y => by
   have := sameC_ok _ _ _ _ _ _ _ _ W x.got y.got
   rw [decide_eq_false h7] at this
   exact this
 have q2 : ∀ W, (binOp .eql 31 (.agg (cpC d.c)) (.agg (cpC d'.c))).run Tryz.prog W = .ok (.bool true) W := fun W => by
   rw [cops_eql, decide_eq_true h2]
 have q3 : (d.up == d'.up) = true := by simpa using h3
 have q4 : (d.run == d'.run) = true := by simp [h4]
 have q5 : (d.busy == d'.busy) = true := by simpa using h5
 have q6 : (d.done == d'.done) = true := by simp [h6]
 clear h0 h1 h2 h3 h4 h5 h6 h7
 obtain ⟨P1, hP1⟩ : ∃ P, w.heap.size = P := ⟨_, rfl⟩
 have HS := LH (((((((MS.start w).arg HD.argR).arg HD'.argR).alloc (p := P1) (by simp [hP1]) (dvC h d) 37)).alloc (p := (P1 + 1)) (by simp [hP1]) (dvC h' d') 37))
 go_enter Tryz.func11, Tryz.ntmps11
 go_upto_region 1 with fail
 refine wp_gen HS.out (fun V0 HS1 => ?_)
 replace HS := LH HS1
 clear HS1 hP1
 go_wp2_with fail
 go_loopw [6] (fun i wr => ∃ k : Nat, i = .int .i64 k ∧ k ≤ 2 ∧ MS w [((P1 + 1), dvC h' d', 37), (P1, dvC h d, 37)] [fun W => DH W h' d', fun W => DH W h d] [] wr) (fun i _ => 2 - (intOf i).toNat)
 case atStart => exact ⟨0, rfl, by omega, HS.out⟩
 case round =>
   obtain ⟨k, rfl, hk, hs⟩ := hrel
   replace HS := LH hs
   clear hs
   rcases (by omega : k = 0 ∨ k = 1 ∨ k = 2) with rfl | rfl | rfl
   · skip
     have HQ : Hid (∀ m, Calls Tryz.prog 27 #[.slice h.a0 h.n0 h.c0, .slice h'.a0 h'.n0 h'.c0] (wr.drewN m) fun e w' => e = .returned (.bool true) ∧ wr.drewN m = w') := fun m => HE0.out _ ((HS.out.drewN m).read 1 rfl) ((HS.out.drewN m).read 0 rfl)
     have cP1_0 := cAt (k := 0) (v := .slice h.a0 h.n0 h.c0) (HS.out.get 1 rfl) rfl
     simp only at cP1_0
     have cP1p1_0 := cAt (k := 0) (v := .slice h'.a0 h'.n0 h'.c0) (HS.out.get 0 rfl) rfl
     simp only at cP1p1_0
     go_wp2_with fail
     go_quiet (exact quiet_eq (HQ.out _))
     have HS9 := LH (HS.out.drewN nq)
     go_wp2_with fail
     go_roundw
     case rel => exact ⟨1, by go_num, by omega, HS9.out⟩
     case measure => simp [intOf]
   · skip
     have HQ : Hid (∀ m, Calls Tryz.prog 27 #[.slice h.a1 h.n1 h.c1, .slice h'.a1 h'.n1 h'.c1] (wr.drewN m) fun e w' => e = .returned (.bool true) ∧ wr.drewN m = w') := fun m => HE1.out _ ((HS.out.drewN m).read 1 rfl) ((HS.out.drewN m).read 0 rfl)
     have cP1_1 := cAt (k := 1) (v := .slice h.a1 h.n1 h.c1) (HS.out.get 1 rfl) rfl
     simp only at cP1_1
     have cP1p1_1 := cAt (k := 1) (v := .slice h'.a1 h'.n1 h'.c1) (HS.out.get 0 rfl) rfl
     simp only at cP1p1_1
     go_wp2_with fail
     go_quiet (exact quiet_eq (HQ.out _))
     have HS9 := LH (HS.out.drewN nq)
     go_wp2_with fail
     go_roundw
     case rel => exact ⟨2, by go_num, by omega, HS9.out⟩
     case measure => simp [intOf]
   · skip
     have cP1_26 := cAt (k := 26) (v := .bool d.up) (HS.out.get 1 rfl) rfl
     simp only at cP1_26
     have cP1p1_26 := cAt (k := 26) (v := .bool d'.up) (HS.out.get 0 rfl) rfl
     simp only at cP1p1_26
     have cP1_27 := cAt (k := 27) (v := .int .i64 d.run) (HS.out.get 1 rfl) rfl
     simp only at cP1_27
     have cP1p1_27 := cAt (k := 27) (v := .int .i64 d'.run) (HS.out.get 0 rfl) rfl
     simp only at cP1p1_27
     have cP1_29 := cAt (k := 29) (v := .bool d.busy) (HS.out.get 1 rfl) rfl
     simp only at cP1_29
     have cP1p1_29 := cAt (k := 29) (v := .bool d'.busy) (HS.out.get 0 rfl) rfl
     simp only at cP1p1_29
     have cP1_36 := cAt (k := 36) (v := .int .i64 d.done) (HS.out.get 1 rfl) rfl
     simp only at cP1_36
     have cP1p1_36 := cAt (k := 36) (v := .int .i64 d'.done) (HS.out.get 0 rfl) rfl
     simp only at cP1p1_36
     have cP1_28 := cAt (k := 28) (v := .slice h.ga h.gn h.gc) (HS.out.get 1 rfl) rfl
     simp only at cP1_28
     have cP1p1_28 := cAt (k := 28) (v := .slice h'.ga h'.gn h'.gc) (HS.out.get 0 rfl) rfl
     simp only at cP1p1_28
     have bP1 := HS.out.get 1 rfl
     simp only at bP1
     have bP1p1 := HS.out.get 0 rfl
     simp only at bP1p1
     go_wp2_with (first
       | (refine wLP rfl 31 (.tmp 20) rfl P1 2 rfl (dvC h d) 37 (0, 0) bP1 (cpC d.c) (part_cops h d) _ Tryz.underlying31 rfl (sCp d.c) ?_)
       | (refine wLP rfl 31 (.tmp 22) rfl (P1 + 1) 2 rfl (dvC h' d') 37 (0, 0) bP1p1 (cpC d'.c) (part_cops h' d') _ Tryz.underlying31 rfl (sCp d'.c) ?_))
     clear cP1_26 cP1p1_26 cP1_27 cP1p1_27 cP1_29 cP1p1_29 cP1_36 cP1p1_36 cP1_28 cP1p1_28 bP1 bP1p1
     refine (HC.out _ (HS.out.read 1 rfl) (HS.out.read 0 rfl)).mono ?_
     rintro e W1 ⟨rfl, hb⟩
     replace HS := LH (HS.out.later hb)
     clear hb
     go_wp2_with fail
     go_ret
     exact ⟨rfl, HS.out.below⟩
theorem same8 (h h' : DevH) (d d' : DevR) (w : World) (HD : DH w h d) (HD' : DH w h' d') (h0 : d.s0 = d'.s0) (h1 : d.s1 = d'.s1) (h2 : d.c = d'.c) (h3 : d.up = d'.up) (h4 : d.run = d'.run) (h5 : d.busy = d'.busy) (h6 : d.done = d'.done) (h7 : d.got = d'.got) (h8 : d.job ≠ d'.job) : Calls Tryz.prog 11 #[devV h d, devV h' d'] w fun e w' => e = .returned (.bool false) ∧ Below w.heap.size w w' := by
 unfold devV
 have HE0 : Hid (∀ W, DH W h d → DH W h' d' → Calls Tryz.prog 27 #[.slice h.a0 h.n0 h.c0, .slice h'.a0 h'.n0 h'.c0] W fun e w' => e = .returned (.bool true) ∧ W = w') := fun W x y => by
   have := eqB _ _ _ _ _ _ _ _ W x.b0 y.b0
   rw [decide_eq_true h0] at this
   exact this
 have HE1 : Hid (∀ W, DH W h d → DH W h' d' → Calls Tryz.prog 27 #[.slice h.a1 h.n1 h.c1, .slice h'.a1 h'.n1 h'.c1] W fun e w' => e = .returned (.bool true) ∧ W = w') := fun W x y => by
   have := eqB _ _ _ _ _ _ _ _ W x.b1 y.b1
   rw [decide_eq_true h1] at this
   exact this
 have HC : Hid (∀ W, DH W h d → DH W h' d' → Calls Tryz.prog 51 #[.slice h.ga h.gn h.gc, .slice h'.ga h'.gn h'.gc] W fun e w' => e = .returned (.bool true) ∧ Below W.heap.size W w') := fun W x y => by
   have := sameC_ok _ _ _ _ _ _ _ _ W x.got y.got
   rw [decide_eq_true h7] at this
   exact this
 have HP : Hid (∀ W, DH W h d → DH W h' d' → Calls Tryz.prog 52 #[.agg (jbC h.oa h.on h.oc d.job), .agg (jbC h'.oa h'.on h'.oc d'.job)] W fun e w' => e = .returned (.bool false) ∧ Below W.heap.size W w') := fun W x y => by
   have := sameP_any _ _ _ _ W x.jobV y.jobV
   rw [decide_eq_false h8] at this
   exact this
 unfold jbC at HP
 have q2 : ∀ W, (binOp .eql 31 (.agg (cpC d.c)) (.agg (cpC d'.c))).run Tryz.prog W = .ok (.bool true) W := fun W => by
   rw [cops_eql, decide_eq_true h2]
 have q3 : (d.up == d'.up) = true := by simpa using h3
 have q4 : (d.run == d'.run) = true := by simp [h4]
 have q5 : (d.busy == d'.busy) = true := by simpa using h5
 have q6 : (d.done == d'.done) = true := by simp [h6]
 clear h0 h1 h2 h3 h4 h5 h6 h7 h8
 obtain ⟨P1, hP1⟩ : ∃ P, w.heap.size = P := ⟨_, rfl⟩
 have HS := LH (((((((MS.start w).arg HD.argR).arg HD'.argR).alloc (p := P1) (by simp [hP1]) (dvC h d) 37)).alloc (p := (P1 + 1)) (by simp [hP1]) (dvC h' d') 37))
 go_enter Tryz.func11, Tryz.ntmps11
 go_upto_region 1 with fail
 refine wp_gen HS.out (fun V0 HS1 => ?_)
 replace HS := LH HS1
 clear HS1 hP1
 go_wp2_with fail
 go_loopw [6] (fun i wr => ∃ k : Nat, i = .int .i64 k ∧ k ≤ 2 ∧ MS w [((P1 + 1), dvC h' d', 37), (P1, dvC h d, 37)] [fun W => DH W h' d', fun W => DH W h d] [] wr) (fun i _ => 2 - (intOf i).toNat)
 case atStart => exact ⟨0, rfl, by omega, HS.out⟩
 case round =>
   obtain ⟨k, rfl, hk, hs⟩ := hrel
   replace HS := LH hs
   clear hs
   rcases (by omega : k = 0 ∨ k = 1 ∨ k = 2) with rfl | rfl | rfl
   · skip
     have HQ : Hid (∀ m, Calls Tryz.prog 27 #[.slice h.a0 h.n0 h.c0, .slice h'.a0 h'.n0 h'.c0] (wr.drewN m) fun e w' => e = .returned (.bool true) ∧ wr.drewN m = w') := fun m => HE0.out _ ((HS.out.drewN m).read 1 rfl) ((HS.out.drewN m).read 0 rfl)
     have cP1_0 := cAt (k := 0) (v := .slice h.a0 h.n0 h.c0) (HS.out.get 1 rfl) rfl
     simp only at cP1_0
     have cP1p1_0 := cAt (k := 0) (v := .slice h'.a0 h'.n0 h'.c0) (HS.out.get 0 rfl) rfl
     simp only at cP1p1_0
     go_wp2_with fail
     go_quiet (exact quiet_eq (HQ.out _))
     have HS9 := LH (HS.out.drewN nq)
     go_wp2_with fail
     go_roundw
     case rel => exact ⟨1, by go_num, by omega, HS9.out⟩
     case measure => simp [intOf]
   · skip
     have HQ : Hid (∀ m, Calls Tryz.prog 27 #[.slice h.a1 h.n1 h.c1, .slice h'.a1 h'.n1 h'.c1] (wr.drewN m) fun e w' => e = .returned (.bool true) ∧ wr.drewN m = w') := fun m => HE1.out _ ((HS.out.drewN m).read 1 rfl) ((HS.out.drewN m).read 0 rfl)
     have cP1_1 := cAt (k := 1) (v := .slice h.a1 h.n1 h.c1) (HS.out.get 1 rfl) rfl
     simp only at cP1_1
     have cP1p1_1 := cAt (k := 1) (v := .slice h'.a1 h'.n1 h'.c1) (HS.out.get 0 rfl) rfl
     simp only at cP1p1_1
     go_wp2_with fail
     go_quiet (exact quiet_eq (HQ.out _))
     have HS9 := LH (HS.out.drewN nq)
     go_wp2_with fail
     go_roundw
     case rel => exact ⟨2, by go_num, by omega, HS9.out⟩
     case measure => simp [intOf]
   · skip
     have cP1_26 := cAt (k := 26) (v := .bool d.up) (HS.out.get 1 rfl) rfl
     simp only at cP1_26
     have cP1p1_26 := cAt (k := 26) (v := .bool d'.up) (HS.out.get 0 rfl) rfl
     simp only at cP1p1_26
     have cP1_27 := cAt (k := 27) (v := .int .i64 d.run) (HS.out.get 1 rfl) rfl
     simp only at cP1_27
     have cP1p1_27 := cAt (k := 27) (v := .int .i64 d'.run) (HS.out.get 0 rfl) rfl
     simp only at cP1p1_27
     have cP1_29 := cAt (k := 29) (v := .bool d.busy) (HS.out.get 1 rfl) rfl
     simp only at cP1_29
     have cP1p1_29 := cAt (k := 29) (v := .bool d'.busy) (HS.out.get 0 rfl) rfl
     simp only at cP1p1_29
     have cP1_36 := cAt (k := 36) (v := .int .i64 d.done) (HS.out.get 1 rfl) rfl
     simp only at cP1_36
     have cP1p1_36 := cAt (k := 36) (v := .int .i64 d'.done) (HS.out.get 0 rfl) rfl
     simp only at cP1p1_36
     have cP1_28 := cAt (k := 28) (v := .slice h.ga h.gn h.gc) (HS.out.get 1 rfl) rfl
     simp only at cP1_28
     have cP1p1_28 := cAt (k := 28) (v := .slice h'.ga h'.gn h'.gc) (HS.out.get 0 rfl) rfl
     simp only at cP1p1_28
     have bP1 := HS.out.get 1 rfl
     simp only at bP1
     have bP1p1 := HS.out.get 0 rfl
     simp only at bP1p1
     go_wp2_with (first
       | (refine wLP rfl 31 (.tmp 20) rfl P1 2 rfl (dvC h d) 37 (0, 0) bP1 (cpC d.c) (part_cops h d) _ Tryz.underlying31 rfl (sCp d.c) ?_)
       | (refine wLP rfl 31 (.tmp 22) rfl (P1 + 1) 2 rfl (dvC h' d') 37 (0, 0) bP1p1 (cpC d'.c) (part_cops h' d') _ Tryz.underlying31 rfl (sCp d'.c) ?_))
     clear cP1_26 cP1p1_26 cP1_27 cP1p1_27 cP1_29 cP1p1_29 cP1_36 cP1p1_36 cP1_28 cP1p1_28 bP1 bP1p1
     refine (HC.out _ (HS.out.read 1 rfl) (HS.out.read 0 rfl)).mono ?_
     rintro e W1 ⟨rfl, hb⟩
     replace HS := LH (HS.out.later hb)
     clear hb
     have cP1_30 := cAt (k := 30) (v := .int .i64 d.job.from_) (HS.out.get 1 rfl) rfl
     simp only at cP1_30
     have cP1_31 := cAt (k := 31) (v := .int .i64 d.job.to_) (HS.out.get 1 rfl) rfl
     simp only at cP1_31
     have cP1_32 := cAt (k := 32) (v := .int .i64 d.job.old) (HS.out.get 1 rfl) rfl
     simp only at cP1_32
     have cP1_33 := cAt (k := 33) (v := .int .i64 d.job.new) (HS.out.get 1 rfl) rfl
     simp only at cP1_33
     have cP1_34 := cAt (k := 34) (v := .int .i64 d.job.size) (HS.out.get 1 rfl) rfl
     simp only at cP1_34
     have cP1_35 := cAt (k := 35) (v := .slice h.oa h.on h.oc) (HS.out.get 1 rfl) rfl
     simp only at cP1_35
     have cP1p1_30 := cAt (k := 30) (v := .int .i64 d'.job.from_) (HS.out.get 0 rfl) rfl
     simp only at cP1p1_30
     have cP1p1_31 := cAt (k := 31) (v := .int .i64 d'.job.to_) (HS.out.get 0 rfl) rfl
     simp only at cP1p1_31
     have cP1p1_32 := cAt (k := 32) (v := .int .i64 d'.job.old) (HS.out.get 0 rfl) rfl
     simp only at cP1p1_32
     have cP1p1_33 := cAt (k := 33) (v := .int .i64 d'.job.new) (HS.out.get 0 rfl) rfl
     simp only at cP1p1_33
     have cP1p1_34 := cAt (k := 34) (v := .int .i64 d'.job.size) (HS.out.get 0 rfl) rfl
     simp only at cP1p1_34
     have cP1p1_35 := cAt (k := 35) (v := .slice h'.oa h'.on h'.oc) (HS.out.get 0 rfl) rfl
     simp only at cP1p1_35
     go_wp2_with fail
     clear cP1_30 cP1_31 cP1_32 cP1_33 cP1_34 cP1_35 cP1p1_30 cP1p1_31 cP1p1_32 cP1p1_33 cP1p1_34 cP1p1_35
     refine (HP.out _ (HS.out.read 1 rfl) (HS.out.read 0 rfl)).mono ?_
     rintro e W2 ⟨rfl, hb⟩
     replace HS := LH (HS.out.later hb)
     clear hb
     go_wp2_with fail
     go_ret
     exact ⟨rfl, HS.out.below⟩
theorem same9 (h h' : DevH) (d d' : DevR) (w : World) (HD : DH w h d) (HD' : DH w h' d') (h0 : d.s0 = d'.s0) (h1 : d.s1 = d'.s1) (h2 : d.c = d'.c) (h3 : d.up = d'.up) (h4 : d.run = d'.run) (h5 : d.busy = d'.busy) (h6 : d.done = d'.done) (h7 : d.got = d'.got) (h8 : d.job = d'.job) : Calls Tryz.prog 11 #[devV h d, devV h' d'] w fun e w' => e = .returned (.bool true) ∧ Below w.heap.size w w' := by
 unfold devV
 have HE0 : Hid (∀ W, DH W h d → DH W h' d' → Calls Tryz.prog 27 #[.slice h.a0 h.n0 h.c0, .slice h'.a0 h'.n0 h'.c0] W fun e w' => e = .returned (.bool true) ∧ W = w') := fun W x y => by
   have := eqB _ _ _ _ _ _ _ _ W x.b0 y.b0
   rw [decide_eq_true h0] at this
   exact this
 have HE1 : Hid (∀ W, DH W h d → DH W h' d' → Calls Tryz.prog 27 #[.slice h.a1 h.n1 h.c1, .slice h'.a1 h'.n1 h'.c1] W fun e w' => e = .returned (.bool true) ∧ W = w') := fun W x y => by
   have := eqB _ _ _ _ _ _ _ _ W x.b1 y.b1
   rw [decide_eq_true h1] at this
   exact this
 have HC : Hid (∀ W, DH W h d → DH W h' d' → Calls Tryz.prog 51 #[.slice h.ga h.gn h.gc, .slice h'.ga h'.gn h'.gc] W fun e w' => e = .returned (.bool true) ∧ Below W.heap.size W w') := fun W x y => by
   have := sameC_ok _ _ _ _ _ _ _ _ W x.got y.got
   rw [decide_eq_true h7] at this
   exact this
 have HP : Hid (∀ W, DH W h d → DH W h' d' → Calls Tryz.prog 52 #[.agg (jbC h.oa h.on h.oc d.job), .agg (jbC h'.oa h'.on h'.oc d'.job)] W fun e w' => e = .returned (.bool true) ∧ Below W.heap.size W w') := fun W x y => by
   have := sameP_any _ _ _ _ W x.jobV y.jobV
   rw [decide_eq_true h8] at this
   exact this
 unfold jbC at HP
 have q2 : ∀ W, (binOp .eql 31 (.agg (cpC d.c)) (.agg (cpC d'.c))).run Tryz.prog W = .ok (.bool true) W := fun W => by
   rw [cops_eql, decide_eq_true h2]
 have q3 : (d.up == d'.up) = true := by simpa using h3
 have q4 : (d.run == d'.run) = true := by simp [h4]
 have q5 : (d.busy == d'.busy) = true := by simpa using h5
 have q6 : (d.done == d'.done) = true := by simp [h6]
 clear h0 h1 h2 h3 h4 h5 h6 h7 h8
 obtain ⟨P1, hP1⟩ : ∃ P, w.heap.size = P := ⟨_, rfl⟩
 have HS := LH (((((((MS.start w).arg HD.argR).arg HD'.argR).alloc (p := P1) (by simp [hP1]) (dvC h d) 37)).alloc (p := (P1 + 1)) (by simp [hP1]) (dvC h' d') 37))
 go_enter Tryz.func11, Tryz.ntmps11
 go_upto_region 1 with fail
 refine wp_gen HS.out (fun V0 HS1 => ?_)
 replace HS := LH HS1
 clear HS1 hP1
 go_wp2_with fail
 go_loopw [6] (fun i wr => ∃ k : Nat, i = .int .i64 k ∧ k ≤ 2 ∧ MS w [((P1 + 1), dvC h' d', 37), (P1, dvC h d, 37)] [fun W => DH W h' d', fun W => DH W h d] [] wr) (fun i _ => 2 - (intOf i).toNat)
 case atStart => exact ⟨0, rfl, by omega, HS.out⟩
 case round =>
   obtain ⟨k, rfl, hk, hs⟩ := hrel
   replace HS := LH hs
   clear hs
   rcases (by omega : k = 0 ∨ k = 1 ∨ k = 2) with rfl | rfl | rfl
   · skip
     have HQ : Hid (∀ m, Calls Tryz.prog 27 #[.slice h.a0 h.n0 h.c0, .slice h'.a0 h'.n0 h'.c0] (wr.drewN m) fun e w' => e = .returned (.bool true) ∧ wr.drewN m = w') := fun m => HE0.out _ ((HS.out.drewN m).read 1 rfl) ((HS.out.drewN m).read 0 rfl)
     have cP1_0 := cAt (k := 0) (v := .slice h.a0 h.n0 h.c0) (HS.out.get 1 rfl) rfl
     simp only at cP1_0
     have cP1p1_0 := cAt (k := 0) (v := .slice h'.a0 h'.n0 h'.c0) (HS.out.get 0 rfl) rfl
     simp only at cP1p1_0
     go_wp2_with fail
     go_quiet (exact quiet_eq (HQ.out _))
     have HS9 := LH (HS.out.drewN nq)
     go_wp2_with fail
     go_roundw
     case rel => exact ⟨1, by go_num, by omega, HS9.out⟩
     case measure => simp [intOf]
   · skip
     have HQ : Hid (∀ m, Calls Tryz.prog 27 #[.slice h.a1 h.n1 h.c1, .slice h'.a1 h'.n1 h'.c1] (wr.drewN m) fun e w' => e = .returned (.bool true) ∧ wr.drewN m = w') := fun m => HE1.out _ ((HS.out.drewN m).read 1 rfl) ((HS.out.drewN m).read 0 rfl)
     have cP1_1 := cAt (k := 1) (v := .slice h.a1 h.n1 h.c1) (HS.out.get 1 rfl) rfl
     simp only at cP1_1
     have cP1p1_1 := cAt (k := 1) (v := .slice h'.a1 h'.n1 h'.c1) (HS.out.get 0 rfl) rfl
     simp only at cP1p1_1
     go_wp2_with fail
     go_quiet (exact quiet_eq (HQ.out _))
     have HS9 := LH (HS.out.drewN nq)
     go_wp2_with fail
     go_roundw
     case rel => exact ⟨2, by go_num, by omega, HS9.out⟩
     case measure => simp [intOf]
   · skip
     have cP1_26 := cAt (k := 26) (v := .bool d.up) (HS.out.get 1 rfl) rfl
     simp only at cP1_26
     have cP1p1_26 := cAt (k := 26) (v := .bool d'.up) (HS.out.get 0 rfl) rfl
     simp only at cP1p1_26
     have cP1_27 := cAt (k := 27) (v := .int .i64 d.run) (HS.out.get 1 rfl) rfl
     simp only at cP1_27
     have cP1p1_27 := cAt (k := 27) (v := .int .i64 d'.run) (HS.out.get 0 rfl) rfl
     simp only at cP1p1_27
     have cP1_29 := cAt (k := 29) (v := .bool d.busy) (HS.out.get 1 rfl) rfl
     simp only at cP1_29
     have cP1p1_29 := cAt (k := 29) (v := .bool d'.busy) (HS.out.get 0 rfl) rfl
     simp only at cP1p1_29
     have cP1_36 := cAt (k := 36) (v := .int .i64 d.done) (HS.out.get 1 rfl) rfl
     simp only at cP1_36
     have cP1p1_36 := cAt (k := 36) (v := .int .i64 d'.done) (HS.out.get 0 rfl) rfl
     simp only at cP1p1_36
     have cP1_28 := cAt (k := 28) (v := .slice h.ga h.gn h.gc) (HS.out.get 1 rfl) rfl
     simp only at cP1_28
     have cP1p1_28 := cAt (k := 28) (v := .slice h'.ga h'.gn h'.gc) (HS.out.get 0 rfl) rfl
     simp only at cP1p1_28
     have bP1 := HS.out.get 1 rfl
     simp only at bP1
     have bP1p1 := HS.out.get 0 rfl
     simp only at bP1p1
     go_wp2_with (first
       | (refine wLP rfl 31 (.tmp 20) rfl P1 2 rfl (dvC h d) 37 (0, 0) bP1 (cpC d.c) (part_cops h d) _ Tryz.underlying31 rfl (sCp d.c) ?_)
       | (refine wLP rfl 31 (.tmp 22) rfl (P1 + 1) 2 rfl (dvC h' d') 37 (0, 0) bP1p1 (cpC d'.c) (part_cops h' d') _ Tryz.underlying31 rfl (sCp d'.c) ?_))
     clear cP1_26 cP1p1_26 cP1_27 cP1p1_27 cP1_29 cP1p1_29 cP1_36 cP1p1_36 cP1_28 cP1p1_28 bP1 bP1p1
     refine (HC.out _ (HS.out.read 1 rfl) (HS.out.read 0 rfl)).mono ?_
     rintro e W1 ⟨rfl, hb⟩
     replace HS := LH (HS.out.later hb)
     clear hb
     have cP1_30 := cAt (k := 30) (v := .int .i64 d.job.from_) (HS.out.get 1 rfl) rfl
     simp only at cP1_30
     have cP1_31 := cAt (k := 31) (v := .int .i64 d.job.to_) (HS.out.get 1 rfl) rfl
     simp only at cP1_31
     have cP1_32 := cAt (k := 32) (v := .int .i64 d.job.old) (HS.out.get 1 rfl) rfl
     simp only at cP1_32
     have cP1_33 := cAt (k := 33) (v := .int .i64 d.job.new) (HS.out.get 1 rfl) rfl
     simp only at cP1_33
     have cP1_34 := cAt (k := 34) (v := .int .i64 d.job.size) (HS.out.get 1 rfl) rfl
     simp only at cP1_34
     have cP1_35 := cAt (k := 35) (v := .slice h.oa h.on h.oc) (HS.out.get 1 rfl) rfl
     simp only at cP1_35
     have cP1p1_30 := cAt (k := 30) (v := .int .i64 d'.job.from_) (HS.out.get 0 rfl) rfl
     simp only at cP1p1_30
     have cP1p1_31 := cAt (k := 31) (v := .int .i64 d'.job.to_) (HS.out.get 0 rfl) rfl
     simp only at cP1p1_31
     have cP1p1_32 := cAt (k := 32) (v := .int .i64 d'.job.old) (HS.out.get 0 rfl) rfl
     simp only at cP1p1_32
     have cP1p1_33 := cAt (k := 33) (v := .int .i64 d'.job.new) (HS.out.get 0 rfl) rfl
     simp only at cP1p1_33
     have cP1p1_34 := cAt (k := 34) (v := .int .i64 d'.job.size) (HS.out.get 0 rfl) rfl
     simp only at cP1p1_34
     have cP1p1_35 := cAt (k := 35) (v := .slice h'.oa h'.on h'.oc) (HS.out.get 0 rfl) rfl
     simp only at cP1p1_35
     go_wp2_with fail
     clear cP1_30 cP1_31 cP1_32 cP1_33 cP1_34 cP1_35 cP1p1_30 cP1p1_31 cP1p1_32 cP1p1_33 cP1p1_34 cP1p1_35
     refine (HP.out _ (HS.out.read 1 rfl) (HS.out.read 0 rfl)).mono ?_
     rintro e W2 ⟨rfl, hb⟩
     replace HS := LH (HS.out.later hb)
     clear hb
     go_wp2_with fail
     go_ret
     exact ⟨rfl, HS.out.below⟩
theorem dev_ext {d d' : DevR} (h0 : d.s0 = d'.s0) (h1 : d.s1 = d'.s1) (h2 : d.c = d'.c) (h3 : d.up = d'.up) (h4 : d.run = d'.run) (h5 : d.busy = d'.busy) (h6 : d.done = d'.done) (h7 : d.got = d'.got) (h8 : d.job = d'.job) : d = d' := by
 obtain ⟨a0, a1, a2, a3, a4, a5, a6, a7, a8⟩ := d
 obtain ⟨b0, b1, b2, b3, b4, b5, b6, b7, b8⟩ := d'
 simp only at h0 h1 h2 h3 h4 h5 h6 h7 h8
 subst h0 h1 h2 h3 h4 h5 h6 h7 h8
 rfl
theorem dev_iff {d d' : DevR} : (d.s0 = d'.s0 ∧ d.s1 = d'.s1 ∧ d.c = d'.c ∧ d.up = d'.up ∧ d.run = d'.run ∧ d.busy = d'.busy ∧ d.done = d'.done ∧ d.got = d'.got ∧ d.job = d'.job) ↔ d = d' :=
 ⟨fun ⟨h0, h1, h2, h3, h4, h5, h6, h7, h8⟩ => dev_ext h0 h1 h2 h3 h4 h5 h6 h7 h8, fun h => by subst h; exact ⟨rfl, rfl, rfl, rfl, rfl, rfl, rfl, rfl, rfl⟩⟩
instance decDev (d d' : DevR) : Decidable (d = d') := decidable_of_iff _ dev_iff
theorem sameD_any (h h' : DevH) (d d' : DevR) (w : World) (HD : DH w h d) (HD' : DH w h' d') : Calls Tryz.prog 11 #[devV h d, devV h' d'] w fun e w' => e = .returned (.bool (decide (d = d'))) ∧ Below w.heap.size w w' := by
 by_cases h0 : d.s0 = d'.s0
 case neg =>
   rw [decide_eq_false (fun q => h0 (by rw [q]))]
   exact same0 h h' d d' w HD HD' h0
 by_cases h1 : d.s1 = d'.s1
 case neg =>
   rw [decide_eq_false (fun q => h1 (by rw [q]))]
   exact same1 h h' d d' w HD HD' h0 h1
 by_cases h2 : d.c = d'.c
 case neg =>
   rw [decide_eq_false (fun q => h2 (by rw [q]))]
   exact same2 h h' d d' w HD HD' h0 h1 h2
 by_cases h3 : d.up = d'.up
 case neg =>
   rw [decide_eq_false (fun q => h3 (by rw [q]))]
   exact same3 h h' d d' w HD HD' h0 h1 h2 h3
 by_cases h4 : d.run = d'.run
 case neg =>
   rw [decide_eq_false (fun q => h4 (by rw [q]))]
   exact same4 h h' d d' w HD HD' h0 h1 h2 h3 h4
 by_cases h5 : d.busy = d'.busy
 case neg =>
   rw [decide_eq_false (fun q => h5 (by rw [q]))]
   exact same5 h h' d d' w HD HD' h0 h1 h2 h3 h4 h5
 by_cases h6 : d.done = d'.done
 case neg =>
   rw [decide_eq_false (fun q => h6 (by rw [q]))]
   exact same6 h h' d d' w HD HD' h0 h1 h2 h3 h4 h5 h6
 by_cases h7 : d.got = d'.got
 case neg =>
   rw [decide_eq_false (fun q => h7 (by rw [q]))]
   exact same7 h h' d d' w HD HD' h0 h1 h2 h3 h4 h5 h6 h7
 by_cases h8 : d.job = d'.job
 case neg =>
   rw [decide_eq_false (fun q => h8 (by rw [q]))]
   exact same8 h h' d d' w HD HD' h0 h1 h2 h3 h4 h5 h6 h7 h8
 rw [decide_eq_true (dev_ext h0 h1 h2 h3 h4 h5 h6 h7 h8)]
 exact same9 h h' d d' w HD HD' h0 h1 h2 h3 h4 h5 h6 h7 h8
theorem offD_any (h : DevH) (d : DevR) (w : World) : Calls Tryz.prog 50 #[devV h d] w fun e w' => e = .returned (devV (offH h) (DevM.off d)) ∧ Below w.heap.size w w' := by
 unfold devV
 obtain ⟨P1, hP1⟩ : ∃ P, w.heap.size = P := ⟨_, rfl⟩
 have HS := LH (((((MS.start w).alloc (p := P1) (by simp [hP1]) (dvC h d) 37)).alloc (p := (P1 + 1)) (by simp [hP1]) zDev 37))
 go_enter Tryz.func50, Tryz.ntmps50
 go_upto_region 1 with fail
 refine wp_gen HS.out (fun V0 HS1 => ?_)
 replace HS := LH HS1
 clear HS1 hP1
 have bP1 := HS.out.get 1 rfl
 simp only at bP1
 have bP1p1 := HS.out.get 0 rfl
 simp only at bP1p1
 have HG := LH (HS.out.set 0 rfl (dvC (offH h) (DevM.off d)))
 go_wp2_with (first
   | (refine wLP rfl 23 (.tmp 3) rfl P1 0 rfl (dvC h d) 37 (0, 0) bP1 (slotCells h) (part_slots h d) _ Tryz.underlying23 rfl (size_slots h) ?_)
   | (refine wLP rfl 31 (.tmp 5) rfl P1 2 rfl (dvC h d) 37 (0, 0) bP1 (cpC d.c) (part_cops h d) _ Tryz.underlying31 rfl (sCp d.c) ?_)
   | (refine wpList_build_two rfl 37 0 1 (.tmp 4) (.tmp 6) rfl (.agg (slotCells h)) (.agg (cpC d.c)) rfl rfl (dvC (offH h) (DevM.off d)) (built_off h d) ?_)
   | (refine wpList_store_row rfl 37 (.tmp 2) (.tmp 7) rfl (P1 + 1) (dvC (offH h) (DevM.off d)) rfl rfl 37 _ bP1p1 (sDv (offH h) (DevM.off d)) (like_zdev (offH h) (DevM.off d)) (oDv (offH h) (DevM.off d)) ?_))
 clear bP1 bP1p1
 refine bodyPost_ret (v := .agg (dvC (offH h) (DevM.off d))) ?_ rfl ?_
 · exact res_c (fn := Tryz.f50) (p := 2) rfl rfl (HG.out.get 0 rfl) Tryz.underlying37 rfl (sDv _ _)
 · exact ⟨rfl, HG.out.below⟩
theorem checkS0 (h : DevH) (d : DevR) (h0 : h.n0 ≠ 64) (w : World) (HD : DH w h d) : Calls Tryz.prog 10 #[devV h d] w fun e w' => e = .returned (.int .i64 3) ∧ Below w.heap.size w w' := by
 have q0 : ((h.n0 : Int) != 64) = true := by simp; omega
 clear h0
 have i0 : ∀ W, (Instr.index 23 (.agg #[.slice h.a0 h.n0 h.c0, .slice h.a1 h.n1 h.c1]) (.int .i64 0)).run Tryz.prog W = .ok (.slice h.a0 h.n0 h.c0) W := fun _ => by kernel_rfl
 have i1 : ∀ W, (Instr.index 23 (.agg #[.slice h.a0 h.n0 h.c0, .slice h.a1 h.n1 h.c1]) (.int .i64 1)).run Tryz.prog W = .ok (.slice h.a1 h.n1 h.c1) W := fun _ => by kernel_rfl
 unfold devV
 obtain ⟨P1, hP1⟩ : ∃ P, w.heap.size = P := ⟨_, rfl⟩
 have HS := LH ((((MS.start w).arg HD.argR).alloc (p := P1) (by simp [hP1]) (dvC h d) 37))
 go_enter Tryz.func10, Tryz.ntmps10
 go_upto_region 1 with fail
 refine wp_gen HS.out (fun V0 HS1 => ?_)
 replace HS := LH HS1
 clear HS1 hP1
 have cP1_0 := cAt (k := 0) (v := .slice h.a0 h.n0 h.c0) (HS.out.get 0 rfl) rfl
 simp only at cP1_0
 have cP1_1 := cAt (k := 1) (v := .slice h.a1 h.n1 h.c1) (HS.out.get 0 rfl) rfl
 simp only at cP1_1
 go_wp2_with fail
 clear cP1_0 cP1_1
 go_loopw [10] (fun i wr => ∃ k : Nat, i = .int .i64 k ∧ k ≤ 0 ∧ MS w [(P1, dvC h d, 37)] [fun W => DH W h d] [] wr) (fun i _ => 2 - (intOf i).toNat)
 case atStart => exact ⟨0, rfl, by omega, HS.out⟩
 case round =>
   obtain ⟨k, rfl, hk, hs⟩ := hrel
   replace HS := LH hs
   clear hs
   rcases (by omega : k = 0) with rfl
   · skip
     go_wp2_with fail
     go_ret
     exact ⟨rfl, HS.out.below⟩
theorem checkS1 (h : DevH) (d : DevR) (h0 : h.n0 = 64) (h1 : h.n1 ≠ 64) (w : World) (HD : DH w h d) : Calls Tryz.prog 10 #[devV h d] w fun e w' => e = .returned (.int .i64 3) ∧ Below w.heap.size w w' := by
 have q0 : ((h.n0 : Int) != 64) = false := by simp; omega
 have q1 : ((h.n1 : Int) != 64) = true := by simp; omega
 clear h0 h1
 have i0 : ∀ W, (Instr.index 23 (.agg #[.slice h.a0 h.n0 h.c0, .slice h.a1 h.n1 h.c1]) (.int .i64 0)).run Tryz.prog W = .ok (.slice h.a0 h.n0 h.c0) W := fun _ => by kernel_rfl
 have i1 : ∀ W, (Instr.index 23 (.agg #[.slice h.a0 h.n0 h.c0, .slice h.a1 h.n1 h.c1]) (.int .i64 1)).run Tryz.prog W = .ok (.slice h.a1 h.n1 h.c1) W := fun _ => by kernel_rfl
 unfold devV
 obtain ⟨P1, hP1⟩ : ∃ P, w.heap.size = P := ⟨_, rfl⟩
 have HS := LH ((((MS.start w).arg HD.argR).alloc (p := P1) (by simp [hP1]) (dvC h d) 37))
 go_enter Tryz.func10, Tryz.ntmps10
 go_upto_region 1 with fail
 refine wp_gen HS.out (fun V0 HS1 => ?_)
 replace HS := LH HS1
 clear HS1 hP1
 have cP1_0 := cAt (k := 0) (v := .slice h.a0 h.n0 h.c0) (HS.out.get 0 rfl) rfl
 simp only at cP1_0
 have cP1_1 := cAt (k := 1) (v := .slice h.a1 h.n1 h.c1) (HS.out.get 0 rfl) rfl
 simp only at cP1_1
 go_wp2_with fail
 clear cP1_0 cP1_1
 go_loopw [10] (fun i wr => ∃ k : Nat, i = .int .i64 k ∧ k ≤ 1 ∧ MS w [(P1, dvC h d, 37)] [fun W => DH W h d] [] wr) (fun i _ => 2 - (intOf i).toNat)
 case atStart => exact ⟨0, rfl, by omega, HS.out⟩
 case round =>
   obtain ⟨k, rfl, hk, hs⟩ := hrel
   replace HS := LH hs
   clear hs
   rcases (by omega : k = 0 ∨ k = 1) with rfl | rfl
   · skip
     go_wp2_with fail
     go_roundw
     case rel => exact ⟨1, by go_num, by omega, HS.out⟩
     case measure => simp [intOf]
   · skip
     go_wp2_with fail
     go_ret
     exact ⟨rfl, HS.out.below⟩
theorem checkR (h : DevH) (d : DevR) (h0 : h.n0 = 64) (h1 : h.n1 = 64) (l0 : d.s0.length = 64) (l1 : d.s1.length = 64) (w : World) (HD : DH w h d) : Calls Tryz.prog 10 #[devV h d] w fun e w' => e = .returned (.int .i64 (DevM.check d)) ∧ Below w.heap.size w w' := by
 have q0 : ((h.n0 : Int) != 64) = false := by simp; omega
 have q1 : ((h.n1 : Int) != 64) = false := by simp; omega
 clear h0 h1
 have HRC : Hid (∀ x : RecR, recV x = .agg (rcC x)) := fun _ => rfl
 have HRd : Hid (∀ W, Calls Tryz.prog 28 #[.agg (cpC d.c)] W fun e w' => e = .returned (.tuple #[.agg (rcC (RecM.readOf d.c).1), .int .i64 (RecM.readOf d.c).2.1, .int .i64 (RecM.readOf d.c).2.2]) ∧ Below W.heap.size W w') := fun W => rdR d.c W
 have HUp := LH (fun W (x : DH W h d) (hc : RecM.check (RecM.cur d.c) = 0) => checkUpD_any h d (RecM.cur d.c) W x hc l0 l1)
 have HB : Hid (DevM.check d = if RecM.copies d.c ≠ 0 then RecM.copies d.c else if d.up = false then (if d.run ≠ 0 ∨ d.got ≠ [] ∨ d.busy = true ∨ d.done ≠ 0 ∨ d.job ≠ noPat then 3 else 0) else DevM.upE d (RecM.cur d.c)) := by
   show _ = _
   unfold DevM.check
   rw [if_neg (by omega)]
   rfl
 have HDn := LH (fun q : d.up = false => DevM.down_iff q)
 clear l0 l1
 unfold devV at HUp
 have i0 : ∀ W, (Instr.index 23 (.agg #[.slice h.a0 h.n0 h.c0, .slice h.a1 h.n1 h.c1]) (.int .i64 0)).run Tryz.prog W = .ok (.slice h.a0 h.n0 h.c0) W := fun _ => by kernel_rfl
 have i1 : ∀ W, (Instr.index 23 (.agg #[.slice h.a0 h.n0 h.c0, .slice h.a1 h.n1 h.c1]) (.int .i64 1)).run Tryz.prog W = .ok (.slice h.a1 h.n1 h.c1) W := fun _ => by kernel_rfl
 unfold devV
 obtain ⟨P1, hP1⟩ : ∃ P, w.heap.size = P := ⟨_, rfl⟩
 have HS := LH ((((MS.start w).arg HD.argR).alloc (p := P1) (by simp [hP1]) (dvC h d) 37))
 go_enter Tryz.func10, Tryz.ntmps10
 go_upto_region 1 with fail
 refine wp_gen HS.out (fun V0 HS1 => ?_)
 replace HS := LH HS1
 clear HS1 hP1
 have cP1_0 := cAt (k := 0) (v := .slice h.a0 h.n0 h.c0) (HS.out.get 0 rfl) rfl
 simp only at cP1_0
 have cP1_1 := cAt (k := 1) (v := .slice h.a1 h.n1 h.c1) (HS.out.get 0 rfl) rfl
 simp only at cP1_1
 go_wp2_with fail
 clear cP1_0 cP1_1
 go_loopw [10] (fun i wr => ∃ k : Nat, i = .int .i64 k ∧ k ≤ 2 ∧ MS w [(P1, dvC h d, 37)] [fun W => DH W h d] [] wr) (fun i _ => 2 - (intOf i).toNat)
 case atStart => exact ⟨0, rfl, by omega, HS.out⟩
 case round =>
   obtain ⟨k, rfl, hk, hs⟩ := hrel
   replace HS := LH hs
   clear hs
   rcases (by omega : k = 0 ∨ k = 1 ∨ k = 2) with rfl | rfl | rfl
   · skip
     go_wp2_with fail
     go_roundw
     case rel => exact ⟨1, by go_num, by omega, HS.out⟩
     case measure => simp [intOf]
   · skip
     go_wp2_with fail
     go_roundw
     case rel => exact ⟨2, by go_num, by omega, HS.out⟩
     case measure => simp [intOf]
   · skip
     have bP1 := HS.out.get 0 rfl
     simp only at bP1
     go_wp2_with (first
       | (refine wLP rfl 31 (.tmp 18) rfl P1 2 rfl (dvC h d) 37 (0, 0) bP1 (cpC d.c) (part_cops h d) _ Tryz.underlying31 rfl (sCp d.c) ?_))
     clear bP1
     by_cases c0 : RecM.copies d.c = 0
     case neg =>
       have hr : RecM.readOf d.c = (RecM.noRec, 0, RecM.copies d.c) := if_pos c0
       rw [hr] at HRd
       obtain ⟨E, hE⟩ : ∃ E, RecM.copies d.c = E := ⟨_, rfl⟩
       replace HB := LH (HB.out.trans (if_pos c0))
       rw [hE] at HRd HB c0
       have t0 : (E != 0) = true := by simp [c0]
       clear hr hE c0
       refine (HRd.out _).mono ?_
       rintro e W1 ⟨rfl, hb⟩
       replace HS := LH (HS.out.later hb)
       clear hb
       obtain ⟨P3, hP3⟩ : ∃ P, W1.heap.size = P := ⟨_, rfl⟩
       replace HS := LH (HS.out.alloc hP3 (rcC RecM.noRec) 28)
       go_wp2_with (first
         | (refine wSN rfl 28 (.tmp 5) (.tmp 21) rfl P3 (rcC RecM.noRec) rfl rfl 28 _ hP3.symm (sRc RecM.noRec) (lRc RecM.noRec) (oRc RecM.noRec) ?_))
       go_ret
       exact ⟨ret_i HB.out.symm, HS.out.below⟩
     have hr : RecM.readOf d.c = (RecM.cur d.c, RecM.newest d.c, 0) := if_neg (fun q => q c0)
     rw [hr] at HRd
     replace HB := LH (HB.out.trans (if_neg (fun q => q c0)))
     have HCk := LH (RecM.cur_ok c0)
     clear hr c0
     refine (HRd.out _).mono ?_
     rintro e W1 ⟨rfl, hb⟩
     replace HS := LH (HS.out.later hb)
     clear hb
     obtain ⟨P3, hP3⟩ : ∃ P, W1.heap.size = P := ⟨_, rfl⟩
     replace HS := LH (HS.out.alloc hP3 (rcC (RecM.cur d.c)) 28)
     go_upto_region 8 with (refine wSN rfl 28 (.tmp 5) (.tmp 21) rfl P3 (rcC (RecM.cur d.c)) rfl rfl 28 _ hP3.symm (sRc (RecM.cur d.c)) (lRc (RecM.cur d.c)) (oRc (RecM.cur d.c)) ?_)
     refine wp_gen HS.out (fun V1 HS1 => ?_)
     replace HS := LH HS1
     clear HS1 hP3
     have cP1_26 := cAt (k := 26) (v := .bool d.up) (HS.out.get 1 rfl) rfl
     simp only at cP1_26
     cases hu : d.up with
     | true =>
       rw [hu] at cP1_26 HB
       replace HB := LH (HB.out.trans (if_neg (by decide)))
       clear hu
       have bP1 := HS.out.get 1 rfl
       simp only at bP1
       have bP3 := HS.out.get 0 rfl
       simp only at bP3
       go_wp2_with (first
         | (refine wpList_load_row rfl 37 (.tmp 1) rfl P1 rfl 37 (dvC h d) (0, 0) _ bP1 Tryz.underlying37 rfl (sDv h d) ?_)
         | (refine wpList_load_row rfl 28 (.tmp 5) rfl P3 rfl 28 (rcC (RecM.cur d.c)) (0, 0) _ bP3 Tryz.underlying28 rfl (sRc (RecM.cur d.c)) ?_))
       clear cP1_26 bP1 bP3
       refine (HUp.out _ (HS.out.read 0 rfl) HCk.out).mono ?_
       rintro e W2 ⟨rfl, hb⟩
       replace HS := LH (HS.out.later hb)
       clear hb
       go_wp2_with fail
       go_ret
       exact ⟨ret_i HB.out.symm, HS.out.below⟩
     | false =>
       rw [hu] at cP1_26 HB
       replace HB := LH (HB.out.trans (if_pos rfl))
       replace HDn := LH (HDn.out hu)
       clear hu
       have HO := LH (fun W => offD_any h d W)
       have HSm := LH (fun W (x : DH W h d) => sameD_any h (offH h) d (DevM.off d) W x x.off)
       unfold devV at HO HSm
       go_wp2_with fail
       clear cP1_26
       by_cases hd : d = DevM.off d
       case pos =>
         have HR := LH (HB.out.trans (if_neg (HDn.out.1 hd)))
         have HSq : Hid (∀ W, DH W h d → Calls Tryz.prog 11 #[.agg (dvC h d), .agg (dvC (offH h) (DevM.off d))] W fun e w' => e = .returned (.bool true) ∧ Below W.heap.size W w') := fun W x => by
           have := HSm.out W x
           rw [decide_eq_true hd] at this
           exact this
         clear hd
         refine rTu (S := MS w [(P3, (rcC (RecM.cur d.c)), 28), (P1, (dvC h d), 37)] [(fun W => DH W h d)] []) [(0, false), (1, false), (2, true), (3, true), (4, false), (5, false)] false 9999 (by kernel_rfl) (by kernel_rfl) HS.out.drew ?_
         simp only [turned, gA, gB, gC]
         replace HS := LH HS.out.drew
         repeat (first
           | ((refine turn_row (by rfl) 37 (.tmp 1) rfl P1 rfl 37 (dvC h d) _ (fun W hW => hW.get 1 rfl) Tryz.underlying37 rfl (sDv h d) ?_); simp only [Act.put, sA, sB, sC])
           | (refine tSt ?_ (by rfl) (fun W9 hW9 => ?_) ?_
              rotate_left
              · (go_simp <;> with_reducible rfl)
              simp only [Act.put, sA, sB, sC])
           | (refine tSk (by rfl) ?_; simp only [Act.put, sA, sB, sC]))
         refine tCa (fun K hK => ?_)
         go_simp
         go_at_call 50
         with_reducible refine (HO.out _).mono ?_
         rintro e W11 ⟨rfl, hb⟩
         replace HS := LH (HS.out.later hb)
         clear hb
         try go_wp2_with fail
         refine hK.out _ _ HS.out ?_
         clear hK K
         try simp only [Act.put, sA, sB, sC]
         refine tCa (fun K hK => ?_)
         go_simp
         go_at_call 11
         with_reducible refine (HSq.out _ (HS.out.read 0 rfl)).mono ?_
         rintro e W12 ⟨rfl, hb⟩
         replace HS := LH (HS.out.later hb)
         clear hb
         try go_wp2_with fail
         refine hK.out _ _ HS.out ?_
         clear hK K
         try simp only [Act.put, sA, sB, sC]
         repeat (first
           | (refine tSt ?_ (by rfl) (fun W9 hW9 => ?_) ?_
              rotate_left
              · (go_simp <;> with_reducible rfl)
              simp only [Act.put, sA, sB, sC])
           | (refine tSk (by rfl) ?_; simp only [Act.put, sA, sB, sC]))
         refine tEn ?_
         go_wp2_with fail
         go_ret
         exact ⟨ret_i HR.out.symm, HS.out.below⟩
       have HR := LH (HB.out.trans (if_pos (Classical.not_not.1 (fun q => hd (HDn.out.2 q)))))
       have HSq : Hid (∀ W, DH W h d → Calls Tryz.prog 11 #[.agg (dvC h d), .agg (dvC (offH h) (DevM.off d))] W fun e w' => e = .returned (.bool false) ∧ Below W.heap.size W w') := fun W x => by
         have := HSm.out W x
         rw [decide_eq_false hd] at this
         exact this
       clear hd
       refine rTu (S := MS w [(P3, (rcC (RecM.cur d.c)), 28), (P1, (dvC h d), 37)] [(fun W => DH W h d)] []) [(0, false), (1, false), (2, true), (3, true), (4, false), (5, false)] false 9999 (by kernel_rfl) (by kernel_rfl) HS.out.drew ?_
       simp only [turned, gA, gB, gC]
       replace HS := LH HS.out.drew
       repeat (first
         | ((refine turn_row (by rfl) 37 (.tmp 1) rfl P1 rfl 37 (dvC h d) _ (fun W hW => hW.get 1 rfl) Tryz.underlying37 rfl (sDv h d) ?_); simp only [Act.put, sA, sB, sC])
         | (refine tSt ?_ (by rfl) (fun W9 hW9 => ?_) ?_
            rotate_left
            · (go_simp <;> with_reducible rfl)
            simp only [Act.put, sA, sB, sC])
         | (refine tSk (by rfl) ?_; simp only [Act.put, sA, sB, sC]))
       refine tCa (fun K hK => ?_)
       go_simp
       go_at_call 50
       with_reducible refine (HO.out _).mono ?_
       rintro e W11 ⟨rfl, hb⟩
       replace HS := LH (HS.out.later hb)
       clear hb
       try go_wp2_with fail
       refine hK.out _ _ HS.out ?_
       clear hK K
       try simp only [Act.put, sA, sB, sC]
       refine tCa (fun K hK => ?_)
       go_simp
       go_at_call 11
       with_reducible refine (HSq.out _ (HS.out.read 0 rfl)).mono ?_
       rintro e W12 ⟨rfl, hb⟩
       replace HS := LH (HS.out.later hb)
       clear hb
       try go_wp2_with fail
       refine hK.out _ _ HS.out ?_
       clear hK K
       try simp only [Act.put, sA, sB, sC]
       repeat (first
         | (refine tSt ?_ (by rfl) (fun W9 hW9 => ?_) ?_
            rotate_left
            · (go_simp <;> with_reducible rfl)
            simp only [Act.put, sA, sB, sC])
         | (refine tSk (by rfl) ?_; simp only [Act.put, sA, sB, sC]))
       refine tEn ?_
       go_wp2_with fail
       go_ret
       exact ⟨ret_i HR.out.symm, HS.out.below⟩
theorem ckD (h : DevH) (d : DevR) (w : World) (HD : DH w h d) : Calls Tryz.prog 10 #[devV h d] w fun e w' => e = .returned (.int .i64 (DevM.check d)) ∧ Below w.heap.size w w' := by
 have e0 := HD.b0.len
 have e1 := HD.b1.len
 by_cases h0 : h.n0 = 64
 · by_cases h1 : h.n1 = 64
   · exact checkR h d h0 h1 (by omega) (by omega) w HD
   · rw [show DevM.check d = 3 from if_pos (.inr (by omega))]
     exact checkS1 h d h0 h1 w HD
 · rw [show DevM.check d = 3 from if_pos (.inl (by omega))]
   exact checkS0 h d h0 w HD
theorem checkD_ok : CheckDC := fun h d w HD => ckD h d w HD
theorem geN_any (v : Value) (r : ChR) (B : Nat) (N : Int) (w : World) (hv : CV w v r) (hB : w.cell? ⟨B, 2, none⟩ = some (.int .i64 N)) :
   Calls Tryz.prog 104 #[v, .pointer (some ⟨B, 0, none⟩)] w fun e w' => e = .returned (.bool (decide (N ≤ r.n))) ∧ Below w.heap.size w w' := by
 obtain ⟨a, m, c, rfl, hd, -⟩ := hv
 obtain ⟨f, t, n, o, D⟩ := r
 simp only at hd ⊢
 have hb : Below w.heap.size w (w.alloc (.cells #[.int .i64 f, .int .i64 t, .int .i64 n, .int .i64 o, .slice a m c] 39)) := (Below.refl _ _).alloc (Nat.le_refl _) _
 have hc := cell_later hb hB
 have HB := LH hb
 clear hb hd
 go_enter Tryz.func104, Tryz.ntmps104
 go_wp2_with fail
 go_ret
 exact ⟨rfl, HB.out⟩
def AtRel (l : List ChR) (N : Int) (w : World) (i : Value) (wr : World) : Prop :=
 ∃ k : Nat, i = .int .i64 k ∧ k ≤ l.length ∧ (∀ x ∈ l.take k, x.n < N) ∧ Below w.heap.size w wr
theorem atC_any (a : Option Addr) (n c : Nat) (l : List ChR) (B : Nat) (N : Int) (w : World) (hl : CS w a n c l) (hB : w.cell? ⟨B, 2, none⟩ = some (.int .i64 N)) :
   Calls Tryz.prog 103 #[.slice a n c, .func (.func 104) #[] #[.pointer (some ⟨B, 0, none⟩)]] w fun e w' => ∃ i, e = .returned (.int .i64 i) ∧ ChunkM.AtIs l N i ∧ Below w.heap.size w w' := by
 have hlen : n ≤ 9223372036854775807 := by have := hl.le; have := hl.max; omega
 have HL := LH hl
 have HLn := LH hl.len
 have HB0 := LH hB
 clear hl hB
 go_enter Tryz.func103, Tryz.ntmps103
 go_wp2_with fail
 go_loopw [8] (fun i wr => AtRel l N w i wr) (fun i _ => n - (intOf i).toNat)
 case atStart => exact ⟨0, rfl, Nat.zero_le _, by simp, Below.refl _ _⟩
 case round =>
   obtain ⟨k, rfl, hk, ht, hB⟩ := hrel
   rw [HLn.out] at hk
   have HT := LH ht
   have HB := LH hB
   clear ht hB
   by_cases hlt : k < n
   · obtain ⟨b, off, rfl, hcs⟩ := (HL.out.later HB.out).cells (by omega)
     obtain ⟨va, vm, vc, q0, q1, q2, q3, q4, q5, qI⟩ := hcs k hlt
     have HTk : Hid (l.take (k + 1) = l.take k ++ [l.getD k default]) := by
       show _ = _
       have hkl : k < l.length := by rw [HLn.out]; exact hlt
       rw [List.take_add_one, List.getD_eq_getElem?_getD, List.getElem?_eq_getElem hkl]
       rfl
     obtain ⟨x, hx⟩ : ∃ x, l.getD k default = x := ⟨_, rfl⟩
     have HX := LH hx
     rw [hx] at q0 q1 q2 q3 q5 qI HTk
     obtain ⟨F, T, M, O, D⟩ := x
     simp only at q0 q1 q2 q3 q4 q5
     have HCV : Hid (CV wr (.agg #[.int .i64 F, .int .i64 T, .int .i64 M, .int .i64 O, .slice va vm vc]) ⟨F, T, M, O, D⟩) := ⟨va, vm, vc, rfl, q5, qI⟩
     have HCB := LH (cell_later HB.out HB0.out)
     clear hcs q5 qI hx
     go_wp2_with fail
     refine (geN_any _ _ B N _ HCV.out HCB.out).mono ?_
     rintro e W2 ⟨rfl, b2⟩
     have HB2 := LH (bTh HB.out b2)
     clear b2
     by_cases hm : N ≤ M
     · rw [decide_eq_true hm]
       have HR : Hid (ChunkM.AtIs l N k) := .inr ⟨k, rfl, by rw [HLn.out]; exact hlt, by rw [HX.out]; exact hm, HT.out⟩
       go_wp2_with fail
       go_ret
       exact ⟨_, rfl, HR.out, HB2.out⟩
     · rw [decide_eq_false hm]
       have HM := LH hm
       clear hm
       go_wp2_with fail
       go_roundw
       case rel =>
         refine ⟨k + 1, by go_num, by rw [HLn.out]; omega, fun x hx => ?_, HB2.out⟩
         rw [HTk.out] at hx
         rcases List.mem_append.1 hx with hx | hx
         · exact HT.out x hx
         · obtain rfl : x = _ := by simpa using hx
           have := HM.out
           simp only
           omega
       case measure => simp [intOf]; omega
   · have HR : Hid (ChunkM.AtIs l N (-1)) := by
       refine .inl ⟨rfl, fun x hx => HT.out x ?_⟩
       rwa [List.take_of_length_le (by rw [HLn.out]; omega)]
     go_wp2_with fail
     go_ret
     exact ⟨_, rfl, HR.out, HB.out⟩
structure AdW (w : World) (B : Nat) (x : ChR) (xa : Option Addr) (xm xc : Nat) (a : Option Addr) (n c : Nat) (l : List ChR) (W : World) : Prop where
 blk : W.heap[B]? = some (.cells #[.int .i64 x.fr, .int .i64 x.to_, .int .i64 x.n, .int .i64 x.of_, .slice xa xm xc] 39 (0, 0))
 cs : CS W a n c l
 bs : BS W xa xm xc x.data
 below : Below w.heap.size w W
theorem AdW.later {w : World} {B : Nat} {x : ChR} {xa : Option Addr} {xm xc : Nat} {a : Option Addr} {n c : Nat} {l : List ChR} {W W' : World} (h : AdW w B x xa xm xc a n c l W) (hb : Below W.heap.size W W') : AdW w B x xa xm xc a n c l W' :=
 ⟨(hb.block B (lt_blk h.blk)).trans h.blk, h.cs.later hb, h.bs.later hb, bTh h.below hb⟩
theorem AdW.cells {w : World} {B : Nat} {x : ChR} {xa : Option Addr} {xm xc : Nat} {a : Option Addr} {n c : Nat} {l : List ChR} {W : World} (h : AdW w B x xa xm xc a n c l W) : W.cell? ⟨B, 0, none⟩ = some (.int .i64 x.fr) ∧ W.cell? ⟨B, 1, none⟩ = some (.int .i64 x.to_) ∧ W.cell? ⟨B, 2, none⟩ = some (.int .i64 x.n) ∧ W.cell? ⟨B, 3, none⟩ = some (.int .i64 x.of_) ∧ W.cell? ⟨B, 4, none⟩ = some (.slice xa xm xc) := ch_cells h.blk
theorem AdW.lit {w : World} {B : Nat} {x : ChR} {xa : Option Addr} {xm xc : Nat} {a : Option Addr} {n c : Nat} {l : List ChR} {W : World} (h : AdW w B x xa xm xc a n c l W) (hI : x.I) {Q : Nat} (hQ : W.heap[Q]? = some (.cells #[.int .i64 x.fr, .int .i64 x.to_, .int .i64 x.n, .int .i64 x.of_, .slice xa xm xc] 39 (0, 0))) : CS W (some ⟨Q, 0, none⟩) 1 1 [x] := by
 refine ⟨rfl, Nat.le_refl _, by omega, fun _ => ⟨Q, 0, rfl, fun i hi => ?_⟩, fun h => by cases h⟩
 obtain rfl : i = 0 := by omega
 obtain ⟨k0, k1, k2, k3, k4⟩ := ch_cells hQ
 exact ⟨xa, xm, xc, k0, k1, k2, k3, k4, h.bs, hI⟩
theorem copied_len (a : Option Addr) (n c : Nat) (l : List ChR) (hln : l.length = n) (hn : n ≤ 1000) (hd : ∀ x ∈ l, x.data.length ≤ 1000) (w : World) (hs : CS w a n c l) :
   Calls Tryz.prog 102 #[.slice a n c] w fun e w' => ∃ a' c', e = .returned (.slice a' n c') ∧ CpSt w.heap.size (.slice a' n c') l w' ∧ Below w.heap.size w w' := by
 refine (copied_any a n c l w hs hn hd).mono ?_
 rintro e w' ⟨a', n', c', rfl, h1, h2, h3⟩
 obtain rfl : n = n' := hln.symm.trans h1
 exact ⟨a', c', rfl, h2, h3⟩
def GivesAdN (l : List ChR) (x : ChR) (w : World) (e : Ending) (w' : World) : Prop :=
 ∃ a n c, e = .returned (.tuple #[.slice a n c, .int .i64 (ChunkM.addOf l x).2]) ∧ NewR w.heap.size w' (fun V => CS V a n c (ChunkM.addOf l x).1) ∧ Below w.heap.size w w'
theorem addC_n (a : Option Addr) (n c : Nat) (l : List ChR) (v : Value) (x : ChR) (w : World) (hl : CS w a n c l) (hv : CV w v x) : Calls Tryz.prog 56 #[.slice a n c, v] w (GivesAdN l x w) := by
 obtain ⟨xa, xm, xc, rfl, hd, hI⟩ := hv
 obtain ⟨F, T, N, O, D⟩ := x
 simp only at hd ⊢
 have hlen : n ≤ 9223372036854775807 := by have := hl.le; have := hl.max; omega
 have HLn := LH hl.len
 have HI := LH hI
 obtain ⟨B, hBB⟩ : ∃ B, w.heap.size = B := ⟨_, rfl⟩
 have hb0 : Below w.heap.size w (w.alloc (.cells #[.int .i64 F, .int .i64 T, .int .i64 N, .int .i64 O, .slice xa xm xc] 39)) := (Below.refl _ _).alloc (Nat.le_refl _) _
 have H0 : Hid (AdW w B ⟨F, T, N, O, D⟩ xa xm xc a n c l (w.alloc (.cells #[.int .i64 F, .int .i64 T, .int .i64 N, .int .i64 O, .slice xa xm xc] 39))) := ⟨by rw [hpA, if_pos hBB.symm], hl.later hb0, hd.later hb0, hb0⟩
 have HBw : Hid (w.heap.size ≤ B) := by show _ ≤ _; omega
 clear hl hb0 hd hI
 go_enter Tryz.func56, Tryz.ntmps56
 go_wp2_with fail
 generalize w.alloc (.cells #[.int .i64 F, .int .i64 T, .int .i64 N, .int .i64 O, .slice xa xm xc] 39) = W0 at H0 ⊢
 refine (listC_ok a n c l _ H0.out.cs).mono ?_
 rintro e W1 ⟨rfl, b1⟩
 have H1 := LH (H0.out.later b1)
 obtain ⟨E, hE⟩ : ∃ E, ChunkM.checks l = E := ⟨_, rfl⟩
 rw [hE]
 clear b1 H0
 by_cases hE0 : E = 0
 · subst hE0
   have HE := LH hE
   obtain ⟨k0, k1, k2, k3, k4⟩ := H1.out.cells
   simp only at k0 k1 k2 k3 k4
   have HCV : Hid (CV W1 (.agg #[.int .i64 F, .int .i64 T, .int .i64 N, .int .i64 O, .slice xa xm xc]) ⟨F, T, N, O, D⟩) := ⟨xa, xm, xc, rfl, H1.out.bs, HI.out⟩
   have h52 := ChunkM.checks_few hE
   rw [HLn.out] at h52
   have HDat : Hid (∀ y ∈ l, y.data.length ≤ 1000) := fun y hy => by have := ChunkM.checks_data HE.out y hy; omega
   clear hE
   go_wp2_with fail
   refine (checkC_ok _ _ _ HCV.out).mono ?_
   rintro e W2 ⟨rfl, b2⟩
   have H2 := LH (H1.out.later b2)
   have HCV2 := LH (HCV.out.later b2)
   obtain ⟨E2, hE2⟩ : ∃ E, ChunkM.check ⟨F, T, N, O, D⟩ = E := ⟨_, rfl⟩
   rw [hE2]
   clear b2 H1 HCV k0 k1 k2 k3 k4
   by_cases hE20 : E2 = 0
   · subst hE20
     have HE2 := LH hE2
     have hgood := ChunkM.check_good hE2
     simp only at hgood
     obtain ⟨-, -, gO, gN, -, gD, -⟩ := hgood
     have HK : Hid (ChunkM.addOf l ⟨F, T, N, O, D⟩ = (ChunkM.ins (ChunkM.those l ⟨F, T, N, O, D⟩) ⟨F, T, N, O, D⟩, 0)) := by
       show _ = _
       unfold ChunkM.addOf
       rw [if_neg (by rw [HE.out]; simp), if_neg (by rw [HE2.out]; simp)]
     obtain ⟨k0, k1, k2, k3, k4⟩ := H2.out.cells
     simp only at k0 k1 k2 k3 k4
     clear hE2
     go_upto_if 29 with fail
     go_cut [29] (fun s29 wx => ∃ q : Bool, s29 = .bool q ∧ ((q = true ∧ ChunkM.those l ⟨F, T, N, O, D⟩ = []) ∨ (q = false ∧ ChunkM.those l ⟨F, T, N, O, D⟩ = l)) ∧ Below W2.heap.size W2 wx)
     case first =>
       by_cases hn0 : n = 0
       · subst hn0
         have HTh : Hid (ChunkM.those l ⟨F, T, N, O, D⟩ = l) := by
           show _ = _
           unfold ChunkM.those
           rw [if_neg (fun h => h.1 (List.eq_nil_of_length_eq_zero HLn.out))]
         go_wp2_with fail
         go_quiet (fail)
         have hbq := below_drewN (Below.refl W2.heap.size W2) nq
         go_wp2_with fail
         go_meet
         exact ⟨_, rfl, .inr ⟨rfl, HTh.out⟩, hbq⟩
       · obtain ⟨b, off, rfl, hcs⟩ := H2.out.cs.cells (by omega)
         obtain ⟨za, zm, zc, z0, z1, z2, z3, z4, z5, zI⟩ := hcs 0 (by omega)
         have HNil : Hid (l ≠ []) := by
           show l ≠ []
           rintro rfl
           exact hn0 HLn.out.symm
         obtain ⟨zz, hzz⟩ : ∃ zz, l.getD 0 default = zz := ⟨_, rfl⟩
         rw [hzz] at z0 z1 z2 z3 z5 zI
         have HZZ := LH hzz
         obtain ⟨ZF, ZT, ZN, ZO, ZD⟩ := zz
         simp only [Nat.zero_mul, Nat.add_zero] at z0 z1 z2 z3 z4 z5
         have HW : Hid (KinW W2 b off B ⟨ZF, ZT, ZN, ZO, ZD⟩ ⟨F, T, N, O, D⟩ za zm zc xa xm xc W2) := ⟨z0, z1, z2, z3, z4, H2.out.blk, ⟨za, zm, zc, rfl, z5, zI⟩, HCV2.out, Below.refl _ _⟩
         have h0n : (0 : Int) < (n : Int) := by omega
         have h0m : 0 < n := by omega
         have HTh : Hid ((ChunkM.kin ⟨ZF, ZT, ZN, ZO, ZD⟩ ⟨F, T, N, O, D⟩ → ChunkM.those l ⟨F, T, N, O, D⟩ = l) ∧ (¬ ChunkM.kin ⟨ZF, ZT, ZN, ZO, ZD⟩ ⟨F, T, N, O, D⟩ → ChunkM.those l ⟨F, T, N, O, D⟩ = [])) := by
           refine ⟨fun h => ?_, fun h => ?_⟩
           · unfold ChunkM.those
             rw [if_neg (fun h' => h'.2 (by rw [HZZ.out]; exact ⟨h.1.symm, h.2.1.symm, h.2.2.symm⟩))]
           · unfold ChunkM.those
             rw [if_pos ⟨HNil.out, by rw [HZZ.out]; exact fun h' => h ⟨h'.1.symm, h'.2.1.symm, h'.2.2.symm⟩⟩]
         obtain ⟨q, hq⟩ : ∃ q, decide (ChunkM.kin ⟨ZF, ZT, ZN, ZO, ZD⟩ ⟨F, T, N, O, D⟩) = q := ⟨_, rfl⟩
         have HKK : Hid (∀ W, CV W (.agg #[.int .i64 ZF, .int .i64 ZT, .int .i64 ZN, .int .i64 ZO, .slice za zm zc]) ⟨ZF, ZT, ZN, ZO, ZD⟩ → CV W (.agg #[.int .i64 F, .int .i64 T, .int .i64 N, .int .i64 O, .slice xa xm xc]) ⟨F, T, N, O, D⟩ → Calls Tryz.prog 97 #[.agg #[.int .i64 ZF, .int .i64 ZT, .int .i64 ZN, .int .i64 ZO, .slice za zm zc], .agg #[.int .i64 F, .int .i64 T, .int .i64 N, .int .i64 O, .slice xa xm xc]] W fun e w' => e = .returned (.bool q) ∧ Below W.heap.size W w') := by
           show ∀ W, _
           intro W h1 h2
           have := kinC_any _ _ _ _ W h1 h2
           rwa [hq] at this
         have HQ := LH hq
         clear hcs z0 z1 z2 z3 z4 z5 zI hzz hq k0 k1 k2 k3 k4
         go_wp2_with fail
         refine wp_region_quiet (C := fun W => KinW W2 b off B ⟨ZF, ZT, ZN, ZO, ZD⟩ ⟨F, T, N, O, D⟩ za zm zc xa xm xc W) (by kernel_rfl) (by kernel_rfl) (HW.out.later (Below.refl _ _).drew) ?_
         dsimp only
         repeat (first
           | go_big_quiet_skip
           | (go_big_quiet_want
              first
                | (go_big_quiet_op
                   go_big_quiet_on)
                | (unfold Oper.quiet
                   apply Exists.intro
                   refine ⟨fun W9 hW9 => ?_, ?_⟩
                   · obtain ⟨c0, c1, c2, c3, c4, d0, d1, d2, d3, d4⟩ := hW9.cells
                     simp only at c0 c1 c2 c3 c4 d0 d1 d2 d3 d4
                     go_simp
                     first
                       | with_reducible rfl
                       | (go_at_call 97; exact (HKK.out _ hW9.cx hW9.cy).mono (fun _ _ h => ⟨h.1, hW9.later h.2⟩))
                   simp only [Act.put, sA, sB, sC]
                   go_big_quiet_on)))
         refine wpQuiet_nil ?_
         intro W9 hW9
         go_wp2_with fail
         go_meet
         refine ⟨_, rfl, ?_, hW9.below⟩
         cases q with
         | true => exact .inr ⟨rfl, HTh.out.1 (of_decide_eq_true HQ.out)⟩
         | false => exact .inl ⟨rfl, HTh.out.2 (of_decide_eq_false HQ.out)⟩
     case rest =>
      obtain ⟨qb, rfl, hqb, hbw⟩ := hcut
      have H7 := LH (H2.out.later hbw)
      clear hbw k0 k1 k2 k3 k4 H2 HCV2
      generalize wc = W7 at H7 ⊢
      obtain ⟨k0, k1, k2, k3, k4⟩ := H7.out.cells
      simp only at k0 k1 k2 k3 k4
      rcases hqb with ⟨rfl, hth⟩ | ⟨rfl, hth⟩
      · have HTh := LH hth
        clear hth
        have hba : Below W7.heap.size W7 (W7.alloc (.cells #[.int .i64 F, .int .i64 T, .int .i64 N, .int .i64 O, .slice xa xm xc] 39)) := (Below.refl _ _).alloc (Nat.le_refl _) _
        have H8 := H7.out.later hba
        have HCp := LH (copied_len (some ⟨W7.heap.size, 0, none⟩) 1 1 [⟨F, T, N, O, D⟩] rfl (by omega) (by intro y hy; simp at hy; rw [hy]; simp only; omega) _ (H8.lit HI.out (Q := W7.heap.size) (by rw [hpA, if_pos rfl])))
        have HB8 := LH H8.below
        clear H8 hba
        go_wp2_with fail
        refine HCp.out.mono ?_
        rintro e W9 ⟨a9, c9, rfl, hcp, b9⟩
        have HCS := LH ((hcp.newR.mono HB8.out.size).imp (fun _ q => q.cs rfl))
        have HB9 := LH (bTh HB8.out b9)
        clear hcp b9
        go_wp2_with fail
        go_ret2
        exact ⟨a9, 1, c9, tup_a (by rw [HK.out]), by rw [HK.out, HTh.out]; exact HCS.out, HB9.out⟩
      · have HTh := LH hth
        clear hth
        have HCpl := LH (copied_len a n c l HLn.out (by omega) HDat.out)
        have hmf : ∀ (fn : Fn) (first cap : Array Value) (w : World), (Instr.makeFunc fn first cap).run Tryz.prog w = .ok (.func fn first cap) w := fun _ _ _ _ => rfl
        have HAt := LH (atC_any a n c l B N _ H7.out.cs k2)
        go_wp2_with fail
        refine HAt.out.mono ?_
        rintro e W8 ⟨at_, rfl, hat, b8⟩
        have H8 := LH (H7.out.later b8)
        clear b8 H7 HAt k0 k1 k2 k3 k4
        obtain ⟨k0, k1, k2, k3, k4⟩ := H8.out.cells
        simp only at k0 k1 k2 k3 k4
        rcases hat with ⟨rfl, hno⟩ | ⟨k, rfl, hk, hge, hlo⟩
        · have HIns : Hid (ChunkM.ins l ⟨F, T, N, O, D⟩ = l.take n ++ ⟨F, T, N, O, D⟩ :: l.drop n) := by
            show _ = _
            have := ChunkM.ins_last (c := ⟨F, T, N, O, D⟩) hno
            rwa [HLn.out] at this
          have hnn : n ≤ n := Nat.le_refl n
          clear hno
          go_wp2_with fail
          have hba0 : Below W8.heap.size W8 (W8.alloc (.cells #[.int .i64 F, .int .i64 T, .int .i64 N, .int .i64 O, .slice xa xm xc] 39)) := (Below.refl _ _).alloc (Nat.le_refl _) _
          have HA1 := LH (H8.out.later (Below.refl _ _).drew)
          have HA2 := LH ((H8.out.later hba0).later (Below.refl _ _).drew)
          have HQ2 : Hid ((W8.alloc (.cells #[.int .i64 F, .int .i64 T, .int .i64 N, .int .i64 O, .slice xa xm xc] 39)).drew.heap[W8.heap.size]? = some (.cells #[.int .i64 F, .int .i64 T, .int .i64 N, .int .i64 O, .slice xa xm xc] 39 (0, 0))) := by
            show (W8.alloc (.cells #[.int .i64 F, .int .i64 T, .int .i64 N, .int .i64 O, .slice xa xm xc] 39)).heap[W8.heap.size]? = _
            rw [hpA, if_pos rfl]
          have HCo : Hid (∀ Q W, CS W (some ⟨Q, 0, none⟩) 1 1 [⟨F, T, N, O, D⟩] → Calls Tryz.prog 102 #[.slice (some ⟨Q, 0, none⟩) 1 1] W fun e w' => ∃ a' c', e = .returned (.slice a' 1 c') ∧ CpSt W.heap.size (.slice a' 1 c') [⟨F, T, N, O, D⟩] w' ∧ Below W.heap.size W w') :=
            fun Q W => copied_len (some ⟨Q, 0, none⟩) 1 1 [⟨F, T, N, O, D⟩] rfl (by omega) (by intro y hy; simp at hy; rw [hy]; simp only; omega) W
          have hn9 : n ≤ 1000 := by omega
          obtain ⟨o0, o1, o2, o3, o4⟩ := HA2.out.cells
          simp only at o0 o1 o2 o3 o4
          clear hba0
          go_region_held3 (fun W => W.cell? ⟨B, 0, none⟩ = some (.int .i64 F) ∧ W.cell? ⟨B, 1, none⟩ = some (.int .i64 T) ∧ W.cell? ⟨B, 2, none⟩ = some (.int .i64 N) ∧ W.cell? ⟨B, 3, none⟩ = some (.int .i64 O) ∧ W.cell? ⟨B, 4, none⟩ = some (.slice xa xm xc))
            (first | exact ⟨k0, k1, k2, k3, k4⟩ | exact ⟨o0, o1, o2, o3, o4⟩ | exact ⟨p0, p1, p2, p3, p4⟩ | exact ⟨q0, q1, q2, q3, q4⟩ | exact ⟨r0, r1, r2, r3, r4⟩ | exact ⟨t0, t1, t2, t3, t4⟩ | go_keep) (first
            | (go_at_call 105; (with_reducible refine HFA.out.mono ?_); rintro e W7 ⟨a7, c7, rfl, hcs7, hb7, hk7⟩
               have hz7 := HZ6.out
               obtain ⟨t0, t1, t2, t3, t4⟩ := ch_cells ((hk7 B (lt_blk hz7.1.blk) hz7.2).trans hz7.1.blk)
               have HCS7 := LH hcs7
               have HB7 := LH hb7
               clear hcs7 hb7 hk7 hz7)
            | (go_at_call 102; (with_reducible refine (HCpl.out _ HA1.out.cs).mono ?_); rintro e W4 ⟨a1, c1, rfl, hcp, da⟩
               have HA4 := LH (HA1.out.later da)
               obtain ⟨p0, p1, p2, p3, p4⟩ := HA4.out.cells
               simp only at p0 p1 p2 p3 p4
               have hba : Below W4.heap.size W4 (W4.alloc (.cells #[.int .i64 F, .int .i64 T, .int .i64 N, .int .i64 O, .slice xa xm xc] 39)) := (Below.refl _ _).alloc (Nat.le_refl _) _
               have HA5 := LH (HA4.out.later hba)
               obtain ⟨q0, q1, q2, q3, q4⟩ := HA5.out.cells
               simp only at q0 q1 q2 q3 q4
               have HCP5 := LH (hcp.later hba)
               have HLt := LH (fun g hg => hcp.own (g := g) hg)
               have HSz := LH da.size
               have HLit := LH (HA5.out.lit HI.out (Q := W4.heap.size) (by rw [hpA, if_pos rfl]))
               clear hba hcp da)
            | (go_at_call 102; (with_reducible refine (HCo.out _ _ HLit.out).mono ?_); rintro e W6 ⟨a2, c2, rfl, hcp2, db⟩
               have HA6 := HA5.out.later db
               obtain ⟨r0, r1, r2, r3, r4⟩ := HA6.cells
               simp only at r0 r1 r2 r3 r4
               have hs5 : W4.heap.size ≤ (W4.alloc (.cells #[.int .i64 F, .int .i64 T, .int .i64 N, .int .i64 O, .slice xa xm xc] 39)).heap.size := by simp
               have HFA := LH (insFin_any HA6.below (HCP5.out.later db) HLn.out (Nat.le_trans HA1.out.below.size (Nat.le_refl _)) (Nat.le_trans HSz.out (Nat.le_trans hs5 db.size)) hcp2 HA5.out.below.size (fun g hg => Nat.lt_of_lt_of_le (HLt.out g hg).2 hs5) n hnn hn9)
               have HZ6 : Hid (AdW w B ⟨F, T, N, O, D⟩ xa xm xc a n c l W6 ∧ some B ≠ (Value.slice a1 n c1).ownBlock) := ⟨HA6, fun e => by
                 have h9 := (HLt.out B e.symm).1
                 have h8 := lt_blk H8.out.blk
                 have h7 : W8.heap.size ≤ B := h9
                 omega⟩
               clear hcp2 db HA6 hs5)
            | (go_at_call 102; (with_reducible refine (HCpl.out _ HA2.out.cs).mono ?_); rintro e W4 ⟨a1, c1, rfl, hcp, da⟩
               have HA5 := LH (HA2.out.later da)
               obtain ⟨p0, p1, p2, p3, p4⟩ := HA5.out.cells
               simp only at p0 p1 p2 p3 p4
               have HCP5 := LH hcp
               have HLtB := LH (fun g hg => hcp.own (g := g) hg)
               have HSzB := LH da.size
               have HLitB := LH (HA5.out.lit HI.out (Q := W8.heap.size) ((da.block _ (lt_blk HQ2.out)).trans HQ2.out))
               clear hcp da)
            | (go_at_call 102; (with_reducible refine (HCo.out _ _ HLitB.out).mono ?_); rintro e W6 ⟨a2, c2, rfl, hcp2, db⟩
               have HA6 := HA5.out.later db
               obtain ⟨r0, r1, r2, r3, r4⟩ := HA6.cells
               simp only at r0 r1 r2 r3 r4
               have HFA := LH (insFin_any HA6.below (HCP5.out.later db) HLn.out HA2.out.below.size (Nat.le_trans HSzB.out db.size) hcp2 HA5.out.below.size (fun g hg => (HLtB.out g hg).2) n hnn hn9)
               have HZ6 : Hid (AdW w B ⟨F, T, N, O, D⟩ xa xm xc a n c l W6 ∧ some B ≠ (Value.slice a1 n c1).ownBlock) := ⟨HA6, fun e => by
                 have h9 := (HLtB.out B e.symm).1
                 have h8 := lt_blk H8.out.blk
                 have h7 : (W8.alloc (.cells #[.int .i64 F, .int .i64 T, .int .i64 N, .int .i64 O, .slice xa xm xc] 39)).heap.size ≤ B := h9
                 simp at h7
                 omega⟩
               clear hcp2 db HA6))
          all_goals
            go_wp2_with fail
            go_ret2
            exact ⟨_, _, _, tup_a (by rw [HK.out]), by rw [HK.out, HTh.out, HIns.out]; exact HCS7.out, HB7.out⟩
        · rw [HLn.out] at hk
          obtain ⟨b, off, rfl, hcs⟩ := H8.out.cs.cells (by omega)
          obtain ⟨ya, ym, yc, y0, y1, y2, y3, y4, -, -⟩ := hcs k hk
          have HKl : Hid (k < l.length) := by show k < l.length; rw [HLn.out]; exact hk
          obtain ⟨yN, hyN⟩ : ∃ yN, (l.getD k default).n = yN := ⟨_, rfl⟩
          rw [hyN] at y2 hge
          have HYN := LH hyN
          have HLo := LH hlo
          have hk0 : (0 : Int) ≤ (k : Int) := by omega
          have hkn : (k : Int) < (n : Int) := by omega
          clear hcs y0 y1 y3 y4 hyN hlo
          by_cases hyn : yN = N
          · subst hyn
            have tN : (yN == yN) = true := by simp
            have HIns : Hid (ChunkM.ins l ⟨F, T, yN, O, D⟩ = l) := ChunkM.ins_there (ChunkM.checks_up HE.out) HKl.out HYN.out
            go_wp2_with fail
            go_quiet (fail)
            have H9 := LH (H8.out.later (below_drewN (Below.refl _ _) nq))
            clear H8 k0 k1 k2 k3 k4 y2
            generalize W8.drewN nq = W9 at H9 ⊢
            go_wp2_with fail
            refine (HCpl.out _ H9.out.cs).mono ?_
            rintro e W10 ⟨a9, c9, rfl, hcp, b9⟩
            have HCS := LH ((hcp.newR.mono H9.out.below.size).imp (fun _ q => q.cs HLn.out))
            have HB9 := LH (bTh H9.out.below b9)
            clear hcp b9
            go_wp2_with fail
            go_ret2
            exact ⟨a9, n, c9, tup_a (by rw [HK.out]), by rw [HK.out, HTh.out, HIns.out]; exact HCS.out, HB9.out⟩
          · have tN : (yN == N) = false := by simp [hyn]
            have HIns : Hid (ChunkM.ins l ⟨F, T, N, O, D⟩ = l.take k ++ ⟨F, T, N, O, D⟩ :: l.drop k) := ChunkM.ins_at (c := ⟨F, T, N, O, D⟩) (Nat.le_of_lt HKl.out) HLo.out (fun _ => by rw [HYN.out]; simp only; omega)
            have hnn : k ≤ n := by omega
            go_wp2_with fail
            go_quiet (fail)
            have H9 := LH (H8.out.later (below_drewN (Below.refl _ _) nq))
            clear H8 k0 k1 k2 k3 k4 y2
            generalize W8.drewN nq = W8 at H9 ⊢
            have H8 := H9
            clear H9
            obtain ⟨k0, k1, k2, k3, k4⟩ := H8.out.cells
            simp only at k0 k1 k2 k3 k4
            go_wp2_with fail
            have hba0 : Below W8.heap.size W8 (W8.alloc (.cells #[.int .i64 F, .int .i64 T, .int .i64 N, .int .i64 O, .slice xa xm xc] 39)) := (Below.refl _ _).alloc (Nat.le_refl _) _
            have HA1 := LH (H8.out.later (Below.refl _ _).drew)
            have HA2 := LH ((H8.out.later hba0).later (Below.refl _ _).drew)
            have HQ2 : Hid ((W8.alloc (.cells #[.int .i64 F, .int .i64 T, .int .i64 N, .int .i64 O, .slice xa xm xc] 39)).drew.heap[W8.heap.size]? = some (.cells #[.int .i64 F, .int .i64 T, .int .i64 N, .int .i64 O, .slice xa xm xc] 39 (0, 0))) := by
              show (W8.alloc (.cells #[.int .i64 F, .int .i64 T, .int .i64 N, .int .i64 O, .slice xa xm xc] 39)).heap[W8.heap.size]? = _
              rw [hpA, if_pos rfl]
            have HCo : Hid (∀ Q W, CS W (some ⟨Q, 0, none⟩) 1 1 [⟨F, T, N, O, D⟩] → Calls Tryz.prog 102 #[.slice (some ⟨Q, 0, none⟩) 1 1] W fun e w' => ∃ a' c', e = .returned (.slice a' 1 c') ∧ CpSt W.heap.size (.slice a' 1 c') [⟨F, T, N, O, D⟩] w' ∧ Below W.heap.size W w') :=
              fun Q W => copied_len (some ⟨Q, 0, none⟩) 1 1 [⟨F, T, N, O, D⟩] rfl (by omega) (by intro y hy; simp at hy; rw [hy]; simp only; omega) W
            have hn9 : n ≤ 1000 := by omega
            obtain ⟨o0, o1, o2, o3, o4⟩ := HA2.out.cells
            simp only at o0 o1 o2 o3 o4
            clear hba0
            go_region_held3 (fun W => W.cell? ⟨B, 0, none⟩ = some (.int .i64 F) ∧ W.cell? ⟨B, 1, none⟩ = some (.int .i64 T) ∧ W.cell? ⟨B, 2, none⟩ = some (.int .i64 N) ∧ W.cell? ⟨B, 3, none⟩ = some (.int .i64 O) ∧ W.cell? ⟨B, 4, none⟩ = some (.slice xa xm xc))
              (first | exact ⟨k0, k1, k2, k3, k4⟩ | exact ⟨o0, o1, o2, o3, o4⟩ | exact ⟨p0, p1, p2, p3, p4⟩ | exact ⟨q0, q1, q2, q3, q4⟩ | exact ⟨r0, r1, r2, r3, r4⟩ | exact ⟨t0, t1, t2, t3, t4⟩ | go_keep) (first
              | (go_at_call 105; (with_reducible refine HFA.out.mono ?_); rintro e W7 ⟨a7, c7, rfl, hcs7, hb7, hk7⟩
                 have hz7 := HZ6.out
                 obtain ⟨t0, t1, t2, t3, t4⟩ := ch_cells ((hk7 B (lt_blk hz7.1.blk) hz7.2).trans hz7.1.blk)
                 have HCS7 := LH hcs7
                 have HB7 := LH hb7
                 clear hcs7 hb7 hk7 hz7)
              | (go_at_call 102; (with_reducible refine (HCpl.out _ HA1.out.cs).mono ?_); rintro e W4 ⟨a1, c1, rfl, hcp, da⟩
                 have HA4 := LH (HA1.out.later da)
                 obtain ⟨p0, p1, p2, p3, p4⟩ := HA4.out.cells
                 simp only at p0 p1 p2 p3 p4
                 have hba : Below W4.heap.size W4 (W4.alloc (.cells #[.int .i64 F, .int .i64 T, .int .i64 N, .int .i64 O, .slice xa xm xc] 39)) := (Below.refl _ _).alloc (Nat.le_refl _) _
                 have HA5 := LH (HA4.out.later hba)
                 obtain ⟨q0, q1, q2, q3, q4⟩ := HA5.out.cells
                 simp only at q0 q1 q2 q3 q4
                 have HCP5 := LH (hcp.later hba)
                 have HLt := LH (fun g hg => hcp.own (g := g) hg)
                 have HSz := LH da.size
                 have HLit := LH (HA5.out.lit HI.out (Q := W4.heap.size) (by rw [hpA, if_pos rfl]))
                 clear hba hcp da)
              | (go_at_call 102; (with_reducible refine (HCo.out _ _ HLit.out).mono ?_); rintro e W6 ⟨a2, c2, rfl, hcp2, db⟩
                 have HA6 := HA5.out.later db
                 obtain ⟨r0, r1, r2, r3, r4⟩ := HA6.cells
                 simp only at r0 r1 r2 r3 r4
                 have hs5 : W4.heap.size ≤ (W4.alloc (.cells #[.int .i64 F, .int .i64 T, .int .i64 N, .int .i64 O, .slice xa xm xc] 39)).heap.size := by simp
                 have HFA := LH (insFin_any HA6.below (HCP5.out.later db) HLn.out (Nat.le_trans HA1.out.below.size (Nat.le_refl _)) (Nat.le_trans HSz.out (Nat.le_trans hs5 db.size)) hcp2 HA5.out.below.size (fun g hg => Nat.lt_of_lt_of_le (HLt.out g hg).2 hs5) k hnn hn9)
                 have HZ6 : Hid (AdW w B ⟨F, T, N, O, D⟩ xa xm xc (some ⟨b, off, none⟩) n c l W6 ∧ some B ≠ (Value.slice a1 n c1).ownBlock) := ⟨HA6, fun e => by
                   have h9 := (HLt.out B e.symm).1
                   have h8 := lt_blk H8.out.blk
                   have h7 : W8.heap.size ≤ B := h9
                   omega⟩
                 clear hcp2 db HA6 hs5)
              | (go_at_call 102; (with_reducible refine (HCpl.out _ HA2.out.cs).mono ?_); rintro e W4 ⟨a1, c1, rfl, hcp, da⟩
                 have HA5 := LH (HA2.out.later da)
                 obtain ⟨p0, p1, p2, p3, p4⟩ := HA5.out.cells
                 simp only at p0 p1 p2 p3 p4
                 have HCP5 := LH hcp
                 have HLtB := LH (fun g hg => hcp.own (g := g) hg)
                 have HSzB := LH da.size
                 have HLitB := LH (HA5.out.lit HI.out (Q := W8.heap.size) ((da.block _ (lt_blk HQ2.out)).trans HQ2.out))
                 clear hcp da)
              | (go_at_call 102; (with_reducible refine (HCo.out _ _ HLitB.out).mono ?_); rintro e W6 ⟨a2, c2, rfl, hcp2, db⟩
                 have HA6 := HA5.out.later db
                 obtain ⟨r0, r1, r2, r3, r4⟩ := HA6.cells
                 simp only at r0 r1 r2 r3 r4
                 have HFA := LH (insFin_any HA6.below (HCP5.out.later db) HLn.out HA2.out.below.size (Nat.le_trans HSzB.out db.size) hcp2 HA5.out.below.size (fun g hg => (HLtB.out g hg).2) k hnn hn9)
                 have HZ6 : Hid (AdW w B ⟨F, T, N, O, D⟩ xa xm xc (some ⟨b, off, none⟩) n c l W6 ∧ some B ≠ (Value.slice a1 n c1).ownBlock) := ⟨HA6, fun e => by
                   have h9 := (HLtB.out B e.symm).1
                   have h8 := lt_blk H8.out.blk
                   have h7 : (W8.alloc (.cells #[.int .i64 F, .int .i64 T, .int .i64 N, .int .i64 O, .slice xa xm xc] 39)).heap.size ≤ B := h9
                   simp at h7
                   omega⟩
                 clear hcp2 db HA6))
            all_goals
              go_wp2_with fail
              go_ret2
              exact ⟨_, _, _, tup_a (by rw [HK.out]), by rw [HK.out, HTh.out, HIns.out]; exact HCS7.out, HB7.out⟩
   · have t0 : (E2 != 0) = true := by simp [hE20]
     have HK : Hid (ChunkM.addOf l ⟨F, T, N, O, D⟩ = ([], E2)) := by
       show _ = _
       unfold ChunkM.addOf
       rw [if_neg (by rw [HE.out]; simp), if_pos (by rw [hE2]; exact hE20), hE2]
     clear hE2
     go_wp2_with fail
     go_ret2
     exact ⟨none, 0, 0, tup_a (by rw [HK.out]), by rw [HK.out]; exact NewR.any (fun V => CS.nil_ V), H2.out.below⟩
 · have t0 : (E != 0) = true := by simp [hE0]
   have HK : Hid (ChunkM.addOf l ⟨F, T, N, O, D⟩ = ([], E)) := by
     show _ = _
     unfold ChunkM.addOf
     rw [if_pos (by rw [hE]; exact hE0), hE]
   clear hE
   go_wp2_with fail
   go_ret2
   exact ⟨none, 0, 0, tup_a (by rw [HK.out]), by rw [HK.out]; exact NewR.any (fun V => CS.nil_ V), H1.out.below⟩
theorem put_got (h : DevH) (d : DevR) (ga : Option Addr) (gn gc : Nat) (l : List ChR) : (dvC h d).setIfInBounds 28 (.slice ga gn gc) = dvC { h with ga := ga, gn := gn, gc := gc } { d with got := l } := by kernel_rfl
theorem hearD_bad (h : DevH) (d : DevR) (x : ChR) (xa : Option Addr) (xm xc : Nat) (w : World) (HD : DH w h d) (E : Int) (h0 : E ≠ 0) (HBg : Hid (∀ W, DH W h d → Calls Tryz.prog 55 #[.agg (dvC h d), .bool true] W fun e w' => e = .returned (.tuple #[.agg (rcC RecM.noRec), .int .i64 E]) ∧ Below W.heap.size W w')) : Calls Tryz.prog 15 #[devV h d, .agg #[.int .i64 x.fr, .int .i64 x.to_, .int .i64 x.n, .int .i64 x.of_, .slice xa xm xc]] w (GDv (DevM.noDev, E) w) := by
 have t0 : (E != 0) = true := by simp [h0]
 have HDh := LH HD
 clear HD
 unfold devV
 obtain ⟨P1, hP1⟩ : ∃ P, w.heap.size = P := ⟨_, rfl⟩
 have HS := LH (((((((MS.start w).alloc (p := P1) (by simp [hP1]) (dvC h d) 37)).alloc (p := (P1 + 1)) (by simp [hP1]) #[.int .i64 x.fr, .int .i64 x.to_, .int .i64 x.n, .int .i64 x.of_, .slice xa xm xc] 39)).alloc (p := (P1 + 2)) (by simp [hP1]) zDev 37))
 go_enter Tryz.func15, Tryz.ntmps15
 go_upto_region 1 with fail
 refine wp_gen HS.out (fun V0 HS1 => ?_)
 replace HS := LH HS1
 clear HS1 hP1
 replace HS := LH (MH.of HS.out)
 have bP1 := HS.out.get 2 rfl
 simp only at bP1
 go_wp2_with (first
   | (refine wpList_load_row rfl 37 (.tmp 2) rfl P1 rfl 37 (dvC h d) (0, 0) _ bP1 Tryz.underlying37 rfl (sDv h d) ?_))
 clear bP1
 refine (HBg.out _ (HDh.out.later HS.out.below)).mono ?_
 rintro e W1 ⟨rfl, hb⟩
 replace HS := LH (HS.out.later hb)
 clear hb
 obtain ⟨P3, hP3⟩ : ∃ P, W1.heap.size = P := ⟨_, rfl⟩
 replace HS := LH (HS.out.alloc hP3 (rcC RecM.noRec) 28)
 go_upto_region 2 with (refine wSN rfl 28 (.tmp 6) (.tmp 13) rfl P3 (rcC RecM.noRec) rfl rfl 28 _ hP3.symm (sRc RecM.noRec) (lRc RecM.noRec) (oRc RecM.noRec) ?_)
 refine gnH HS.out (fun V1 HS1 => ?_)
 replace HS := LH HS1
 clear HS1 hP3
 have bP1p2 := HS.out.get 1 rfl
 simp only at bP1p2
 have HG := LH (HS.out.set 1 rfl zDev)
 go_wp2_with (first
   | (refine wpList_store_row rfl 37 (.tmp 4) (.tmp 17) rfl (P1 + 2) zDev rfl rfl 37 _ bP1p2 size_zdev like_zz one_zdev ?_))
 clear bP1p2
 refine bodyPost_ret (v := .tuple #[.agg zDev, .int .i64 E]) ?_ rfl ?_
 · exact res_ct (fn := Tryz.f15) (p := 4) (a := 5) rfl rfl rfl (HG.out.get 1 rfl) Tryz.underlying37 rfl size_zdev
 · exact GDv.bad HG.out.below
theorem hearD_busy (h : DevH) (d : DevR) (x : ChR) (xa : Option Addr) (xm xc : Nat) (w : World) (HD : DH w h d) (HBg : Hid (∀ W, DH W h d → Calls Tryz.prog 55 #[.agg (dvC h d), .bool true] W fun e w' => e = .returned (.tuple #[.agg (rcC (DevM.rc d)), .int .i64 0]) ∧ Below W.heap.size W w')) (hok : DevM.Ok d) (hu : d.up = true) (hbu : d.busy = true) : Calls Tryz.prog 15 #[devV h d, .agg #[.int .i64 x.fr, .int .i64 x.to_, .int .i64 x.n, .int .i64 x.of_, .slice xa xm xc]] w (GDv (DevM.noDev, 5) w) := by
 have _hk := hok
 have _hv := hu
 clear _hk _hv
 clear hok hu
 have HDh := LH HD
 clear HD
 unfold devV
 obtain ⟨P1, hP1⟩ : ∃ P, w.heap.size = P := ⟨_, rfl⟩
 have HS := LH (((((((MS.start w).alloc (p := P1) (by simp [hP1]) (dvC h d) 37)).alloc (p := (P1 + 1)) (by simp [hP1]) #[.int .i64 x.fr, .int .i64 x.to_, .int .i64 x.n, .int .i64 x.of_, .slice xa xm xc] 39)).alloc (p := (P1 + 2)) (by simp [hP1]) zDev 37))
 go_enter Tryz.func15, Tryz.ntmps15
 go_upto_region 1 with fail
 refine wp_gen HS.out (fun V0 HS1 => ?_)
 replace HS := LH HS1
 clear HS1 hP1
 replace HS := LH (MH.of HS.out)
 have bP1 := HS.out.get 2 rfl
 simp only at bP1
 go_wp2_with (first
   | (refine wpList_load_row rfl 37 (.tmp 2) rfl P1 rfl 37 (dvC h d) (0, 0) _ bP1 Tryz.underlying37 rfl (sDv h d) ?_))
 clear bP1
 refine (HBg.out _ (HDh.out.later HS.out.below)).mono ?_
 rintro e W1 ⟨rfl, hb⟩
 replace HS := LH (HS.out.later hb)
 clear hb
 obtain ⟨P3, hP3⟩ : ∃ P, W1.heap.size = P := ⟨_, rfl⟩
 replace HS := LH (HS.out.alloc hP3 (rcC (DevM.rc d)) 28)
 go_upto_region 2 with (refine wSN rfl 28 (.tmp 6) (.tmp 13) rfl P3 (rcC (DevM.rc d)) rfl rfl 28 _ hP3.symm (sRc (DevM.rc d)) (lRc (DevM.rc d)) (oRc (DevM.rc d)) ?_)
 refine gnH HS.out (fun V1 HS1 => ?_)
 replace HS := LH HS1
 clear HS1 hP3
 have cP1_29 := cAt (k := 29) (v := .bool d.busy) (HS.out.get 3 rfl) rfl
 simp only at cP1_29
 rw [hbu] at cP1_29
 clear hbu
 have bP1p2 := HS.out.get 1 rfl
 simp only at bP1p2
 have HG := LH (HS.out.set 1 rfl zDev)
 go_wp2_with (first
   | (refine wpList_store_row rfl 37 (.tmp 4) (.tmp 21) rfl (P1 + 2) zDev rfl rfl 37 _ bP1p2 size_zdev like_zz one_zdev ?_))
 clear cP1_29 bP1p2
 refine bodyPost_ret (v := .tuple #[.agg zDev, .int .i64 5]) ?_ rfl ?_
 · exact res_ct (fn := Tryz.f15) (p := 4) (a := 5) rfl rfl rfl (HG.out.get 1 rfl) Tryz.underlying37 rfl size_zdev
 · exact GDv.bad HG.out.below
theorem hearD_err (h : DevH) (d : DevR) (x : ChR) (xa : Option Addr) (xm xc : Nat) (w : World) (HD : DH w h d) (HX : CV w (.agg #[.int .i64 x.fr, .int .i64 x.to_, .int .i64 x.n, .int .i64 x.of_, .slice xa xm xc]) x) (HBg : Hid (∀ W, DH W h d → Calls Tryz.prog 55 #[.agg (dvC h d), .bool true] W fun e w' => e = .returned (.tuple #[.agg (rcC (DevM.rc d)), .int .i64 0]) ∧ Below W.heap.size W w')) (hok : DevM.Ok d) (hu : d.up = true) (hbu : d.busy = false) (l : List ChR) (E : Int) (hA : ChunkM.addOf d.got x = (l, E)) (hE : E ≠ 0) : Calls Tryz.prog 15 #[devV h d, .agg #[.int .i64 x.fr, .int .i64 x.to_, .int .i64 x.n, .int .i64 x.of_, .slice xa xm xc]] w (GDv (DevM.noDev, E) w) := by
 have _hk := hok
 have _hv := hu
 clear _hk _hv
 have HAd : Hid (∀ W, DH W h d → CV W (.agg #[.int .i64 x.fr, .int .i64 x.to_, .int .i64 x.n, .int .i64 x.of_, .slice xa xm xc]) x → Calls Tryz.prog 56 #[.slice h.ga h.gn h.gc, .agg #[.int .i64 x.fr, .int .i64 x.to_, .int .i64 x.n, .int .i64 x.of_, .slice xa xm xc]] W fun e w' => ∃ a n c, e = .returned (.tuple #[.slice a n c, .int .i64 E]) ∧ NewR W.heap.size w' (fun V => CS V a n c l) ∧ Below W.heap.size W w') := fun W y z => by
   have := addC_n _ _ _ d.got _ x W y.got z
   unfold GivesAdN at this
   rw [hA] at this
   exact this
 have HXh := LH HX
 clear hA HX
 have t1 : (E != 0) = true := by simp [hE]
 clear hok hu hE
 have HDh := LH HD
 clear HD
 unfold devV
 obtain ⟨P1, hP1⟩ : ∃ P, w.heap.size = P := ⟨_, rfl⟩
 have HS := LH (((((((MS.start w).alloc (p := P1) (by simp [hP1]) (dvC h d) 37)).alloc (p := (P1 + 1)) (by simp [hP1]) #[.int .i64 x.fr, .int .i64 x.to_, .int .i64 x.n, .int .i64 x.of_, .slice xa xm xc] 39)).alloc (p := (P1 + 2)) (by simp [hP1]) zDev 37))
 go_enter Tryz.func15, Tryz.ntmps15
 go_upto_region 1 with fail
 refine wp_gen HS.out (fun V0 HS1 => ?_)
 replace HS := LH HS1
 clear HS1 hP1
 replace HS := LH (MH.of HS.out)
 have bP1 := HS.out.get 2 rfl
 simp only at bP1
 go_wp2_with (first
   | (refine wpList_load_row rfl 37 (.tmp 2) rfl P1 rfl 37 (dvC h d) (0, 0) _ bP1 Tryz.underlying37 rfl (sDv h d) ?_))
 clear bP1
 refine (HBg.out _ (HDh.out.later HS.out.below)).mono ?_
 rintro e W1 ⟨rfl, hb⟩
 replace HS := LH (HS.out.later hb)
 clear hb
 obtain ⟨P3, hP3⟩ : ∃ P, W1.heap.size = P := ⟨_, rfl⟩
 replace HS := LH (HS.out.alloc hP3 (rcC (DevM.rc d)) 28)
 go_upto_region 2 with (refine wSN rfl 28 (.tmp 6) (.tmp 13) rfl P3 (rcC (DevM.rc d)) rfl rfl 28 _ hP3.symm (sRc (DevM.rc d)) (lRc (DevM.rc d)) (oRc (DevM.rc d)) ?_)
 refine gnH HS.out (fun V1 HS1 => ?_)
 replace HS := LH HS1
 clear HS1 hP3
 have cP1_29 := cAt (k := 29) (v := .bool d.busy) (HS.out.get 3 rfl) rfl
 simp only at cP1_29
 rw [hbu] at cP1_29
 clear hbu
 have cP1_28 := cAt (k := 28) (v := .slice h.ga h.gn h.gc) (HS.out.get 3 rfl) rfl
 simp only at cP1_28
 have cP1p1_0 := cAt (k := 0) (v := .int .i64 x.fr) (HS.out.get 2 rfl) rfl
 simp only at cP1p1_0
 have cP1p1_1 := cAt (k := 1) (v := .int .i64 x.to_) (HS.out.get 2 rfl) rfl
 simp only at cP1p1_1
 have cP1p1_2 := cAt (k := 2) (v := .int .i64 x.n) (HS.out.get 2 rfl) rfl
 simp only at cP1p1_2
 have cP1p1_3 := cAt (k := 3) (v := .int .i64 x.of_) (HS.out.get 2 rfl) rfl
 simp only at cP1p1_3
 have cP1p1_4 := cAt (k := 4) (v := .slice xa xm xc) (HS.out.get 2 rfl) rfl
 simp only at cP1p1_4
 go_wp2_with fail
 clear cP1_29 cP1_28 cP1p1_0 cP1p1_1 cP1p1_2 cP1p1_3 cP1p1_4
 refine (HAd.out _ (HDh.out.later HS.out.below) (HXh.out.later HS.out.below)).mono ?_
 rintro e W5 ⟨na, nn, nc, rfl, hn, hb⟩
 replace HS := LH (HS.out.gain hb hn)
 clear hb hn
 have bP1p2 := HS.out.get 1 rfl
 simp only at bP1p2
 have HG := LH (HS.out.set 1 rfl zDev)
 go_wp2_with (first
   | (refine wpList_store_row rfl 37 (.tmp 4) (.tmp 31) rfl (P1 + 2) zDev rfl rfl 37 _ bP1p2 size_zdev like_zz one_zdev ?_))
 clear bP1p2
 refine bodyPost_ret (v := .tuple #[.agg zDev, .int .i64 E]) ?_ rfl ?_
 · exact res_ct (fn := Tryz.f15) (p := 4) (a := 5) rfl rfl rfl (HG.out.get 1 rfl) Tryz.underlying37 rfl size_zdev
 · exact GDv.bad HG.out.below
theorem hearD_fine (h : DevH) (d : DevR) (x : ChR) (xa : Option Addr) (xm xc : Nat) (w : World) (HD : DH w h d) (HX : CV w (.agg #[.int .i64 x.fr, .int .i64 x.to_, .int .i64 x.n, .int .i64 x.of_, .slice xa xm xc]) x) (HBg : Hid (∀ W, DH W h d → Calls Tryz.prog 55 #[.agg (dvC h d), .bool true] W fun e w' => e = .returned (.tuple #[.agg (rcC (DevM.rc d)), .int .i64 0]) ∧ Below W.heap.size W w')) (hok : DevM.Ok d) (hu : d.up = true) (hbu : d.busy = false) (l : List ChR) (hA : ChunkM.addOf d.got x = (l, 0)) : Calls Tryz.prog 15 #[devV h d, .agg #[.int .i64 x.fr, .int .i64 x.to_, .int .i64 x.n, .int .i64 x.of_, .slice xa xm xc]] w (GDv ({ d with got := l }, 0) w) := by
 have _hk := hok
 have _hv := hu
 clear _hk _hv
 have HAd : Hid (∀ W, DH W h d → CV W (.agg #[.int .i64 x.fr, .int .i64 x.to_, .int .i64 x.n, .int .i64 x.of_, .slice xa xm xc]) x → Calls Tryz.prog 56 #[.slice h.ga h.gn h.gc, .agg #[.int .i64 x.fr, .int .i64 x.to_, .int .i64 x.n, .int .i64 x.of_, .slice xa xm xc]] W fun e w' => ∃ a n c, e = .returned (.tuple #[.slice a n c, .int .i64 0]) ∧ NewR W.heap.size w' (fun V => CS V a n c l) ∧ Below W.heap.size W w') := fun W y z => by
   have := addC_n _ _ _ d.got _ x W y.got z
   unfold GivesAdN at this
   rw [hA] at this
   exact this
 have HXh := LH HX
 clear hA HX
 have HCy := LH (fun W (x : DH W h d) => copiedD_new h d W x (DevM.few_of hok))
 unfold devV at HCy
 clear hok hu
 have HDh := LH HD
 clear HD
 unfold devV
 obtain ⟨P1, hP1⟩ : ∃ P, w.heap.size = P := ⟨_, rfl⟩
 have HS := LH (((((((MS.start w).alloc (p := P1) (by simp [hP1]) (dvC h d) 37)).alloc (p := (P1 + 1)) (by simp [hP1]) #[.int .i64 x.fr, .int .i64 x.to_, .int .i64 x.n, .int .i64 x.of_, .slice xa xm xc] 39)).alloc (p := (P1 + 2)) (by simp [hP1]) zDev 37))
 go_enter Tryz.func15, Tryz.ntmps15
 go_upto_region 1 with fail
 refine wp_gen HS.out (fun V0 HS1 => ?_)
 replace HS := LH HS1
 clear HS1 hP1
 replace HS := LH (MH.of HS.out)
 have bP1 := HS.out.get 2 rfl
 simp only at bP1
 go_wp2_with (first
   | (refine wpList_load_row rfl 37 (.tmp 2) rfl P1 rfl 37 (dvC h d) (0, 0) _ bP1 Tryz.underlying37 rfl (sDv h d) ?_))
 clear bP1
 refine (HBg.out _ (HDh.out.later HS.out.below)).mono ?_
 rintro e W1 ⟨rfl, hb⟩
 replace HS := LH (HS.out.later hb)
 clear hb
 obtain ⟨P3, hP3⟩ : ∃ P, W1.heap.size = P := ⟨_, rfl⟩
 replace HS := LH (HS.out.alloc hP3 (rcC (DevM.rc d)) 28)
 go_upto_region 2 with (refine wSN rfl 28 (.tmp 6) (.tmp 13) rfl P3 (rcC (DevM.rc d)) rfl rfl 28 _ hP3.symm (sRc (DevM.rc d)) (lRc (DevM.rc d)) (oRc (DevM.rc d)) ?_)
 refine gnH HS.out (fun V1 HS1 => ?_)
 replace HS := LH HS1
 clear HS1 hP3
 have cP1_29 := cAt (k := 29) (v := .bool d.busy) (HS.out.get 3 rfl) rfl
 simp only at cP1_29
 rw [hbu] at cP1_29
 clear hbu
 have cP1_28 := cAt (k := 28) (v := .slice h.ga h.gn h.gc) (HS.out.get 3 rfl) rfl
 simp only at cP1_28
 have cP1p1_0 := cAt (k := 0) (v := .int .i64 x.fr) (HS.out.get 2 rfl) rfl
 simp only at cP1p1_0
 have cP1p1_1 := cAt (k := 1) (v := .int .i64 x.to_) (HS.out.get 2 rfl) rfl
 simp only at cP1p1_1
 have cP1p1_2 := cAt (k := 2) (v := .int .i64 x.n) (HS.out.get 2 rfl) rfl
 simp only at cP1p1_2
 have cP1p1_3 := cAt (k := 3) (v := .int .i64 x.of_) (HS.out.get 2 rfl) rfl
 simp only at cP1p1_3
 have cP1p1_4 := cAt (k := 4) (v := .slice xa xm xc) (HS.out.get 2 rfl) rfl
 simp only at cP1p1_4
 go_wp2_with fail
 clear cP1_29 cP1_28 cP1p1_0 cP1p1_1 cP1p1_2 cP1p1_3 cP1p1_4
 refine (HAd.out _ (HDh.out.later HS.out.below) (HXh.out.later HS.out.below)).mono ?_
 rintro e W5 ⟨na, nn, nc, rfl, hn, hb⟩
 replace HS := LH (HS.out.gain hb hn)
 clear hb hn
 have bP1 := HS.out.get 3 rfl
 simp only at bP1
 go_wp2_with (first
   | (refine wpList_load_row rfl 37 (.tmp 2) rfl P1 rfl 37 (dvC h d) (0, 0) _ bP1 Tryz.underlying37 rfl (sDv h d) ?_))
 clear bP1
 refine (HCy.out _ (HDh.out.later HS.out.below)).mono ?_
 rintro e W6 ⟨h', rfl, hb, hn, -, -⟩
 replace HS := LH (HS.out.gain hb hn)
 clear hb hn
 unfold devV
 have HS2 := LH (HS.out.set 3 rfl (dvC h' d))
 have bP1 := HS.out.get 3 rfl
 simp only at bP1
 go_upto_region 10 with (first
   | (refine wpList_store_row rfl 37 (.tmp 2) (.tmp 34) rfl P1 (dvC h' d) rfl rfl 37 _ bP1 (sDv h' d) (lDv h h' d d) (oDv h' d) ?_))
 clear bP1
 refine gnH HS2.out (fun V3 HS1 => ?_)
 replace HS := LH HS1
 clear HS1 HS2
 have cP1_28 := cAt (k := 28) (v := .slice h'.ga h'.gn h'.gc) (HS.out.get 3 rfl) rfl
 simp only at cP1_28
 have fP1_28 := tAt (k := 28) (HS.out.get 3 rfl)
 simp only at fP1_28
 have HS2 := LH (HS.out.cell 3 rfl (put_got h' d na nn nc l))
 go_upto_region 11 with fail
 clear cP1_28 fP1_28
 refine gnH HS2.out (fun V4 HS1 => ?_)
 replace HS := LH HS1
 clear HS1 HS2
 have bP1 := HS.out.get 3 rfl
 simp only at bP1
 have bP1p2 := HS.out.get 1 rfl
 simp only at bP1p2
 have HG := LH (HS.out.set 1 rfl (dvC ({ h' with ga := na, gn := nn, gc := nc } : DevH) ({ d with got := l } : DevR)))
 go_wp2_with (first
   | (refine wpList_load_row rfl 37 (.tmp 2) rfl P1 rfl 37 (dvC ({ h' with ga := na, gn := nn, gc := nc } : DevH) ({ d with got := l } : DevR)) (0, 0) _ bP1 Tryz.underlying37 rfl (sDv ({ h' with ga := na, gn := nn, gc := nc } : DevH) ({ d with got := l } : DevR)) ?_)
   | (refine wpList_store_row rfl 37 (.tmp 4) (.tmp 37) rfl (P1 + 2) (dvC ({ h' with ga := na, gn := nn, gc := nc } : DevH) ({ d with got := l } : DevR)) rfl rfl 37 _ bP1p2 (sDv ({ h' with ga := na, gn := nn, gc := nc } : DevH) ({ d with got := l } : DevR)) (like_zdev ({ h' with ga := na, gn := nn, gc := nc } : DevH) ({ d with got := l } : DevR)) (oDv ({ h' with ga := na, gn := nn, gc := nc } : DevH) ({ d with got := l } : DevR)) ?_))
 clear bP1 bP1p2
 refine bodyPost_ret (v := .tuple #[.agg (dvC ({ h' with ga := na, gn := nn, gc := nc } : DevH) ({ d with got := l } : DevR)), .int .i64 0]) ?_ rfl ?_
 · exact res_ct (fn := Tryz.f15) (p := 4) (a := 5) rfl rfl rfl (HG.out.get 1 rfl) Tryz.underlying37 rfl (sDv _ _)
 · refine ⟨({ h' with ga := na, gn := nn, gc := nc } : DevH), rfl, HG.out.below, fun V v1 v2 => ?_⟩
   have k1 := HG.out.newR 0 rfl V v1 v2
   have k2 := HG.out.newR 1 rfl V v1 v2
   simp only at k1 k2
   exact ⟨k1.b0, k1.b1, k2, k1.ops, k1.copsW, k1.runI, k1.jobI, k1.doneI⟩
theorem hearD_ok (h : DevH) (d : DevR) (x : ChR) (xa : Option Addr) (xm xc : Nat) (w : World) (HD : DH w h d) (HBg : Hid (∀ W, DH W h d → Calls Tryz.prog 55 #[.agg (dvC h d), .bool true] W fun e w' => e = .returned (.tuple #[.agg (rcC (DevM.rc d)), .int .i64 0]) ∧ Below W.heap.size W w')) (hok : DevM.Ok d) (hu : d.up = true) (HX : CV w (.agg #[.int .i64 x.fr, .int .i64 x.to_, .int .i64 x.n, .int .i64 x.of_, .slice xa xm xc]) x) : Calls Tryz.prog 15 #[devV h d, .agg #[.int .i64 x.fr, .int .i64 x.to_, .int .i64 x.n, .int .i64 x.of_, .slice xa xm xc]] w (GDv (DevM.hear d x) w) := by
 unfold DevM.hear
 by_cases hbu : d.busy = true
 · rw [if_pos hbu]
   exact hearD_busy h d x xa xm xc w HD HBg hok hu hbu
 · have hbu : d.busy = false := by simpa using hbu
   obtain ⟨⟨l, E⟩, hA⟩ : ∃ r, ChunkM.addOf d.got x = r := ⟨_, rfl⟩
   rw [hA]
   unfold DevM.wrong
   rw [if_neg (by rw [hbu]; decide)]
   by_cases hE : E = 0
   · subst hE
     rw [if_neg (fun q => q rfl)]
     exact hearD_fine h d x xa xm xc w HD HX HBg hok hu hbu l hA
   · rw [if_pos hE]
     exact hearD_err h d x xa xm xc w HD HX HBg hok hu hbu l E hA hE
theorem hearD_any (h : DevH) (d : DevR) (x : ChR) (xa : Option Addr) (xm xc : Nat) (w : World) (HD : DH w h d) (HX : CV w (.agg #[.int .i64 x.fr, .int .i64 x.to_, .int .i64 x.n, .int .i64 x.of_, .slice xa xm xc]) x) : Calls Tryz.prog 15 #[devV h d, .agg #[.int .i64 x.fr, .int .i64 x.to_, .int .i64 x.n, .int .i64 x.of_, .slice xa xm xc]] w (GDv (DevM.told d true (DevM.hear d x)) w) := by
 have HBg := fun W (x : DH W h d) => beginD_any checkD_ok h d true W x
 unfold devV at HBg
 rcases DevM.beg_cases d true with ⟨E, h0, hb, ht⟩ | ⟨hok, hu, hb, ht⟩
 · rw [ht]
   rw [hb] at HBg
   exact hearD_bad h d x xa xm xc w HD E h0 (LH HBg)
 · rw [ht]
   rw [hb] at HBg
   exact hearD_ok h d x xa xm xc w HD (LH HBg) hok hu HX
end Go.Proofs.YtmpmaljkmfgagacGreat
