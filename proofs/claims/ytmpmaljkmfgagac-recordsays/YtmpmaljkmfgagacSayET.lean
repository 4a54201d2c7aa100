/-
  RecordSays: a record that is right and tried; the copies cannot be read.
-/
import Derived.Test.YtmpmaljkmfgagacKeptW
import Derived.Test.YtmpmaljkmfgagacLawG
import Derived.Test.YtmpmaljkmfgagacRfCps
import Derived.Test.YtmpmaljkmfgagacRfWr
import Derived.Test.YtmpmaljkmfgagacRfSta
import Derived.Deep.Cut
namespace Go.Proofs.Ytmpmaljkmfgagac
open Go.RowKit

set_option maxRecDepth 100000 in
set_option maxHeartbeats 3000000 in
theorem says_et (r : RecR) (l : CopsR) (torn : Bool) (hl : RecM.copies l ≠ 0) (hr : RecM.check r = 0) (ht : r.trying = true) (w : World) : Calls Try.prog 3 #[recV r, copsV l, .bool torn] w fun e w' => e = .returned (.bool true) ∧ Below w.heap.size w w' := by
  obtain ⟨E1, hE1⟩ : ∃ E, RecM.copies l = E := ⟨_, rfl⟩
  have HRd : Hid (∀ W, Calls Try.prog 6 #[.agg (copsCells l)] W fun e w' => e = .returned (.tuple #[.agg (recCells RecM.noRec), .int .i64 0, .int .i64 E1]) ∧ Below W.heap.size W w') := fun W => by
    have := readR_any l W
    rw [show RecM.readOf l = (RecM.noRec, 0, E1) by unfold RecM.readOf; rw [if_pos hl, hE1]] at this
    exact this
  have HWr : Hid (∀ W, Calls Try.prog 7 #[.agg (copsCells l), .agg (recCells r), .bool torn] W fun e w' => e = .returned (.tuple #[.agg (copsCells RecM.noCops), .int .i64 E1]) ∧ Below W.heap.size W w') := fun W => by
    have := writeR_any l r torn W
    rw [show RecM.writeOf l r torn = (RecM.noCops, E1) by unfold RecM.writeOf; rw [if_pos hl, hE1]] at this
    exact this
  have HCl : Hid (∀ W, Calls Try.prog 14 #[.agg (copsCells l)] W fun e w' => e = .returned (.int .i64 E1) ∧ Below W.heap.size W w') := fun W => by
    have := copiesR_any l W
    rw [hE1] at this
    exact this
  have HCr2 : Hid (∀ W, Calls Try.prog 11 #[.agg (copsCells l)] W fun e w' => e = .returned (.int .i64 E1) ∧ Below W.heap.size W w') := fun W => by
    have := copiesRef_any l W
    rw [hE1] at this
    exact this
  rw [hE1] at hl
  have tl0 : (E1 != 0) = true := by simp [hl]
  have tl1 : (E1 == 0) = false := by simp [hl]
  have tl2 : (E1 != E1) = false := by simp
  clear hE1 hl
  obtain ⟨S, hS⟩ : ∃ S, RecM.slot r = S := ⟨_, rfl⟩
  obtain ⟨Y, hY⟩ : ∃ Y, RecM.after r = Y := ⟨_, rfl⟩
  have HSt : Hid (∀ W, Calls Try.prog 8 #[.agg (recCells r)] W fun e w' => e = .returned (.tuple #[.int .i64 S, .agg (recCells Y), .int .i64 0]) ∧ Below W.heap.size W w') := fun W => by
    have := startR_any r W
    rw [RecM.startOf_ok hr, hS, hY] at this
    exact this
  have HSd : Hid (∀ W, Calls Try.prog 17 #[.agg (recCells r)] W fun e w' => e = .returned (.tuple #[.int .i64 S, .agg (recCells Y)]) ∧ Below W.heap.size W w') := fun W => by
    have := started_any r hr W
    rw [hS, hY] at this
    exact this
  have HCk : Hid (∀ W, Calls Try.prog 13 #[.agg (recCells r)] W fun e w' => e = .returned (.int .i64 0) ∧ Below W.heap.size W w') := fun W => by
    have := checkR_any r W
    rw [hr] at this
    exact this
  have HCr : Hid (∀ W, Calls Try.prog 10 #[.agg (recCells r)] W fun e w' => e = .returned (.int .i64 0) ∧ Below W.heap.size W w') := fun W => by
    have := checkRef_any r W
    rw [hr] at this
    exact this
  have ts : (S != S) = false := by simp
  have eqY : ∀ W, (binOp .neq 26 (.agg (recCells Y)) (.agg (recCells Y))).run Try.prog W = .ok (.bool false) W := fun W => by
    have := rec_neq Y Y W
    rw [decide_eq_true rfl] at this
    exact this
  obtain ⟨Cv, hC⟩ : ∃ C, RecM.conf r = C := ⟨_, rfl⟩
  have HCo : Hid (∀ W, Calls Try.prog 9 #[.agg (recCells r)] W fun e w' => e = .returned (.tuple #[.agg (recCells Cv), .int .i64 0]) ∧ Below W.heap.size W w') := fun W => by
    have := confR_any r W
    rw [RecM.confOf_ok hr ht, hC] at this
    exact this
  have HCd : Hid (∀ W, Calls Try.prog 18 #[.agg (recCells r)] W fun e w' => e = .returned (.agg (recCells Cv)) ∧ Below W.heap.size W w') := fun W => by
    have := confirmed_any r hr ht W
    rw [hC] at this
    exact this
  have eqCv : ∀ W, (binOp .eql 26 (.agg (recCells Cv)) (.agg (recCells Cv))).run Try.prog W = .ok (.bool true) W := fun W => by
    have := rec_eql Cv Cv W
    rw [decide_eq_true rfl] at this
    exact this
  clear hC
  have HT := Lib.hid ht
  clear hS hY hr ht
  have nn : ∀ W, (binOp .neq 26 (.agg (recCells RecM.noRec)) (.agg (recCells RecM.noRec))).run Try.prog W = .ok (.bool false) W := fun W => by
    have := rec_neq RecM.noRec RecM.noRec W
    rw [decide_eq_true rfl] at this
    exact this
  have ne : ∀ W, (binOp .eql 26 (.agg (recCells RecM.noRec)) (.agg (recCells RecM.noRec))).run Try.prog W = .ok (.bool true) W := fun W => by
    have := rec_eql RecM.noRec RecM.noRec W
    rw [decide_eq_true rfl] at this
    exact this
  have nc : ∀ W, (binOp .neq 29 (.agg (copsCells RecM.noCops)) (.agg #[.bool false, .int .i64 0, .int .i64 0, .bool false, .int .i64 0, .int .i64 0, .int .i64 0, .int .i64 0, .int .i64 0, .int .i64 0, .int .i64 0, .int .i64 0, .bool false, .int .i64 0, .int .i64 0, .bool false, .int .i64 0, .int .i64 0, .int .i64 0, .int .i64 0, .int .i64 0, .int .i64 0, .int .i64 0, .int .i64 0])).run Try.prog W = .ok (.bool false) W := fun W => by
    have := cops_neq RecM.noCops RecM.noCops W
    rw [decide_eq_true rfl] at this
    exact this
  have HK : Hid (∀ W, Calls Try.prog 12 #[] W fun e w' => e = .returned (.bool true) ∧ Below W.heap.size W w') := fun W => kept_any W
  have HS := Lib.hid (((LS.start w).alloc rfl (recCells r) 26).alloc (p := w.heap.size + 1) (by simp) (copsCells l) 29)
  have HV : Hid (∀ x, recV x = .agg (recCells x)) := fun _ => rfl
  unfold copsV
  rw [HV.out]
  have bwheapsizep1 := HS.out.get 0 rfl
  simp only at bwheapsizep1
  go_enter Try.func3, Try.ntmps3
  go_wp2_with (first
    | (refine wpList_load_row rfl 29 (.tmp 4) rfl (w.heap.size + 1) rfl 29 (copsCells l) (0, 0) _ bwheapsizep1 Try.underlying29 rfl (size_cops l) ?_))
  clear bwheapsizep1
  refine (HRd.out _).mono ?_
  rintro e W1 ⟨rfl, hb⟩
  replace HS := Lib.hid (HS.out.later hb)
  clear hb
  obtain ⟨P7, hP7⟩ : ∃ P, W1.heap.size = P := ⟨_, rfl⟩
  replace HS := Lib.hid (HS.out.alloc hP7 (recCells RecM.noRec) 26)
  have bwheapsizep1 := HS.out.get 1 rfl
  simp only at bwheapsizep1
  have bwheapsize := HS.out.get 2 rfl
  simp only at bwheapsize
  go_wp2_with (first
    | (refine wpList_store_new rfl 26 (.tmp 7) (.tmp 29) rfl P7 (recCells RecM.noRec) rfl rfl 26 _ hP7.symm (size_rec RecM.noRec) (like_rec RecM.noRec) (one_rec RecM.noRec) ?_)
    | (refine wpList_load_row rfl 29 (.tmp 4) rfl (w.heap.size + 1) rfl 29 (copsCells l) (0, 0) _ bwheapsizep1 Try.underlying29 rfl (size_cops l) ?_)
    | (refine wpList_load_row rfl 26 (.tmp 3) rfl w.heap.size rfl 26 (recCells r) (0, 0) _ bwheapsize Try.underlying26 rfl (size_rec r) ?_))
  clear bwheapsizep1
  clear bwheapsize
  refine (HWr.out _).mono ?_
  rintro e W2 ⟨rfl, hb⟩
  replace HS := Lib.hid (HS.out.later hb)
  clear hb
  obtain ⟨P10, hP10⟩ : ∃ P, W2.heap.size = P := ⟨_, rfl⟩
  replace HS := Lib.hid (HS.out.alloc hP10 (copsCells RecM.noCops) 29)
  have bwheapsize := HS.out.get 3 rfl
  simp only at bwheapsize
  go_wp2_with (first
    | (refine wpList_store_new rfl 29 (.tmp 10) (.tmp 37) rfl P10 (copsCells RecM.noCops) rfl rfl 29 _ hP10.symm (size_cops RecM.noCops) (like_copsL RecM.noCops) (one_cops RecM.noCops) ?_)
    | (refine wpList_load_row rfl 26 (.tmp 3) rfl w.heap.size rfl 26 (recCells r) (0, 0) _ bwheapsize Try.underlying26 rfl (size_rec r) ?_))
  clear bwheapsize
  refine (HSt.out _).mono ?_
  rintro e W3 ⟨rfl, hb⟩
  replace HS := Lib.hid (HS.out.later hb)
  clear hb
  obtain ⟨P13, hP13⟩ : ∃ P, W3.heap.size = P := ⟨_, rfl⟩
  replace HS := Lib.hid (HS.out.alloc hP13 (recCells Y) 26)
  have bwheapsize := HS.out.get 4 rfl
  simp only at bwheapsize
  go_wp2_with (first
    | (refine wpList_store_new rfl 26 (.tmp 13) (.tmp 43) rfl P13 (recCells Y) rfl rfl 26 _ hP13.symm (size_rec Y) (like_rec Y) (one_rec Y) ?_)
    | (refine wpList_load_row rfl 26 (.tmp 3) rfl w.heap.size rfl 26 (recCells r) (0, 0) _ bwheapsize Try.underlying26 rfl (size_rec r) ?_))
  clear bwheapsize
  refine (HCo.out _).mono ?_
  rintro e W4 ⟨rfl, hb⟩
  replace HS := Lib.hid (HS.out.later hb)
  clear hb
  obtain ⟨P15, hP15⟩ : ∃ P, W4.heap.size = P := ⟨_, rfl⟩
  replace HS := Lib.hid (HS.out.alloc hP15 (recCells Cv) 26)
  go_wp2_with (first
    | (refine wpList_store_new rfl 26 (.tmp 15) (.tmp 48) rfl P15 (recCells Cv) rfl rfl 26 _ hP15.symm (size_rec Cv) (like_rec Cv) (one_rec Cv) ?_))
  try simp only [List.append_eq, List.cons_append, List.nil_append]
  refine wp_region_quiet (C := fun W => LS w [(P15, (recCells Cv), 26), (P13, (recCells Y), 26), (P10, (copsCells RecM.noCops), 29), (P7, (recCells RecM.noRec), 26), ((w.heap.size + 1), (copsCells l), 29), (w.heap.size, (recCells r), 26)] W) (by kernel_rfl) (by kernel_rfl) HS.out.drew ?_
  clear HS
  dsimp only
  repeat (first
    | go_big_quiet_skip
    | (go_big_quiet_want
       first
         | (refine quiet_row 26 (.tmp 3) rfl w.heap.size rfl 26 (recCells r) (0, 0) _ (fun W hW => hW.get 5 rfl) Try.underlying26 rfl (size_rec r) ?_
            simp only [Act.put, List.setIfInBounds_toArray, List.set_cons_zero, List.set_cons_succ]
            go_big_quiet_on)
         | (refine quiet_row 29 (.tmp 4) rfl (w.heap.size + 1) rfl 29 (copsCells l) (0, 0) _ (fun W hW => hW.get 4 rfl) Try.underlying29 rfl (size_cops l) ?_
            simp only [Act.put, List.setIfInBounds_toArray, List.set_cons_zero, List.set_cons_succ]
            go_big_quiet_on)
         | (go_big_quiet_op
            go_big_quiet_on)
         | (unfold Oper.quiet
            apply Exists.intro
            refine ⟨fun W9 hW9 => ?_, ?_⟩
            · go_simp
              first
                | with_reducible rfl
                | (go_at_call 10; exact (HCr.out _).mono (fun _ _ h => ⟨h.1, hW9.later h.2⟩))
                | (go_at_call 11; exact (HCr2.out _).mono (fun _ _ h => ⟨h.1, hW9.later h.2⟩))
            simp only [Act.put, List.setIfInBounds_toArray, List.set_cons_zero, List.set_cons_succ]
            go_big_quiet_on)))
  refine wpQuiet_nil ?_
  intro W9 hW9
  have HS := Lib.hid hW9
  clear hW9
  go_wp2_with fail
  refine (HK.out _).mono ?_
  rintro e W41 ⟨rfl, hb⟩
  replace HS := Lib.hid (HS.out.later hb)
  clear hb
  have bwheapsize := HS.out.get 5 rfl
  simp only at bwheapsize
  go_wp2_with (first
    | (refine wpList_load_want (by rfl) 26 (.tmp 3) rfl w.heap.size rfl 26 (recCells r) (0, 0) _ bwheapsize Try.underlying26 rfl (size_rec r) ?_))
  clear bwheapsize
  refine (HCk.out _).mono ?_
  rintro e W42 ⟨rfl, hb⟩
  replace HS := Lib.hid (HS.out.later hb)
  clear hb
  have bwheapsizep1 := HS.out.get 4 rfl
  simp only at bwheapsizep1
  go_wp2_with (first
    | (refine wpList_load_want (by rfl) 29 (.tmp 4) rfl (w.heap.size + 1) rfl 29 (copsCells l) (0, 0) _ bwheapsizep1 Try.underlying29 rfl (size_cops l) ?_))
  clear bwheapsizep1
  refine (HCl.out _).mono ?_
  rintro e W43 ⟨rfl, hb⟩
  replace HS := Lib.hid (HS.out.later hb)
  clear hb
  obtain ⟨P19, hP19⟩ : ∃ P, W43.heap.size = P := ⟨_, rfl⟩
  replace HS := Lib.hid (HS.out.alloc hP19 (recCells RecM.noRec) 26)
  have HS2 : Hid (LS w [(P19, (recCells RecM.noRec), 26), (P15, (recCells Cv), 26), (P13, (recCells Y), 26), (P10, (copsCells RecM.noCops), 29), (P7, (recCells RecM.noRec), 26), ((w.heap.size + 1), (copsCells l), 29), (w.heap.size, (recCells r), 26)] (W43.alloc (.cells #[.int .i64 0, .int .i64 0, .bool false, .int .i64 0, .int .i64 0, .int .i64 0, .int .i64 0, .int .i64 0, .int .i64 0, .int .i64 0, .int .i64 0] 26))) := HS.out
  replace HS := HS2
  clear HS2
  go_upto_region 9 with fail
  generalize W43.alloc (.cells #[.int .i64 0, .int .i64 0, .bool false, .int .i64 0, .int .i64 0, .int .i64 0, .int .i64 0, .int .i64 0, .int .i64 0, .int .i64 0, .int .i64 0] 26) = V at HS ⊢
  have bP7 := HS.out.get 4 rfl
  simp only at bP7
  have bP10 := HS.out.get 3 rfl
  simp only at bP10
  have bP19 := HS.out.get 0 rfl
  simp only at bP19
  have bwheapsize := HS.out.get 6 rfl
  simp only at bwheapsize
  go_wp2_with (first
    | (refine wpList_load_want (by rfl) 26 (.tmp 7) rfl P7 rfl 26 (recCells RecM.noRec) (0, 0) _ bP7 Try.underlying26 rfl (size_rec RecM.noRec) ?_)
    | (refine wpList_load_want (by rfl) 29 (.tmp 10) rfl P10 rfl 29 (copsCells RecM.noCops) (0, 0) _ bP10 Try.underlying29 rfl (size_cops RecM.noCops) ?_)
    | (refine wpList_load_want (by rfl) 26 (.tmp 19) rfl P19 rfl 26 (recCells RecM.noRec) (0, 0) _ bP19 Try.underlying26 rfl (size_rec RecM.noRec) ?_)
    | (refine wpList_load_row rfl 26 (.tmp 3) rfl w.heap.size rfl 26 (recCells r) (0, 0) _ bwheapsize Try.underlying26 rfl (size_rec r) ?_))
  clear bP7
  clear bP10
  clear bP19
  clear bwheapsize
  refine (HSd.out _).mono ?_
  rintro e W44 ⟨rfl, hb⟩
  replace HS := Lib.hid (HS.out.later hb)
  clear hb
  obtain ⟨P25, hP25⟩ : ∃ P, W44.heap.size = P := ⟨_, rfl⟩
  replace HS := Lib.hid (HS.out.alloc hP25 (recCells Y) 26)
  go_upto_region 18 with ((refine wpList_store_new rfl 26 (.tmp 25) (.tmp 161) rfl P25 (recCells Y) rfl rfl 26 _ hP25.symm (size_rec Y) (like_rec Y) (one_rec Y) ?_))
  generalize W44.alloc (.cells (recCells Y) 26) = V2 at HS ⊢
  have gt := cell_at (k := 2) (v := .bool r.trying) (HS.out.get 7 rfl) rfl
  simp only at gt
  rw [HT.out] at gt
  have bP13 := HS.out.get 3 rfl
  simp only at bP13
  have bP25 := HS.out.get 0 rfl
  simp only at bP25
  go_wp2_with (first
    | (refine wpList_load_want (by rfl) 26 (.tmp 13) rfl P13 rfl 26 (recCells Y) (0, 0) _ bP13 Try.underlying26 rfl (size_rec Y) ?_)
    | (refine wpList_load_want (by rfl) 26 (.tmp 25) rfl P25 rfl 26 (recCells Y) (0, 0) _ bP25 Try.underlying26 rfl (size_rec Y) ?_))
  clear bP13
  clear bP25
  try simp only [List.append_eq, List.cons_append, List.nil_append]
  refine wp_region_quiet (C := fun W => LS w [(P25, (recCells Y), 26), (P19, (recCells RecM.noRec), 26), (P15, (recCells Cv), 26), (P13, (recCells Y), 26), (P10, (copsCells RecM.noCops), 29), (P7, (recCells RecM.noRec), 26), ((w.heap.size + 1), (copsCells l), 29), (w.heap.size, (recCells r), 26)] W) (by kernel_rfl) (by kernel_rfl) HS.out.drew ?_
  clear HS
  dsimp only
  repeat (first
    | go_big_quiet_skip
    | (go_big_quiet_want
       first
         | (refine quiet_row 26 (.tmp 15) rfl P15 rfl 26 (recCells Cv) (0, 0) _ (fun W hW => hW.get 2 rfl) Try.underlying26 rfl (size_rec Cv) ?_
            simp only [Act.put, List.setIfInBounds_toArray, List.set_cons_zero, List.set_cons_succ]
            go_big_quiet_on)
         | (refine quiet_row 26 (.tmp 3) rfl w.heap.size rfl 26 (recCells r) (0, 0) _ (fun W hW => hW.get 7 rfl) Try.underlying26 rfl (size_rec r) ?_
            simp only [Act.put, List.setIfInBounds_toArray, List.set_cons_zero, List.set_cons_succ]
            go_big_quiet_on)
         | (go_big_quiet_op
            go_big_quiet_on)
         | (unfold Oper.quiet
            apply Exists.intro
            refine ⟨fun W9 hW9 => ?_, ?_⟩
            · go_simp
              first
                | with_reducible rfl
                | (go_at_call 18; exact (HCd.out _).mono (fun _ _ h => ⟨h.1, hW9.later h.2⟩))
            simp only [Act.put, List.setIfInBounds_toArray, List.set_cons_zero, List.set_cons_succ]
            go_big_quiet_on)))
  refine wpQuiet_nil ?_
  intro W9 hW9
  go_wp2_with fail
  go_ret
  exact ⟨rfl, hW9.below⟩
end Go.Proofs.Ytmpmaljkmfgagac
