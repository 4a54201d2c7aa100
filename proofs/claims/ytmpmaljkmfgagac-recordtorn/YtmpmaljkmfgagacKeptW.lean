/-
  The closed fact on records, walked.
-/
import Derived.Test.YtmpmaljkmfgagacKeptA
namespace Go.Proofs.Ytmpmaljkmfgagac
open Go.RowKit

set_option maxRecDepth 100000 in
set_option maxHeartbeats 1000000 in
theorem kept_any (w : World) : Calls Try.prog 12 #[] w fun e w' => e = .returned (.bool true) ∧ Below w.heap.size w w' := by
  have HF := Lib.hid (fun W => first_any W)
  have HW0 : Hid (∀ W, Calls Try.prog 7 #[.agg (copsCells Kept.l0), .agg (recCells Kept.r0), .bool false] W fun e w' => e = .returned (.tuple #[.agg (copsCells Kept.m1), .int .i64 0]) ∧ Below W.heap.size W w') := fun W => by have := writeR_any Kept.l0 Kept.r0 false W; rw [Kept.w0] at this; exact this
  have HW1 : Hid (∀ W, Calls Try.prog 7 #[.agg (copsCells Kept.l0), .agg (recCells Kept.r0), .bool true] W fun e w' => e = .returned (.tuple #[.agg (copsCells Kept.l0), .int .i64 0]) ∧ Below W.heap.size W w') := fun W => by have := writeR_any Kept.l0 Kept.r0 true W; rw [Kept.w1] at this; exact this
  have HR0 : Hid (∀ W, Calls Try.prog 6 #[.agg (copsCells Kept.m1)] W fun e w' => e = .returned (.tuple #[.agg (recCells Kept.x1), .int .i64 1, .int .i64 0]) ∧ Below W.heap.size W w') := fun W => by have := readR_any Kept.m1 W; rw [Kept.rd0] at this; exact this
  have HR1 : Hid (∀ W, Calls Try.prog 6 #[.agg (copsCells Kept.l0)] W fun e w' => e = .returned (.tuple #[.agg (recCells Kept.f1), .int .i64 0, .int .i64 0]) ∧ Below W.heap.size W w') := fun W => by have := readR_any Kept.l0 W; rw [Kept.rd1] at this; exact this
  have HS0 : Hid (∀ W, Calls Try.prog 8 #[.agg (recCells Kept.x1)] W fun e w' => e = .returned (.tuple #[.int .i64 1, .agg (recCells Kept.z1), .int .i64 0]) ∧ Below W.heap.size W w') := fun W => by have := startR_any Kept.x1 W; rw [Kept.s0] at this; exact this
  have HS1 : Hid (∀ W, Calls Try.prog 8 #[.agg (recCells Kept.z1)] W fun e w' => e = .returned (.tuple #[.int .i64 0, .agg (recCells Kept.t1), .int .i64 0]) ∧ Below W.heap.size W w') := fun W => by have := startR_any Kept.z1 W; rw [Kept.s1] at this; exact this
  have HCf : Hid (∀ W, Calls Try.prog 9 #[.agg (recCells Kept.x1)] W fun e w' => e = .returned (.tuple #[.agg (recCells Kept.c1), .int .i64 0]) ∧ Below W.heap.size W w') := fun W => by have := confR_any Kept.x1 W; rw [Kept.cf] at this; exact this
  have HCk : Hid (∀ W, Calls Try.prog 13 #[.agg (recCells Kept.c1)] W fun e w' => e = .returned (.int .i64 0) ∧ Below W.heap.size W w') := fun W => by have := checkR_any Kept.c1 W; rw [Kept.ck] at this; exact this
  have HCp : Hid (∀ W, Calls Try.prog 14 #[.agg #[.bool false, .int .i64 0, .int .i64 0, .bool false, .int .i64 0, .int .i64 0, .int .i64 0, .int .i64 0, .int .i64 0, .int .i64 0, .int .i64 0, .int .i64 0, .bool false, .int .i64 0, .int .i64 0, .bool false, .int .i64 0, .int .i64 0, .int .i64 0, .int .i64 0, .int .i64 0, .int .i64 0, .int .i64 0, .int .i64 0]] W fun e w' => e = .returned (.int .i64 7) ∧ Below W.heap.size W w') := fun W => by have := copiesR_any RecM.noCops W; rw [Kept.cp] at this; exact this
  have HS := Lib.hid (LS.start w)
  go_enter Try.func12, Try.ntmps12
  go_wp2_with fail
  refine (HF.out _).mono ?_
  rintro e W1 ⟨rfl, hb⟩
  replace HS := Lib.hid (HS.out.later hb)
  clear hb
  obtain ⟨P1, h1⟩ : ∃ P, W1.heap.size = P := ⟨_, rfl⟩
  replace HS := Lib.hid (HS.out.alloc h1 (copsCells Kept.l0) 29)
  go_wp2_with (first
    | (refine wpList_build_two rfl 28 0 1 (.const (.bool true)) (.tmp 21) rfl (.bool true) (.agg #[.int .i64 1, .int .i64 0, .bool false, .int .i64 0, .int .i64 1, .int .i64 1, .int .i64 3, .int .i64 9, .int .i64 0, .int .i64 0, .int .i64 0]) rfl rfl (copCells ⟨true, Kept.f1⟩) built_cop0 ?_)
    | (refine wpList_build_one rfl 29 0 (.tmp 22) rfl (.agg (copCells ⟨true, Kept.f1⟩)) rfl (copsCells Kept.l0) built_l0 ?_)
    | (refine wpList_store_new rfl 29 (.tmp 1) (.tmp 23) rfl P1 (copsCells Kept.l0) rfl rfl 29 _ h1.symm (size_cops Kept.l0) (like_copsL Kept.l0) (one_cops Kept.l0) ?_))
  refine (HF.out _).mono ?_
  rintro e W2 ⟨rfl, hb⟩
  replace HS := Lib.hid (HS.out.later hb)
  clear hb
  obtain ⟨P2, h2⟩ : ∃ P, W2.heap.size = P := ⟨_, rfl⟩
  replace HS := Lib.hid (HS.out.alloc h2 (recCells Kept.r0) 26)
  have HS2 : Hid (LS w [(P2, (recCells Kept.r0), 26), (P1, (copsCells Kept.l0), 29)] (W2.alloc (.cells #[.int .i64 1, .int .i64 0, .bool true, .int .i64 1, .int .i64 1, .int .i64 1, .int .i64 3, .int .i64 9, .int .i64 2, .int .i64 0, .int .i64 0] 26))) := HS.out
  replace HS := HS2
  clear HS2
  have b1 := HS.out.get 1 rfl
  simp only at b1
  have b2 := HS.out.get 0 rfl
  simp only at b2
  go_wp2_with (first
    | (refine wpList_load_row rfl 29 (.tmp 1) rfl P1 rfl 29 (copsCells Kept.l0) (0, 0) _ b1 Try.underlying29 rfl (size_cops Kept.l0) ?_)
    | (refine wpList_load_row rfl 26 (.tmp 2) rfl P2 rfl 26 (recCells Kept.r0) (0, 0) _ b2 Try.underlying26 rfl (size_rec Kept.r0) ?_))
  clear b1
  clear b2
  refine (HW0.out _).mono ?_
  rintro e W3 ⟨rfl, hb⟩
  replace HS := Lib.hid (HS.out.later hb)
  clear hb
  obtain ⟨P3, h3⟩ : ∃ P, W3.heap.size = P := ⟨_, rfl⟩
  replace HS := Lib.hid (HS.out.alloc h3 (copsCells Kept.m1) 29)
  have b1 := HS.out.get 2 rfl
  simp only at b1
  have b2 := HS.out.get 1 rfl
  simp only at b2
  go_wp2_with (first
    | (refine wpList_store_new rfl 29 (.tmp 3) (.tmp 34) rfl P3 (copsCells Kept.m1) rfl rfl 29 _ h3.symm (size_cops Kept.m1) (like_copsL Kept.m1) (one_cops Kept.m1) ?_)
    | (refine wpList_load_row rfl 29 (.tmp 1) rfl P1 rfl 29 (copsCells Kept.l0) (0, 0) _ b1 Try.underlying29 rfl (size_cops Kept.l0) ?_)
    | (refine wpList_load_row rfl 26 (.tmp 2) rfl P2 rfl 26 (recCells Kept.r0) (0, 0) _ b2 Try.underlying26 rfl (size_rec Kept.r0) ?_))
  clear b1
  clear b2
  refine (HW1.out _).mono ?_
  rintro e W4 ⟨rfl, hb⟩
  replace HS := Lib.hid (HS.out.later hb)
  clear hb
  obtain ⟨P5, h5⟩ : ∃ P, W4.heap.size = P := ⟨_, rfl⟩
  replace HS := Lib.hid (HS.out.alloc h5 (copsCells Kept.l0) 29)
  have b3 := HS.out.get 1 rfl
  simp only at b3
  go_wp2_with (first
    | (refine wpList_store_new rfl 29 (.tmp 5) (.tmp 40) rfl P5 (copsCells Kept.l0) rfl rfl 29 _ h5.symm (size_cops Kept.l0) (like_copsL Kept.l0) (one_cops Kept.l0) ?_)
    | (refine wpList_load_row rfl 29 (.tmp 3) rfl P3 rfl 29 (copsCells Kept.m1) (0, 0) _ b3 Try.underlying29 rfl (size_cops Kept.m1) ?_))
  clear b3
  refine (HR0.out _).mono ?_
  rintro e W5 ⟨rfl, hb⟩
  replace HS := Lib.hid (HS.out.later hb)
  clear hb
  obtain ⟨P7, h7⟩ : ∃ P, W5.heap.size = P := ⟨_, rfl⟩
  replace HS := Lib.hid (HS.out.alloc h7 (recCells Kept.x1) 26)
  have b5 := HS.out.get 1 rfl
  simp only at b5
  go_wp2_with (first
    | (refine wpList_store_new rfl 26 (.tmp 7) (.tmp 45) rfl P7 (recCells Kept.x1) rfl rfl 26 _ h7.symm (size_rec Kept.x1) (like_rec Kept.x1) (one_rec Kept.x1) ?_)
    | (refine wpList_load_row rfl 29 (.tmp 5) rfl P5 rfl 29 (copsCells Kept.l0) (0, 0) _ b5 Try.underlying29 rfl (size_cops Kept.l0) ?_))
  clear b5
  refine (HR1.out _).mono ?_
  rintro e W6 ⟨rfl, hb⟩
  replace HS := Lib.hid (HS.out.later hb)
  clear hb
  obtain ⟨P10, h10⟩ : ∃ P, W6.heap.size = P := ⟨_, rfl⟩
  replace HS := Lib.hid (HS.out.alloc h10 (recCells Kept.f1) 26)
  have b7 := HS.out.get 1 rfl
  simp only at b7
  go_wp2_with (first
    | (refine wpList_store_new rfl 26 (.tmp 10) (.tmp 51) rfl P10 (recCells Kept.f1) rfl rfl 26 _ h10.symm (size_rec Kept.f1) (like_rec Kept.f1) (one_rec Kept.f1) ?_)
    | (refine wpList_load_row rfl 26 (.tmp 7) rfl P7 rfl 26 (recCells Kept.x1) (0, 0) _ b7 Try.underlying26 rfl (size_rec Kept.x1) ?_))
  clear b7
  refine (HS0.out _).mono ?_
  rintro e W7 ⟨rfl, hb⟩
  replace HS := Lib.hid (HS.out.later hb)
  clear hb
  obtain ⟨P14, h14⟩ : ∃ P, W7.heap.size = P := ⟨_, rfl⟩
  replace HS := Lib.hid (HS.out.alloc h14 (recCells Kept.z1) 26)
  have b14 := HS.out.get 0 rfl
  simp only at b14
  go_wp2_with (first
    | (refine wpList_store_new rfl 26 (.tmp 14) (.tmp 58) rfl P14 (recCells Kept.z1) rfl rfl 26 _ h14.symm (size_rec Kept.z1) (like_rec Kept.z1) (one_rec Kept.z1) ?_)
    | (refine wpList_load_row rfl 26 (.tmp 14) rfl P14 rfl 26 (recCells Kept.z1) (0, 0) _ b14 Try.underlying26 rfl (size_rec Kept.z1) ?_))
  clear b14
  refine (HS1.out _).mono ?_
  rintro e W8 ⟨rfl, hb⟩
  replace HS := Lib.hid (HS.out.later hb)
  clear hb
  obtain ⟨P17, h17⟩ : ∃ P, W8.heap.size = P := ⟨_, rfl⟩
  replace HS := Lib.hid (HS.out.alloc h17 (recCells Kept.t1) 26)
  have b7 := HS.out.get 3 rfl
  simp only at b7
  go_wp2_with (first
    | (refine wpList_store_new rfl 26 (.tmp 17) (.tmp 64) rfl P17 (recCells Kept.t1) rfl rfl 26 _ h17.symm (size_rec Kept.t1) (like_rec Kept.t1) (one_rec Kept.t1) ?_)
    | (refine wpList_load_row rfl 26 (.tmp 7) rfl P7 rfl 26 (recCells Kept.x1) (0, 0) _ b7 Try.underlying26 rfl (size_rec Kept.x1) ?_))
  clear b7
  refine (HCf.out _).mono ?_
  rintro e W9 ⟨rfl, hb⟩
  replace HS := Lib.hid (HS.out.later hb)
  clear hb
  obtain ⟨P19, h19⟩ : ∃ P, W9.heap.size = P := ⟨_, rfl⟩
  replace HS := Lib.hid (HS.out.alloc h19 (recCells Kept.c1) 26)
  go_wp2_with (first
    | (refine wpList_store_new rfl 26 (.tmp 19) (.tmp 69) rfl P19 (recCells Kept.c1) rfl rfl 26 _ h19.symm (size_rec Kept.c1) (like_rec Kept.c1) (one_rec Kept.c1) ?_)
    | fail)
  have heq : ∀ W, (binOp .eql 26 (.agg (recCells Kept.f1)) (.agg #[.int .i64 1, .int .i64 0, .bool false, .int .i64 0, .int .i64 1, .int .i64 1, .int .i64 3, .int .i64 9, .int .i64 0, .int .i64 0, .int .i64 0])).run Try.prog W = .ok (.bool true) W := fun W => by
    have := rec_eql Kept.f1 Kept.f1 W
    rw [decide_eq_true rfl] at this
    exact this
  simp only [List.append_eq, List.cons_append, List.nil_append]
  refine wp_region_quiet (C := fun W => LS w [(P19, (recCells Kept.c1), 26), (P17, (recCells Kept.t1), 26), (P14, (recCells Kept.z1), 26), (P10, (recCells Kept.f1), 26), (P7, (recCells Kept.x1), 26), (P5, (copsCells Kept.l0), 29), (P3, (copsCells Kept.m1), 29), (P2, (recCells Kept.r0), 26), (P1, (copsCells Kept.l0), 29)] W) (by kernel_rfl) (by kernel_rfl) HS.out.drew ?_
  clear HS
  dsimp only
  repeat (first
    | go_big_quiet_skip
    | (go_big_quiet_want
       first
         | (refine quiet_row 26 (.tmp 10) rfl P10 rfl 26 (recCells Kept.f1) (0, 0) _ (fun W hW => hW.get 3 rfl) Try.underlying26 rfl (size_rec Kept.f1) ?_
            simp only [Act.put, List.setIfInBounds_toArray, List.set_cons_zero, List.set_cons_succ]
            go_big_quiet_on)
         | (refine quiet_row 26 (.tmp 19) rfl P19 rfl 26 (recCells Kept.c1) (0, 0) _ (fun W hW => hW.get 0 rfl) Try.underlying26 rfl (size_rec Kept.c1) ?_
            simp only [Act.put, List.setIfInBounds_toArray, List.set_cons_zero, List.set_cons_succ]
            go_big_quiet_on)
         | (go_big_quiet_op
            go_big_quiet_on)
         | (unfold Oper.quiet
            apply Exists.intro
            refine ⟨fun W9 hW9 => ?_, ?_⟩
            · have g7 := cell_at (k := 0) (v := .int .i64 2) (hW9.get 4 rfl) rfl
              have g14 := cell_at (k := 3) (v := .int .i64 0) (hW9.get 2 rfl) rfl
              have g19 := cell_at (k := 1) (v := .int .i64 1) (hW9.get 0 rfl) rfl
              have k19 := cell_at (k := 4) (v := .int .i64 2) (hW9.get 0 rfl) rfl
              simp only at g7 g14 g19 k19
              go_simp
              first
                | with_reducible rfl
                | (go_at_call 21; exact (HF.out _).mono (fun _ _ h => ⟨h.1, hW9.later h.2⟩))
                | (go_at_call 14; exact (HCp.out _).mono (fun _ _ h => ⟨h.1, hW9.later h.2⟩))
                | (go_at_call 13; exact (HCk.out _).mono (fun _ _ h => ⟨h.1, hW9.later h.2⟩))
            simp only [Act.put, List.setIfInBounds_toArray, List.set_cons_zero, List.set_cons_succ]
            go_big_quiet_on)))
  refine wpQuiet_nil ?_
  intro W9 hW9
  go_wp2_with fail
  go_ret
  exact ⟨rfl, hW9.below⟩
end Go.Proofs.Ytmpmaljkmfgagac
