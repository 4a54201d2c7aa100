/-
  RecordTorn: the copies can be read, the newest is copy 1, the new record is right.
-/
import Derived.Test.YtmpmaljkmfgagacKeptW
import Derived.Deep.Cut
namespace Go.Proofs.Ytmpmaljkmfgagac
open Go.RowKit

set_option maxRecDepth 100000 in
set_option maxHeartbeats 2000000 in
theorem torn_at1 (l : CopsR) (r : RecR) (h : RecM.copies l = 0) (hc : RecM.check (RecM.next l r) = 0) (hK : RecM.newest l = 1) (w : World) : Calls Try.prog 4 #[copsV l, recV r] w fun e w' => e = .returned (.bool true) ∧ Below w.heap.size w w' := by
  have hcu := RecM.check_nums (RecM.cur_ok h)
  have HNx : Hid (RecM.next l r = { r with gen := (RecM.cur l).gen + 1 }) := rfl
  obtain ⟨X, hX⟩ : ∃ X, RecM.cur l = X := ⟨_, rfl⟩
  obtain ⟨G, hG⟩ : ∃ G, X.gen + 1 = G := ⟨_, rfl⟩
  rw [hX, hG] at HNx
  rw [hX] at hcu
  have hPut : ∀ c, RecM.put l c = ⟨c, l.c1⟩ := fun c => by unfold RecM.put; rw [if_neg (by omega)]
  have tl := RecM.torn_leaves h r
  rw [RecM.writeOf_ok h hc, RecM.writeOf_ok h hc, hPut, hPut, HNx.out, hK, hX] at tl
  obtain ⟨tA, tB, -, -⟩ := tl.2 rfl
  simp only [Bool.false_eq_true, if_false, if_true] at tA tB
  have HWf : Hid (∀ W, Calls Try.prog 7 #[.agg (copsCells l), .agg (recCells r), .bool false] W fun e w' => e = .returned (.tuple #[.agg (copsCells ⟨⟨true, { r with gen := G }⟩, l.c1⟩), .int .i64 0]) ∧ Below W.heap.size W w') := fun W => by
    have := writeR_any l r false W
    rw [RecM.writeOf_ok h hc, hPut, HNx.out] at this
    exact this
  have HWt : Hid (∀ W, Calls Try.prog 7 #[.agg (copsCells l), .agg (recCells r), .bool true] W fun e w' => e = .returned (.tuple #[.agg (copsCells ⟨RecM.noCop, l.c1⟩), .int .i64 0]) ∧ Below W.heap.size W w') := fun W => by
    have := writeR_any l r true W
    rw [RecM.writeOf_ok h hc, hPut] at this
    exact this
  have HRd : Hid (∀ W, Calls Try.prog 6 #[.agg (copsCells l)] W fun e w' => e = .returned (.tuple #[.agg (recCells X), .int .i64 1, .int .i64 0]) ∧ Below W.heap.size W w') := fun W => by
    have := readR_any l W
    rw [RecM.readOf_ok h, hX, hK] at this
    exact this
  have HRA : Hid (∀ W, Calls Try.prog 6 #[.agg (copsCells ⟨⟨true, { r with gen := G }⟩, l.c1⟩)] W fun e w' => e = .returned (.tuple #[.agg (recCells { r with gen := G }), .int .i64 0, .int .i64 0]) ∧ Below W.heap.size W w') := fun W => by
    have := readR_any ⟨⟨true, { r with gen := G }⟩, l.c1⟩ W
    rw [tA] at this
    exact this
  have HRB : Hid (∀ W, Calls Try.prog 6 #[.agg (copsCells ⟨RecM.noCop, l.c1⟩)] W fun e w' => e = .returned (.tuple #[.agg (recCells X), .int .i64 1, .int .i64 0]) ∧ Below W.heap.size W w') := fun W => by
    have := readR_any ⟨RecM.noCop, l.c1⟩ W
    rw [tB] at this
    exact this
  have hw : IntKind.i64.wrap G = G := IntWalk.i64_in _ (by omega)
  have hw0 : IntKind.i64.wrap 0 = 0 := IntWalk.i64_in _ (by omega)
  have hw1 : IntKind.i64.wrap 1 = 1 := IntWalk.i64_in _ (by omega)
  have eqN : ∀ W, (binOp .eql 26 (.agg (recCells { r with gen := G })) (.agg (recCells { r with gen := G }))).run Try.prog W = .ok (.bool true) W := fun W => by
    have := rec_eql { r with gen := G } { r with gen := G } W
    rw [decide_eq_true rfl] at this
    exact this
  have eqX : ∀ W, (binOp .eql 26 (.agg (recCells X)) (.agg (recCells X))).run Try.prog W = .ok (.bool true) W := fun W => by
    have := rec_eql X X W
    rw [decide_eq_true rfl] at this
    exact this
  have eqC : ∀ W, (binOp .eql 28 (.agg (copCells l.c1)) (.agg (copCells l.c1))).run Try.prog W = .ok (.bool true) W := fun W => by
    have := cop_eql l.c1 l.c1 W
    rw [decide_eq_true rfl] at this
    exact this
  clear hX hK hPut tl tA tB h hc hcu HNx
  have HK : Hid (∀ W, Calls Try.prog 12 #[] W fun e w' => e = .returned (.bool true) ∧ Below W.heap.size W w') := fun W => kept_any W
  have HS := Lib.hid (((LS.start w).alloc rfl (copsCells l) 29).alloc (p := w.heap.size + 1) (by simp) (recCells r) 26)
  have HV : Hid (∀ x, recV x = .agg (recCells x)) := fun _ => rfl
  unfold copsV
  rw [HV.out]
  have bwheapsize := HS.out.get 1 rfl
  simp only at bwheapsize
  go_enter Try.func4, Try.ntmps4
  go_wp2_with (first
    | (refine wpList_load_row rfl 29 (.tmp 2) rfl w.heap.size rfl 29 (copsCells l) (0, 0) _ bwheapsize Try.underlying29 rfl (size_cops l) ?_))
  clear bwheapsize
  refine (HRd.out _).mono ?_
  rintro e W1 ⟨rfl, hb⟩
  replace HS := Lib.hid (HS.out.later hb)
  clear hb
  obtain ⟨P5, hP5⟩ : ∃ P, W1.heap.size = P := ⟨_, rfl⟩
  replace HS := Lib.hid (HS.out.alloc hP5 (recCells X) 26)
  go_wp2_with (first
    | (refine wpList_store_new rfl 26 (.tmp 5) (.tmp 19) rfl P5 (recCells X) rfl rfl 26 _ hP5.symm (size_rec X) (like_rec X) (one_rec X) ?_))
  refine (HK.out _).mono ?_
  rintro e W2 ⟨rfl, hb⟩
  replace HS := Lib.hid (HS.out.later hb)
  clear hb
  have bwheapsize := HS.out.get 2 rfl
  simp only at bwheapsize
  have bwheapsizep1 := HS.out.get 1 rfl
  simp only at bwheapsizep1
  go_wp2_with (first
    | (refine wpList_load_row rfl 29 (.tmp 2) rfl w.heap.size rfl 29 (copsCells l) (0, 0) _ bwheapsize Try.underlying29 rfl (size_cops l) ?_)
    | (refine wpList_load_row rfl 26 (.tmp 3) rfl (w.heap.size + 1) rfl 26 (recCells r) (0, 0) _ bwheapsizep1 Try.underlying26 rfl (size_rec r) ?_))
  clear bwheapsize
  clear bwheapsizep1
  refine (HWf.out _).mono ?_
  rintro e W3 ⟨rfl, hb⟩
  replace HS := Lib.hid (HS.out.later hb)
  clear hb
  obtain ⟨P8, hP8⟩ : ∃ P, W3.heap.size = P := ⟨_, rfl⟩
  replace HS := Lib.hid (HS.out.alloc hP8 (copsCells ⟨⟨true, { r with gen := G }⟩, l.c1⟩) 29)
  have bwheapsize := HS.out.get 3 rfl
  simp only at bwheapsize
  have bwheapsizep1 := HS.out.get 2 rfl
  simp only at bwheapsizep1
  go_wp2_with (first
    | (refine wpList_store_new rfl 29 (.tmp 8) (.tmp 33) rfl P8 (copsCells ⟨⟨true, { r with gen := G }⟩, l.c1⟩) rfl rfl 29 _ hP8.symm (size_cops ⟨⟨true, { r with gen := G }⟩, l.c1⟩) (like_copsL ⟨⟨true, { r with gen := G }⟩, l.c1⟩) (one_cops ⟨⟨true, { r with gen := G }⟩, l.c1⟩) ?_)
    | (refine wpList_load_row rfl 29 (.tmp 2) rfl w.heap.size rfl 29 (copsCells l) (0, 0) _ bwheapsize Try.underlying29 rfl (size_cops l) ?_)
    | (refine wpList_load_row rfl 26 (.tmp 3) rfl (w.heap.size + 1) rfl 26 (recCells r) (0, 0) _ bwheapsizep1 Try.underlying26 rfl (size_rec r) ?_))
  clear bwheapsize
  clear bwheapsizep1
  refine (HWt.out _).mono ?_
  rintro e W4 ⟨rfl, hb⟩
  replace HS := Lib.hid (HS.out.later hb)
  clear hb
  obtain ⟨P9, hP9⟩ : ∃ P, W4.heap.size = P := ⟨_, rfl⟩
  replace HS := Lib.hid (HS.out.alloc hP9 (copsCells ⟨RecM.noCop, l.c1⟩) 29)
  have bP8 := HS.out.get 1 rfl
  simp only at bP8
  go_wp2_with (first
    | (refine wpList_store_new rfl 29 (.tmp 9) (.tmp 39) rfl P9 (copsCells ⟨RecM.noCop, l.c1⟩) rfl rfl 29 _ hP9.symm (size_cops ⟨RecM.noCop, l.c1⟩) (like_copsL ⟨RecM.noCop, l.c1⟩) (one_cops ⟨RecM.noCop, l.c1⟩) ?_)
    | (refine wpList_load_row rfl 29 (.tmp 8) rfl P8 rfl 29 (copsCells ⟨⟨true, { r with gen := G }⟩, l.c1⟩) (0, 0) _ bP8 Try.underlying29 rfl (size_cops ⟨⟨true, { r with gen := G }⟩, l.c1⟩) ?_))
  clear bP8
  refine (HRA.out _).mono ?_
  rintro e W5 ⟨rfl, hb⟩
  replace HS := Lib.hid (HS.out.later hb)
  clear hb
  obtain ⟨P11, hP11⟩ : ∃ P, W5.heap.size = P := ⟨_, rfl⟩
  replace HS := Lib.hid (HS.out.alloc hP11 (recCells { r with gen := G }) 26)
  have bP9 := HS.out.get 1 rfl
  simp only at bP9
  go_wp2_with (first
    | (refine wpList_store_new rfl 26 (.tmp 11) (.tmp 49) rfl P11 (recCells { r with gen := G }) rfl rfl 26 _ hP11.symm (size_rec { r with gen := G }) (like_rec { r with gen := G }) (one_rec { r with gen := G }) ?_)
    | (refine wpList_load_row rfl 29 (.tmp 9) rfl P9 rfl 29 (copsCells ⟨RecM.noCop, l.c1⟩) (0, 0) _ bP9 Try.underlying29 rfl (size_cops ⟨RecM.noCop, l.c1⟩) ?_))
  clear bP9
  refine (HRB.out _).mono ?_
  rintro e W6 ⟨rfl, hb⟩
  replace HS := Lib.hid (HS.out.later hb)
  clear hb
  obtain ⟨P13, hP13⟩ : ∃ P, W6.heap.size = P := ⟨_, rfl⟩
  replace HS := Lib.hid (HS.out.alloc hP13 (recCells X) 26)
  go_upto_region 12 with ((refine wpList_store_new rfl 26 (.tmp 13) (.tmp 55) rfl P13 (recCells X) rfl rfl 26 _ hP13.symm (size_rec X) (like_rec X) (one_rec X) ?_))
  generalize W6.alloc (.cells (recCells X) 26) = V at HS ⊢
  obtain ⟨c0, c1, c2, c3, c4, c5, c6, c7, c8, c9, c10⟩ := rec_cells (show V.heap[w.heap.size + 1]? = some (.cells #[.int .i64 r.gen, .int .i64 r.act, .bool r.trying, .int .i64 r.tries, .int .i64 r.floor, .int .i64 r.i0.ver, .int .i64 r.i0.size, .int .i64 r.i0.sum, .int .i64 r.i1.ver, .int .i64 r.i1.size, .int .i64 r.i1.sum] 26 (0, 0)) from HS.out.get 5 rfl)
  have g5 := cell_at (k := 0) (v := .int .i64 X.gen) (HS.out.get 4 rfl) rfl
  simp only at g5
  have hlt5 : P5 < V.heap.size := blk_ltQ (HS.out.get 4 rfl)
  have hne5 : ¬ (P5 = V.heap.size) := by omega
  obtain ⟨P15, hP15⟩ : ∃ P, V.heap.size = P := ⟨_, rfl⟩
  rw [hP15] at hlt5 hne5
  replace HS := Lib.hid (HS.out.alloc hP15 (recCells { r with gen := G }) 26)
  have HS2 : Hid (LS w [(P15, (recCells { r with gen := G }), 26), (P13, (recCells X), 26), (P11, (recCells { r with gen := G }), 26), (P9, (copsCells ⟨RecM.noCop, l.c1⟩), 29), (P8, (copsCells ⟨⟨true, { r with gen := G }⟩, l.c1⟩), 29), (P5, (recCells X), 26), ((w.heap.size + 1), (recCells r), 26), (w.heap.size, (copsCells l), 29)] (V.alloc (.cells #[.int .i64 G, .int .i64 r.act, .bool r.trying, .int .i64 r.tries, .int .i64 r.floor, .int .i64 r.i0.ver, .int .i64 r.i0.size, .int .i64 r.i0.sum, .int .i64 r.i1.ver, .int .i64 r.i1.size, .int .i64 r.i1.sum] 26))) := HS.out
  replace HS := HS2
  clear HS2
  go_wp2_with fail
  clear c0 c1 c2 c3 c4 c5 c6 c7 c8 c9 c10 g5
  generalize V.alloc (.cells #[.int .i64 G, .int .i64 r.act, .bool r.trying, .int .i64 r.tries, .int .i64 r.floor, .int .i64 r.i0.ver, .int .i64 r.i0.size, .int .i64 r.i0.sum, .int .i64 r.i1.ver, .int .i64 r.i1.size, .int .i64 r.i1.sum] 26) = V2 at HS ⊢
  try simp only [List.append_eq, List.cons_append, List.nil_append]
  refine wp_region_quiet (C := fun W => LS w [(P15, (recCells { r with gen := G }), 26), (P13, (recCells X), 26), (P11, (recCells { r with gen := G }), 26), (P9, (copsCells ⟨RecM.noCop, l.c1⟩), 29), (P8, (copsCells ⟨⟨true, { r with gen := G }⟩, l.c1⟩), 29), (P5, (recCells X), 26), ((w.heap.size + 1), (recCells r), 26), (w.heap.size, (copsCells l), 29)] W) (by kernel_rfl) (by kernel_rfl) HS.out.drew ?_
  clear HS
  dsimp only
  repeat (first
    | go_big_quiet_skip
    | (go_big_quiet_want
       first
         | (refine quiet_row 26 (.tmp 11) rfl P11 rfl 26 (recCells { r with gen := G }) (0, 0) _ (fun W hW => hW.get 2 rfl) Try.underlying26 rfl (size_rec { r with gen := G }) ?_
            simp only [Act.put, List.setIfInBounds_toArray, List.set_cons_zero, List.set_cons_succ]
            go_big_quiet_on)
         | (refine quiet_row 26 (.tmp 15) rfl P15 rfl 26 (recCells { r with gen := G }) (0, 0) _ (fun W hW => hW.get 0 rfl) Try.underlying26 rfl (size_rec { r with gen := G }) ?_
            simp only [Act.put, List.setIfInBounds_toArray, List.set_cons_zero, List.set_cons_succ]
            go_big_quiet_on)
         | (refine quiet_row 26 (.tmp 13) rfl P13 rfl 26 (recCells X) (0, 0) _ (fun W hW => hW.get 1 rfl) Try.underlying26 rfl (size_rec X) ?_
            simp only [Act.put, List.setIfInBounds_toArray, List.set_cons_zero, List.set_cons_succ]
            go_big_quiet_on)
         | (refine quiet_row 26 (.tmp 5) rfl P5 rfl 26 (recCells X) (0, 0) _ (fun W hW => hW.get 5 rfl) Try.underlying26 rfl (size_rec X) ?_
            simp only [Act.put, List.setIfInBounds_toArray, List.set_cons_zero, List.set_cons_succ]
            go_big_quiet_on)
         | (refine quiet_part 28 (.tmp 92) rfl P8 12 rfl (copsCells ⟨⟨true, { r with gen := G }⟩, l.c1⟩) 29 (0, 0) (fun W hW => hW.get 4 rfl) (copCells l.c1) (part_at1 ⟨⟨true, { r with gen := G }⟩, l.c1⟩) _ Try.underlying28 rfl (size_cop l.c1) ?_
            simp only [Act.put, List.setIfInBounds_toArray, List.set_cons_zero, List.set_cons_succ]
            go_big_quiet_on)
         | (refine quiet_part 28 (.tmp 95) rfl w.heap.size 12 rfl (copsCells l) 29 (0, 0) (fun W hW => hW.get 7 rfl) (copCells l.c1) (part_at1 l) _ Try.underlying28 rfl (size_cop l.c1) ?_
            simp only [Act.put, List.setIfInBounds_toArray, List.set_cons_zero, List.set_cons_succ]
            go_big_quiet_on)
         | (refine quiet_part 28 (.tmp 101) rfl P9 12 rfl (copsCells ⟨RecM.noCop, l.c1⟩) 29 (0, 0) (fun W hW => hW.get 3 rfl) (copCells l.c1) (part_at1 ⟨RecM.noCop, l.c1⟩) _ Try.underlying28 rfl (size_cop l.c1) ?_
            simp only [Act.put, List.setIfInBounds_toArray, List.set_cons_zero, List.set_cons_succ]
            go_big_quiet_on)
         | (refine quiet_part 28 (.tmp 104) rfl w.heap.size 12 rfl (copsCells l) 29 (0, 0) (fun W hW => hW.get 7 rfl) (copCells l.c1) (part_at1 l) _ Try.underlying28 rfl (size_cop l.c1) ?_
            simp only [Act.put, List.setIfInBounds_toArray, List.set_cons_zero, List.set_cons_succ]
            go_big_quiet_on)
         | (go_big_quiet_op
            go_big_quiet_on)
         | (unfold Oper.quiet
            apply Exists.intro
            refine ⟨fun W9 hW9 => ?_, ?_⟩
            · go_simp
              first
                | with_reducible rfl
            simp only [Act.put, List.setIfInBounds_toArray, List.set_cons_zero, List.set_cons_succ]
            go_big_quiet_on)))
  refine wpQuiet_nil ?_
  intro W9 hW9
  go_wp2_with fail
  go_ret
  exact ⟨rfl, hW9.below⟩
end Go.Proofs.Ytmpmaljkmfgagac
