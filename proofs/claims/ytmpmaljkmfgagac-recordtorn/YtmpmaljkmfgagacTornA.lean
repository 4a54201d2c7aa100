/-
  RecordTorn: where the copies cannot be read, or the new record is not right.
-/
import Derived.Test.YtmpmaljkmfgagacKeptW
namespace Go.Proofs.Ytmpmaljkmfgagac
open Go.RowKit

set_option maxRecDepth 100000 in
set_option maxHeartbeats 2000000 in
theorem torn_bad (l : CopsR) (r : RecR) (h : RecM.copies l ≠ 0) (w : World) : Calls Try.prog 4 #[copsV l, recV r] w fun e w' => e = .returned (.bool true) ∧ Below w.heap.size w w' := by
  obtain ⟨E, hE⟩ : ∃ E, RecM.copies l = E := ⟨_, rfl⟩
  have HRd : Hid (∀ W, Calls Try.prog 6 #[.agg (copsCells l)] W fun e w' => e = .returned (.tuple #[.agg (recCells RecM.noRec), .int .i64 0, .int .i64 E]) ∧ Below W.heap.size W w') := fun W => by
    have := readR_any l W
    rw [show RecM.readOf l = (RecM.noRec, 0, E) by unfold RecM.readOf; rw [if_pos h, hE]] at this
    exact this
  rw [hE] at h
  have t0 : (E != 0) = true := by simp [h]
  clear hE h
  have HK : Hid (∀ W, Calls Try.prog 12 #[] W fun e w' => e = .returned (.bool true) ∧ Below W.heap.size W w') := fun W => kept_any W
  have HS := Lib.hid (((LS.start w).alloc rfl (copsCells l) 29).alloc (p := w.heap.size + 1) (by simp) (recCells r) 26)
  have HV : Hid (∀ x, recV x = .agg (recCells x)) := fun _ => rfl
  unfold copsV
  rw [HV.out]
  have bwheapsize := HS.out.get 1 rfl
  simp only at bwheapsize
  go_enter Try.func4, Try.ntmps4
  go_wp2_with (first
    | (refine wpList_load_row rfl 29 (.tmp 2) rfl w.heap.size rfl 29 (copsCells l) (0, 0) _ bwheapsize Try.underlying29 rfl (size_cops l) ?_))
  clear bwheapsize
  refine (HRd.out _).mono ?_
  rintro e W1 ⟨rfl, hb⟩
  replace HS := Lib.hid (HS.out.later hb)
  clear hb
  obtain ⟨P5, hP5⟩ : ∃ P, W1.heap.size = P := ⟨_, rfl⟩
  replace HS := Lib.hid (HS.out.alloc hP5 (recCells RecM.noRec) 26)
  go_wp2_with (first
    | (refine wpList_store_new rfl 26 (.tmp 5) (.tmp 19) rfl P5 (recCells RecM.noRec) rfl rfl 26 _ hP5.symm (size_rec RecM.noRec) (like_rec RecM.noRec) (one_rec RecM.noRec) ?_))
  refine (HK.out _).mono ?_
  rintro e W2 ⟨rfl, hb⟩
  replace HS := Lib.hid (HS.out.later hb)
  clear hb
  go_wp2_with fail
  refine (HK.out _).mono ?_
  rintro e W3 ⟨rfl, hb⟩
  replace HS := Lib.hid (HS.out.later hb)
  clear hb
  go_wp2_with fail
  go_ret
  exact ⟨rfl, HS.out.below⟩

set_option maxRecDepth 100000 in
set_option maxHeartbeats 2000000 in
theorem torn_chk (l : CopsR) (r : RecR) (h : RecM.copies l = 0) (hc : RecM.check (RecM.next l r) ≠ 0) (w : World) : Calls Try.prog 4 #[copsV l, recV r] w fun e w' => e = .returned (.bool true) ∧ Below w.heap.size w w' := by
  obtain ⟨E, hE⟩ : ∃ E, RecM.check (RecM.next l r) = E := ⟨_, rfl⟩
  have HWb : Hid (∀ t, ∀ W, Calls Try.prog 7 #[.agg (copsCells l), .agg (recCells r), .bool t] W fun e w' => e = .returned (.tuple #[.agg (copsCells RecM.noCops), .int .i64 E]) ∧ Below W.heap.size W w') := fun t W => by
    have := writeR_any l r t W
    rw [RecM.writeOf_bad h hc, hE] at this
    exact this
  have HRd : Hid (∀ W, Calls Try.prog 6 #[.agg (copsCells l)] W fun e w' => e = .returned (.tuple #[.agg (recCells (RecM.cur l)), .int .i64 (RecM.newest l), .int .i64 0]) ∧ Below W.heap.size W w') := fun W => by
    have := readR_any l W
    rw [RecM.readOf_ok h] at this
    exact this
  rw [hE] at hc
  have t0 : (E != 0) = true := by simp [hc]
  have t1 : (E != E) = false := by simp
  clear hE h
  have HK : Hid (∀ W, Calls Try.prog 12 #[] W fun e w' => e = .returned (.bool true) ∧ Below W.heap.size W w') := fun W => kept_any W
  have HS := Lib.hid (((LS.start w).alloc rfl (copsCells l) 29).alloc (p := w.heap.size + 1) (by simp) (recCells r) 26)
  have HV : Hid (∀ x, recV x = .agg (recCells x)) := fun _ => rfl
  unfold copsV
  rw [HV.out]
  have bwheapsize := HS.out.get 1 rfl
  simp only at bwheapsize
  go_enter Try.func4, Try.ntmps4
  go_wp2_with (first
    | (refine wpList_load_row rfl 29 (.tmp 2) rfl w.heap.size rfl 29 (copsCells l) (0, 0) _ bwheapsize Try.underlying29 rfl (size_cops l) ?_))
  clear bwheapsize
  refine (HRd.out _).mono ?_
  rintro e W1 ⟨rfl, hb⟩
  replace HS := Lib.hid (HS.out.later hb)
  clear hb
  obtain ⟨P5, hP5⟩ : ∃ P, W1.heap.size = P := ⟨_, rfl⟩
  replace HS := Lib.hid (HS.out.alloc hP5 (recCells (RecM.cur l)) 26)
  go_wp2_with (first
    | (refine wpList_store_new rfl 26 (.tmp 5) (.tmp 19) rfl P5 (recCells (RecM.cur l)) rfl rfl 26 _ hP5.symm (size_rec (RecM.cur l)) (like_rec (RecM.cur l)) (one_rec (RecM.cur l)) ?_))
  refine (HK.out _).mono ?_
  rintro e W2 ⟨rfl, hb⟩
  replace HS := Lib.hid (HS.out.later hb)
  clear hb
  have bwheapsize := HS.out.get 2 rfl
  simp only at bwheapsize
  have bwheapsizep1 := HS.out.get 1 rfl
  simp only at bwheapsizep1
  go_wp2_with (first
    | (refine wpList_load_row rfl 29 (.tmp 2) rfl w.heap.size rfl 29 (copsCells l) (0, 0) _ bwheapsize Try.underlying29 rfl (size_cops l) ?_)
    | (refine wpList_load_row rfl 26 (.tmp 3) rfl (w.heap.size + 1) rfl 26 (recCells r) (0, 0) _ bwheapsizep1 Try.underlying26 rfl (size_rec r) ?_))
  clear bwheapsize
  clear bwheapsizep1
  refine (HWb.out _ _).mono ?_
  rintro e W3 ⟨rfl, hb⟩
  replace HS := Lib.hid (HS.out.later hb)
  clear hb
  obtain ⟨P8, hP8⟩ : ∃ P, W3.heap.size = P := ⟨_, rfl⟩
  replace HS := Lib.hid (HS.out.alloc hP8 (copsCells RecM.noCops) 29)
  have bwheapsize := HS.out.get 3 rfl
  simp only at bwheapsize
  have bwheapsizep1 := HS.out.get 2 rfl
  simp only at bwheapsizep1
  go_wp2_with (first
    | (refine wpList_store_new rfl 29 (.tmp 8) (.tmp 33) rfl P8 (copsCells RecM.noCops) rfl rfl 29 _ hP8.symm (size_cops RecM.noCops) (like_copsL RecM.noCops) (one_cops RecM.noCops) ?_)
    | (refine wpList_load_row rfl 29 (.tmp 2) rfl w.heap.size rfl 29 (copsCells l) (0, 0) _ bwheapsize Try.underlying29 rfl (size_cops l) ?_)
    | (refine wpList_load_row rfl 26 (.tmp 3) rfl (w.heap.size + 1) rfl 26 (recCells r) (0, 0) _ bwheapsizep1 Try.underlying26 rfl (size_rec r) ?_))
  clear bwheapsize
  clear bwheapsizep1
  refine (HWb.out _ _).mono ?_
  rintro e W4 ⟨rfl, hb⟩
  replace HS := Lib.hid (HS.out.later hb)
  clear hb
  obtain ⟨P9, hP9⟩ : ∃ P, W4.heap.size = P := ⟨_, rfl⟩
  replace HS := Lib.hid (HS.out.alloc hP9 (copsCells RecM.noCops) 29)
  go_wp2_with (first
    | (refine wpList_store_new rfl 29 (.tmp 9) (.tmp 39) rfl P9 (copsCells RecM.noCops) rfl rfl 29 _ hP9.symm (size_cops RecM.noCops) (like_copsL RecM.noCops) (one_cops RecM.noCops) ?_))
  go_ret
  exact ⟨rfl, HS.out.below⟩
end Go.Proofs.Ytmpmaljkmfgagac
