/-
  Contract of the reference's Newest, of right copies.
-/
import Derived.Test.YtmpmaljkmfgagacRecRd
namespace Go.Proofs.Ytmpmaljkmfgagac
open Go.RowKit

set_option maxRecDepth 100000 in
theorem gen0_any (l : CopsR) (h : RecM.copies l = 0) (B : Nat) (W : World) (hB : W.heap[B]? = some (.cells (copsCells l) 29 (0, 0))) :
    Calls Try.prog 26 #[.int .i64 0, .pointer (some ⟨B, 0, none⟩)] W fun e w' => e = .returned (.int .i64 l.c0.r.gen) ∧ W = w' := by
  have hz : l.c0.ok = false → l.c0.r.gen = 0 := by
    intro ho
    obtain ⟨h0, h1, -⟩ := RecM.copies_zero.1 h
    rw [RecM.copErr_no h0 ho]
    rfl
  have hok := (oks_cells hB).1
  have hgn := (cop0_cells hB).1
  clear hB h
  cases ho : l.c0.ok
  · rw [ho] at hok
    have HZ := Lib.hid (hz ho)
    clear hz ho hgn
    go_enter Try.func26, Try.ntmps26
    go_wp2_with fail
    go_ret
    exact ⟨ret_i HZ.out.symm, rfl⟩
  · rw [ho] at hok
    clear hz ho
    go_enter Try.func26, Try.ntmps26
    go_wp2_with fail
    go_ret
    exact ⟨rfl, rfl⟩

set_option maxRecDepth 100000 in
theorem gen1_any (l : CopsR) (h : RecM.copies l = 0) (B : Nat) (W : World) (hB : W.heap[B]? = some (.cells (copsCells l) 29 (0, 0))) :
    Calls Try.prog 26 #[.int .i64 1, .pointer (some ⟨B, 0, none⟩)] W fun e w' => e = .returned (.int .i64 l.c1.r.gen) ∧ W = w' := by
  have hz : l.c1.ok = false → l.c1.r.gen = 0 := by
    intro ho
    obtain ⟨h0, h1, -⟩ := RecM.copies_zero.1 h
    rw [RecM.copErr_no h1 ho]
    rfl
  have hok := (oks_cells hB).2
  have hgn := (cop1_cells hB).1
  clear hB h
  cases ho : l.c1.ok
  · rw [ho] at hok
    have HZ := Lib.hid (hz ho)
    clear hz ho hgn
    go_enter Try.func26, Try.ntmps26
    go_wp2_with fail
    go_ret
    exact ⟨ret_i HZ.out.symm, rfl⟩
  · rw [ho] at hok
    clear hz ho
    go_enter Try.func26, Try.ntmps26
    go_wp2_with fail
    go_ret
    exact ⟨rfl, rfl⟩

set_option maxRecDepth 100000 in
set_option maxHeartbeats 4000000 in
theorem newest_any (l : CopsR) (h : RecM.copies l = 0) (w : World) :
    Calls Try.prog 15 #[copsV l] w fun e w' => e = .returned (.tuple #[recV (RecM.cur l), .int .i64 (RecM.newest l)]) ∧ Below w.heap.size w w' := by
  have HST := Lib.hid (RdSt.start w l)
  have HG0 := Lib.hid (gen0_any l h w.heap.size _ HST.out.c0)
  have HG1 := Lib.hid (gen1_any l h w.heap.size _ HST.out.c0)
  have HNw := Lib.hid (RecM.newest_gen (l := l) h)
  unfold copsV
  clear h
  go_enter Try.func15, Try.ntmps15
  go_wp2_with fail
  refine HG1.out.mono ?_
  rintro e w' ⟨rfl, rfl⟩
  go_wp2_with fail
  refine HG0.out.mono ?_
  rintro e w' ⟨rfl, rfl⟩
  generalize (w.alloc (.cells (copsCells l) 29)).alloc (.cells #[.int .i64 0, .int .i64 0, .bool false, .int .i64 0, .int .i64 0, .int .i64 0, .int .i64 0, .int .i64 0, .int .i64 0, .int .i64 0, .int .i64 0] 26) = W2 at HST HG0 HG1 ⊢
  by_cases hg : l.c0.r.gen < l.c1.r.gen
  · replace HNw := Lib.hid (HNw.out.trans (if_pos hg))
    obtain ⟨q0, q1, q2, q3, q4, q5, q6, q7, q8, q9, q10⟩ := cop1_cells HST.out.c0
    have HCu : Hid (RecM.cur l = l.c1.r) := by
      show _ = _
      unfold RecM.cur
      rw [HNw.out]
      rfl
    have hc1 := HST.out.c1
    have HGv := Lib.hid (setRow_heap W2 (w.heap.size + 1) _ (recCells l.c1.r) 26 (0, 0) hc1)
    have HB3 := Lib.hid (bel_row HST.out.below (by omega : w.heap.size ≤ w.heap.size + 1) (recCells l.c1.r))
    have hi2 : (Try.prog.info? 26).map (·.size) = some (recCells l.c1.r).size := by kernel_rfl
    have ha : (recCells l.c1.r).all (·.oneCell') = true := by kernel_rfl
    clear HG0 HG1
    go_wp2_with (refine wpList_store_row rfl 26 (.tmp 2) (.tmp 13) rfl (w.heap.size + 1) (recCells l.c1.r) rfl rfl 26 _ hc1 hi2 rfl ha ?_)
    refine bodyPost_ret (v := .tuple #[.agg (recCells l.c1.r), .int .i64 1]) ?_ rfl ?_
    · exact res_ct (fn := Try.f15) (p := 2) (a := 3) rfl rfl rfl HGv.out Try.underlying26 rfl hi2
    · exact ⟨by rw [HNw.out, HCu.out]; rfl, HB3.out⟩
  · have tg : decide (l.c0.r.gen < l.c1.r.gen) = false := by simp; omega
    replace HNw := Lib.hid (HNw.out.trans (if_neg hg))
    obtain ⟨q0, q1, q2, q3, q4, q5, q6, q7, q8, q9, q10⟩ := cop0_cells HST.out.c0
    have HCu : Hid (RecM.cur l = l.c0.r) := by
      show _ = _
      unfold RecM.cur
      rw [HNw.out]
      rfl
    have hc1 := HST.out.c1
    have HGv := Lib.hid (setRow_heap W2 (w.heap.size + 1) _ (recCells l.c0.r) 26 (0, 0) hc1)
    have HB3 := Lib.hid (bel_row HST.out.below (by omega : w.heap.size ≤ w.heap.size + 1) (recCells l.c0.r))
    have hi2 : (Try.prog.info? 26).map (·.size) = some (recCells l.c0.r).size := by kernel_rfl
    have ha : (recCells l.c0.r).all (·.oneCell') = true := by kernel_rfl
    clear HG0 HG1
    go_wp2_with (refine wpList_store_row rfl 26 (.tmp 2) (.tmp 16) rfl (w.heap.size + 1) (recCells l.c0.r) rfl rfl 26 _ hc1 hi2 rfl ha ?_)
    refine bodyPost_ret (v := .tuple #[.agg (recCells l.c0.r), .int .i64 0]) ?_ rfl ?_
    · exact res_ct (fn := Try.f15) (p := 2) (a := 3) rfl rfl rfl HGv.out Try.underlying26 rfl hi2
    · exact ⟨by rw [HNw.out, HCu.out]; rfl, HB3.out⟩
end Go.Proofs.Ytmpmaljkmfgagac
