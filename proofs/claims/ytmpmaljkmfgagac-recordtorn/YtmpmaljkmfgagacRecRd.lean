/-
  Contract of the program's Read (package record).
-/
import Derived.Test.YtmpmaljkmfgagacRecCps
import Derived.Test.YtmpmaljkmfgagacRecRes
namespace Go.Proofs.Ytmpmaljkmfgagac
open Go.RowKit

theorem RecM.newest_gen {l : CopsR} (h : RecM.copies l = 0) : RecM.newest l = if l.c0.r.gen < l.c1.r.gen then 1 else 0 := by
  obtain ⟨h0, h1, h2⟩ := RecM.copies_zero.1 h
  unfold RecM.newest
  rcases Bool.eq_false_or_eq_true l.c0.ok with e0 | e0
  · rcases Bool.eq_false_or_eq_true l.c1.ok with e1 | e1
    · by_cases hg : l.c0.r.gen < l.c1.r.gen
      · rw [if_pos hg, if_neg (by rw [e1]; simp; omega)]
      · rw [if_neg hg, if_pos ⟨e0, .inr (by omega)⟩]
    · have n1 := (RecM.check_nums (RecM.copErr_ok h0 e0)).1
      rw [RecM.copErr_no h1 e1, if_pos ⟨e0, .inl rfl⟩, if_neg]
      show ¬ l.c0.r.gen < 0
      omega
  · have e1 : l.c1.ok = true := by
      rcases h2 with h2 | h2
      · rw [e0] at h2; cases h2
      · exact h2
    have n1 := (RecM.check_nums (RecM.copErr_ok h1 e1)).1
    rw [RecM.copErr_no h0 e0, if_neg (by rintro ⟨q, _⟩; cases q), if_pos]
    show (0 : Int) < l.c1.r.gen
    omega
theorem cop0_cells {W : World} {B : Nat} {l : CopsR} (h : W.heap[B]? = some (.cells (copsCells l) 29 (0, 0))) : W.cell? ⟨B, 1, none⟩ = some (.int .i64 l.c0.r.gen) ∧ W.cell? ⟨B, 2, none⟩ = some (.int .i64 l.c0.r.act) ∧ W.cell? ⟨B, 3, none⟩ = some (.bool l.c0.r.trying) ∧ W.cell? ⟨B, 4, none⟩ = some (.int .i64 l.c0.r.tries) ∧ W.cell? ⟨B, 5, none⟩ = some (.int .i64 l.c0.r.floor) ∧ W.cell? ⟨B, 6, none⟩ = some (.int .i64 l.c0.r.i0.ver) ∧ W.cell? ⟨B, 7, none⟩ = some (.int .i64 l.c0.r.i0.size) ∧ W.cell? ⟨B, 8, none⟩ = some (.int .i64 l.c0.r.i0.sum) ∧ W.cell? ⟨B, 9, none⟩ = some (.int .i64 l.c0.r.i1.ver) ∧ W.cell? ⟨B, 10, none⟩ = some (.int .i64 l.c0.r.i1.size) ∧ W.cell? ⟨B, 11, none⟩ = some (.int .i64 l.c0.r.i1.sum) := by
  simp [World.cell?, h, copsCells]
theorem cop1_cells {W : World} {B : Nat} {l : CopsR} (h : W.heap[B]? = some (.cells (copsCells l) 29 (0, 0))) : W.cell? ⟨B, 13, none⟩ = some (.int .i64 l.c1.r.gen) ∧ W.cell? ⟨B, 14, none⟩ = some (.int .i64 l.c1.r.act) ∧ W.cell? ⟨B, 15, none⟩ = some (.bool l.c1.r.trying) ∧ W.cell? ⟨B, 16, none⟩ = some (.int .i64 l.c1.r.tries) ∧ W.cell? ⟨B, 17, none⟩ = some (.int .i64 l.c1.r.floor) ∧ W.cell? ⟨B, 18, none⟩ = some (.int .i64 l.c1.r.i0.ver) ∧ W.cell? ⟨B, 19, none⟩ = some (.int .i64 l.c1.r.i0.size) ∧ W.cell? ⟨B, 20, none⟩ = some (.int .i64 l.c1.r.i0.sum) ∧ W.cell? ⟨B, 21, none⟩ = some (.int .i64 l.c1.r.i1.ver) ∧ W.cell? ⟨B, 22, none⟩ = some (.int .i64 l.c1.r.i1.size) ∧ W.cell? ⟨B, 23, none⟩ = some (.int .i64 l.c1.r.i1.sum) := by
  simp [World.cell?, h, copsCells]
/-- the memory of Read: the copies, the result -/
structure RdSt (w : World) (l : CopsR) (W : World) : Prop where
  c0 : W.heap[w.heap.size]? = some (.cells (copsCells l) 29 (0, 0))
  c1 : W.heap[w.heap.size + 1]? = some (.cells #[.int .i64 0, .int .i64 0, .bool false, .int .i64 0, .int .i64 0, .int .i64 0, .int .i64 0, .int .i64 0, .int .i64 0, .int .i64 0, .int .i64 0] 26 (0, 0))
  below : Below w.heap.size w W
theorem RdSt.start (w : World) (l : CopsR) : RdSt w l ((w.alloc (.cells (copsCells l) 29)).alloc (.cells #[.int .i64 0, .int .i64 0, .bool false, .int .i64 0, .int .i64 0, .int .i64 0, .int .i64 0, .int .i64 0, .int .i64 0, .int .i64 0, .int .i64 0] 26)) := by
  refine ⟨?_, ?_, ((Below.refl _ _).alloc (Nat.le_refl _) _).alloc (by simp) _⟩
  · rw [heap_at, if_neg (by simp), heap_at, if_pos rfl]
  · rw [heap_at, if_pos (by simp)]
theorem RdSt.later {w : World} {l : CopsR} {W W' : World} (h : RdSt w l W) (hb : Below W.heap.size W W') : RdSt w l W' :=
  ⟨(hb.block _ (blk_ltQ h.c0)).trans h.c0, (hb.block _ (blk_ltQ h.c1)).trans h.c1, bel_then h.below hb⟩

set_option maxRecDepth 100000 in
set_option maxHeartbeats 4000000 in
theorem readR_any (l : CopsR) (w : World) :
    Calls Try.prog 6 #[copsV l] w fun e w' => e = .returned (.tuple #[recV (RecM.readOf l).1, .int .i64 (RecM.readOf l).2.1, .int .i64 (RecM.readOf l).2.2]) ∧ Below w.heap.size w w' := by
  have HC := Lib.hid (fun W => copiesR_any l W)
  have HST := Lib.hid (RdSt.start w l)
  have hi : (Try.prog.info? 29).map (·.size) = some (copsCells l).size := by kernel_rfl
  have HRd : Hid (RecM.readOf l = if RecM.copies l ≠ 0 then (RecM.noRec, 0, RecM.copies l) else (RecM.cur l, RecM.newest l, 0)) := rfl
  have HNw := Lib.hid (fun h => RecM.newest_gen (l := l) h)
  have hc0 := HST.out.c0
  unfold copsV at HC ⊢
  go_enter Try.func6, Try.ntmps6
  go_wp2_with (refine wpList_load_row rfl 29 (.tmp 1) rfl w.heap.size rfl 29 (copsCells l) (0, 0) _ hc0 Try.underlying29 rfl hi ?_)
  refine (HC.out _).mono ?_
  rintro e W2 ⟨rfl, hb2⟩
  have HST2 := Lib.hid (HST.out.later hb2)
  clear hb2 HST hc0 HC hi
  by_cases e0 : RecM.copies l = 0
  · replace HRd := Lib.hid (HRd.out.trans (if_neg (fun q => q e0)))
    replace HNw := Lib.hid (HNw.out e0)
    rw [e0]
    clear e0
    obtain ⟨g0, -⟩ := cop0_cells HST2.out.c0
    obtain ⟨g1, -⟩ := cop1_cells HST2.out.c0
    by_cases hg : l.c0.r.gen < l.c1.r.gen
    · replace HNw := Lib.hid (HNw.out.trans (if_pos hg))
      obtain ⟨q0, q1, q2, q3, q4, q5, q6, q7, q8, q9, q10⟩ := cop1_cells HST2.out.c0
      have HCu : Hid (RecM.cur l = l.c1.r) := by
        show _ = _
        unfold RecM.cur
        rw [HNw.out]
        rfl
      have hc1 := HST2.out.c1
      have HG := Lib.hid (setRow_heap W2 (w.heap.size + 1) _ (recCells l.c1.r) 26 (0, 0) hc1)
      have HB3 := Lib.hid (bel_row HST2.out.below (by omega : w.heap.size ≤ w.heap.size + 1) (recCells l.c1.r))
      have hi2 : (Try.prog.info? 26).map (·.size) = some (recCells l.c1.r).size := by kernel_rfl
      have ha : (recCells l.c1.r).all (·.oneCell') = true := by kernel_rfl
      go_wp2_with (refine wpList_store_row rfl 26 (.tmp 2) (.tmp 25) rfl (w.heap.size + 1) (recCells l.c1.r) rfl rfl 26 _ hc1 hi2 rfl ha ?_)
      refine bodyPost_ret (v := .tuple #[.agg (recCells l.c1.r), .int .i64 1, .int .i64 0]) ?_ rfl ?_
      · exact res_ctt (fn := Try.f6) (p := 2) (a := 3) (b := 4) rfl rfl rfl rfl HG.out Try.underlying26 rfl hi2
      · exact ⟨by rw [HRd.out, HNw.out, HCu.out]; rfl, HB3.out⟩
    · have tg : decide (l.c0.r.gen < l.c1.r.gen) = false := by simp; omega
      replace HNw := Lib.hid (HNw.out.trans (if_neg hg))
      obtain ⟨q0, q1, q2, q3, q4, q5, q6, q7, q8, q9, q10⟩ := cop0_cells HST2.out.c0
      have HCu : Hid (RecM.cur l = l.c0.r) := by
        show _ = _
        unfold RecM.cur
        rw [HNw.out]
        rfl
      have hc1 := HST2.out.c1
      have HG := Lib.hid (setRow_heap W2 (w.heap.size + 1) _ (recCells l.c0.r) 26 (0, 0) hc1)
      have HB3 := Lib.hid (bel_row HST2.out.below (by omega : w.heap.size ≤ w.heap.size + 1) (recCells l.c0.r))
      have hi2 : (Try.prog.info? 26).map (·.size) = some (recCells l.c0.r).size := by kernel_rfl
      have ha : (recCells l.c0.r).all (·.oneCell') = true := by kernel_rfl
      go_wp2_with (refine wpList_store_row rfl 26 (.tmp 2) (.tmp 25) rfl (w.heap.size + 1) (recCells l.c0.r) rfl rfl 26 _ hc1 hi2 rfl ha ?_)
      refine bodyPost_ret (v := .tuple #[.agg (recCells l.c0.r), .int .i64 0, .int .i64 0]) ?_ rfl ?_
      · exact res_ctt (fn := Try.f6) (p := 2) (a := 3) (b := 4) rfl rfl rfl rfl HG.out Try.underlying26 rfl hi2
      · exact ⟨by rw [HRd.out, HNw.out, HCu.out]; rfl, HB3.out⟩
  · obtain ⟨E, hE⟩ : ∃ E, RecM.copies l = E := ⟨_, rfl⟩
    replace HRd := Lib.hid (HRd.out.trans (if_pos e0))
    rw [hE] at e0 HRd ⊢
    have t0 : (E != 0) = true := by simp [e0]
    clear hE
    have hc1 := HST2.out.c1
    have HG := Lib.hid (setRow_heap W2 (w.heap.size + 1) _ #[.int .i64 0, .int .i64 0, .bool false, .int .i64 0, .int .i64 0, .int .i64 0, .int .i64 0, .int .i64 0, .int .i64 0, .int .i64 0, .int .i64 0] 26 (0, 0) hc1)
    have HB3 := Lib.hid (bel_row HST2.out.below (by omega : w.heap.size ≤ w.heap.size + 1) #[.int .i64 0, .int .i64 0, .bool false, .int .i64 0, .int .i64 0, .int .i64 0, .int .i64 0, .int .i64 0, .int .i64 0, .int .i64 0, .int .i64 0])
    have hi2 : (Try.prog.info? 26).map (·.size) = some (#[.int .i64 0, .int .i64 0, .bool false, .int .i64 0, .int .i64 0, .int .i64 0, .int .i64 0, .int .i64 0, .int .i64 0, .int .i64 0, .int .i64 0] : Array Value).size := by kernel_rfl
    have ha : (#[.int .i64 0, .int .i64 0, .bool false, .int .i64 0, .int .i64 0, .int .i64 0, .int .i64 0, .int .i64 0, .int .i64 0, .int .i64 0, .int .i64 0] : Array Value).all (·.oneCell') = true := by kernel_rfl
    go_wp2_with (refine wpList_store_row rfl 26 (.tmp 2) (.tmp 11) rfl (w.heap.size + 1) #[.int .i64 0, .int .i64 0, .bool false, .int .i64 0, .int .i64 0, .int .i64 0, .int .i64 0, .int .i64 0, .int .i64 0, .int .i64 0, .int .i64 0] rfl rfl 26 _ hc1 hi2 rfl ha ?_)
    refine bodyPost_ret (v := .tuple #[.agg #[.int .i64 0, .int .i64 0, .bool false, .int .i64 0, .int .i64 0, .int .i64 0, .int .i64 0, .int .i64 0, .int .i64 0, .int .i64 0, .int .i64 0], .int .i64 0, .int .i64 E]) ?_ rfl ?_
    · exact res_ctt (fn := Try.f6) (p := 2) (a := 3) (b := 4) rfl rfl rfl rfl HG.out Try.underlying26 rfl hi2
    · exact ⟨by rw [HRd.out]; rfl, HB3.out⟩
end Go.Proofs.Ytmpmaljkmfgagac
