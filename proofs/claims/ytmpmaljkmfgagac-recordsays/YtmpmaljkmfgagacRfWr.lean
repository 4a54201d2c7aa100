/-
  Contract of the reference's Written, of right copies.
-/
import Derived.Test.YtmpmaljkmfgagacRecWSt
import Derived.Test.YtmpmaljkmfgagacRfNew
import Derived.Test.YtmpmaljkmfgagacRfChk
import Derived.Deep.Cut
namespace Go.Proofs.Ytmpmaljkmfgagac
open Go.RowKit

set_option maxRecDepth 100000 in
set_option maxHeartbeats 4000000 in
theorem written_any (l : CopsR) (r : RecR) (torn : Bool) (e0 : RecM.copies l = 0) (w : World) :
    Calls Try.prog 16 #[copsV l, recV r, .bool torn] w fun e w' => e = .returned (.tuple #[copsV (RecM.writeOf l r torn).1, .int .i64 (RecM.writeOf l r torn).2]) ∧ Below w.heap.size w w' := by
  have HR := Lib.hid (fun W => newest_any l e0 W)
  have HCk := Lib.hid (fun x W => checkRef_any x W)
  have HST := Lib.hid (WSt.start w l r)
  have hi := size_cops l
  have HW : Hid (RecM.writeOf l r torn = if RecM.check (RecM.next l r) ≠ 0 then (RecM.noCops, RecM.check (RecM.next l r)) else (RecM.put l (if torn then RecM.noCop else ⟨true, RecM.next l r⟩), 0)) := by
    show _ = _
    unfold RecM.writeOf
    rw [if_neg (fun q => q e0)]
  have HV : Hid (∀ x, recV x = .agg (recCells x)) := fun _ => rfl
  have hcu := RecM.check_nums (RecM.cur_ok e0)
  have HNw := Lib.hid (RecM.newest_or l)
  have HPut : Hid (∀ c, RecM.put l c = if RecM.newest l = 0 then ⟨l.c0, c⟩ else ⟨c, l.c1⟩) := fun _ => rfl
  have HNx : Hid (RecM.next l r = { r with gen := (RecM.cur l).gen + 1 }) := rfl
  clear e0
  unfold copsV at HR ⊢
  have hc0 := HST.out.c0
  rw [HV.out]
  generalize RecM.cur l = X at hcu HNx HR
  generalize RecM.newest l = K at HNw HPut HR
  obtain ⟨G, hG⟩ : ∃ G, X.gen + 1 = G := ⟨_, rfl⟩
  have hw : IntKind.i64.wrap G = G := IntWalk.i64_in _ (by omega)
  rw [hG] at HNx
  go_enter Try.func16, Try.ntmps16
  go_wp2_with (refine wpList_load_row rfl 29 (.tmp 3) rfl w.heap.size rfl 29 (copsCells l) (0, 0) _ hc0 Try.underlying29 rfl hi ?_)
  refine (HR.out _).mono ?_
  rintro e W2 ⟨rfl, hb2⟩
  have HST2 := Lib.hid (HST.out.later hb2)
  clear hb2 HST hc0 HR hi
  have hg0 : W2.cell? ⟨w.heap.size + 1, 0, none⟩ = some (.int .i64 r.gen) := (rec_cells HST2.out.c1).1
  have hf0 : W2.frozen? ⟨w.heap.size + 1, 0, none⟩ = false := (rec_thaw HST2.out.c1).1
  have hlt := HST2.out.lt
  have hne : ¬ (w.heap.size + 1 = W2.heap.size) := by omega
  have hne2 : w.heap.size + 1 < W2.heap.size := by omega
  have HST3 : Hid (WSt w l { r with gen := G } ((W2.setCell ⟨w.heap.size + 1, 0, none⟩ (.int .i64 G)).alloc (.cells #[.int .i64 X.gen, .int .i64 X.act, .bool X.trying, .int .i64 X.tries, .int .i64 X.floor, .int .i64 X.i0.ver, .int .i64 X.i0.size, .int .i64 X.i0.sum, .int .i64 X.i1.ver, .int .i64 X.i1.size, .int .i64 X.i1.sum] 26))) := (HST2.out.set rfl).alloc _
  have hc1 := HST3.out.c1
  have hi1 := size_rec { r with gen := G }
  simp only [recV]
  go_wp2_with (refine wpList_load_row rfl 26 (.tmp 4) rfl (w.heap.size + 1) rfl 26 (recCells { r with gen := G }) (0, 0) _ hc1 Try.underlying26 rfl hi1 ?_)
  refine (HCk.out { r with gen := G } _).mono ?_
  rintro e W4 ⟨rfl, hb4⟩
  have HST4 := Lib.hid (HST3.out.later hb4)
  clear hb4 HST3 HST2 hg0 hf0 hne hne2 hlt hc1 hi1
  rw [HNx.out] at HW
  by_cases e1 : RecM.check { r with gen := G } = 0
  · replace HW := Lib.hid (HW.out.trans (if_neg (fun q => q e1)))
    rw [e1]
    clear e1
    obtain ⟨p0, p1, p2, p3, p4, p5, p6, p7, p8, p9, p10⟩ := rec_cells (show W4.heap[w.heap.size + 1]? = some (.cells #[.int .i64 G, .int .i64 r.act, .bool r.trying, .int .i64 r.tries, .int .i64 r.floor, .int .i64 r.i0.ver, .int .i64 r.i0.size, .int .i64 r.i0.sum, .int .i64 r.i1.ver, .int .i64 r.i1.size, .int .i64 r.i1.sum] 26 (0, 0)) from HST4.out.c1)
    obtain ⟨D, hD⟩ : ∃ D, W4.heap.size = D := ⟨_, rfl⟩
    have hdp : ¬ (w.heap.size = D) := by have := HST4.out.lt; omega
    cases torn
    · have HST5 := Lib.hid (HST4.out.alloc (.cells #[.bool true, .int .i64 G, .int .i64 r.act, .bool r.trying, .int .i64 r.tries, .int .i64 r.floor, .int .i64 r.i0.ver, .int .i64 r.i0.size, .int .i64 r.i0.sum, .int .i64 r.i1.ver, .int .i64 r.i1.size, .int .i64 r.i1.sum] 28))
      have HD5 : Hid ((W4.alloc (.cells #[.bool true, .int .i64 G, .int .i64 r.act, .bool r.trying, .int .i64 r.tries, .int .i64 r.floor, .int .i64 r.i0.ver, .int .i64 r.i0.size, .int .i64 r.i0.sum, .int .i64 r.i1.ver, .int .i64 r.i1.size, .int .i64 r.i1.sum] 28)).heap[D]? = some (.cells (copCells ⟨true, { r with gen := G }⟩) 28 (0, 0))) := by
        show _ = _
        rw [heap_at, if_pos hD.symm]
        rfl
      rcases HNw.out with hk | hk
      · subst hk
        go_upto_region 9 with fail
        generalize W4.alloc (.cells #[.bool true, .int .i64 G, .int .i64 r.act, .bool r.trying, .int .i64 r.tries, .int .i64 r.floor, .int .i64 r.i0.ver, .int .i64 r.i0.size, .int .i64 r.i0.sum, .int .i64 r.i1.ver, .int .i64 r.i1.size, .int .i64 r.i1.sum] 28) = W5 at HST5 HD5 ⊢
        clear p0 p1 p2 p3 p4 p5 p6 p7 p8 p9 p10 HST4
        have hD5 : W5.heap[D]? = some (.cells (copCells ⟨true, { r with gen := G }⟩) 28 (0, 0)) := HD5.out
        have hc0 := HST5.out.c0
        have hc2 := HST5.out.c2
        have hi3 := size_cop ⟨true, { r with gen := G }⟩
        have hi4 := size_cop l.c0
        have HG : Hid (((W5).setRow (w.heap.size + 2) (copsCells ⟨l.c0, ⟨true, { r with gen := G }⟩⟩)).heap[w.heap.size + 2]? = some (.cells (copsCells ⟨l.c0, ⟨true, { r with gen := G }⟩⟩) 29 (0, 0)) ∧ Below w.heap.size w ((W5).setRow (w.heap.size + 2) (copsCells ⟨l.c0, ⟨true, { r with gen := G }⟩⟩))) := ⟨setRow_heap _ _ _ _ _ _ hc2, bel_row HST5.out.below (by omega) _⟩
        have hi := size_cops ⟨l.c0, ⟨true, { r with gen := G }⟩⟩
        have ha := one_cops ⟨l.c0, ⟨true, { r with gen := G }⟩⟩
        have hlk := like_cops ⟨l.c0, ⟨true, { r with gen := G }⟩⟩
        go_upto_region 10 with fail
        have hpt := part_at0 l
        have hbu := built_cops l.c0 ⟨true, { r with gen := G }⟩
        generalize copCells l.c0 = Q0 at hpt hbu hi4
        generalize copCells ⟨true, { r with gen := G }⟩ = Q1 at hbu hi3 hD5
        go_wp2_with (first
          | (refine wpList_load_part rfl 28 (.tmp 33) rfl w.heap.size 0 rfl (copsCells l) 29 (0, 0) hc0 Q0 hpt _ Try.underlying28 rfl hi4 ?_)
          | (refine wpList_load_row rfl 28 (.tmp 11) rfl D rfl 28 Q1 (0, 0) _ hD5 Try.underlying28 rfl hi3 ?_)
          | (refine wpList_build_two rfl 29 0 1 (.tmp 34) (.tmp 35) rfl (.agg Q0) (.agg Q1) rfl rfl (copsCells ⟨l.c0, ⟨true, { r with gen := G }⟩⟩) hbu ?_)
          | (refine wpList_store_row rfl 29 (.tmp 6) (.tmp 36) rfl (w.heap.size + 2) (copsCells ⟨l.c0, ⟨true, { r with gen := G }⟩⟩) rfl rfl 29 _ hc2 hi hlk ha ?_))
        refine bodyPost_ret (v := .tuple #[.agg (copsCells ⟨l.c0, ⟨true, { r with gen := G }⟩⟩), .int .i64 0]) ?_ rfl ?_
        · exact res_ct (fn := Try.f16) (p := 6) (a := 7) rfl rfl rfl HG.out.1 Try.underlying29 rfl hi
        · exact ⟨by rw [HW.out, HPut.out]; rfl, HG.out.2⟩
      · subst hk
        go_upto_region 9 with fail
        generalize W4.alloc (.cells #[.bool true, .int .i64 G, .int .i64 r.act, .bool r.trying, .int .i64 r.tries, .int .i64 r.floor, .int .i64 r.i0.ver, .int .i64 r.i0.size, .int .i64 r.i0.sum, .int .i64 r.i1.ver, .int .i64 r.i1.size, .int .i64 r.i1.sum] 28) = W5 at HST5 HD5 ⊢
        clear p0 p1 p2 p3 p4 p5 p6 p7 p8 p9 p10 HST4
        have hD5 : W5.heap[D]? = some (.cells (copCells ⟨true, { r with gen := G }⟩) 28 (0, 0)) := HD5.out
        have hc0 := HST5.out.c0
        have hc2 := HST5.out.c2
        have hi3 := size_cop ⟨true, { r with gen := G }⟩
        have hi4 := size_cop l.c1
        have HG : Hid (((W5).setRow (w.heap.size + 2) (copsCells ⟨⟨true, { r with gen := G }⟩, l.c1⟩)).heap[w.heap.size + 2]? = some (.cells (copsCells ⟨⟨true, { r with gen := G }⟩, l.c1⟩) 29 (0, 0)) ∧ Below w.heap.size w ((W5).setRow (w.heap.size + 2) (copsCells ⟨⟨true, { r with gen := G }⟩, l.c1⟩))) := ⟨setRow_heap _ _ _ _ _ _ hc2, bel_row HST5.out.below (by omega) _⟩
        have hi := size_cops ⟨⟨true, { r with gen := G }⟩, l.c1⟩
        have ha := one_cops ⟨⟨true, { r with gen := G }⟩, l.c1⟩
        have hlk := like_cops ⟨⟨true, { r with gen := G }⟩, l.c1⟩
        go_upto_region 11 with fail
        have hpt := part_at1 l
        have hbu := built_cops ⟨true, { r with gen := G }⟩ l.c1
        generalize copCells l.c1 = Q0 at hpt hbu hi4
        generalize copCells ⟨true, { r with gen := G }⟩ = Q1 at hbu hi3 hD5
        go_wp2_with (first
          | (refine wpList_load_part rfl 28 (.tmp 38) rfl w.heap.size 12 rfl (copsCells l) 29 (0, 0) hc0 Q0 hpt _ Try.underlying28 rfl hi4 ?_)
          | (refine wpList_load_row rfl 28 (.tmp 11) rfl D rfl 28 Q1 (0, 0) _ hD5 Try.underlying28 rfl hi3 ?_)
          | (refine wpList_build_two rfl 29 0 1 (.tmp 37) (.tmp 39) rfl (.agg Q1) (.agg Q0) rfl rfl (copsCells ⟨⟨true, { r with gen := G }⟩, l.c1⟩) hbu ?_)
          | (refine wpList_store_row rfl 29 (.tmp 6) (.tmp 40) rfl (w.heap.size + 2) (copsCells ⟨⟨true, { r with gen := G }⟩, l.c1⟩) rfl rfl 29 _ hc2 hi hlk ha ?_))
        refine bodyPost_ret (v := .tuple #[.agg (copsCells ⟨⟨true, { r with gen := G }⟩, l.c1⟩), .int .i64 0]) ?_ rfl ?_
        · exact res_ct (fn := Try.f16) (p := 6) (a := 7) rfl rfl rfl HG.out.1 Try.underlying29 rfl hi
        · exact ⟨by rw [HW.out, HPut.out]; rfl, HG.out.2⟩
    · have HST5 := Lib.hid (HST4.out.alloc (.cells #[.bool false, .int .i64 0, .int .i64 0, .bool false, .int .i64 0, .int .i64 0, .int .i64 0, .int .i64 0, .int .i64 0, .int .i64 0, .int .i64 0, .int .i64 0] 28))
      have HD5 : Hid ((W4.alloc (.cells #[.bool false, .int .i64 0, .int .i64 0, .bool false, .int .i64 0, .int .i64 0, .int .i64 0, .int .i64 0, .int .i64 0, .int .i64 0, .int .i64 0, .int .i64 0] 28)).heap[D]? = some (.cells (copCells RecM.noCop) 28 (0, 0))) := by
        show _ = _
        rw [heap_at, if_pos hD.symm]
        rfl
      rcases HNw.out with hk | hk
      · subst hk
        go_upto_region 9 with fail
        generalize W4.alloc (.cells #[.bool false, .int .i64 0, .int .i64 0, .bool false, .int .i64 0, .int .i64 0, .int .i64 0, .int .i64 0, .int .i64 0, .int .i64 0, .int .i64 0, .int .i64 0] 28) = W5 at HST5 HD5 ⊢
        clear p0 p1 p2 p3 p4 p5 p6 p7 p8 p9 p10 HST4
        have hD5 : W5.heap[D]? = some (.cells (copCells RecM.noCop) 28 (0, 0)) := HD5.out
        have hc0 := HST5.out.c0
        have hc2 := HST5.out.c2
        have hi3 := size_cop RecM.noCop
        have hi4 := size_cop l.c0
        have HG : Hid (((W5).setRow (w.heap.size + 2) (copsCells ⟨l.c0, RecM.noCop⟩)).heap[w.heap.size + 2]? = some (.cells (copsCells ⟨l.c0, RecM.noCop⟩) 29 (0, 0)) ∧ Below w.heap.size w ((W5).setRow (w.heap.size + 2) (copsCells ⟨l.c0, RecM.noCop⟩))) := ⟨setRow_heap _ _ _ _ _ _ hc2, bel_row HST5.out.below (by omega) _⟩
        have hi := size_cops ⟨l.c0, RecM.noCop⟩
        have ha := one_cops ⟨l.c0, RecM.noCop⟩
        have hlk := like_cops ⟨l.c0, RecM.noCop⟩
        go_upto_region 10 with fail
        have hpt := part_at0 l
        have hbu := built_cops l.c0 RecM.noCop
        generalize copCells l.c0 = Q0 at hpt hbu hi4
        generalize copCells RecM.noCop = Q1 at hbu hi3 hD5
        go_wp2_with (first
          | (refine wpList_load_part rfl 28 (.tmp 33) rfl w.heap.size 0 rfl (copsCells l) 29 (0, 0) hc0 Q0 hpt _ Try.underlying28 rfl hi4 ?_)
          | (refine wpList_load_row rfl 28 (.tmp 11) rfl D rfl 28 Q1 (0, 0) _ hD5 Try.underlying28 rfl hi3 ?_)
          | (refine wpList_build_two rfl 29 0 1 (.tmp 34) (.tmp 35) rfl (.agg Q0) (.agg Q1) rfl rfl (copsCells ⟨l.c0, RecM.noCop⟩) hbu ?_)
          | (refine wpList_store_row rfl 29 (.tmp 6) (.tmp 36) rfl (w.heap.size + 2) (copsCells ⟨l.c0, RecM.noCop⟩) rfl rfl 29 _ hc2 hi hlk ha ?_))
        refine bodyPost_ret (v := .tuple #[.agg (copsCells ⟨l.c0, RecM.noCop⟩), .int .i64 0]) ?_ rfl ?_
        · exact res_ct (fn := Try.f16) (p := 6) (a := 7) rfl rfl rfl HG.out.1 Try.underlying29 rfl hi
        · exact ⟨by rw [HW.out, HPut.out]; rfl, HG.out.2⟩
      · subst hk
        go_upto_region 9 with fail
        generalize W4.alloc (.cells #[.bool false, .int .i64 0, .int .i64 0, .bool false, .int .i64 0, .int .i64 0, .int .i64 0, .int .i64 0, .int .i64 0, .int .i64 0, .int .i64 0, .int .i64 0] 28) = W5 at HST5 HD5 ⊢
        clear p0 p1 p2 p3 p4 p5 p6 p7 p8 p9 p10 HST4
        have hD5 : W5.heap[D]? = some (.cells (copCells RecM.noCop) 28 (0, 0)) := HD5.out
        have hc0 := HST5.out.c0
        have hc2 := HST5.out.c2
        have hi3 := size_cop RecM.noCop
        have hi4 := size_cop l.c1
        have HG : Hid (((W5).setRow (w.heap.size + 2) (copsCells ⟨RecM.noCop, l.c1⟩)).heap[w.heap.size + 2]? = some (.cells (copsCells ⟨RecM.noCop, l.c1⟩) 29 (0, 0)) ∧ Below w.heap.size w ((W5).setRow (w.heap.size + 2) (copsCells ⟨RecM.noCop, l.c1⟩))) := ⟨setRow_heap _ _ _ _ _ _ hc2, bel_row HST5.out.below (by omega) _⟩
        have hi := size_cops ⟨RecM.noCop, l.c1⟩
        have ha := one_cops ⟨RecM.noCop, l.c1⟩
        have hlk := like_cops ⟨RecM.noCop, l.c1⟩
        go_upto_region 11 with fail
        have hpt := part_at1 l
        have hbu := built_cops RecM.noCop l.c1
        generalize copCells l.c1 = Q0 at hpt hbu hi4
        generalize copCells RecM.noCop = Q1 at hbu hi3 hD5
        go_wp2_with (first
          | (refine wpList_load_part rfl 28 (.tmp 38) rfl w.heap.size 12 rfl (copsCells l) 29 (0, 0) hc0 Q0 hpt _ Try.underlying28 rfl hi4 ?_)
          | (refine wpList_load_row rfl 28 (.tmp 11) rfl D rfl 28 Q1 (0, 0) _ hD5 Try.underlying28 rfl hi3 ?_)
          | (refine wpList_build_two rfl 29 0 1 (.tmp 37) (.tmp 39) rfl (.agg Q1) (.agg Q0) rfl rfl (copsCells ⟨RecM.noCop, l.c1⟩) hbu ?_)
          | (refine wpList_store_row rfl 29 (.tmp 6) (.tmp 40) rfl (w.heap.size + 2) (copsCells ⟨RecM.noCop, l.c1⟩) rfl rfl 29 _ hc2 hi hlk ha ?_))
        refine bodyPost_ret (v := .tuple #[.agg (copsCells ⟨RecM.noCop, l.c1⟩), .int .i64 0]) ?_ rfl ?_
        · exact res_ct (fn := Try.f16) (p := 6) (a := 7) rfl rfl rfl HG.out.1 Try.underlying29 rfl hi
        · exact ⟨by rw [HW.out, HPut.out]; rfl, HG.out.2⟩
  · obtain ⟨E, hE⟩ : ∃ E, RecM.check { r with gen := G } = E := ⟨_, rfl⟩
    replace HW := Lib.hid (HW.out.trans (if_pos e1))
    rw [hE] at e1 HW ⊢
    have t0 : (E != 0) = true := by simp [e1]
    clear hE
    have HG := Lib.hid HST4.out.nil_
    have hc2 := HST4.out.c2
    have hi2 := size_zcops
    have ha := one_zcops
    unfold zeroCops at hi2 ha hc2
    go_wp2_with (refine wpList_store_row rfl 29 (.tmp 6) (.tmp 25) rfl (w.heap.size + 2) #[.bool false, .int .i64 0, .int .i64 0, .bool false, .int .i64 0, .int .i64 0, .int .i64 0, .int .i64 0, .int .i64 0, .int .i64 0, .int .i64 0, .int .i64 0, .bool false, .int .i64 0, .int .i64 0, .bool false, .int .i64 0, .int .i64 0, .int .i64 0, .int .i64 0, .int .i64 0, .int .i64 0, .int .i64 0, .int .i64 0] rfl rfl 29 _ hc2 hi2 rfl ha ?_)
    refine bodyPost_ret (v := .tuple #[.agg zeroCops, .int .i64 E]) ?_ rfl ?_
    · exact res_ct (fn := Try.f16) (p := 6) (a := 7) rfl rfl rfl HG.out.1 Try.underlying29 rfl size_zcops
    · exact ⟨by rw [HW.out]; rfl, HG.out.2⟩
end Go.Proofs.Ytmpmaljkmfgagac
