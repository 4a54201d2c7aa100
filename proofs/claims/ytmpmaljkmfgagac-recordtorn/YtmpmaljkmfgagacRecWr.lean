/-
  Contract of the program's Write: where the copies cannot be read; where the new record is not right.
-/
import Derived.Test.YtmpmaljkmfgagacRecWSt
import Derived.Test.YtmpmaljkmfgagacRecRd
namespace Go.Proofs.Ytmpmaljkmfgagac
open Go.RowKit

set_option maxRecDepth 100000 in
set_option maxHeartbeats 4000000 in
theorem writeR_any (l : CopsR) (r : RecR) (torn : Bool) (w : World) :
    Calls Try.prog 7 #[copsV l, recV r, .bool torn] w fun e w' => e = .returned (.tuple #[copsV (RecM.writeOf l r torn).1, .int .i64 (RecM.writeOf l r torn).2]) ∧ Below w.heap.size w w' := by
  have HR := Lib.hid (fun W => readR_any l W)
  have HCk := Lib.hid (fun x W => checkR_any x W)
  have HST := Lib.hid (WSt.start w l r)
  have hi := size_cops l
  have HW : Hid (RecM.writeOf l r torn = if RecM.copies l ≠ 0 then (RecM.noCops, RecM.copies l) else if RecM.check (RecM.next l r) ≠ 0 then (RecM.noCops, RecM.check (RecM.next l r)) else (RecM.put l (if torn then RecM.noCop else ⟨true, RecM.next l r⟩), 0)) := rfl
  have HRd : Hid (RecM.readOf l = if RecM.copies l ≠ 0 then (RecM.noRec, 0, RecM.copies l) else (RecM.cur l, RecM.newest l, 0)) := rfl
  have HV : Hid (∀ x, recV x = .agg (recCells x)) := fun _ => rfl
  unfold copsV at HR ⊢
  have hc0 := HST.out.c0
  rw [HV.out]
  go_enter Try.func7, Try.ntmps7
  go_wp2_with (refine wpList_load_row rfl 29 (.tmp 3) rfl w.heap.size rfl 29 (copsCells l) (0, 0) _ hc0 Try.underlying29 rfl hi ?_)
  refine (HR.out _).mono ?_
  rintro e W2 ⟨rfl, hb2⟩
  have HST2 := Lib.hid (HST.out.later hb2)
  clear hb2 HST hc0 HR hi
  by_cases e0 : RecM.copies l = 0
  · have HE0 := Lib.hid e0
    rw [HRd.out, if_neg (fun q => q e0)]
    replace HW := Lib.hid (HW.out.trans (if_neg (fun q => q e0)))
    have hcu := RecM.check_nums (RecM.cur_ok e0)
    have HNw := Lib.hid (RecM.newest_or l)
    have HPut : Hid (∀ c, RecM.put l c = if RecM.newest l = 0 then ⟨l.c0, c⟩ else ⟨c, l.c1⟩) := fun _ => rfl
    have HNx : Hid (RecM.next l r = { r with gen := (RecM.cur l).gen + 1 }) := rfl
    clear e0 HRd
    generalize RecM.cur l = X at hcu HNx ⊢
    generalize RecM.newest l = K at HNw HPut ⊢
    obtain ⟨G, hG⟩ : ∃ G, X.gen + 1 = G := ⟨_, rfl⟩
    have hw : IntKind.i64.wrap G = G := IntWalk.i64_in _ (by omega)
    rw [hG] at HNx
    have hg0 : W2.cell? ⟨w.heap.size + 1, 0, none⟩ = some (.int .i64 r.gen) := (rec_cells HST2.out.c1).1
    have hf0 : W2.frozen? ⟨w.heap.size + 1, 0, none⟩ = false := (rec_thaw HST2.out.c1).1
    have hlt := HST2.out.lt
    have hne : ¬ (w.heap.size + 1 = W2.heap.size) := by omega
    have hne2 : w.heap.size + 1 < W2.heap.size := by omega
    have HST3 : Hid (WSt w l { r with gen := G } ((W2.setCell ⟨w.heap.size + 1, 0, none⟩ (.int .i64 G)).alloc (.cells #[.int .i64 X.gen, .int .i64 X.act, .bool X.trying, .int .i64 X.tries, .int .i64 X.floor, .int .i64 X.i0.ver, .int .i64 X.i0.size, .int .i64 X.i0.sum, .int .i64 X.i1.ver, .int .i64 X.i1.size, .int .i64 X.i1.sum] 26))) := (HST2.out.set rfl).alloc _
    have hc1 := HST3.out.c1
    have hi1 := size_rec { r with gen := G }
    have HNXV : Hid (Value.agg (recCells { r with gen := G }) = recV { r with gen := G }) := rfl
    simp only [recV]
    go_wp2_with (refine wpList_load_row rfl 26 (.tmp 4) rfl (w.heap.size + 1) rfl 26 (recCells { r with gen := G }) (0, 0) _ hc1 Try.underlying26 rfl hi1 ?_)
    refine (HCk.out { r with gen := G } _).mono ?_
    rintro e W4 ⟨rfl, hb4⟩
    have HST4 := Lib.hid (HST3.out.later hb4)
    clear hb4 HST3 HST2 hg0 hf0 hne hne2 hlt hc1 hi1
    rw [HNx.out] at HW
    by_cases e1 : RecM.check { r with gen := G } = 0
    · replace HW := Lib.hid (HW.out.trans (if_neg (fun q => q e1)))
      rw [e1]
      clear e1
      obtain ⟨p0, p1, p2, p3, p4, p5, p6, p7, p8, p9, p10⟩ := rec_cells (show W4.heap[w.heap.size + 1]? = some (.cells #[.int .i64 G, .int .i64 r.act, .bool r.trying, .int .i64 r.tries, .int .i64 r.floor, .int .i64 r.i0.ver, .int .i64 r.i0.size, .int .i64 r.i0.sum, .int .i64 r.i1.ver, .int .i64 r.i1.size, .int .i64 r.i1.sum] 26 (0, 0)) from HST4.out.c1)
      obtain ⟨D, hD⟩ : ∃ D, W4.heap.size = D := ⟨_, rfl⟩
      cases torn
      · have HST5 := Lib.hid (HST4.out.alloc (.cells #[.bool true, .int .i64 G, .int .i64 r.act, .bool r.trying, .int .i64 r.tries, .int .i64 r.floor, .int .i64 r.i0.ver, .int .i64 r.i0.size, .int .i64 r.i0.sum, .int .i64 r.i1.ver, .int .i64 r.i1.size, .int .i64 r.i1.sum] 28))
        have HD5 : Hid ((W4.alloc (.cells #[.bool true, .int .i64 G, .int .i64 r.act, .bool r.trying, .int .i64 r.tries, .int .i64 r.floor, .int .i64 r.i0.ver, .int .i64 r.i0.size, .int .i64 r.i0.sum, .int .i64 r.i1.ver, .int .i64 r.i1.size, .int .i64 r.i1.sum] 28)).heap[D]? = some (.cells (copCells ⟨true, { r with gen := G }⟩) 28 (0, 0))) := by
          show _ = _
          rw [heap_at, if_pos hD.symm]
          rfl
        rcases HNw.out with hk | hk
        · subst hk
          go_wp2_with fail
          generalize W4.alloc (.cells #[.bool true, .int .i64 G, .int .i64 r.act, .bool r.trying, .int .i64 r.tries, .int .i64 r.floor, .int .i64 r.i0.ver, .int .i64 r.i0.size, .int .i64 r.i0.sum, .int .i64 r.i1.ver, .int .i64 r.i1.size, .int .i64 r.i1.sum] 28) = W5 at HST5 HD5 ⊢
          clear p0 p1 p2 p3 p4 p5 p6 p7 p8 p9 p10 HST4
          have HO : Hid (∀ W, Calls Try.prog 19 #[.int .i64 0] W fun e w' => e = .returned (.int .i64 1) ∧ W = w') := fun W => by simpa using other_any 0 W (by decide)
          have HST6 := Lib.hid HST5.out.drew
          have hD6 : W5.drew.heap[D]? = some (.cells (copCells ⟨true, { r with gen := G }⟩) 28 (0, 0)) := HD5.out
          have HST7 : Hid (WSt w ⟨l.c0, ⟨true, { r with gen := G }⟩⟩ { r with gen := G } (W5.drew.setCells w.heap.size 12 (copCells ⟨true, { r with gen := G }⟩).toList)) := HST6.out.put (put_at1 l ⟨true, { r with gen := G }⟩)
          have hth : W5.drew.there w.heap.size 12 (copCells ⟨true, { r with gen := G }⟩).size := HST6.out.there (by omega)
          have hi3 := size_cop ⟨true, { r with gen := G }⟩
          have ha3 := one_cop ⟨true, { r with gen := G }⟩
          refine wp_region_still_tail 4 (by kernel_rfl) (by kernel_rfl) ?_
          simp only [List.take_succ_cons, List.take_zero, List.drop_succ_cons, List.drop_zero]
          change wpStill _ _ W5.drew _ _ _
          still_step
          still_call ((HO.out _).mono fun _ _ ⟨h, e⟩ => ⟨h, e.symm⟩)
          refine wpStill_load_row rfl 28 (.tmp 12) rfl D rfl 28 (copCells ⟨true, { r with gen := G }⟩) (0, 0) _ hD6 Try.underlying28 rfl hi3 ?_
          still_step
          refine wpStill_nil ?_
          change wpList _ _ _ _ _ W5.drew
          have hc0 := HST7.out.c0
          have hc2 := HST7.out.c2
          have HG := Lib.hid HST7.out.give
          have hi := size_cops ⟨l.c0, ⟨true, { r with gen := G }⟩⟩
          have ha := one_cops ⟨l.c0, ⟨true, { r with gen := G }⟩⟩
          have hlk := like_cops ⟨l.c0, ⟨true, { r with gen := G }⟩⟩
          refine wpList_store_mid rfl 28 (.tmp 40) (.tmp 39) rfl w.heap.size 12 (copCells ⟨true, { r with gen := G }⟩) rfl rfl hth hi3 ha3 ?_
          generalize W5.drew.setCells w.heap.size 12 (copCells ⟨true, { r with gen := G }⟩).toList = W7 at HST7 hc0 hc2 HG ⊢
          go_wp2_with (first
            | (refine wpList_load_row rfl 29 (.tmp 3) rfl w.heap.size rfl 29 (copsCells ⟨l.c0, ⟨true, { r with gen := G }⟩⟩) (0, 0) _ hc0 Try.underlying29 rfl hi ?_)
            | (refine wpList_store_row rfl 29 (.tmp 6) (.tmp 41) rfl (w.heap.size + 2) (copsCells ⟨l.c0, ⟨true, { r with gen := G }⟩⟩) rfl rfl 29 _ hc2 hi hlk ha ?_))
          refine bodyPost_ret (v := .tuple #[.agg (copsCells ⟨l.c0, ⟨true, { r with gen := G }⟩⟩), .int .i64 0]) ?_ rfl ?_
          · exact res_ct (fn := Try.f7) (p := 6) (a := 7) rfl rfl rfl HG.out.1 Try.underlying29 rfl hi
          · exact ⟨by rw [HW.out, HPut.out]; rfl, HG.out.2⟩
        · subst hk
          go_wp2_with fail
          generalize W4.alloc (.cells #[.bool true, .int .i64 G, .int .i64 r.act, .bool r.trying, .int .i64 r.tries, .int .i64 r.floor, .int .i64 r.i0.ver, .int .i64 r.i0.size, .int .i64 r.i0.sum, .int .i64 r.i1.ver, .int .i64 r.i1.size, .int .i64 r.i1.sum] 28) = W5 at HST5 HD5 ⊢
          clear p0 p1 p2 p3 p4 p5 p6 p7 p8 p9 p10 HST4
          have HO : Hid (∀ W, Calls Try.prog 19 #[.int .i64 1] W fun e w' => e = .returned (.int .i64 0) ∧ W = w') := fun W => by simpa using other_any 1 W (by decide)
          have HST6 := Lib.hid HST5.out.drew
          have hD6 : W5.drew.heap[D]? = some (.cells (copCells ⟨true, { r with gen := G }⟩) 28 (0, 0)) := HD5.out
          have HST7 : Hid (WSt w ⟨⟨true, { r with gen := G }⟩, l.c1⟩ { r with gen := G } (W5.drew.setCells w.heap.size 0 (copCells ⟨true, { r with gen := G }⟩).toList)) := HST6.out.put (put_at0 l ⟨true, { r with gen := G }⟩)
          have hth : W5.drew.there w.heap.size 0 (copCells ⟨true, { r with gen := G }⟩).size := HST6.out.there (by omega)
          have hi3 := size_cop ⟨true, { r with gen := G }⟩
          have ha3 := one_cop ⟨true, { r with gen := G }⟩
          refine wp_region_still_tail 4 (by kernel_rfl) (by kernel_rfl) ?_
          simp only [List.take_succ_cons, List.take_zero, List.drop_succ_cons, List.drop_zero]
          change wpStill _ _ W5.drew _ _ _
          still_step
          still_call ((HO.out _).mono fun _ _ ⟨h, e⟩ => ⟨h, e.symm⟩)
          refine wpStill_load_row rfl 28 (.tmp 12) rfl D rfl 28 (copCells ⟨true, { r with gen := G }⟩) (0, 0) _ hD6 Try.underlying28 rfl hi3 ?_
          still_step
          refine wpStill_nil ?_
          change wpList _ _ _ _ _ W5.drew
          have hc0 := HST7.out.c0
          have hc2 := HST7.out.c2
          have HG := Lib.hid HST7.out.give
          have hi := size_cops ⟨⟨true, { r with gen := G }⟩, l.c1⟩
          have ha := one_cops ⟨⟨true, { r with gen := G }⟩, l.c1⟩
          have hlk := like_cops ⟨⟨true, { r with gen := G }⟩, l.c1⟩
          refine wpList_store_mid rfl 28 (.tmp 40) (.tmp 39) rfl w.heap.size 0 (copCells ⟨true, { r with gen := G }⟩) rfl rfl hth hi3 ha3 ?_
          generalize W5.drew.setCells w.heap.size 0 (copCells ⟨true, { r with gen := G }⟩).toList = W7 at HST7 hc0 hc2 HG ⊢
          go_wp2_with (first
            | (refine wpList_load_row rfl 29 (.tmp 3) rfl w.heap.size rfl 29 (copsCells ⟨⟨true, { r with gen := G }⟩, l.c1⟩) (0, 0) _ hc0 Try.underlying29 rfl hi ?_)
            | (refine wpList_store_row rfl 29 (.tmp 6) (.tmp 41) rfl (w.heap.size + 2) (copsCells ⟨⟨true, { r with gen := G }⟩, l.c1⟩) rfl rfl 29 _ hc2 hi hlk ha ?_))
          refine bodyPost_ret (v := .tuple #[.agg (copsCells ⟨⟨true, { r with gen := G }⟩, l.c1⟩), .int .i64 0]) ?_ rfl ?_
          · exact res_ct (fn := Try.f7) (p := 6) (a := 7) rfl rfl rfl HG.out.1 Try.underlying29 rfl hi
          · exact ⟨by rw [HW.out, HPut.out]; rfl, HG.out.2⟩
      · have HST5 := Lib.hid (HST4.out.alloc (.cells #[.bool false, .int .i64 0, .int .i64 0, .bool false, .int .i64 0, .int .i64 0, .int .i64 0, .int .i64 0, .int .i64 0, .int .i64 0, .int .i64 0, .int .i64 0] 28))
        have HD5 : Hid ((W4.alloc (.cells #[.bool false, .int .i64 0, .int .i64 0, .bool false, .int .i64 0, .int .i64 0, .int .i64 0, .int .i64 0, .int .i64 0, .int .i64 0, .int .i64 0, .int .i64 0] 28)).heap[D]? = some (.cells (copCells RecM.noCop) 28 (0, 0))) := by
          show _ = _
          rw [heap_at, if_pos hD.symm]
          rfl
        rcases HNw.out with hk | hk
        · subst hk
          go_wp2_with fail
          generalize W4.alloc (.cells #[.bool false, .int .i64 0, .int .i64 0, .bool false, .int .i64 0, .int .i64 0, .int .i64 0, .int .i64 0, .int .i64 0, .int .i64 0, .int .i64 0, .int .i64 0] 28) = W5 at HST5 HD5 ⊢
          clear p0 p1 p2 p3 p4 p5 p6 p7 p8 p9 p10 HST4
          have HO : Hid (∀ W, Calls Try.prog 19 #[.int .i64 0] W fun e w' => e = .returned (.int .i64 1) ∧ W = w') := fun W => by simpa using other_any 0 W (by decide)
          have HST6 := Lib.hid HST5.out.drew
          have hD6 : W5.drew.heap[D]? = some (.cells (copCells RecM.noCop) 28 (0, 0)) := HD5.out
          have HST7 : Hid (WSt w ⟨l.c0, RecM.noCop⟩ { r with gen := G } (W5.drew.setCells w.heap.size 12 (copCells RecM.noCop).toList)) := HST6.out.put (put_at1 l RecM.noCop)
          have hth : W5.drew.there w.heap.size 12 (copCells RecM.noCop).size := HST6.out.there (by omega)
          have hi3 := size_cop RecM.noCop
          have ha3 := one_cop RecM.noCop
          refine wp_region_still_tail 4 (by kernel_rfl) (by kernel_rfl) ?_
          simp only [List.take_succ_cons, List.take_zero, List.drop_succ_cons, List.drop_zero]
          change wpStill _ _ W5.drew _ _ _
          still_step
          still_call ((HO.out _).mono fun _ _ ⟨h, e⟩ => ⟨h, e.symm⟩)
          refine wpStill_load_row rfl 28 (.tmp 12) rfl D rfl 28 (copCells RecM.noCop) (0, 0) _ hD6 Try.underlying28 rfl hi3 ?_
          still_step
          refine wpStill_nil ?_
          change wpList _ _ _ _ _ W5.drew
          have hc0 := HST7.out.c0
          have hc2 := HST7.out.c2
          have HG := Lib.hid HST7.out.give
          have hi := size_cops ⟨l.c0, RecM.noCop⟩
          have ha := one_cops ⟨l.c0, RecM.noCop⟩
          have hlk := like_cops ⟨l.c0, RecM.noCop⟩
          refine wpList_store_mid rfl 28 (.tmp 40) (.tmp 39) rfl w.heap.size 12 (copCells RecM.noCop) rfl rfl hth hi3 ha3 ?_
          generalize W5.drew.setCells w.heap.size 12 (copCells RecM.noCop).toList = W7 at HST7 hc0 hc2 HG ⊢
          go_wp2_with (first
            | (refine wpList_load_row rfl 29 (.tmp 3) rfl w.heap.size rfl 29 (copsCells ⟨l.c0, RecM.noCop⟩) (0, 0) _ hc0 Try.underlying29 rfl hi ?_)
            | (refine wpList_store_row rfl 29 (.tmp 6) (.tmp 41) rfl (w.heap.size + 2) (copsCells ⟨l.c0, RecM.noCop⟩) rfl rfl 29 _ hc2 hi hlk ha ?_))
          refine bodyPost_ret (v := .tuple #[.agg (copsCells ⟨l.c0, RecM.noCop⟩), .int .i64 0]) ?_ rfl ?_
          · exact res_ct (fn := Try.f7) (p := 6) (a := 7) rfl rfl rfl HG.out.1 Try.underlying29 rfl hi
          · exact ⟨by rw [HW.out, HPut.out]; rfl, HG.out.2⟩
        · subst hk
          go_wp2_with fail
          generalize W4.alloc (.cells #[.bool false, .int .i64 0, .int .i64 0, .bool false, .int .i64 0, .int .i64 0, .int .i64 0, .int .i64 0, .int .i64 0, .int .i64 0, .int .i64 0, .int .i64 0] 28) = W5 at HST5 HD5 ⊢
          clear p0 p1 p2 p3 p4 p5 p6 p7 p8 p9 p10 HST4
          have HO : Hid (∀ W, Calls Try.prog 19 #[.int .i64 1] W fun e w' => e = .returned (.int .i64 0) ∧ W = w') := fun W => by simpa using other_any 1 W (by decide)
          have HST6 := Lib.hid HST5.out.drew
          have hD6 : W5.drew.heap[D]? = some (.cells (copCells RecM.noCop) 28 (0, 0)) := HD5.out
          have HST7 : Hid (WSt w ⟨RecM.noCop, l.c1⟩ { r with gen := G } (W5.drew.setCells w.heap.size 0 (copCells RecM.noCop).toList)) := HST6.out.put (put_at0 l RecM.noCop)
          have hth : W5.drew.there w.heap.size 0 (copCells RecM.noCop).size := HST6.out.there (by omega)
          have hi3 := size_cop RecM.noCop
          have ha3 := one_cop RecM.noCop
          refine wp_region_still_tail 4 (by kernel_rfl) (by kernel_rfl) ?_
          simp only [List.take_succ_cons, List.take_zero, List.drop_succ_cons, List.drop_zero]
          change wpStill _ _ W5.drew _ _ _
          still_step
          still_call ((HO.out _).mono fun _ _ ⟨h, e⟩ => ⟨h, e.symm⟩)
          refine wpStill_load_row rfl 28 (.tmp 12) rfl D rfl 28 (copCells RecM.noCop) (0, 0) _ hD6 Try.underlying28 rfl hi3 ?_
          still_step
          refine wpStill_nil ?_
          change wpList _ _ _ _ _ W5.drew
          have hc0 := HST7.out.c0
          have hc2 := HST7.out.c2
          have HG := Lib.hid HST7.out.give
          have hi := size_cops ⟨RecM.noCop, l.c1⟩
          have ha := one_cops ⟨RecM.noCop, l.c1⟩
          have hlk := like_cops ⟨RecM.noCop, l.c1⟩
          refine wpList_store_mid rfl 28 (.tmp 40) (.tmp 39) rfl w.heap.size 0 (copCells RecM.noCop) rfl rfl hth hi3 ha3 ?_
          generalize W5.drew.setCells w.heap.size 0 (copCells RecM.noCop).toList = W7 at HST7 hc0 hc2 HG ⊢
          go_wp2_with (first
            | (refine wpList_load_row rfl 29 (.tmp 3) rfl w.heap.size rfl 29 (copsCells ⟨RecM.noCop, l.c1⟩) (0, 0) _ hc0 Try.underlying29 rfl hi ?_)
            | (refine wpList_store_row rfl 29 (.tmp 6) (.tmp 41) rfl (w.heap.size + 2) (copsCells ⟨RecM.noCop, l.c1⟩) rfl rfl 29 _ hc2 hi hlk ha ?_))
          refine bodyPost_ret (v := .tuple #[.agg (copsCells ⟨RecM.noCop, l.c1⟩), .int .i64 0]) ?_ rfl ?_
          · exact res_ct (fn := Try.f7) (p := 6) (a := 7) rfl rfl rfl HG.out.1 Try.underlying29 rfl hi
          · exact ⟨by rw [HW.out, HPut.out]; rfl, HG.out.2⟩
    · obtain ⟨E, hE⟩ : ∃ E, RecM.check { r with gen := G } = E := ⟨_, rfl⟩
      replace HW := Lib.hid (HW.out.trans (if_pos e1))
      rw [hE] at e1 HW ⊢
      have t0 : (E != 0) = true := by simp [e1]
      clear hE
      have HG := Lib.hid HST4.out.nil_
      have hc2 := HST4.out.c2
      have hi2 := size_zcops
      have ha := one_zcops
      unfold zeroCops at hi2 ha hc2
      go_wp2_with (refine wpList_store_row rfl 29 (.tmp 6) (.tmp 31) rfl (w.heap.size + 2) #[.bool false, .int .i64 0, .int .i64 0, .bool false, .int .i64 0, .int .i64 0, .int .i64 0, .int .i64 0, .int .i64 0, .int .i64 0, .int .i64 0, .int .i64 0, .bool false, .int .i64 0, .int .i64 0, .bool false, .int .i64 0, .int .i64 0, .int .i64 0, .int .i64 0, .int .i64 0, .int .i64 0, .int .i64 0, .int .i64 0] rfl rfl 29 _ hc2 hi2 rfl ha ?_)
      refine bodyPost_ret (v := .tuple #[.agg zeroCops, .int .i64 E]) ?_ rfl ?_
      · exact res_ct (fn := Try.f7) (p := 6) (a := 7) rfl rfl rfl HG.out.1 Try.underlying29 rfl size_zcops
      · exact ⟨by rw [HW.out]; rfl, HG.out.2⟩
  · obtain ⟨E, hE⟩ : ∃ E, RecM.copies l = E := ⟨_, rfl⟩
    rw [HRd.out, if_pos e0]
    replace HW := Lib.hid (HW.out.trans (if_pos e0))
    rw [hE] at e0 HW ⊢
    have t0 : (E != 0) = true := by simp [e0]
    clear hE HRd
    have HG := Lib.hid (HST2.out.alloc (.cells zeroRec 26)).nil_
    replace HST2 := Lib.hid (HST2.out.alloc (.cells zeroRec 26))
    unfold zeroRec at HG HST2
    simp only [recV, RecM.noRec, RecM.noInf]
    have hc2 := HST2.out.c2
    have hi2 := size_zcops
    have ha := one_zcops
    unfold zeroCops at hi2 ha hc2
    go_wp2_with (refine wpList_store_row rfl 29 (.tmp 6) (.tmp 21) rfl (w.heap.size + 2) #[.bool false, .int .i64 0, .int .i64 0, .bool false, .int .i64 0, .int .i64 0, .int .i64 0, .int .i64 0, .int .i64 0, .int .i64 0, .int .i64 0, .int .i64 0, .bool false, .int .i64 0, .int .i64 0, .bool false, .int .i64 0, .int .i64 0, .int .i64 0, .int .i64 0, .int .i64 0, .int .i64 0, .int .i64 0, .int .i64 0] rfl rfl 29 _ hc2 hi2 rfl ha ?_)
    refine bodyPost_ret (v := .tuple #[.agg zeroCops, .int .i64 E]) ?_ rfl ?_
    · exact res_ct (fn := Try.f7) (p := 6) (a := 7) rfl rfl rfl HG.out.1 Try.underlying29 rfl size_zcops
    · exact ⟨by rw [HW.out]; rfl, HG.out.2⟩
end Go.Proofs.Ytmpmaljkmfgagac
