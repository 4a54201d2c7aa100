/-
  Contracts of the reference's Started, Confirmed, of right records.
-/
import Derived.Test.YtmpmaljkmfgagacRecSt
namespace Go.Proofs.Ytmpmaljkmfgagac
open Go.RowKit

set_option maxRecDepth 100000 in
set_option maxHeartbeats 4000000 in
theorem started_any (r : RecR) (hk : RecM.check r = 0) (w : World) :
    Calls Try.prog 17 #[recV r] w fun e w' => e = .returned (.tuple #[.int .i64 (RecM.slot r), recV (RecM.after r)]) ∧ Below w.heap.size w w' := by
  have hn := RecM.check_nums hk
  clear hk
  obtain ⟨g, a, tr, n, f, ⟨v0, s0, u0⟩, ⟨v1, s1, u1⟩⟩ := r
  simp only at hn
  have hw : IntKind.i64.wrap (1 - a) = 1 - a := IntWalk.i64_in _ (by omega)
  have HV : Hid (∀ x, recV x = .agg (recCells x)) := fun _ => rfl
  show Calls Try.prog 17 #[.agg #[.int .i64 g, .int .i64 a, .bool tr, .int .i64 n, .int .i64 f, .int .i64 v0, .int .i64 s0, .int .i64 u0, .int .i64 v1, .int .i64 s1, .int .i64 u1]] w _
  cases tr
  · obtain ⟨hn1, hn2, hn3, hn4⟩ := hn
    clear hn1 hn3 hn4
    have HAf : Hid (RecM.after (⟨g, a, false, n, f, ⟨v0, s0, u0⟩, ⟨v1, s1, u1⟩⟩ : RecR) = (⟨g, a, false, n, f, ⟨v0, s0, u0⟩, ⟨v1, s1, u1⟩⟩ : RecR)) := by
      show _ = _
      simp [RecM.after]
    have HSl : Hid (RecM.slot (⟨g, a, false, n, f, ⟨v0, s0, u0⟩, ⟨v1, s1, u1⟩⟩ : RecR) = a) := by
      show _ = _
      simp [RecM.slot]
    have HST3 : Hid (RSt1 w (⟨g, a, false, n, f, ⟨v0, s0, u0⟩, ⟨v1, s1, u1⟩⟩ : RecR) ((w.alloc (.cells #[.int .i64 g, .int .i64 a, .bool false, .int .i64 n, .int .i64 f, .int .i64 v0, .int .i64 s0, .int .i64 u0, .int .i64 v1, .int .i64 s1, .int .i64 u1] 26)).alloc (.cells #[.int .i64 0, .int .i64 0, .bool false, .int .i64 0, .int .i64 0, .int .i64 0, .int .i64 0, .int .i64 0, .int .i64 0, .int .i64 0, .int .i64 0] 26))) := RSt1.start w (⟨g, a, false, n, f, ⟨v0, s0, u0⟩, ⟨v1, s1, u1⟩⟩ : RecR)
    go_enter Try.func17, Try.ntmps17
    go_wp2_with fail
    generalize (w.alloc (.cells #[.int .i64 g, .int .i64 a, .bool false, .int .i64 n, .int .i64 f, .int .i64 v0, .int .i64 s0, .int .i64 u0, .int .i64 v1, .int .i64 s1, .int .i64 u1] 26)).alloc (.cells #[.int .i64 0, .int .i64 0, .bool false, .int .i64 0, .int .i64 0, .int .i64 0, .int .i64 0, .int .i64 0, .int .i64 0, .int .i64 0, .int .i64 0] 26) = W3 at HST3 ⊢
    have HST4 := Lib.hid HST3.out.drew
    have q1 := HST4.out.cells.2.1
    simp only at q1
    have hc0 := HST4.out.c0
    have hc1 := HST4.out.c1
    have HG := Lib.hid HST4.out.give
    have hi := size_rec (⟨g, a, false, n, f, ⟨v0, s0, u0⟩, ⟨v1, s1, u1⟩⟩ : RecR)
    have ha := one_rec (⟨g, a, false, n, f, ⟨v0, s0, u0⟩, ⟨v1, s1, u1⟩⟩ : RecR)
    refine wp_region_still_tail 4 (by kernel_rfl) (by kernel_rfl) ?_
    simp only [List.take_succ_cons, List.take_zero, List.drop_succ_cons, List.drop_zero]
    change wpStill _ _ W3.drew _ _ _
    still_step
    still_step
    refine wpStill_load_row rfl 26 (.tmp 1) rfl w.heap.size rfl 26 (recCells (⟨g, a, false, n, f, ⟨v0, s0, u0⟩, ⟨v1, s1, u1⟩⟩ : RecR)) (0, 0) _ hc0 Try.underlying26 rfl hi ?_
    still_step
    refine wpStill_nil ?_
    go_wp2_with (refine wpList_store_row rfl 26 (.tmp 3) (.tmp 22) rfl (w.heap.size + 1) (recCells (⟨g, a, false, n, f, ⟨v0, s0, u0⟩, ⟨v1, s1, u1⟩⟩ : RecR)) rfl rfl 26 _ hc1 hi rfl ha ?_)
    refine bodyPost_ret (v := .tuple #[.int .i64 (a), .agg (recCells (⟨g, a, false, n, f, ⟨v0, s0, u0⟩, ⟨v1, s1, u1⟩⟩ : RecR))]) ?_ rfl ?_
    · exact res_tc (fn := Try.f17) (p := 3) (a := 2) rfl rfl rfl HG.out.1 Try.underlying26 rfl hi
    · exact ⟨by rw [HSl.out, HAf.out]; rfl, HG.out.2⟩
  · by_cases ht : n = 0
    · subst ht
      clear hn
      have HAf : Hid (RecM.after (⟨g, a, true, 0, f, ⟨v0, s0, u0⟩, ⟨v1, s1, u1⟩⟩ : RecR) = (⟨g, a, false, 0, f, ⟨v0, s0, u0⟩, ⟨v1, s1, u1⟩⟩ : RecR)) := by
        show _ = _
        simp [RecM.after]
      have HSl : Hid (RecM.slot (⟨g, a, true, 0, f, ⟨v0, s0, u0⟩, ⟨v1, s1, u1⟩⟩ : RecR) = a) := by
        show _ = _
        simp [RecM.slot]
      have HST3 : Hid (RSt1 w (⟨g, a, false, 0, f, ⟨v0, s0, u0⟩, ⟨v1, s1, u1⟩⟩ : RecR) ((w.alloc (.cells #[.int .i64 g, .int .i64 a, .bool false, .int .i64 0, .int .i64 f, .int .i64 v0, .int .i64 s0, .int .i64 u0, .int .i64 v1, .int .i64 s1, .int .i64 u1] 26)).alloc (.cells #[.int .i64 0, .int .i64 0, .bool false, .int .i64 0, .int .i64 0, .int .i64 0, .int .i64 0, .int .i64 0, .int .i64 0, .int .i64 0, .int .i64 0] 26))) := RSt1.start w (⟨g, a, false, 0, f, ⟨v0, s0, u0⟩, ⟨v1, s1, u1⟩⟩ : RecR)
      go_enter Try.func17, Try.ntmps17
      go_wp2_with fail
      generalize (w.alloc (.cells #[.int .i64 g, .int .i64 a, .bool false, .int .i64 0, .int .i64 f, .int .i64 v0, .int .i64 s0, .int .i64 u0, .int .i64 v1, .int .i64 s1, .int .i64 u1] 26)).alloc (.cells #[.int .i64 0, .int .i64 0, .bool false, .int .i64 0, .int .i64 0, .int .i64 0, .int .i64 0, .int .i64 0, .int .i64 0, .int .i64 0, .int .i64 0] 26) = W3 at HST3 ⊢
      have HST4 := Lib.hid HST3.out.drew
      have q1 := HST4.out.cells.2.1
      simp only at q1
      have hc0 := HST4.out.c0
      have hc1 := HST4.out.c1
      have HG := Lib.hid HST4.out.give
      have hi := size_rec (⟨g, a, false, 0, f, ⟨v0, s0, u0⟩, ⟨v1, s1, u1⟩⟩ : RecR)
      have ha := one_rec (⟨g, a, false, 0, f, ⟨v0, s0, u0⟩, ⟨v1, s1, u1⟩⟩ : RecR)
      refine wp_region_still_tail 4 (by kernel_rfl) (by kernel_rfl) ?_
      simp only [List.take_succ_cons, List.take_zero, List.drop_succ_cons, List.drop_zero]
      change wpStill _ _ W3.drew _ _ _
      still_step
      still_step
      refine wpStill_load_row rfl 26 (.tmp 1) rfl w.heap.size rfl 26 (recCells (⟨g, a, false, 0, f, ⟨v0, s0, u0⟩, ⟨v1, s1, u1⟩⟩ : RecR)) (0, 0) _ hc0 Try.underlying26 rfl hi ?_
      still_step
      refine wpStill_nil ?_
      go_wp2_with (refine wpList_store_row rfl 26 (.tmp 3) (.tmp 22) rfl (w.heap.size + 1) (recCells (⟨g, a, false, 0, f, ⟨v0, s0, u0⟩, ⟨v1, s1, u1⟩⟩ : RecR)) rfl rfl 26 _ hc1 hi rfl ha ?_)
      refine bodyPost_ret (v := .tuple #[.int .i64 (a), .agg (recCells (⟨g, a, false, 0, f, ⟨v0, s0, u0⟩, ⟨v1, s1, u1⟩⟩ : RecR))]) ?_ rfl ?_
      · exact res_tc (fn := Try.f17) (p := 3) (a := 2) rfl rfl rfl HG.out.1 Try.underlying26 rfl hi
      · exact ⟨by rw [HSl.out, HAf.out]; rfl, HG.out.2⟩
    · have hgt : (0 : Int) < n := by omega
      obtain ⟨T, hT⟩ : ∃ T, n - 1 = T := ⟨_, rfl⟩
      have hwT : IntKind.i64.wrap T = T := IntWalk.i64_in _ (by omega)
      have HAf : Hid (RecM.after (⟨g, a, true, n, f, ⟨v0, s0, u0⟩, ⟨v1, s1, u1⟩⟩ : RecR) = (⟨g, a, true, T, f, ⟨v0, s0, u0⟩, ⟨v1, s1, u1⟩⟩ : RecR)) := by
        show _ = _
        simp [RecM.after, ht]
        exact hT
      have HSl : Hid (RecM.slot (⟨g, a, true, n, f, ⟨v0, s0, u0⟩, ⟨v1, s1, u1⟩⟩ : RecR) = 1 - a) := by
        show _ = _
        simp [RecM.slot, ht]
      have HST3 : Hid (RSt1 w (⟨g, a, true, T, f, ⟨v0, s0, u0⟩, ⟨v1, s1, u1⟩⟩ : RecR) ((w.alloc (.cells #[.int .i64 g, .int .i64 a, .bool true, .int .i64 T, .int .i64 f, .int .i64 v0, .int .i64 s0, .int .i64 u0, .int .i64 v1, .int .i64 s1, .int .i64 u1] 26)).alloc (.cells #[.int .i64 0, .int .i64 0, .bool false, .int .i64 0, .int .i64 0, .int .i64 0, .int .i64 0, .int .i64 0, .int .i64 0, .int .i64 0, .int .i64 0] 26))) := RSt1.start w (⟨g, a, true, T, f, ⟨v0, s0, u0⟩, ⟨v1, s1, u1⟩⟩ : RecR)
      go_enter Try.func17, Try.ntmps17
      go_wp2_with fail
      generalize (w.alloc (.cells #[.int .i64 g, .int .i64 a, .bool true, .int .i64 T, .int .i64 f, .int .i64 v0, .int .i64 s0, .int .i64 u0, .int .i64 v1, .int .i64 s1, .int .i64 u1] 26)).alloc (.cells #[.int .i64 0, .int .i64 0, .bool false, .int .i64 0, .int .i64 0, .int .i64 0, .int .i64 0, .int .i64 0, .int .i64 0, .int .i64 0, .int .i64 0] 26) = W3 at HST3 ⊢
      have HST4 := Lib.hid HST3.out.drew
      have q1 := HST4.out.cells.2.1
      simp only at q1
      have hc0 := HST4.out.c0
      have hc1 := HST4.out.c1
      have HG := Lib.hid HST4.out.give
      have hi := size_rec (⟨g, a, true, T, f, ⟨v0, s0, u0⟩, ⟨v1, s1, u1⟩⟩ : RecR)
      have ha := one_rec (⟨g, a, true, T, f, ⟨v0, s0, u0⟩, ⟨v1, s1, u1⟩⟩ : RecR)
      refine wp_region_still_tail 5 (by kernel_rfl) (by kernel_rfl) ?_
      simp only [List.take_succ_cons, List.take_zero, List.drop_succ_cons, List.drop_zero]
      change wpStill _ _ W3.drew _ _ _
      still_step
      still_step
      still_step
      refine wpStill_load_row rfl 26 (.tmp 1) rfl w.heap.size rfl 26 (recCells (⟨g, a, true, T, f, ⟨v0, s0, u0⟩, ⟨v1, s1, u1⟩⟩ : RecR)) (0, 0) _ hc0 Try.underlying26 rfl hi ?_
      still_step
      refine wpStill_nil ?_
      go_wp2_with (refine wpList_store_row rfl 26 (.tmp 3) (.tmp 18) rfl (w.heap.size + 1) (recCells (⟨g, a, true, T, f, ⟨v0, s0, u0⟩, ⟨v1, s1, u1⟩⟩ : RecR)) rfl rfl 26 _ hc1 hi rfl ha ?_)
      refine bodyPost_ret (v := .tuple #[.int .i64 (1 - a), .agg (recCells (⟨g, a, true, T, f, ⟨v0, s0, u0⟩, ⟨v1, s1, u1⟩⟩ : RecR))]) ?_ rfl ?_
      · exact res_tc (fn := Try.f17) (p := 3) (a := 2) rfl rfl rfl HG.out.1 Try.underlying26 rfl hi
      · exact ⟨by rw [HSl.out, HAf.out]; rfl, HG.out.2⟩

set_option maxRecDepth 100000 in
set_option maxHeartbeats 4000000 in
theorem confirmed_any (r : RecR) (hk : RecM.check r = 0) (ht : r.trying = true) (w : World) :
    Calls Try.prog 18 #[recV r] w fun e w' => e = .returned (recV (RecM.conf r)) ∧ Below w.heap.size w w' := by
  have hn := (RecM.check_nums hk).2.1
  have hr := RecM.check_rec hk
  clear hk
  obtain ⟨g, a, tr, n, f, ⟨v0, s0, u0⟩, ⟨v1, s1, u1⟩⟩ := r
  simp only at hn ht
  subst ht
  show Calls Try.prog 18 #[.agg #[.int .i64 g, .int .i64 a, .bool true, .int .i64 n, .int .i64 f, .int .i64 v0, .int .i64 s0, .int .i64 u0, .int .i64 v1, .int .i64 s1, .int .i64 u1]] w _
  rcases hn with rfl | rfl
  · have hfl : f ≤ v1 := hr.2.1 rfl
    have HCf : Hid (RecM.conf (⟨g, 0, true, n, f, ⟨v0, s0, u0⟩, ⟨v1, s1, u1⟩⟩ : RecR) = (⟨g, 1, false, 0, v1, ⟨v0, s0, u0⟩, ⟨v1, s1, u1⟩⟩ : RecR)) := by
      show _ = _
      show (⟨g, 1 - 0, false, 0, max f v1, ⟨v0, s0, u0⟩, ⟨v1, s1, u1⟩⟩ : RecR) = _
      rw [Int.max_eq_right hfl]
      rfl
    have m1 : (if f < v1 then v1 else f) = v1 := by split <;> omega
    have m2 : (if v1 < f then f else v1) = v1 := by split <;> omega
    have HST3 : Hid (RSt1 w (⟨g, 0, true, n, f, ⟨v0, s0, u0⟩, ⟨v1, s1, u1⟩⟩ : RecR) ((w.alloc (.cells #[.int .i64 g, .int .i64 0, .bool true, .int .i64 n, .int .i64 f, .int .i64 v0, .int .i64 s0, .int .i64 u0, .int .i64 v1, .int .i64 s1, .int .i64 u1] 26)).alloc (.cells #[.int .i64 0, .int .i64 0, .bool false, .int .i64 0, .int .i64 0, .int .i64 0, .int .i64 0, .int .i64 0, .int .i64 0, .int .i64 0, .int .i64 0] 26))) := RSt1.start w (⟨g, 0, true, n, f, ⟨v0, s0, u0⟩, ⟨v1, s1, u1⟩⟩ : RecR)
    clear hr hfl
    go_enter Try.func18, Try.ntmps18
    go_wp2_with fail
    generalize (w.alloc (.cells #[.int .i64 g, .int .i64 0, .bool true, .int .i64 n, .int .i64 f, .int .i64 v0, .int .i64 s0, .int .i64 u0, .int .i64 v1, .int .i64 s1, .int .i64 u1] 26)).alloc (.cells #[.int .i64 0, .int .i64 0, .bool false, .int .i64 0, .int .i64 0, .int .i64 0, .int .i64 0, .int .i64 0, .int .i64 0, .int .i64 0, .int .i64 0] 26) = W3 at HST3 ⊢
    have HST4 := Lib.hid HST3.out.drew
    obtain ⟨q0, q1, q2, q3, q4, q5, q6, q7, q8, q9, q10⟩ := rec_cells (show W3.drew.heap[w.heap.size]? = some (.cells #[.int .i64 g, .int .i64 0, .bool true, .int .i64 n, .int .i64 f, .int .i64 v0, .int .i64 s0, .int .i64 u0, .int .i64 v1, .int .i64 s1, .int .i64 u1] 26 (0, 0)) from HST4.out.c0)
    have hc1 := HST4.out.c1
    have HG : Hid ((W3.drew.setRow (w.heap.size + 1) (recCells (⟨g, 1, false, 0, v1, ⟨v0, s0, u0⟩, ⟨v1, s1, u1⟩⟩ : RecR))).heap[w.heap.size + 1]? = some (.cells (recCells (⟨g, 1, false, 0, v1, ⟨v0, s0, u0⟩, ⟨v1, s1, u1⟩⟩ : RecR)) 26 (0, 0)) ∧ Below w.heap.size w (W3.drew.setRow (w.heap.size + 1) (recCells (⟨g, 1, false, 0, v1, ⟨v0, s0, u0⟩, ⟨v1, s1, u1⟩⟩ : RecR)))) := ⟨setRow_heap _ _ _ _ _ _ hc1, bel_row HST4.out.below (by omega) _⟩
    have hi := size_rec (⟨g, 1, false, 0, v1, ⟨v0, s0, u0⟩, ⟨v1, s1, u1⟩⟩ : RecR)
    have ha := one_rec (⟨g, 1, false, 0, v1, ⟨v0, s0, u0⟩, ⟨v1, s1, u1⟩⟩ : RecR)
    go_still_tail 14, (by kernel_rfl)
    change wpList _ _ _ _ _ W3.drew
    go_wp2_with (refine wpList_store_row rfl 26 (.tmp 2) (.tmp 20) rfl (w.heap.size + 1) (recCells (⟨g, 1, false, 0, v1, ⟨v0, s0, u0⟩, ⟨v1, s1, u1⟩⟩ : RecR)) rfl rfl 26 _ hc1 hi rfl ha ?_)
    refine bodyPost_ret (v := .agg (recCells (⟨g, 1, false, 0, v1, ⟨v0, s0, u0⟩, ⟨v1, s1, u1⟩⟩ : RecR))) ?_ rfl ?_
    · exact results_cell_row (fn := Try.f18) (p := 2) rfl _ _ (w.heap.size + 1) 26 _ (0, 0) _ rfl HG.out.1 Try.underlying26 rfl hi
    · exact ⟨by rw [HCf.out]; rfl, HG.out.2⟩
  · have hfl : f ≤ v0 := hr.2.1 rfl
    have HCf : Hid (RecM.conf (⟨g, 1, true, n, f, ⟨v0, s0, u0⟩, ⟨v1, s1, u1⟩⟩ : RecR) = (⟨g, 0, false, 0, v0, ⟨v0, s0, u0⟩, ⟨v1, s1, u1⟩⟩ : RecR)) := by
      show _ = _
      show (⟨g, 1 - 1, false, 0, max f v0, ⟨v0, s0, u0⟩, ⟨v1, s1, u1⟩⟩ : RecR) = _
      rw [Int.max_eq_right hfl]
      rfl
    have m1 : (if f < v0 then v0 else f) = v0 := by split <;> omega
    have m2 : (if v0 < f then f else v0) = v0 := by split <;> omega
    have HST3 : Hid (RSt1 w (⟨g, 1, true, n, f, ⟨v0, s0, u0⟩, ⟨v1, s1, u1⟩⟩ : RecR) ((w.alloc (.cells #[.int .i64 g, .int .i64 1, .bool true, .int .i64 n, .int .i64 f, .int .i64 v0, .int .i64 s0, .int .i64 u0, .int .i64 v1, .int .i64 s1, .int .i64 u1] 26)).alloc (.cells #[.int .i64 0, .int .i64 0, .bool false, .int .i64 0, .int .i64 0, .int .i64 0, .int .i64 0, .int .i64 0, .int .i64 0, .int .i64 0, .int .i64 0] 26))) := RSt1.start w (⟨g, 1, true, n, f, ⟨v0, s0, u0⟩, ⟨v1, s1, u1⟩⟩ : RecR)
    clear hr hfl
    go_enter Try.func18, Try.ntmps18
    go_wp2_with fail
    generalize (w.alloc (.cells #[.int .i64 g, .int .i64 1, .bool true, .int .i64 n, .int .i64 f, .int .i64 v0, .int .i64 s0, .int .i64 u0, .int .i64 v1, .int .i64 s1, .int .i64 u1] 26)).alloc (.cells #[.int .i64 0, .int .i64 0, .bool false, .int .i64 0, .int .i64 0, .int .i64 0, .int .i64 0, .int .i64 0, .int .i64 0, .int .i64 0, .int .i64 0] 26) = W3 at HST3 ⊢
    have HST4 := Lib.hid HST3.out.drew
    obtain ⟨q0, q1, q2, q3, q4, q5, q6, q7, q8, q9, q10⟩ := rec_cells (show W3.drew.heap[w.heap.size]? = some (.cells #[.int .i64 g, .int .i64 1, .bool true, .int .i64 n, .int .i64 f, .int .i64 v0, .int .i64 s0, .int .i64 u0, .int .i64 v1, .int .i64 s1, .int .i64 u1] 26 (0, 0)) from HST4.out.c0)
    have hc1 := HST4.out.c1
    have HG : Hid ((W3.drew.setRow (w.heap.size + 1) (recCells (⟨g, 0, false, 0, v0, ⟨v0, s0, u0⟩, ⟨v1, s1, u1⟩⟩ : RecR))).heap[w.heap.size + 1]? = some (.cells (recCells (⟨g, 0, false, 0, v0, ⟨v0, s0, u0⟩, ⟨v1, s1, u1⟩⟩ : RecR)) 26 (0, 0)) ∧ Below w.heap.size w (W3.drew.setRow (w.heap.size + 1) (recCells (⟨g, 0, false, 0, v0, ⟨v0, s0, u0⟩, ⟨v1, s1, u1⟩⟩ : RecR)))) := ⟨setRow_heap _ _ _ _ _ _ hc1, bel_row HST4.out.below (by omega) _⟩
    have hi := size_rec (⟨g, 0, false, 0, v0, ⟨v0, s0, u0⟩, ⟨v1, s1, u1⟩⟩ : RecR)
    have ha := one_rec (⟨g, 0, false, 0, v0, ⟨v0, s0, u0⟩, ⟨v1, s1, u1⟩⟩ : RecR)
    go_still_tail 14, (by kernel_rfl)
    change wpList _ _ _ _ _ W3.drew
    go_wp2_with (refine wpList_store_row rfl 26 (.tmp 2) (.tmp 20) rfl (w.heap.size + 1) (recCells (⟨g, 0, false, 0, v0, ⟨v0, s0, u0⟩, ⟨v1, s1, u1⟩⟩ : RecR)) rfl rfl 26 _ hc1 hi rfl ha ?_)
    refine bodyPost_ret (v := .agg (recCells (⟨g, 0, false, 0, v0, ⟨v0, s0, u0⟩, ⟨v1, s1, u1⟩⟩ : RecR))) ?_ rfl ?_
    · exact results_cell_row (fn := Try.f18) (p := 2) rfl _ _ (w.heap.size + 1) 26 _ (0, 0) _ rfl HG.out.1 Try.underlying26 rfl hi
    · exact ⟨by rw [HCf.out]; rfl, HG.out.2⟩
end Go.Proofs.Ytmpmaljkmfgagac
