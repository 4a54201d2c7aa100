/-
  RecordStarts: a right record that is tried.
-/
import Derived.Test.YtmpmaljkmfgagacKeptW
import Derived.Test.YtmpmaljkmfgagacLawG
import Derived.Test.YtmpmaljkmfgagacStaA
import Derived.Deep.Cut
namespace Go.Proofs.Ytmpmaljkmfgagac
open Go.RowKit

set_option maxRecDepth 100000 in
set_option maxHeartbeats 3000000 in
theorem starts_t0 (g n f : Int) (i0 i1 : InfR) (h : RecM.check ⟨g, 0, true, n, f, i0, i1⟩ = 0) (w : World) : Calls Try.prog 5 #[recV ⟨g, 0, true, n, f, i0, i1⟩] w fun e w' => e = .returned (.bool true) ∧ Below w.heap.size w w' := by
  have HC := Lib.hid (fun k => RecM.now_facts h k)
  have HSl := Lib.hid (fun k => RecM.slot_at h k)
  have HOr : Hid (∀ k, RecM.slot (RecM.nowAt ⟨g, 0, true, n, f, i0, i1⟩ k) = 0 ∨ RecM.slot (RecM.nowAt ⟨g, 0, true, n, f, i0, i1⟩ k) = 1) := fun k => by
    obtain ⟨-, e2, -⟩ := RecM.nowAt_fields ⟨g, 0, true, n, f, i0, i1⟩ k
    have e2' : (RecM.nowAt ⟨g, 0, true, n, f, i0, i1⟩ k).act = 0 := e2
    unfold RecM.slot
    split
    · right
      omega
    · left
      exact e2'
  have hnn := RecM.check_nums h
  simp only at hnn
  have hw0 : IntKind.i64.wrap 0 = 0 := IntWalk.i64_in _ (by omega)
  have hw1 : IntKind.i64.wrap 1 = 1 := IntWalk.i64_in _ (by omega)
  have HCk0 : Hid (∀ W, Calls Try.prog 13 #[.agg (recCells ⟨g, 0, true, n, f, i0, i1⟩)] W fun e w' => e = .returned (.int .i64 0) ∧ Below W.heap.size W w') := fun W => by
    have := checkR_any ⟨g, 0, true, n, f, i0, i1⟩ W
    rw [h] at this
    exact this
  obtain ⟨Y0, hY0⟩ : ∃ Y, RecM.conf ⟨g, 0, true, n, f, i0, i1⟩ = Y := ⟨_, rfl⟩
  have HCo : Hid (∀ W, Calls Try.prog 9 #[.agg (recCells ⟨g, 0, true, n, f, i0, i1⟩)] W fun e w' => e = .returned (.tuple #[.agg (recCells Y0), .int .i64 0]) ∧ Below W.heap.size W w') := fun W => by
    have := confR_any ⟨g, 0, true, n, f, i0, i1⟩ W
    rw [RecM.confOf_ok h rfl, hY0] at this
    exact this
  have HSc : Hid (∀ W, Calls Try.prog 8 #[.agg (recCells Y0)] W fun e w' => e = .returned (.tuple #[.int .i64 1, .agg (recCells Y0), .int .i64 0]) ∧ Below W.heap.size W w') := fun W => by
    have := startR_any Y0 W
    rw [← hY0, RecM.conf_starts h rfl, hY0] at this
    exact this
  have HCc : Hid (∀ W, Calls Try.prog 13 #[.agg (recCells Y0)] W fun e w' => e = .returned (.int .i64 0) ∧ Below W.heap.size W w') := fun W => by
    have := checkR_any Y0 W
    rw [← hY0, RecM.conf_ok h rfl, hY0] at this
    exact this
  have hfl := RecM.conf_floor ⟨g, 0, true, n, f, i0, i1⟩
  rw [hY0] at hfl
  have hf1 : f ≤ Y0.floor := hfl.1
  have hf2 : Y0.i1.ver ≤ Y0.floor := hfl.2
  have eqY : ∀ W, (binOp .eql 26 (.agg (recCells Y0)) (.agg (recCells Y0))).run Try.prog W = .ok (.bool true) W := fun W => by
    have := rec_eql Y0 Y0 W
    rw [decide_eq_true rfl] at this
    exact this
  clear hfl hY0
  clear h
  have HK : Hid (∀ W, Calls Try.prog 12 #[] W fun e w' => e = .returned (.bool true) ∧ Below W.heap.size W w') := fun W => kept_any W
  have HS := Lib.hid ((LS.start w).alloc rfl (recCells ⟨g, 0, true, n, f, i0, i1⟩) 26)
  have HV : Hid (∀ x, recV x = .agg (recCells x)) := fun _ => rfl
  rw [HV.out]
  go_enter Try.func5, Try.ntmps5
  go_wp2_with fail
  refine (HK.out _).mono ?_
  rintro e W1 ⟨rfl, hb⟩
  replace HS := Lib.hid (HS.out.later hb)
  clear hb
  have bwheapsize := HS.out.get 0 rfl
  simp only at bwheapsize
  go_wp2_with (first
    | (refine wpList_load_want (by rfl) 26 (.tmp 1) rfl w.heap.size rfl 26 (recCells ⟨g, 0, true, n, f, i0, i1⟩) (0, 0) _ bwheapsize Try.underlying26 rfl (size_rec ⟨g, 0, true, n, f, i0, i1⟩) ?_))
  clear bwheapsize
  refine (HCk0.out _).mono ?_
  rintro e W2 ⟨rfl, hb⟩
  replace HS := Lib.hid (HS.out.later hb)
  clear hb
  have B0 := Lib.hid (HS.out.get 0 rfl)
  have HS0 := HS
  obtain ⟨P3, hP3⟩ : ∃ P, W2.heap.size = P := ⟨_, rfl⟩
  replace HS := Lib.hid (HS.out.alloc hP3 (recCells ⟨g, 0, true, n, f, i0, i1⟩) 26)
  have hP3l : w.heap.size < P3 := by
    have := blk_ltQ (HS0.out.get 0 rfl)
    simp only at this
    omega
  have hP3n : w.heap.size ≠ P3 := by omega
  clear HS0
  have b1 := HS.out.get 1 rfl
  simp only at b1
  have b0 : W2.heap[w.heap.size]? = some (.cells (recCells ⟨g, 0, true, n, f, i0, i1⟩) 26 (0, 0)) := B0.out
  go_wp2_with (first
    | (refine wpList_store_new rfl 26 (.tmp 3) (.tmp 20) rfl P3 (recCells ⟨g, 0, true, n, f, i0, i1⟩) rfl rfl 26 _ hP3.symm (size_rec ⟨g, 0, true, n, f, i0, i1⟩) (like_rec ⟨g, 0, true, n, f, i0, i1⟩) (one_rec ⟨g, 0, true, n, f, i0, i1⟩) ?_)
    | (refine wpList_load_row rfl 26 (.tmp 1) rfl w.heap.size rfl 26 (recCells ⟨g, 0, true, n, f, i0, i1⟩) (0, 0) _ b0 Try.underlying26 rfl (size_rec ⟨g, 0, true, n, f, i0, i1⟩) ?_))
  clear b0 b1 B0
  go_loopw [21] (fun i wr => StaRel w P3 ⟨g, 0, true, n, f, i0, i1⟩ i wr) (fun i _ => 5 - (intOf i).toNat)
  case atStart => exact ⟨0, rfl, by omega, HS.out⟩
  case round =>
    obtain ⟨k, rfl, hk, hls⟩ := hrel
    have HS := Lib.hid hls
    clear hls
    by_cases hlt : k < 5
    · obtain ⟨nf1, nf2, nf3⟩ := HC.out k
      have hsa := HSl.out k
      obtain ⟨Y, hY⟩ : ∃ Y, RecM.nowAt ⟨g, 0, true, n, f, i0, i1⟩ (k + 1) = Y := ⟨_, rfl⟩
      have HYe := Lib.hid hY
      rw [hY] at nf1 nf2 nf3
      obtain ⟨X, hX⟩ : ∃ X, RecM.nowAt ⟨g, 0, true, n, f, i0, i1⟩ k = X := ⟨_, rfl⟩
      have hor := HOr.out k
      rw [hX] at nf1 nf3 hsa HS hor
      clear hX hY
      try simp only at hsa nf3
      by_cases hge : n ≤ (k : Int)
      · have hsl : RecM.slot X = 0 := hsa.2 (.inr hge)
        have hge2 : decide (n ≤ (k : Int)) = true := by simp; omega
        clear hsa hor
        have HSt : Hid (∀ W, Calls Try.prog 8 #[.agg (recCells X)] W fun e w' => e = .returned (.tuple #[.int .i64 0, .agg (recCells Y), .int .i64 0]) ∧ Below W.heap.size W w') := fun W => by
          have := startR_any X W
          rw [nf1, hsl] at this
          exact this
        have HCk : Hid (∀ W, Calls Try.prog 13 #[.agg (recCells Y)] W fun e w' => e = .returned (.int .i64 0) ∧ Below W.heap.size W w') := fun W => by
          have := checkR_any Y W
          rw [nf2] at this
          exact this
        have hv : decide (Y.i0.ver < f) = false := by
          rw [hsl] at nf3
          have nf4 : f ≤ Y.i0.ver := nf3
          simp
          omega
        clear nf1 nf2 nf3 hsl
        have bP3 := HS.out.get 0 rfl
        simp only at bP3
        go_wp2_with (first
          | (refine wpList_load_row rfl 26 (.tmp 3) rfl P3 rfl 26 (recCells X) (0, 0) _ bP3 Try.underlying26 rfl (size_rec X) ?_))
        clear bP3
        refine (HSt.out _).mono ?_
        rintro e W21 ⟨rfl, hb⟩
        replace HS := Lib.hid (HS.out.later hb)
        clear hb
        obtain ⟨P6, hP6⟩ : ∃ P, W21.heap.size = P := ⟨_, rfl⟩
        replace HS := Lib.hid (HS.out.alloc hP6 (recCells Y) 26)
        go_wp2_with (first
          | (refine wpList_store_new rfl 26 (.tmp 6) (.tmp 28) rfl P6 (recCells Y) rfl rfl 26 _ hP6.symm (size_rec Y) (like_rec Y) (one_rec Y) ?_))
        try simp only [List.append_eq, List.cons_append, List.nil_append]
        refine wp_region_quiet (C := fun W => LS w [(P6, (recCells Y), 26), (P3, (recCells X), 26), (w.heap.size, (recCells ⟨g, 0, true, n, f, i0, i1⟩), 26)] W) (by kernel_rfl) (by kernel_rfl) HS.out.drew ?_
        clear HS
        dsimp only
        repeat (first
          | go_big_quiet_skip
          | (go_big_quiet_want
             first
               | (refine quiet_row 26 (.tmp 6) rfl P6 rfl 26 (recCells Y) (0, 0) _ (fun W hW => hW.get 0 rfl) Try.underlying26 rfl (size_rec Y) ?_
                  simp only [Act.put, List.setIfInBounds_toArray, List.set_cons_zero, List.set_cons_succ]
                  go_big_quiet_on)
               | (go_big_quiet_op
                  go_big_quiet_on)
               | (unfold Oper.quiet
                  apply Exists.intro
                  refine ⟨fun W9 hW9 => ?_, ?_⟩
                  · have g0 := cell_at (k := 5) (v := .int .i64 Y.i0.ver) (hW9.get 0 rfl) rfl
                    have g1 := cell_at (k := 4) (v := .int .i64 f) (hW9.get 2 rfl) rfl
                    have g2 := cell_at (k := 1) (v := .int .i64 0) (hW9.get 2 rfl) rfl
                    have g3 := cell_at (k := 2) (v := .bool true) (hW9.get 2 rfl) rfl
                    have g4 := cell_at (k := 3) (v := .int .i64 n) (hW9.get 2 rfl) rfl
                    simp only at g0 g1 g2 g3 g4
                    go_simp
                    first
                      | with_reducible rfl
                      | (go_at_call 13; exact (HCk.out _).mono (fun _ _ h => ⟨h.1, hW9.later h.2⟩))
                  simp only [Act.put, List.setIfInBounds_toArray, List.set_cons_zero, List.set_cons_succ]
                  go_big_quiet_on)))
        refine wpQuiet_nil ?_
        intro W9 hW9
        have b6 := hW9.get 0 rfl
        have b3 := hW9.get 1 rfl
        simp only at b6 b3
        have HN := Lib.hid (hW9.put3 (c' := recCells Y) hP3n (by omega))
        clear hW9
        go_wp2_with (first
          | (refine wpList_load_row rfl 26 (.tmp 6) rfl P6 rfl 26 (recCells Y) (0, 0) _ b6 Try.underlying26 rfl (size_rec Y) ?_)
          | (refine wpList_store_row rfl 26 (.tmp 3) (.tmp 63) rfl P3 (recCells Y) rfl rfl 26 _ b3 (size_rec Y) (like_two X Y) (one_rec Y) ?_))
        go_roundw
        case rel => exact ⟨k + 1, by go_num, by omega, by rw [HYe.out]; exact HN.out⟩
        case measure => simp [intOf]; omega
      · have hsl : RecM.slot X = 1 := by
          rcases hor with q | q
          · exact absurd (hsa.1 q) (by simp; omega)
          · exact q
        have hge2 : decide (n ≤ (k : Int)) = false := by simp; omega
        clear hsa hor
        have HSt : Hid (∀ W, Calls Try.prog 8 #[.agg (recCells X)] W fun e w' => e = .returned (.tuple #[.int .i64 1, .agg (recCells Y), .int .i64 0]) ∧ Below W.heap.size W w') := fun W => by
          have := startR_any X W
          rw [nf1, hsl] at this
          exact this
        have HCk : Hid (∀ W, Calls Try.prog 13 #[.agg (recCells Y)] W fun e w' => e = .returned (.int .i64 0) ∧ Below W.heap.size W w') := fun W => by
          have := checkR_any Y W
          rw [nf2] at this
          exact this
        have hv : decide (Y.i1.ver < f) = false := by
          rw [hsl] at nf3
          have nf4 : f ≤ Y.i1.ver := nf3
          simp
          omega
        clear nf1 nf2 nf3 hsl
        have bP3 := HS.out.get 0 rfl
        simp only at bP3
        go_wp2_with (first
          | (refine wpList_load_row rfl 26 (.tmp 3) rfl P3 rfl 26 (recCells X) (0, 0) _ bP3 Try.underlying26 rfl (size_rec X) ?_))
        clear bP3
        refine (HSt.out _).mono ?_
        rintro e W21 ⟨rfl, hb⟩
        replace HS := Lib.hid (HS.out.later hb)
        clear hb
        obtain ⟨P6, hP6⟩ : ∃ P, W21.heap.size = P := ⟨_, rfl⟩
        replace HS := Lib.hid (HS.out.alloc hP6 (recCells Y) 26)
        go_wp2_with (first
          | (refine wpList_store_new rfl 26 (.tmp 6) (.tmp 28) rfl P6 (recCells Y) rfl rfl 26 _ hP6.symm (size_rec Y) (like_rec Y) (one_rec Y) ?_))
        try simp only [List.append_eq, List.cons_append, List.nil_append]
        refine wp_region_quiet (C := fun W => LS w [(P6, (recCells Y), 26), (P3, (recCells X), 26), (w.heap.size, (recCells ⟨g, 0, true, n, f, i0, i1⟩), 26)] W) (by kernel_rfl) (by kernel_rfl) HS.out.drew ?_
        clear HS
        dsimp only
        repeat (first
          | go_big_quiet_skip
          | (go_big_quiet_want
             first
               | (refine quiet_row 26 (.tmp 6) rfl P6 rfl 26 (recCells Y) (0, 0) _ (fun W hW => hW.get 0 rfl) Try.underlying26 rfl (size_rec Y) ?_
                  simp only [Act.put, List.setIfInBounds_toArray, List.set_cons_zero, List.set_cons_succ]
                  go_big_quiet_on)
               | (go_big_quiet_op
                  go_big_quiet_on)
               | (unfold Oper.quiet
                  apply Exists.intro
                  refine ⟨fun W9 hW9 => ?_, ?_⟩
                  · have g0 := cell_at (k := 8) (v := .int .i64 Y.i1.ver) (hW9.get 0 rfl) rfl
                    have g1 := cell_at (k := 4) (v := .int .i64 f) (hW9.get 2 rfl) rfl
                    have g2 := cell_at (k := 1) (v := .int .i64 0) (hW9.get 2 rfl) rfl
                    have g3 := cell_at (k := 2) (v := .bool true) (hW9.get 2 rfl) rfl
                    have g4 := cell_at (k := 3) (v := .int .i64 n) (hW9.get 2 rfl) rfl
                    simp only at g0 g1 g2 g3 g4
                    go_simp
                    first
                      | with_reducible rfl
                      | (go_at_call 13; exact (HCk.out _).mono (fun _ _ h => ⟨h.1, hW9.later h.2⟩))
                  simp only [Act.put, List.setIfInBounds_toArray, List.set_cons_zero, List.set_cons_succ]
                  go_big_quiet_on)))
        refine wpQuiet_nil ?_
        intro W9 hW9
        have b6 := hW9.get 0 rfl
        have b3 := hW9.get 1 rfl
        simp only at b6 b3
        have HN := Lib.hid (hW9.put3 (c' := recCells Y) hP3n (by omega))
        clear hW9
        go_wp2_with (first
          | (refine wpList_load_row rfl 26 (.tmp 6) rfl P6 rfl 26 (recCells Y) (0, 0) _ b6 Try.underlying26 rfl (size_rec Y) ?_)
          | (refine wpList_store_row rfl 26 (.tmp 3) (.tmp 63) rfl P3 (recCells Y) rfl rfl 26 _ b3 (size_rec Y) (like_two X Y) (one_rec Y) ?_))
        go_roundw
        case rel => exact ⟨k + 1, by go_num, by omega, by rw [HYe.out]; exact HN.out⟩
        case measure => simp [intOf]; omega
    · obtain rfl : k = 5 := by omega
      have bwheapsize := HS.out.get 1 rfl
      simp only at bwheapsize
      go_wp2_with (first
        | (refine wpList_load_row rfl 26 (.tmp 1) rfl w.heap.size rfl 26 (recCells ⟨g, 0, true, n, f, i0, i1⟩) (0, 0) _ bwheapsize Try.underlying26 rfl (size_rec ⟨g, 0, true, n, f, i0, i1⟩) ?_))
      clear bwheapsize
      refine (HCo.out _).mono ?_
      rintro e W31 ⟨rfl, hb⟩
      replace HS := Lib.hid (HS.out.later hb)
      clear hb
      obtain ⟨P8, hP8⟩ : ∃ P, W31.heap.size = P := ⟨_, rfl⟩
      replace HS := Lib.hid (HS.out.alloc hP8 (recCells Y0) 26)
      have bP8 := HS.out.get 0 rfl
      simp only at bP8
      go_wp2_with (first
        | (refine wpList_store_new rfl 26 (.tmp 8) (.tmp 68) rfl P8 (recCells Y0) rfl rfl 26 _ hP8.symm (size_rec Y0) (like_rec Y0) (one_rec Y0) ?_)
        | (refine wpList_load_row rfl 26 (.tmp 8) rfl P8 rfl 26 (recCells Y0) (0, 0) _ bP8 Try.underlying26 rfl (size_rec Y0) ?_))
      clear bP8
      refine (HSc.out _).mono ?_
      rintro e W32 ⟨rfl, hb⟩
      replace HS := Lib.hid (HS.out.later hb)
      clear hb
      obtain ⟨P11, hP11⟩ : ∃ P, W32.heap.size = P := ⟨_, rfl⟩
      replace HS := Lib.hid (HS.out.alloc hP11 (recCells Y0) 26)
      go_wp2_with (first
        | (refine wpList_store_new rfl 26 (.tmp 11) (.tmp 79) rfl P11 (recCells Y0) rfl rfl 26 _ hP11.symm (size_rec Y0) (like_rec Y0) (one_rec Y0) ?_))
      try simp only [List.append_eq, List.cons_append, List.nil_append]
      refine wp_region_quiet (C := fun W => LS w [(P11, (recCells Y0), 26), (P8, (recCells Y0), 26), (P3, (recCells (RecM.nowAt ⟨g, 0, true, n, f, i0, i1⟩ 5)), 26), (w.heap.size, (recCells ⟨g, 0, true, n, f, i0, i1⟩), 26)] W) (by kernel_rfl) (by kernel_rfl) HS.out.drew ?_
      clear HS
      dsimp only
      repeat (first
        | go_big_quiet_skip
        | (go_big_quiet_want
           first
             | (refine quiet_row 26 (.tmp 11) rfl P11 rfl 26 (recCells Y0) (0, 0) _ (fun W hW => hW.get 0 rfl) Try.underlying26 rfl (size_rec Y0) ?_
                simp only [Act.put, List.setIfInBounds_toArray, List.set_cons_zero, List.set_cons_succ]
                go_big_quiet_on)
             | (refine quiet_row 26 (.tmp 8) rfl P8 rfl 26 (recCells Y0) (0, 0) _ (fun W hW => hW.get 1 rfl) Try.underlying26 rfl (size_rec Y0) ?_
                simp only [Act.put, List.setIfInBounds_toArray, List.set_cons_zero, List.set_cons_succ]
                go_big_quiet_on)
             | (go_big_quiet_op
                go_big_quiet_on)
             | (unfold Oper.quiet
                apply Exists.intro
                refine ⟨fun W9 hW9 => ?_, ?_⟩
                · have g0 := cell_at (k := 1) (v := .int .i64 0) (hW9.get 3 rfl) rfl
                  have g1 := cell_at (k := 4) (v := .int .i64 Y0.floor) (hW9.get 1 rfl) rfl
                  have g2 := cell_at (k := 4) (v := .int .i64 f) (hW9.get 3 rfl) rfl
                  have g3 := cell_at (k := 8) (v := .int .i64 Y0.i1.ver) (hW9.get 1 rfl) rfl
                  simp only at g0 g1 g2 g3
                  go_simp
                  first
                    | with_reducible rfl
                    | (go_at_call 13; exact (HCc.out _).mono (fun _ _ h => ⟨h.1, hW9.later h.2⟩))
                simp only [Act.put, List.setIfInBounds_toArray, List.set_cons_zero, List.set_cons_succ]
                go_big_quiet_on)))
      refine wpQuiet_nil ?_
      intro W9 hW9
      go_wp2_with fail
      go_ret
      exact ⟨rfl, hW9.below⟩

set_option maxRecDepth 100000 in
set_option maxHeartbeats 3000000 in
theorem starts_t1 (g n f : Int) (i0 i1 : InfR) (h : RecM.check ⟨g, 1, true, n, f, i0, i1⟩ = 0) (w : World) : Calls Try.prog 5 #[recV ⟨g, 1, true, n, f, i0, i1⟩] w fun e w' => e = .returned (.bool true) ∧ Below w.heap.size w w' := by
  have HC := Lib.hid (fun k => RecM.now_facts h k)
  have HSl := Lib.hid (fun k => RecM.slot_at h k)
  have HOr : Hid (∀ k, RecM.slot (RecM.nowAt ⟨g, 1, true, n, f, i0, i1⟩ k) = 1 ∨ RecM.slot (RecM.nowAt ⟨g, 1, true, n, f, i0, i1⟩ k) = 0) := fun k => by
    obtain ⟨-, e2, -⟩ := RecM.nowAt_fields ⟨g, 1, true, n, f, i0, i1⟩ k
    have e2' : (RecM.nowAt ⟨g, 1, true, n, f, i0, i1⟩ k).act = 1 := e2
    unfold RecM.slot
    split
    · right
      omega
    · left
      exact e2'
  have hnn := RecM.check_nums h
  simp only at hnn
  have hw0 : IntKind.i64.wrap 0 = 0 := IntWalk.i64_in _ (by omega)
  have hw1 : IntKind.i64.wrap 1 = 1 := IntWalk.i64_in _ (by omega)
  have HCk0 : Hid (∀ W, Calls Try.prog 13 #[.agg (recCells ⟨g, 1, true, n, f, i0, i1⟩)] W fun e w' => e = .returned (.int .i64 0) ∧ Below W.heap.size W w') := fun W => by
    have := checkR_any ⟨g, 1, true, n, f, i0, i1⟩ W
    rw [h] at this
    exact this
  obtain ⟨Y0, hY0⟩ : ∃ Y, RecM.conf ⟨g, 1, true, n, f, i0, i1⟩ = Y := ⟨_, rfl⟩
  have HCo : Hid (∀ W, Calls Try.prog 9 #[.agg (recCells ⟨g, 1, true, n, f, i0, i1⟩)] W fun e w' => e = .returned (.tuple #[.agg (recCells Y0), .int .i64 0]) ∧ Below W.heap.size W w') := fun W => by
    have := confR_any ⟨g, 1, true, n, f, i0, i1⟩ W
    rw [RecM.confOf_ok h rfl, hY0] at this
    exact this
  have HSc : Hid (∀ W, Calls Try.prog 8 #[.agg (recCells Y0)] W fun e w' => e = .returned (.tuple #[.int .i64 0, .agg (recCells Y0), .int .i64 0]) ∧ Below W.heap.size W w') := fun W => by
    have := startR_any Y0 W
    rw [← hY0, RecM.conf_starts h rfl, hY0] at this
    exact this
  have HCc : Hid (∀ W, Calls Try.prog 13 #[.agg (recCells Y0)] W fun e w' => e = .returned (.int .i64 0) ∧ Below W.heap.size W w') := fun W => by
    have := checkR_any Y0 W
    rw [← hY0, RecM.conf_ok h rfl, hY0] at this
    exact this
  have hfl := RecM.conf_floor ⟨g, 1, true, n, f, i0, i1⟩
  rw [hY0] at hfl
  have hf1 : f ≤ Y0.floor := hfl.1
  have hf2 : Y0.i0.ver ≤ Y0.floor := hfl.2
  have eqY : ∀ W, (binOp .eql 26 (.agg (recCells Y0)) (.agg (recCells Y0))).run Try.prog W = .ok (.bool true) W := fun W => by
    have := rec_eql Y0 Y0 W
    rw [decide_eq_true rfl] at this
    exact this
  clear hfl hY0
  clear h
  have HK : Hid (∀ W, Calls Try.prog 12 #[] W fun e w' => e = .returned (.bool true) ∧ Below W.heap.size W w') := fun W => kept_any W
  have HS := Lib.hid ((LS.start w).alloc rfl (recCells ⟨g, 1, true, n, f, i0, i1⟩) 26)
  have HV : Hid (∀ x, recV x = .agg (recCells x)) := fun _ => rfl
  rw [HV.out]
  go_enter Try.func5, Try.ntmps5
  go_wp2_with fail
  refine (HK.out _).mono ?_
  rintro e W1 ⟨rfl, hb⟩
  replace HS := Lib.hid (HS.out.later hb)
  clear hb
  have bwheapsize := HS.out.get 0 rfl
  simp only at bwheapsize
  go_wp2_with (first
    | (refine wpList_load_want (by rfl) 26 (.tmp 1) rfl w.heap.size rfl 26 (recCells ⟨g, 1, true, n, f, i0, i1⟩) (0, 0) _ bwheapsize Try.underlying26 rfl (size_rec ⟨g, 1, true, n, f, i0, i1⟩) ?_))
  clear bwheapsize
  refine (HCk0.out _).mono ?_
  rintro e W2 ⟨rfl, hb⟩
  replace HS := Lib.hid (HS.out.later hb)
  clear hb
  have B0 := Lib.hid (HS.out.get 0 rfl)
  have HS0 := HS
  obtain ⟨P3, hP3⟩ : ∃ P, W2.heap.size = P := ⟨_, rfl⟩
  replace HS := Lib.hid (HS.out.alloc hP3 (recCells ⟨g, 1, true, n, f, i0, i1⟩) 26)
  have hP3l : w.heap.size < P3 := by
    have := blk_ltQ (HS0.out.get 0 rfl)
    simp only at this
    omega
  have hP3n : w.heap.size ≠ P3 := by omega
  clear HS0
  have b1 := HS.out.get 1 rfl
  simp only at b1
  have b0 : W2.heap[w.heap.size]? = some (.cells (recCells ⟨g, 1, true, n, f, i0, i1⟩) 26 (0, 0)) := B0.out
  go_wp2_with (first
    | (refine wpList_store_new rfl 26 (.tmp 3) (.tmp 20) rfl P3 (recCells ⟨g, 1, true, n, f, i0, i1⟩) rfl rfl 26 _ hP3.symm (size_rec ⟨g, 1, true, n, f, i0, i1⟩) (like_rec ⟨g, 1, true, n, f, i0, i1⟩) (one_rec ⟨g, 1, true, n, f, i0, i1⟩) ?_)
    | (refine wpList_load_row rfl 26 (.tmp 1) rfl w.heap.size rfl 26 (recCells ⟨g, 1, true, n, f, i0, i1⟩) (0, 0) _ b0 Try.underlying26 rfl (size_rec ⟨g, 1, true, n, f, i0, i1⟩) ?_))
  clear b0 b1 B0
  go_loopw [21] (fun i wr => StaRel w P3 ⟨g, 1, true, n, f, i0, i1⟩ i wr) (fun i _ => 5 - (intOf i).toNat)
  case atStart => exact ⟨0, rfl, by omega, HS.out⟩
  case round =>
    obtain ⟨k, rfl, hk, hls⟩ := hrel
    have HS := Lib.hid hls
    clear hls
    by_cases hlt : k < 5
    · obtain ⟨nf1, nf2, nf3⟩ := HC.out k
      have hsa := HSl.out k
      obtain ⟨Y, hY⟩ : ∃ Y, RecM.nowAt ⟨g, 1, true, n, f, i0, i1⟩ (k + 1) = Y := ⟨_, rfl⟩
      have HYe := Lib.hid hY
      rw [hY] at nf1 nf2 nf3
      obtain ⟨X, hX⟩ : ∃ X, RecM.nowAt ⟨g, 1, true, n, f, i0, i1⟩ k = X := ⟨_, rfl⟩
      have hor := HOr.out k
      rw [hX] at nf1 nf3 hsa HS hor
      clear hX hY
      try simp only at hsa nf3
      by_cases hge : n ≤ (k : Int)
      · have hsl : RecM.slot X = 1 := hsa.2 (.inr hge)
        have hge2 : decide (n ≤ (k : Int)) = true := by simp; omega
        clear hsa hor
        have HSt : Hid (∀ W, Calls Try.prog 8 #[.agg (recCells X)] W fun e w' => e = .returned (.tuple #[.int .i64 1, .agg (recCells Y), .int .i64 0]) ∧ Below W.heap.size W w') := fun W => by
          have := startR_any X W
          rw [nf1, hsl] at this
          exact this
        have HCk : Hid (∀ W, Calls Try.prog 13 #[.agg (recCells Y)] W fun e w' => e = .returned (.int .i64 0) ∧ Below W.heap.size W w') := fun W => by
          have := checkR_any Y W
          rw [nf2] at this
          exact this
        have hv : decide (Y.i1.ver < f) = false := by
          rw [hsl] at nf3
          have nf4 : f ≤ Y.i1.ver := nf3
          simp
          omega
        clear nf1 nf2 nf3 hsl
        have bP3 := HS.out.get 0 rfl
        simp only at bP3
        go_wp2_with (first
          | (refine wpList_load_row rfl 26 (.tmp 3) rfl P3 rfl 26 (recCells X) (0, 0) _ bP3 Try.underlying26 rfl (size_rec X) ?_))
        clear bP3
        refine (HSt.out _).mono ?_
        rintro e W21 ⟨rfl, hb⟩
        replace HS := Lib.hid (HS.out.later hb)
        clear hb
        obtain ⟨P6, hP6⟩ : ∃ P, W21.heap.size = P := ⟨_, rfl⟩
        replace HS := Lib.hid (HS.out.alloc hP6 (recCells Y) 26)
        go_wp2_with (first
          | (refine wpList_store_new rfl 26 (.tmp 6) (.tmp 28) rfl P6 (recCells Y) rfl rfl 26 _ hP6.symm (size_rec Y) (like_rec Y) (one_rec Y) ?_))
        try simp only [List.append_eq, List.cons_append, List.nil_append]
        refine wp_region_quiet (C := fun W => LS w [(P6, (recCells Y), 26), (P3, (recCells X), 26), (w.heap.size, (recCells ⟨g, 1, true, n, f, i0, i1⟩), 26)] W) (by kernel_rfl) (by kernel_rfl) HS.out.drew ?_
        clear HS
        dsimp only
        repeat (first
          | go_big_quiet_skip
          | (go_big_quiet_want
             first
               | (refine quiet_row 26 (.tmp 6) rfl P6 rfl 26 (recCells Y) (0, 0) _ (fun W hW => hW.get 0 rfl) Try.underlying26 rfl (size_rec Y) ?_
                  simp only [Act.put, List.setIfInBounds_toArray, List.set_cons_zero, List.set_cons_succ]
                  go_big_quiet_on)
               | (go_big_quiet_op
                  go_big_quiet_on)
               | (unfold Oper.quiet
                  apply Exists.intro
                  refine ⟨fun W9 hW9 => ?_, ?_⟩
                  · have g0 := cell_at (k := 8) (v := .int .i64 Y.i1.ver) (hW9.get 0 rfl) rfl
                    have g1 := cell_at (k := 4) (v := .int .i64 f) (hW9.get 2 rfl) rfl
                    have g2 := cell_at (k := 1) (v := .int .i64 1) (hW9.get 2 rfl) rfl
                    have g3 := cell_at (k := 2) (v := .bool true) (hW9.get 2 rfl) rfl
                    have g4 := cell_at (k := 3) (v := .int .i64 n) (hW9.get 2 rfl) rfl
                    simp only at g0 g1 g2 g3 g4
                    go_simp
                    first
                      | with_reducible rfl
                      | (go_at_call 13; exact (HCk.out _).mono (fun _ _ h => ⟨h.1, hW9.later h.2⟩))
                  simp only [Act.put, List.setIfInBounds_toArray, List.set_cons_zero, List.set_cons_succ]
                  go_big_quiet_on)))
        refine wpQuiet_nil ?_
        intro W9 hW9
        have b6 := hW9.get 0 rfl
        have b3 := hW9.get 1 rfl
        simp only at b6 b3
        have HN := Lib.hid (hW9.put3 (c' := recCells Y) hP3n (by omega))
        clear hW9
        go_wp2_with (first
          | (refine wpList_load_row rfl 26 (.tmp 6) rfl P6 rfl 26 (recCells Y) (0, 0) _ b6 Try.underlying26 rfl (size_rec Y) ?_)
          | (refine wpList_store_row rfl 26 (.tmp 3) (.tmp 63) rfl P3 (recCells Y) rfl rfl 26 _ b3 (size_rec Y) (like_two X Y) (one_rec Y) ?_))
        go_roundw
        case rel => exact ⟨k + 1, by go_num, by omega, by rw [HYe.out]; exact HN.out⟩
        case measure => simp [intOf]; omega
      · have hsl : RecM.slot X = 0 := by
          rcases hor with q | q
          · exact absurd (hsa.1 q) (by simp; omega)
          · exact q
        have hge2 : decide (n ≤ (k : Int)) = false := by simp; omega
        clear hsa hor
        have HSt : Hid (∀ W, Calls Try.prog 8 #[.agg (recCells X)] W fun e w' => e = .returned (.tuple #[.int .i64 0, .agg (recCells Y), .int .i64 0]) ∧ Below W.heap.size W w') := fun W => by
          have := startR_any X W
          rw [nf1, hsl] at this
          exact this
        have HCk : Hid (∀ W, Calls Try.prog 13 #[.agg (recCells Y)] W fun e w' => e = .returned (.int .i64 0) ∧ Below W.heap.size W w') := fun W => by
          have := checkR_any Y W
          rw [nf2] at this
          exact this
        have hv : decide (Y.i0.ver < f) = false := by
          rw [hsl] at nf3
          have nf4 : f ≤ Y.i0.ver := nf3
          simp
          omega
        clear nf1 nf2 nf3 hsl
        have bP3 := HS.out.get 0 rfl
        simp only at bP3
        go_wp2_with (first
          | (refine wpList_load_row rfl 26 (.tmp 3) rfl P3 rfl 26 (recCells X) (0, 0) _ bP3 Try.underlying26 rfl (size_rec X) ?_))
        clear bP3
        refine (HSt.out _).mono ?_
        rintro e W21 ⟨rfl, hb⟩
        replace HS := Lib.hid (HS.out.later hb)
        clear hb
        obtain ⟨P6, hP6⟩ : ∃ P, W21.heap.size = P := ⟨_, rfl⟩
        replace HS := Lib.hid (HS.out.alloc hP6 (recCells Y) 26)
        go_wp2_with (first
          | (refine wpList_store_new rfl 26 (.tmp 6) (.tmp 28) rfl P6 (recCells Y) rfl rfl 26 _ hP6.symm (size_rec Y) (like_rec Y) (one_rec Y) ?_))
        try simp only [List.append_eq, List.cons_append, List.nil_append]
        refine wp_region_quiet (C := fun W => LS w [(P6, (recCells Y), 26), (P3, (recCells X), 26), (w.heap.size, (recCells ⟨g, 1, true, n, f, i0, i1⟩), 26)] W) (by kernel_rfl) (by kernel_rfl) HS.out.drew ?_
        clear HS
        dsimp only
        repeat (first
          | go_big_quiet_skip
          | (go_big_quiet_want
             first
               | (refine quiet_row 26 (.tmp 6) rfl P6 rfl 26 (recCells Y) (0, 0) _ (fun W hW => hW.get 0 rfl) Try.underlying26 rfl (size_rec Y) ?_
                  simp only [Act.put, List.setIfInBounds_toArray, List.set_cons_zero, List.set_cons_succ]
                  go_big_quiet_on)
               | (go_big_quiet_op
                  go_big_quiet_on)
               | (unfold Oper.quiet
                  apply Exists.intro
                  refine ⟨fun W9 hW9 => ?_, ?_⟩
                  · have g0 := cell_at (k := 5) (v := .int .i64 Y.i0.ver) (hW9.get 0 rfl) rfl
                    have g1 := cell_at (k := 4) (v := .int .i64 f) (hW9.get 2 rfl) rfl
                    have g2 := cell_at (k := 1) (v := .int .i64 1) (hW9.get 2 rfl) rfl
                    have g3 := cell_at (k := 2) (v := .bool true) (hW9.get 2 rfl) rfl
                    have g4 := cell_at (k := 3) (v := .int .i64 n) (hW9.get 2 rfl) rfl
                    simp only at g0 g1 g2 g3 g4
                    go_simp
                    first
                      | with_reducible rfl
                      | (go_at_call 13; exact (HCk.out _).mono (fun _ _ h => ⟨h.1, hW9.later h.2⟩))
                  simp only [Act.put, List.setIfInBounds_toArray, List.set_cons_zero, List.set_cons_succ]
                  go_big_quiet_on)))
        refine wpQuiet_nil ?_
        intro W9 hW9
        have b6 := hW9.get 0 rfl
        have b3 := hW9.get 1 rfl
        simp only at b6 b3
        have HN := Lib.hid (hW9.put3 (c' := recCells Y) hP3n (by omega))
        clear hW9
        go_wp2_with (first
          | (refine wpList_load_row rfl 26 (.tmp 6) rfl P6 rfl 26 (recCells Y) (0, 0) _ b6 Try.underlying26 rfl (size_rec Y) ?_)
          | (refine wpList_store_row rfl 26 (.tmp 3) (.tmp 63) rfl P3 (recCells Y) rfl rfl 26 _ b3 (size_rec Y) (like_two X Y) (one_rec Y) ?_))
        go_roundw
        case rel => exact ⟨k + 1, by go_num, by omega, by rw [HYe.out]; exact HN.out⟩
        case measure => simp [intOf]; omega
    · obtain rfl : k = 5 := by omega
      have bwheapsize := HS.out.get 1 rfl
      simp only at bwheapsize
      go_wp2_with (first
        | (refine wpList_load_row rfl 26 (.tmp 1) rfl w.heap.size rfl 26 (recCells ⟨g, 1, true, n, f, i0, i1⟩) (0, 0) _ bwheapsize Try.underlying26 rfl (size_rec ⟨g, 1, true, n, f, i0, i1⟩) ?_))
      clear bwheapsize
      refine (HCo.out _).mono ?_
      rintro e W31 ⟨rfl, hb⟩
      replace HS := Lib.hid (HS.out.later hb)
      clear hb
      obtain ⟨P8, hP8⟩ : ∃ P, W31.heap.size = P := ⟨_, rfl⟩
      replace HS := Lib.hid (HS.out.alloc hP8 (recCells Y0) 26)
      have bP8 := HS.out.get 0 rfl
      simp only at bP8
      go_wp2_with (first
        | (refine wpList_store_new rfl 26 (.tmp 8) (.tmp 68) rfl P8 (recCells Y0) rfl rfl 26 _ hP8.symm (size_rec Y0) (like_rec Y0) (one_rec Y0) ?_)
        | (refine wpList_load_row rfl 26 (.tmp 8) rfl P8 rfl 26 (recCells Y0) (0, 0) _ bP8 Try.underlying26 rfl (size_rec Y0) ?_))
      clear bP8
      refine (HSc.out _).mono ?_
      rintro e W32 ⟨rfl, hb⟩
      replace HS := Lib.hid (HS.out.later hb)
      clear hb
      obtain ⟨P11, hP11⟩ : ∃ P, W32.heap.size = P := ⟨_, rfl⟩
      replace HS := Lib.hid (HS.out.alloc hP11 (recCells Y0) 26)
      go_wp2_with (first
        | (refine wpList_store_new rfl 26 (.tmp 11) (.tmp 79) rfl P11 (recCells Y0) rfl rfl 26 _ hP11.symm (size_rec Y0) (like_rec Y0) (one_rec Y0) ?_))
      try simp only [List.append_eq, List.cons_append, List.nil_append]
      refine wp_region_quiet (C := fun W => LS w [(P11, (recCells Y0), 26), (P8, (recCells Y0), 26), (P3, (recCells (RecM.nowAt ⟨g, 1, true, n, f, i0, i1⟩ 5)), 26), (w.heap.size, (recCells ⟨g, 1, true, n, f, i0, i1⟩), 26)] W) (by kernel_rfl) (by kernel_rfl) HS.out.drew ?_
      clear HS
      dsimp only
      repeat (first
        | go_big_quiet_skip
        | (go_big_quiet_want
           first
             | (refine quiet_row 26 (.tmp 11) rfl P11 rfl 26 (recCells Y0) (0, 0) _ (fun W hW => hW.get 0 rfl) Try.underlying26 rfl (size_rec Y0) ?_
                simp only [Act.put, List.setIfInBounds_toArray, List.set_cons_zero, List.set_cons_succ]
                go_big_quiet_on)
             | (refine quiet_row 26 (.tmp 8) rfl P8 rfl 26 (recCells Y0) (0, 0) _ (fun W hW => hW.get 1 rfl) Try.underlying26 rfl (size_rec Y0) ?_
                simp only [Act.put, List.setIfInBounds_toArray, List.set_cons_zero, List.set_cons_succ]
                go_big_quiet_on)
             | (go_big_quiet_op
                go_big_quiet_on)
             | (unfold Oper.quiet
                apply Exists.intro
                refine ⟨fun W9 hW9 => ?_, ?_⟩
                · have g0 := cell_at (k := 1) (v := .int .i64 1) (hW9.get 3 rfl) rfl
                  have g1 := cell_at (k := 4) (v := .int .i64 Y0.floor) (hW9.get 1 rfl) rfl
                  have g2 := cell_at (k := 4) (v := .int .i64 f) (hW9.get 3 rfl) rfl
                  have g3 := cell_at (k := 5) (v := .int .i64 Y0.i0.ver) (hW9.get 1 rfl) rfl
                  simp only at g0 g1 g2 g3
                  go_simp
                  first
                    | with_reducible rfl
                    | (go_at_call 13; exact (HCc.out _).mono (fun _ _ h => ⟨h.1, hW9.later h.2⟩))
                simp only [Act.put, List.setIfInBounds_toArray, List.set_cons_zero, List.set_cons_succ]
                go_big_quiet_on)))
      refine wpQuiet_nil ?_
      intro W9 hW9
      go_wp2_with fail
      go_ret
      exact ⟨rfl, hW9.below⟩
end Go.Proofs.Ytmpmaljkmfgagac
