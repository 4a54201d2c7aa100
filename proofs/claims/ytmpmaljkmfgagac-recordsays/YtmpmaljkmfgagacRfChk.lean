/-
  Contract of the reference's CheckRecord.
-/
import Derived.Test.YtmpmaljkmfgagacRecChk
import Derived.Test.YtmpmaljkmfgagacInRef
namespace Go.Proofs.Ytmpmaljkmfgagac
open Go.RowKit

set_option maxRecDepth 100000 in
set_option maxHeartbeats 4000000 in
theorem checkRef_any (r : RecR) (w : World) :
    Calls Try.prog 10 #[recV r] w fun e w' => e = .returned (.int .i64 (RecM.check r)) ∧ Below w.heap.size w w' := by
  have HBad : Hid (RecM.badNums r → RecM.check r = 2) := by
    show _ → _
    intro h
    unfold RecM.check
    rw [if_pos h]
  have HOn : Hid (¬ RecM.badNums r → RecM.check r = if RecM.infErr r.i0 ≠ 0 then RecM.infErr r.i0 else if RecM.infErr r.i1 ≠ 0 then RecM.infErr r.i1 else if RecM.badRec r then 3 else 0) := by
    show _ → _
    intro h
    unfold RecM.check
    rw [if_neg h]
  obtain ⟨g, a, tr, n, f, ⟨v0, s0, u0⟩, ⟨v1, s1, u1⟩⟩ := r
  simp only [recV]
  simp only at HOn
  have HB := Lib.hid ((Below.refl w.heap.size w).alloc (Nat.le_refl _) (.cells #[.int .i64 g, .int .i64 a, .bool tr, .int .i64 n, .int .i64 f, .int .i64 v0, .int .i64 s0, .int .i64 u0, .int .i64 v1, .int .i64 s1, .int .i64 u1] 26))
  have i0 : ∀ w : World, (Instr.index 24 (.agg #[.int .i64 v0, .int .i64 s0, .int .i64 u0, .int .i64 v1, .int .i64 s1, .int .i64 u1]) (.int .i64 0)).run Try.prog w = .ok (.agg #[.int .i64 v0, .int .i64 s0, .int .i64 u0]) w := fun _ => by kernel_rfl
  have i1 : ∀ w : World, (Instr.index 24 (.agg #[.int .i64 v0, .int .i64 s0, .int .i64 u0, .int .i64 v1, .int .i64 s1, .int .i64 u1]) (.int .i64 1)).run Try.prog w = .ok (.agg #[.int .i64 v1, .int .i64 s1, .int .i64 u1]) w := fun _ => by kernel_rfl
  go_enter Try.func10, Try.ntmps10
  go_wp2_with fail
  refine (in_any g 1 1000000 _).mono ?_
  rintro e w' ⟨rfl, rfl⟩
  by_cases c1 : 1 ≤ g ∧ g ≤ 1000000
  · rw [decide_eq_true c1]
    go_wp2_with fail
    refine (in_any a 0 1 _).mono ?_
    rintro e w' ⟨rfl, rfl⟩
    by_cases c2 : 0 ≤ a ∧ a ≤ 1
    · rw [decide_eq_true c2]
      go_wp2_with fail
      refine (in_any n 0 3 _).mono ?_
      rintro e w' ⟨rfl, rfl⟩
      by_cases c3 : 0 ≤ n ∧ n ≤ 3
      · rw [decide_eq_true c3]
        go_wp2_with fail
        refine (in_any f 1 30 _).mono ?_
        rintro e w' ⟨rfl, rfl⟩
        by_cases c4 : 1 ≤ f ∧ f ≤ 30
        · rw [decide_eq_true c4]
          replace HOn := Lib.hid (HOn.out (by unfold RecM.badNums; simp only; omega))
          go_wp2_with fail
          go_loopw [31] (fun i wr => RchkRel w ⟨g, a, tr, n, f, ⟨v0, s0, u0⟩, ⟨v1, s1, u1⟩⟩ i wr) (fun i _ => 2 - (intOf i).toNat)
          case atStart => exact ⟨0, rfl, by omega, by omega, by omega, by rw [heap_at, if_pos rfl]; rfl, HB.out⟩
          case round =>
            obtain ⟨k, rfl, hk, h0, h1, hblk, hbel⟩ := hrel
            have HBk := Lib.hid hblk
            have HBl := Lib.hid hbel
            have H0 := Lib.hid h0
            have H1 := Lib.hid h1
            clear hblk hbel h0 h1
            rcases (by omega : k = 0 ∨ k = 1 ∨ k = 2) with rfl | rfl | rfl
            · have hbl : Below wr.heap.size wr (wr.alloc (.cells #[.int .i64 v0, .int .i64 s0, .int .i64 u0] 23)) := (Below.refl _ _).alloc (Nat.le_refl _) _
              have HB3 := Lib.hid (bel_then HBl.out hbl)
              have HBk3 := Lib.hid ((hbl.block _ (blk_ltQ HBk.out)).trans HBk.out)
              have HBd : Hid (RecM.badInf ⟨v0, s0, u0⟩ → RecM.infErr ⟨v0, s0, u0⟩ = 2) := by
                show _ → _
                intro h
                unfold RecM.infErr
                rw [if_pos h]
              clear hbl
              go_wp2_with fail
              refine (in_any v0 0 30 _).mono ?_
              rintro e w' ⟨rfl, rfl⟩
              by_cases d1 : 0 ≤ v0 ∧ v0 ≤ 30
              · rw [decide_eq_true d1]
                go_wp2_with fail
                refine (in_any s0 0 64 _).mono ?_
                rintro e w' ⟨rfl, rfl⟩
                by_cases d2 : 0 ≤ s0 ∧ s0 ≤ 64
                · rw [decide_eq_true d2]
                  go_wp2_with fail
                  refine (in_any u0 0 65535 _).mono ?_
                  rintro e w' ⟨rfl, rfl⟩
                  by_cases d3 : 0 ≤ u0 ∧ u0 ≤ 65535
                  · rw [decide_eq_true d3]
                    have HG : Hid (RecM.infErr ⟨v0, s0, u0⟩ = if v0 = 0 ∧ (s0 ≠ 0 ∨ u0 ≠ 0) then 3 else 0) := by
                      show _ = _
                      unfold RecM.infErr
                      rw [if_neg]
                      unfold RecM.badInf
                      simp only
                      omega
                    by_cases d4 : v0 = 0
                    · have t4 : (v0 == 0) = true := by simp [d4]
                      by_cases d5 : 0 < s0
                      · have HI := Lib.hid (HG.out.trans (if_pos ⟨d4, .inl (by omega)⟩))
                        clear d4
                        have HE : Hid (RecM.check ⟨g, a, tr, n, f, ⟨v0, s0, u0⟩, ⟨v1, s1, u1⟩⟩ = 3) := by
                          show _ = _
                          have hE : RecM.infErr ⟨v0, s0, u0⟩ = 3 := HI.out
                          rw [HOn.out, if_pos (by rw [hE]; decide), hE]
                        go_wp2_with fail
                        go_ret
                        exact ⟨ret_i HE.out.symm, HB3.out⟩
                      · have t5 : decide (0 < s0) = false := by simp; omega
                        by_cases d6 : 0 < u0
                        · have HI := Lib.hid (HG.out.trans (if_pos ⟨d4, .inr (by omega)⟩))
                          clear d4
                          have HE : Hid (RecM.check ⟨g, a, tr, n, f, ⟨v0, s0, u0⟩, ⟨v1, s1, u1⟩⟩ = 3) := by
                            show _ = _
                            have hE : RecM.infErr ⟨v0, s0, u0⟩ = 3 := HI.out
                            rw [HOn.out, if_pos (by rw [hE]; decide), hE]
                          go_wp2_with fail
                          go_ret
                          exact ⟨ret_i HE.out.symm, HB3.out⟩
                        · have t6 : decide (0 < u0) = false := by simp; omega
                          have HI := Lib.hid (HG.out.trans (if_neg (by omega)))
                          clear d4
                          have HE0 : Hid (RecM.infErr ⟨v0, s0, u0⟩ = 0) := HI.out
                          go_wp2_with fail
                          go_roundw
                          case rel => exact ⟨1, by go_num, by omega, fun _ => HE0.out, fun q => absurd q (by omega), HBk3.out, HB3.out⟩
                          case measure => simp [intOf]
                    · have t4 : (v0 == 0) = false := by simp [d4]
                      have HI := Lib.hid (HG.out.trans (if_neg (fun q => d4 q.1)))
                      have HE0 : Hid (RecM.infErr ⟨v0, s0, u0⟩ = 0) := HI.out
                      go_wp2_with fail
                      go_roundw
                      case rel => exact ⟨1, by go_num, by omega, fun _ => HE0.out, fun q => absurd q (by omega), HBk3.out, HB3.out⟩
                      case measure => simp [intOf]
                  · rw [decide_eq_false d3]
                    have HI := Lib.hid (HBd.out (.inr (.inr d3)))
                    have HE : Hid (RecM.check ⟨g, a, tr, n, f, ⟨v0, s0, u0⟩, ⟨v1, s1, u1⟩⟩ = 2) := by
                      show _ = _
                      have hE : RecM.infErr ⟨v0, s0, u0⟩ = 2 := HI.out
                      rw [HOn.out, if_pos (by rw [hE]; decide), hE]
                    go_wp2_with fail
                    go_ret
                    exact ⟨ret_i HE.out.symm, HB3.out⟩
                · rw [decide_eq_false d2]
                  have HI := Lib.hid (HBd.out (.inr (.inl d2)))
                  have HE : Hid (RecM.check ⟨g, a, tr, n, f, ⟨v0, s0, u0⟩, ⟨v1, s1, u1⟩⟩ = 2) := by
                    show _ = _
                    have hE : RecM.infErr ⟨v0, s0, u0⟩ = 2 := HI.out
                    rw [HOn.out, if_pos (by rw [hE]; decide), hE]
                  go_wp2_with fail
                  go_ret
                  exact ⟨ret_i HE.out.symm, HB3.out⟩
              · rw [decide_eq_false d1]
                have HI := Lib.hid (HBd.out (.inl d1))
                have HE : Hid (RecM.check ⟨g, a, tr, n, f, ⟨v0, s0, u0⟩, ⟨v1, s1, u1⟩⟩ = 2) := by
                  show _ = _
                  have hE : RecM.infErr ⟨v0, s0, u0⟩ = 2 := HI.out
                  rw [HOn.out, if_pos (by rw [hE]; decide), hE]
                go_wp2_with fail
                go_ret
                exact ⟨ret_i HE.out.symm, HB3.out⟩
            · have hbl : Below wr.heap.size wr (wr.alloc (.cells #[.int .i64 v1, .int .i64 s1, .int .i64 u1] 23)) := (Below.refl _ _).alloc (Nat.le_refl _) _
              have HB3 := Lib.hid (bel_then HBl.out hbl)
              have HBk3 := Lib.hid ((hbl.block _ (blk_ltQ HBk.out)).trans HBk.out)
              have HBd : Hid (RecM.badInf ⟨v1, s1, u1⟩ → RecM.infErr ⟨v1, s1, u1⟩ = 2) := by
                show _ → _
                intro h
                unfold RecM.infErr
                rw [if_pos h]
              clear hbl
              go_wp2_with fail
              refine (in_any v1 0 30 _).mono ?_
              rintro e w' ⟨rfl, rfl⟩
              by_cases d1 : 0 ≤ v1 ∧ v1 ≤ 30
              · rw [decide_eq_true d1]
                go_wp2_with fail
                refine (in_any s1 0 64 _).mono ?_
                rintro e w' ⟨rfl, rfl⟩
                by_cases d2 : 0 ≤ s1 ∧ s1 ≤ 64
                · rw [decide_eq_true d2]
                  go_wp2_with fail
                  refine (in_any u1 0 65535 _).mono ?_
                  rintro e w' ⟨rfl, rfl⟩
                  by_cases d3 : 0 ≤ u1 ∧ u1 ≤ 65535
                  · rw [decide_eq_true d3]
                    have HG : Hid (RecM.infErr ⟨v1, s1, u1⟩ = if v1 = 0 ∧ (s1 ≠ 0 ∨ u1 ≠ 0) then 3 else 0) := by
                      show _ = _
                      unfold RecM.infErr
                      rw [if_neg]
                      unfold RecM.badInf
                      simp only
                      omega
                    by_cases d4 : v1 = 0
                    · have t4 : (v1 == 0) = true := by simp [d4]
                      by_cases d5 : 0 < s1
                      · have HI := Lib.hid (HG.out.trans (if_pos ⟨d4, .inl (by omega)⟩))
                        clear d4
                        have HE : Hid (RecM.check ⟨g, a, tr, n, f, ⟨v0, s0, u0⟩, ⟨v1, s1, u1⟩⟩ = 3) := by
                          show _ = _
                          have hE : RecM.infErr ⟨v1, s1, u1⟩ = 3 := HI.out
                          rw [HOn.out, if_neg (fun q => q (H0.out (by omega))), if_pos (by rw [hE]; decide), hE]
                        go_wp2_with fail
                        go_ret
                        exact ⟨ret_i HE.out.symm, HB3.out⟩
                      · have t5 : decide (0 < s1) = false := by simp; omega
                        by_cases d6 : 0 < u1
                        · have HI := Lib.hid (HG.out.trans (if_pos ⟨d4, .inr (by omega)⟩))
                          clear d4
                          have HE : Hid (RecM.check ⟨g, a, tr, n, f, ⟨v0, s0, u0⟩, ⟨v1, s1, u1⟩⟩ = 3) := by
                            show _ = _
                            have hE : RecM.infErr ⟨v1, s1, u1⟩ = 3 := HI.out
                            rw [HOn.out, if_neg (fun q => q (H0.out (by omega))), if_pos (by rw [hE]; decide), hE]
                          go_wp2_with fail
                          go_ret
                          exact ⟨ret_i HE.out.symm, HB3.out⟩
                        · have t6 : decide (0 < u1) = false := by simp; omega
                          have HI := Lib.hid (HG.out.trans (if_neg (by omega)))
                          clear d4
                          have HE0 : Hid (RecM.infErr ⟨v1, s1, u1⟩ = 0) := HI.out
                          go_wp2_with fail
                          go_roundw
                          case rel => exact ⟨2, by go_num, by omega, fun _ => H0.out (by omega), fun _ => HE0.out, HBk3.out, HB3.out⟩
                          case measure => simp [intOf]
                    · have t4 : (v1 == 0) = false := by simp [d4]
                      have HI := Lib.hid (HG.out.trans (if_neg (fun q => d4 q.1)))
                      have HE0 : Hid (RecM.infErr ⟨v1, s1, u1⟩ = 0) := HI.out
                      go_wp2_with fail
                      go_roundw
                      case rel => exact ⟨2, by go_num, by omega, fun _ => H0.out (by omega), fun _ => HE0.out, HBk3.out, HB3.out⟩
                      case measure => simp [intOf]
                  · rw [decide_eq_false d3]
                    have HI := Lib.hid (HBd.out (.inr (.inr d3)))
                    have HE : Hid (RecM.check ⟨g, a, tr, n, f, ⟨v0, s0, u0⟩, ⟨v1, s1, u1⟩⟩ = 2) := by
                      show _ = _
                      have hE : RecM.infErr ⟨v1, s1, u1⟩ = 2 := HI.out
                      rw [HOn.out, if_neg (fun q => q (H0.out (by omega))), if_pos (by rw [hE]; decide), hE]
                    go_wp2_with fail
                    go_ret
                    exact ⟨ret_i HE.out.symm, HB3.out⟩
                · rw [decide_eq_false d2]
                  have HI := Lib.hid (HBd.out (.inr (.inl d2)))
                  have HE : Hid (RecM.check ⟨g, a, tr, n, f, ⟨v0, s0, u0⟩, ⟨v1, s1, u1⟩⟩ = 2) := by
                    show _ = _
                    have hE : RecM.infErr ⟨v1, s1, u1⟩ = 2 := HI.out
                    rw [HOn.out, if_neg (fun q => q (H0.out (by omega))), if_pos (by rw [hE]; decide), hE]
                  go_wp2_with fail
                  go_ret
                  exact ⟨ret_i HE.out.symm, HB3.out⟩
              · rw [decide_eq_false d1]
                have HI := Lib.hid (HBd.out (.inl d1))
                have HE : Hid (RecM.check ⟨g, a, tr, n, f, ⟨v0, s0, u0⟩, ⟨v1, s1, u1⟩⟩ = 2) := by
                  show _ = _
                  have hE : RecM.infErr ⟨v1, s1, u1⟩ = 2 := HI.out
                  rw [HOn.out, if_neg (fun q => q (H0.out (by omega))), if_pos (by rw [hE]; decide), hE]
                go_wp2_with fail
                go_ret
                exact ⟨ret_i HE.out.symm, HB3.out⟩
            · have hblk := HBk.out
              unfold recCells at hblk
              simp only at hblk
              obtain ⟨q0, q1, q2, q3, q4, q5, q6, q7, q8, q9, q10⟩ := rec_cells hblk
              clear hblk
              replace HOn := Lib.hid ((HOn.out.trans (if_neg (fun q => q (H0.out (by omega))))).trans (if_neg (fun q => q (H1.out (by omega)))))
              rcases (by omega : a = 0 ∨ a = 1) with rfl | rfl
              · have HBR : Hid (RecM.badRec ⟨g, 0, tr, n, f, ⟨v0, s0, u0⟩, ⟨v1, s1, u1⟩⟩ ↔ (v0 < f ∨ (tr = true ∧ v1 < f) ∨ (tr = false ∧ n ≠ 0))) := Iff.rfl
                go_wp2_with fail
                go_quiet (fail)
                have HB4 := Lib.hid (below_drewN HBl.out nq)
                by_cases x1 : v0 < f
                · have HE := Lib.hid (HOn.out.trans (if_pos (HBR.out.2 (.inl x1))))
                  go_wp2_with fail
                  go_ret
                  exact ⟨ret_i HE.out.symm, HB4.out⟩
                · have y1 : decide (v0 < f) = false := by simp; omega
                  cases tr
                  · by_cases x2 : 0 < n
                    · have HE := Lib.hid (HOn.out.trans (if_pos (HBR.out.2 (.inr (.inr ⟨rfl, by omega⟩)))))
                      go_wp2_with fail
                      go_ret
                      exact ⟨ret_i HE.out.symm, HB4.out⟩
                    · have y2 : decide (0 < n) = false := by simp; omega
                      have HE := Lib.hid (HOn.out.trans (if_neg (fun q => by rcases HBR.out.1 q with q | q | q; exact x1 q; exact absurd q.1 (by simp); exact q.2 (by omega))))
                      go_wp2_with fail
                      go_ret
                      exact ⟨ret_i HE.out.symm, HB4.out⟩
                  · by_cases x2 : v1 < f
                    · have HE := Lib.hid (HOn.out.trans (if_pos (HBR.out.2 (.inr (.inl ⟨rfl, x2⟩)))))
                      go_wp2_with fail
                      go_ret
                      exact ⟨ret_i HE.out.symm, HB4.out⟩
                    · have y2 : decide (v1 < f) = false := by simp; omega
                      have HE := Lib.hid (HOn.out.trans (if_neg (fun q => by rcases HBR.out.1 q with q | q | q; exact x1 q; exact x2 q.2; exact absurd q.1 (by simp))))
                      by_cases x3 : 0 < n
                      · go_wp2_with fail
                        go_ret
                        exact ⟨ret_i HE.out.symm, HB4.out⟩
                      · have y3 : decide (0 < n) = false := by simp; omega
                        go_wp2_with fail
                        go_ret
                        exact ⟨ret_i HE.out.symm, HB4.out⟩
              · have HBR : Hid (RecM.badRec ⟨g, 1, tr, n, f, ⟨v0, s0, u0⟩, ⟨v1, s1, u1⟩⟩ ↔ (v1 < f ∨ (tr = true ∧ v0 < f) ∨ (tr = false ∧ n ≠ 0))) := Iff.rfl
                go_wp2_with fail
                go_quiet (fail)
                have HB4 := Lib.hid (below_drewN HBl.out nq)
                by_cases x1 : v1 < f
                · have HE := Lib.hid (HOn.out.trans (if_pos (HBR.out.2 (.inl x1))))
                  go_wp2_with fail
                  go_ret
                  exact ⟨ret_i HE.out.symm, HB4.out⟩
                · have y1 : decide (v1 < f) = false := by simp; omega
                  cases tr
                  · by_cases x2 : 0 < n
                    · have HE := Lib.hid (HOn.out.trans (if_pos (HBR.out.2 (.inr (.inr ⟨rfl, by omega⟩)))))
                      go_wp2_with fail
                      go_ret
                      exact ⟨ret_i HE.out.symm, HB4.out⟩
                    · have y2 : decide (0 < n) = false := by simp; omega
                      have HE := Lib.hid (HOn.out.trans (if_neg (fun q => by rcases HBR.out.1 q with q | q | q; exact x1 q; exact absurd q.1 (by simp); exact q.2 (by omega))))
                      go_wp2_with fail
                      go_ret
                      exact ⟨ret_i HE.out.symm, HB4.out⟩
                  · by_cases x2 : v0 < f
                    · have HE := Lib.hid (HOn.out.trans (if_pos (HBR.out.2 (.inr (.inl ⟨rfl, x2⟩)))))
                      go_wp2_with fail
                      go_ret
                      exact ⟨ret_i HE.out.symm, HB4.out⟩
                    · have y2 : decide (v0 < f) = false := by simp; omega
                      have HE := Lib.hid (HOn.out.trans (if_neg (fun q => by rcases HBR.out.1 q with q | q | q; exact x1 q; exact x2 q.2; exact absurd q.1 (by simp))))
                      by_cases x3 : 0 < n
                      · go_wp2_with fail
                        go_ret
                        exact ⟨ret_i HE.out.symm, HB4.out⟩
                      · have y3 : decide (0 < n) = false := by simp; omega
                        go_wp2_with fail
                        go_ret
                        exact ⟨ret_i HE.out.symm, HB4.out⟩
        · rw [decide_eq_false c4]
          have HE := Lib.hid (HBad.out (.inr (.inr (.inr c4))))
          go_wp2_with fail
          go_ret
          exact ⟨ret_i HE.out.symm, HB.out⟩
      · rw [decide_eq_false c3]
        have HE := Lib.hid (HBad.out (.inr (.inr (.inl c3))))
        go_wp2_with fail
        go_ret
        exact ⟨ret_i HE.out.symm, HB.out⟩
    · rw [decide_eq_false c2]
      have HE := Lib.hid (HBad.out (.inr (.inl c2)))
      go_wp2_with fail
      go_ret
      exact ⟨ret_i HE.out.symm, HB.out⟩
  · rw [decide_eq_false c1]
    have HE := Lib.hid (HBad.out (.inl c1))
    go_wp2_with fail
    go_ret
    exact ⟨ret_i HE.out.symm, HB.out⟩
end Go.Proofs.Ytmpmaljkmfgagac
