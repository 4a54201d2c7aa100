/-
  Contract of the reference's CheckCopies.
-/
import Derived.Test.YtmpmaljkmfgagacRfChk
import Derived.Test.YtmpmaljkmfgagacRecCps
namespace Go.Proofs.Ytmpmaljkmfgagac
open Go.RowKit

theorem copc_cells {W : World} {B : Nat} {v0 v1 v2 v3 v4 v5 v6 v7 v8 v9 v10 v11 : Value} (h : W.heap[B]? = some (.cells #[v0, v1, v2, v3, v4, v5, v6, v7, v8, v9, v10, v11] 28 (0, 0))) : W.cell? ⟨B, 0, none⟩ = some v0 ∧ W.cell? ⟨B, 1, none⟩ = some v1 ∧ W.cell? ⟨B, 2, none⟩ = some v2 ∧ W.cell? ⟨B, 3, none⟩ = some v3 ∧ W.cell? ⟨B, 4, none⟩ = some v4 ∧ W.cell? ⟨B, 5, none⟩ = some v5 ∧ W.cell? ⟨B, 6, none⟩ = some v6 ∧ W.cell? ⟨B, 7, none⟩ = some v7 ∧ W.cell? ⟨B, 8, none⟩ = some v8 ∧ W.cell? ⟨B, 9, none⟩ = some v9 ∧ W.cell? ⟨B, 10, none⟩ = some v10 ∧ W.cell? ⟨B, 11, none⟩ = some v11 := by
  simp [World.cell?, h]
/-- so many are whole among the first k -/
def wholes (l : CopsR) (k : Nat) : Int := (if 0 < k ∧ l.c0.ok = true then 1 else 0) + (if 1 < k ∧ l.c1.ok = true then 1 else 0)
theorem wholes_bnd (l : CopsR) (k : Nat) : 0 ≤ wholes l k ∧ wholes l k ≤ 2 := by
  unfold wholes
  split <;> split <;> omega
/-- the rounds of CheckCopies -/
def RfcRel (w : World) (l : CopsR) (c i : Value) (wr : World) : Prop :=
  ∃ k : Nat, i = .int .i64 k ∧ k ≤ 2 ∧ c = .int .i64 (wholes l k) ∧ (0 < k → RecM.copErr l.c0 = 0) ∧ (1 < k → RecM.copErr l.c1 = 0) ∧ wr.heap[w.heap.size]? = some (.cells (copsCells l) 29 (0, 0)) ∧ Below w.heap.size w wr

set_option maxRecDepth 100000 in
set_option maxHeartbeats 4000000 in
theorem copiesRef_any (l : CopsR) (w : World) :
    Calls Try.prog 11 #[copsV l] w fun e w' => e = .returned (.int .i64 (RecM.copies l)) ∧ Below w.heap.size w w' := by
  have HI0 := Lib.hid (fun W => checkRef_any l.c0.r W)
  have HI1 := Lib.hid (fun W => checkRef_any l.c1.r W)
  have hn0 := fun W => rec_neq l.c0.r RecM.noRec W
  have hn1 := fun W => rec_neq l.c1.r RecM.noRec W
  have HZ : Hid (recV RecM.noRec = .agg #[.int .i64 0, .int .i64 0, .bool false, .int .i64 0, .int .i64 0, .int .i64 0, .int .i64 0, .int .i64 0, .int .i64 0, .int .i64 0, .int .i64 0]) := rfl
  rw [HZ.out] at hn0 hn1
  obtain ⟨q0, hq0⟩ : ∃ q, decide (l.c0.r = RecM.noRec) = q := ⟨_, rfl⟩
  obtain ⟨q1, hq1⟩ : ∃ q, decide (l.c1.r = RecM.noRec) = q := ⟨_, rfl⟩
  rw [hq0] at hn0
  rw [hq1] at hn1
  have HQ0 := Lib.hid hq0
  have HQ1 := Lib.hid hq1
  clear hq0 hq1 HZ
  have HOn : Hid (RecM.copies l = if RecM.copErr l.c0 ≠ 0 then RecM.copErr l.c0 else if RecM.copErr l.c1 ≠ 0 then RecM.copErr l.c1 else if l.c0.ok = false ∧ l.c1.ok = false then 7 else 0) := rfl
  have HBk0 : Hid ((w.alloc (.cells (copsCells l) 29)).heap[w.heap.size]? = some (.cells (copsCells l) 29 (0, 0))) := by
    show _ = _
    rw [heap_at, if_pos rfl]
  have HB := Lib.hid ((Below.refl w.heap.size w).alloc (Nat.le_refl _) (.cells (copsCells l) 29))
  have i0 : ∀ w : World, (Instr.index 29 (.agg (copsCells l)) (.int .i64 0)).run Try.prog w = .ok (copV l.c0) w := fun _ => by kernel_rfl
  have i1 : ∀ w : World, (Instr.index 29 (.agg (copsCells l)) (.int .i64 1)).run Try.prog w = .ok (copV l.c1) w := fun _ => by kernel_rfl
  have hi : (Try.prog.info? 29).map (·.size) = some (copsCells l).size := by kernel_rfl
  unfold copsV
  obtain ⟨A, hA⟩ : ∃ A, copsCells l = A := ⟨_, rfl⟩
  rw [hA] at HBk0 HB i0 i1 hi ⊢
  have HA := Lib.hid hA
  clear hA
  obtain ⟨⟨xok, xg, xa, xtr, xn, xf, ⟨xv0, xs0, xu0⟩, ⟨xv1, xs1, xu1⟩⟩, ⟨yok, yg, ya, ytr, yn, yf, ⟨yv0, ys0, yu0⟩, ⟨yv1, ys1, yu1⟩⟩⟩ := l
  simp only [copV, recV] at HI0 HI1 i0 i1 hn0 hn1
  simp only at HOn HQ0 HQ1
  go_enter Try.func11, Try.ntmps11
  go_wp2_with (refine wpList_load_row rfl 29 (.tmp 1) rfl w.heap.size rfl 29 A (0, 0) _ HBk0.out Try.underlying29 rfl hi ?_)
  go_loopw [3, 8] (fun c i wr => RfcRel w ⟨⟨xok, ⟨xg, xa, xtr, xn, xf, ⟨xv0, xs0, xu0⟩, ⟨xv1, xs1, xu1⟩⟩⟩, ⟨yok, ⟨yg, ya, ytr, yn, yf, ⟨yv0, ys0, yu0⟩, ⟨yv1, ys1, yu1⟩⟩⟩⟩ c i wr) (fun _ i _ => 2 - (intOf i).toNat)
  case atStart => exact ⟨0, rfl, by omega, by simp [wholes], by omega, by omega, by rw [HA.out]; exact HBk0.out, HB.out⟩
  case round =>
    obtain ⟨k, rfl, hk, rfl, h0, h1, hblk, hbel⟩ := hrel
    have HBk := Lib.hid hblk
    have HBl := Lib.hid hbel
    have H0 := Lib.hid h0
    have H1 := Lib.hid h1
    clear hblk hbel h0 h1
    have hbd := wholes_bnd ⟨⟨xok, ⟨xg, xa, xtr, xn, xf, ⟨xv0, xs0, xu0⟩, ⟨xv1, xs1, xu1⟩⟩⟩, ⟨yok, ⟨yg, ya, ytr, yn, yf, ⟨yv0, ys0, yu0⟩, ⟨yv1, ys1, yu1⟩⟩⟩⟩ k
    obtain ⟨M, hM⟩ : ∃ M, wholes ⟨⟨xok, ⟨xg, xa, xtr, xn, xf, ⟨xv0, xs0, xu0⟩, ⟨xv1, xs1, xu1⟩⟩⟩, ⟨yok, ⟨yg, ya, ytr, yn, yf, ⟨yv0, ys0, yu0⟩, ⟨yv1, ys1, yu1⟩⟩⟩⟩ k = M := ⟨_, rfl⟩
    rw [hM] at hbd ⊢
    have HM := Lib.hid hM
    clear hM
    have hwM : IntKind.i64.wrap (M + 1) = M + 1 := IntWalk.i64_in _ (by omega)
    rcases (by omega : k = 0 ∨ k = 1 ∨ k = 2) with rfl | rfl | rfl
    · have hbl : Below wr.heap.size wr (wr.alloc (.cells #[.bool xok, .int .i64 xg, .int .i64 xa, .bool xtr, .int .i64 xn, .int .i64 xf, .int .i64 xv0, .int .i64 xs0, .int .i64 xu0, .int .i64 xv1, .int .i64 xs1, .int .i64 xu1] 28)) := (Below.refl _ _).alloc (Nat.le_refl _) _
      have HBL := Lib.hid hbl
      clear hbl
      go_wp2_with fail
      refine (HI0.out _).mono ?_
      rintro e W2 ⟨rfl, hb2⟩
      obtain ⟨z0, z1, z2, z3, z4, z5, z6, z7, z8, z9, z10, z11⟩ := copc_cells ((hb2.block wr.heap.size (by simp)).trans (by rw [heap_at, if_pos rfl]))
      have hb3 := bel_then HBL.out hb2
      have HB3 := Lib.hid (bel_then HBl.out hb3)
      have HBk3 := Lib.hid ((hb3.block _ (blk_ltQ HBk.out)).trans HBk.out)
      clear hb2 hb3
      cases xok
      · have HCE : Hid (RecM.copErr ⟨false, ⟨xg, xa, xtr, xn, xf, ⟨xv0, xs0, xu0⟩, ⟨xv1, xs1, xu1⟩⟩⟩ = if (⟨xg, xa, xtr, xn, xf, ⟨xv0, xs0, xu0⟩, ⟨xv1, xs1, xu1⟩⟩ : RecR) ≠ RecM.noRec then 3 else 0) := rfl
        obtain ⟨CE, hCE⟩ : ∃ CE, RecM.check ⟨xg, xa, xtr, xn, xf, ⟨xv0, xs0, xu0⟩, ⟨xv1, xs1, xu1⟩⟩ = CE := ⟨_, rfl⟩
        rw [hCE]
        clear hCE
        have HCt : Hid (wholes ⟨⟨false, ⟨xg, xa, xtr, xn, xf, ⟨xv0, xs0, xu0⟩, ⟨xv1, xs1, xu1⟩⟩⟩, ⟨yok, ⟨yg, ya, ytr, yn, yf, ⟨yv0, ys0, yu0⟩, ⟨yv1, ys1, yu1⟩⟩⟩⟩ 1 = M) := by
          show _ = _
          rw [← HM.out]
          simp [wholes]
        cases q0
        · have HI := Lib.hid (HCE.out.trans (if_pos (of_decide_eq_false HQ0.out)))
          have HNE : Hid ((3 : Int) ≠ 0) := by show _ ≠ _; decide
          have HE : Hid (RecM.copies ⟨⟨false, ⟨xg, xa, xtr, xn, xf, ⟨xv0, xs0, xu0⟩, ⟨xv1, xs1, xu1⟩⟩⟩, ⟨yok, ⟨yg, ya, ytr, yn, yf, ⟨yv0, ys0, yu0⟩, ⟨yv1, ys1, yu1⟩⟩⟩⟩ = 3) := by
            show _ = _
            have h := HI.out
            rw [HOn.out, if_pos (by rw [h]; exact HNE.out), h]
          go_wp2_with fail
          go_ret
          exact ⟨ret_i HE.out.symm, HB3.out⟩
        · have HI := Lib.hid (HCE.out.trans (if_neg (not_not_intro (of_decide_eq_true HQ0.out))))
          go_wp2_with fail
          go_roundw
          case rel => exact ⟨1, by go_num, by omega, by rw [HCt.out], fun _ => HI.out, fun q => absurd q (by omega), HBk3.out, HB3.out⟩
          case measure => simp [intOf]
      · have HCE : Hid (RecM.copErr ⟨true, ⟨xg, xa, xtr, xn, xf, ⟨xv0, xs0, xu0⟩, ⟨xv1, xs1, xu1⟩⟩⟩ = RecM.check ⟨xg, xa, xtr, xn, xf, ⟨xv0, xs0, xu0⟩, ⟨xv1, xs1, xu1⟩⟩) := rfl
        have HCt : Hid (wholes ⟨⟨true, ⟨xg, xa, xtr, xn, xf, ⟨xv0, xs0, xu0⟩, ⟨xv1, xs1, xu1⟩⟩⟩, ⟨yok, ⟨yg, ya, ytr, yn, yf, ⟨yv0, ys0, yu0⟩, ⟨yv1, ys1, yu1⟩⟩⟩⟩ 1 = M + 1) := by
          show _ = _
          rw [← HM.out]
          simp [wholes]
        by_cases e0 : RecM.check ⟨xg, xa, xtr, xn, xf, ⟨xv0, xs0, xu0⟩, ⟨xv1, xs1, xu1⟩⟩ = 0
        · have HI := Lib.hid (HCE.out.trans e0)
          rw [e0]
          clear e0 hn0
          go_wp2_with fail
          go_roundw
          case rel => exact ⟨1, by go_num, by omega, by rw [HCt.out], fun _ => HI.out, fun q => absurd q (by omega), HBk3.out, HB3.out⟩
          case measure => simp [intOf]
        · obtain ⟨E, hE⟩ : ∃ E, RecM.check ⟨xg, xa, xtr, xn, xf, ⟨xv0, xs0, xu0⟩, ⟨xv1, xs1, xu1⟩⟩ = E := ⟨_, rfl⟩
          have HI := Lib.hid (HCE.out.trans hE)
          rw [hE] at e0 ⊢
          have HNE := Lib.hid e0
          have t0 : (E != 0) = true := by simp [e0]
          clear hE e0 hn0
          have HE : Hid (RecM.copies ⟨⟨true, ⟨xg, xa, xtr, xn, xf, ⟨xv0, xs0, xu0⟩, ⟨xv1, xs1, xu1⟩⟩⟩, ⟨yok, ⟨yg, ya, ytr, yn, yf, ⟨yv0, ys0, yu0⟩, ⟨yv1, ys1, yu1⟩⟩⟩⟩ = E) := by
            show _ = _
            have h := HI.out
            rw [HOn.out, if_pos (by rw [h]; exact HNE.out), h]
          go_wp2_with fail
          go_ret
          exact ⟨ret_i HE.out.symm, HB3.out⟩
    · have hbl : Below wr.heap.size wr (wr.alloc (.cells #[.bool yok, .int .i64 yg, .int .i64 ya, .bool ytr, .int .i64 yn, .int .i64 yf, .int .i64 yv0, .int .i64 ys0, .int .i64 yu0, .int .i64 yv1, .int .i64 ys1, .int .i64 yu1] 28)) := (Below.refl _ _).alloc (Nat.le_refl _) _
      have HBL := Lib.hid hbl
      clear hbl
      go_wp2_with fail
      refine (HI1.out _).mono ?_
      rintro e W2 ⟨rfl, hb2⟩
      obtain ⟨z0, z1, z2, z3, z4, z5, z6, z7, z8, z9, z10, z11⟩ := copc_cells ((hb2.block wr.heap.size (by simp)).trans (by rw [heap_at, if_pos rfl]))
      have hb3 := bel_then HBL.out hb2
      have HB3 := Lib.hid (bel_then HBl.out hb3)
      have HBk3 := Lib.hid ((hb3.block _ (blk_ltQ HBk.out)).trans HBk.out)
      clear hb2 hb3
      cases yok
      · have HCE : Hid (RecM.copErr ⟨false, ⟨yg, ya, ytr, yn, yf, ⟨yv0, ys0, yu0⟩, ⟨yv1, ys1, yu1⟩⟩⟩ = if (⟨yg, ya, ytr, yn, yf, ⟨yv0, ys0, yu0⟩, ⟨yv1, ys1, yu1⟩⟩ : RecR) ≠ RecM.noRec then 3 else 0) := rfl
        obtain ⟨CE, hCE⟩ : ∃ CE, RecM.check ⟨yg, ya, ytr, yn, yf, ⟨yv0, ys0, yu0⟩, ⟨yv1, ys1, yu1⟩⟩ = CE := ⟨_, rfl⟩
        rw [hCE]
        clear hCE
        have HCt : Hid (wholes ⟨⟨xok, ⟨xg, xa, xtr, xn, xf, ⟨xv0, xs0, xu0⟩, ⟨xv1, xs1, xu1⟩⟩⟩, ⟨false, ⟨yg, ya, ytr, yn, yf, ⟨yv0, ys0, yu0⟩, ⟨yv1, ys1, yu1⟩⟩⟩⟩ 2 = M) := by
          show _ = _
          rw [← HM.out]
          simp [wholes]
        cases q1
        · have HI := Lib.hid (HCE.out.trans (if_pos (of_decide_eq_false HQ1.out)))
          have HNE : Hid ((3 : Int) ≠ 0) := by show _ ≠ _; decide
          have HE : Hid (RecM.copies ⟨⟨xok, ⟨xg, xa, xtr, xn, xf, ⟨xv0, xs0, xu0⟩, ⟨xv1, xs1, xu1⟩⟩⟩, ⟨false, ⟨yg, ya, ytr, yn, yf, ⟨yv0, ys0, yu0⟩, ⟨yv1, ys1, yu1⟩⟩⟩⟩ = 3) := by
            show _ = _
            have h := HI.out
            rw [HOn.out, if_neg (fun q => q (H0.out (by omega))), if_pos (by rw [h]; exact HNE.out), h]
          go_wp2_with fail
          go_ret
          exact ⟨ret_i HE.out.symm, HB3.out⟩
        · have HI := Lib.hid (HCE.out.trans (if_neg (not_not_intro (of_decide_eq_true HQ1.out))))
          go_wp2_with fail
          go_roundw
          case rel => exact ⟨2, by go_num, by omega, by rw [HCt.out], fun _ => H0.out (by omega), fun _ => HI.out, HBk3.out, HB3.out⟩
          case measure => simp [intOf]
      · have HCE : Hid (RecM.copErr ⟨true, ⟨yg, ya, ytr, yn, yf, ⟨yv0, ys0, yu0⟩, ⟨yv1, ys1, yu1⟩⟩⟩ = RecM.check ⟨yg, ya, ytr, yn, yf, ⟨yv0, ys0, yu0⟩, ⟨yv1, ys1, yu1⟩⟩) := rfl
        have HCt : Hid (wholes ⟨⟨xok, ⟨xg, xa, xtr, xn, xf, ⟨xv0, xs0, xu0⟩, ⟨xv1, xs1, xu1⟩⟩⟩, ⟨true, ⟨yg, ya, ytr, yn, yf, ⟨yv0, ys0, yu0⟩, ⟨yv1, ys1, yu1⟩⟩⟩⟩ 2 = M + 1) := by
          show _ = _
          rw [← HM.out]
          simp [wholes]
        by_cases e0 : RecM.check ⟨yg, ya, ytr, yn, yf, ⟨yv0, ys0, yu0⟩, ⟨yv1, ys1, yu1⟩⟩ = 0
        · have HI := Lib.hid (HCE.out.trans e0)
          rw [e0]
          clear e0 hn1
          go_wp2_with fail
          go_roundw
          case rel => exact ⟨2, by go_num, by omega, by rw [HCt.out], fun _ => H0.out (by omega), fun _ => HI.out, HBk3.out, HB3.out⟩
          case measure => simp [intOf]
        · obtain ⟨E, hE⟩ : ∃ E, RecM.check ⟨yg, ya, ytr, yn, yf, ⟨yv0, ys0, yu0⟩, ⟨yv1, ys1, yu1⟩⟩ = E := ⟨_, rfl⟩
          have HI := Lib.hid (HCE.out.trans hE)
          rw [hE] at e0 ⊢
          have HNE := Lib.hid e0
          have t0 : (E != 0) = true := by simp [e0]
          clear hE e0 hn1
          have HE : Hid (RecM.copies ⟨⟨xok, ⟨xg, xa, xtr, xn, xf, ⟨xv0, xs0, xu0⟩, ⟨xv1, xs1, xu1⟩⟩⟩, ⟨true, ⟨yg, ya, ytr, yn, yf, ⟨yv0, ys0, yu0⟩, ⟨yv1, ys1, yu1⟩⟩⟩⟩ = E) := by
            show _ = _
            have h := HI.out
            rw [HOn.out, if_neg (fun q => q (H0.out (by omega))), if_pos (by rw [h]; exact HNE.out), h]
          go_wp2_with fail
          go_ret
          exact ⟨ret_i HE.out.symm, HB3.out⟩
    · replace HOn := Lib.hid ((HOn.out.trans (if_neg (fun q => q (H0.out (by omega))))).trans (if_neg (fun q => q (H1.out (by omega)))))
      by_cases hz : M = 0
      · have HE := Lib.hid (HOn.out.trans (if_pos (by
          have := HM.out
          rw [hz] at this
          cases xok <;> cases yok <;> simp [wholes] at this ⊢)))
        have tz : (M == 0) = true := by simp [hz]
        clear hz
        go_wp2_with fail
        go_ret
        exact ⟨ret_i HE.out.symm, HBl.out⟩
      · have HE := Lib.hid (HOn.out.trans (if_neg (by
          rintro ⟨a1, a2⟩
          have := HM.out
          rw [a1, a2] at this
          simp [wholes] at this
          exact hz this.symm)))
        have tz : (M == 0) = false := by simp [hz]
        go_wp2_with fail
        go_ret
        exact ⟨ret_i HE.out.symm, HBl.out⟩
end Go.Proofs.Ytmpmaljkmfgagac
