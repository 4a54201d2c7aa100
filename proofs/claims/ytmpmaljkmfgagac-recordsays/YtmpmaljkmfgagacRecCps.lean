/-
  Contract of the program's Copies.
-/
import Derived.Test.YtmpmaljkmfgagacRecCop
namespace Go.Proofs.Ytmpmaljkmfgagac
open Go.RowKit

/-- the rounds of Copies: the copies so far are right, all lies where it lay -/
def RcopRel (w : World) (l : CopsR) (i : Value) (wr : World) : Prop :=
  ∃ k : Nat, i = .int .i64 k ∧ k ≤ 2 ∧ (0 < k → RecM.copErr l.c0 = 0) ∧ (1 < k → RecM.copErr l.c1 = 0) ∧ wr.heap[w.heap.size]? = some (.cells (copsCells l) 29 (0, 0)) ∧ Below w.heap.size w wr
theorem oks_cells {W : World} {B : Nat} {l : CopsR} (h : W.heap[B]? = some (.cells (copsCells l) 29 (0, 0))) : W.cell? ⟨B, 0, none⟩ = some (.bool l.c0.ok) ∧ W.cell? ⟨B, 12, none⟩ = some (.bool l.c1.ok) := by
  simp [World.cell?, h, copsCells]

set_option maxRecDepth 100000 in
set_option maxHeartbeats 4000000 in
theorem copiesR_any (l : CopsR) (w : World) :
    Calls Try.prog 14 #[copsV l] w fun e w' => e = .returned (.int .i64 (RecM.copies l)) ∧ Below w.heap.size w w' := by
  have HI0 := Lib.hid (fun W => checkCopy_any l.c0 W)
  have HI1 := Lib.hid (fun W => checkCopy_any l.c1 W)
  have HOn : Hid (RecM.copies l = if RecM.copErr l.c0 ≠ 0 then RecM.copErr l.c0 else if RecM.copErr l.c1 ≠ 0 then RecM.copErr l.c1 else if l.c0.ok = false ∧ l.c1.ok = false then 7 else 0) := rfl
  have HBk0 : Hid ((w.alloc (.cells (copsCells l) 29)).heap[w.heap.size]? = some (.cells (copsCells l) 29 (0, 0))) := by
    show _ = _
    rw [heap_at, if_pos rfl]
  have HB := Lib.hid ((Below.refl w.heap.size w).alloc (Nat.le_refl _) (.cells (copsCells l) 29))
  have i0 : ∀ w : World, (Instr.index 29 (.agg (copsCells l)) (.int .i64 0)).run Try.prog w = .ok (copV l.c0) w := fun _ => by kernel_rfl
  have i1 : ∀ w : World, (Instr.index 29 (.agg (copsCells l)) (.int .i64 1)).run Try.prog w = .ok (copV l.c1) w := fun _ => by kernel_rfl
  have hi : (Try.prog.info? 29).map (·.size) = some (copsCells l).size := by kernel_rfl
  unfold copsV
  obtain ⟨A, hA⟩ : ∃ A, copsCells l = A := ⟨_, rfl⟩
  rw [hA] at HBk0 HB i0 i1 hi ⊢
  have HA := Lib.hid hA
  clear hA
  obtain ⟨⟨xok, xg, xa, xtr, xn, xf, ⟨xv0, xs0, xu0⟩, ⟨xv1, xs1, xu1⟩⟩, ⟨yok, yg, ya, ytr, yn, yf, ⟨yv0, ys0, yu0⟩, ⟨yv1, ys1, yu1⟩⟩⟩ := l
  simp only [copV] at HI0 HI1 i0 i1
  simp only at HOn
  go_enter Try.func14, Try.ntmps14
  go_wp2_with (refine wpList_load_row rfl 29 (.tmp 1) rfl w.heap.size rfl 29 A (0, 0) _ HBk0.out Try.underlying29 rfl hi ?_)
  go_loopw [7] (fun i wr => RcopRel w ⟨⟨xok, xg, xa, xtr, xn, xf, ⟨xv0, xs0, xu0⟩, ⟨xv1, xs1, xu1⟩⟩, ⟨yok, yg, ya, ytr, yn, yf, ⟨yv0, ys0, yu0⟩, ⟨yv1, ys1, yu1⟩⟩⟩ i wr) (fun i _ => 2 - (intOf i).toNat)
  case atStart => exact ⟨0, rfl, by omega, by omega, by omega, by rw [HA.out]; exact HBk0.out, HB.out⟩
  case round =>
    obtain ⟨k, rfl, hk, h0, h1, hblk, hbel⟩ := hrel
    have HBk := Lib.hid hblk
    have HBl := Lib.hid hbel
    have H0 := Lib.hid h0
    have H1 := Lib.hid h1
    clear hblk hbel h0 h1
    rcases (by omega : k = 0 ∨ k = 1 ∨ k = 2) with rfl | rfl | rfl
    · have hbl : Below wr.heap.size wr (wr.alloc (.cells #[.bool xok, .int .i64 xg, .int .i64 xa, .bool xtr, .int .i64 xn, .int .i64 xf, .int .i64 xv0, .int .i64 xs0, .int .i64 xu0, .int .i64 xv1, .int .i64 xs1, .int .i64 xu1] 28)) := (Below.refl _ _).alloc (Nat.le_refl _) _
      have HBL := Lib.hid hbl
      clear hbl
      go_wp2_with fail
      refine (HI0.out _).mono ?_
      rintro e W2 ⟨rfl, hb2⟩
      have hb3 := bel_then HBL.out hb2
      have HB3 := Lib.hid (bel_then HBl.out hb3)
      have HBk3 := Lib.hid ((hb3.block _ (blk_ltQ HBk.out)).trans HBk.out)
      clear hb2 hb3
      by_cases e0 : RecM.copErr ⟨xok, xg, xa, xtr, xn, xf, ⟨xv0, xs0, xu0⟩, ⟨xv1, xs1, xu1⟩⟩ = 0
      · have HE0 := Lib.hid e0
        rw [e0]
        clear e0
        go_wp2_with fail
        go_roundw
        case rel => exact ⟨1, by go_num, by omega, fun _ => HE0.out, fun q => absurd q (by omega), HBk3.out, HB3.out⟩
        case measure => simp [intOf]
      · obtain ⟨E, hE⟩ : ∃ E, RecM.copErr ⟨xok, xg, xa, xtr, xn, xf, ⟨xv0, xs0, xu0⟩, ⟨xv1, xs1, xu1⟩⟩ = E := ⟨_, rfl⟩
        have HE : Hid (RecM.copies ⟨⟨xok, xg, xa, xtr, xn, xf, ⟨xv0, xs0, xu0⟩, ⟨xv1, xs1, xu1⟩⟩, ⟨yok, yg, ya, ytr, yn, yf, ⟨yv0, ys0, yu0⟩, ⟨yv1, ys1, yu1⟩⟩⟩ = E) := by
          show _ = _
          rw [HOn.out, if_pos e0, hE]
        rw [hE] at e0 ⊢
        have t0 : (E != 0) = true := by simp [e0]
        clear hE
        go_wp2_with fail
        go_ret
        exact ⟨ret_i HE.out.symm, HB3.out⟩
    · have hbl : Below wr.heap.size wr (wr.alloc (.cells #[.bool yok, .int .i64 yg, .int .i64 ya, .bool ytr, .int .i64 yn, .int .i64 yf, .int .i64 yv0, .int .i64 ys0, .int .i64 yu0, .int .i64 yv1, .int .i64 ys1, .int .i64 yu1] 28)) := (Below.refl _ _).alloc (Nat.le_refl _) _
      have HBL := Lib.hid hbl
      clear hbl
      go_wp2_with fail
      refine (HI1.out _).mono ?_
      rintro e W2 ⟨rfl, hb2⟩
      have hb3 := bel_then HBL.out hb2
      have HB3 := Lib.hid (bel_then HBl.out hb3)
      have HBk3 := Lib.hid ((hb3.block _ (blk_ltQ HBk.out)).trans HBk.out)
      clear hb2 hb3
      by_cases e0 : RecM.copErr ⟨yok, yg, ya, ytr, yn, yf, ⟨yv0, ys0, yu0⟩, ⟨yv1, ys1, yu1⟩⟩ = 0
      · have HE0 := Lib.hid e0
        rw [e0]
        clear e0
        go_wp2_with fail
        go_roundw
        case rel => exact ⟨2, by go_num, by omega, fun _ => H0.out (by omega), fun _ => HE0.out, HBk3.out, HB3.out⟩
        case measure => simp [intOf]
      · obtain ⟨E, hE⟩ : ∃ E, RecM.copErr ⟨yok, yg, ya, ytr, yn, yf, ⟨yv0, ys0, yu0⟩, ⟨yv1, ys1, yu1⟩⟩ = E := ⟨_, rfl⟩
        have HE : Hid (RecM.copies ⟨⟨xok, xg, xa, xtr, xn, xf, ⟨xv0, xs0, xu0⟩, ⟨xv1, xs1, xu1⟩⟩, ⟨yok, yg, ya, ytr, yn, yf, ⟨yv0, ys0, yu0⟩, ⟨yv1, ys1, yu1⟩⟩⟩ = E) := by
          show _ = _
          rw [HOn.out, if_neg (fun q => q (H0.out (by omega))), if_pos e0, hE]
        rw [hE] at e0 ⊢
        have t0 : (E != 0) = true := by simp [e0]
        clear hE
        go_wp2_with fail
        go_ret
        exact ⟨ret_i HE.out.symm, HB3.out⟩
    · obtain ⟨q0, q12⟩ := oks_cells HBk.out
      simp only at q0 q12
      replace HOn := Lib.hid ((HOn.out.trans (if_neg (fun q => q (H0.out (by omega))))).trans (if_neg (fun q => q (H1.out (by omega)))))
      cases xok
      · cases yok
        · go_wp2_with fail
          go_ret
          exact ⟨ret_i (by rw [HOn.out]; simp), HBl.out⟩
        · go_wp2_with fail
          go_ret
          exact ⟨ret_i (by rw [HOn.out]; simp), HBl.out⟩
      · go_wp2_with fail
        go_ret
        exact ⟨ret_i (by rw [HOn.out]; simp), HBl.out⟩
end Go.Proofs.Ytmpmaljkmfgagac
