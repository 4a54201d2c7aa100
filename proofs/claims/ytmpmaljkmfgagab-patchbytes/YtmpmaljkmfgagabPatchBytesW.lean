/-
  The walk of the law PatchBytes.
-/
import Derived.Test.YtmpmaljkmfgagabPatched
import Derived.Test.YtmpmaljkmfgagabPatPut
import Derived.Test.YtmpmaljkmfgagabPatRead
namespace Go.Proofs.Ytmpmaljkmfgagab
open Go.RowKit

set_option maxRecDepth 100000 in
set_option maxHeartbeats 1000000 in
theorem patchBytes_walk (HMk : MakePC) (HPt : PutPC) (HRd : ReadPC) (HDo : DoPC) (HSm : SamePC) (v : Value) (p : PatR) (a1 : Option Addr) (len1 cap1 : Nat) (l1 : List Int) (w : World) (hv : PV w v p) (w1 : BS w a1 len1 cap1 l1) :
    Calls Try.prog 7 #[v, .slice a1 len1 cap1] w fun e w' => e = .returned (.bool true) ∧ Below w.heap.size w w' := by
  have HFact := Lib.hid (patched_any HMk HPt HRd HDo HSm)
  replace HMk := Lib.hid HMk
  replace HPt := Lib.hid HPt
  replace HRd := Lib.hid HRd
  replace HDo := Lib.hid HDo
  replace HSm := Lib.hid HSm
  obtain ⟨ao, no, co, rfl, hop⟩ := hv
  have hb0 : Below w.heap.size w (w.alloc (.cells #[.int .i64 p.from_, .int .i64 p.to_, .int .i64 p.old, .int .i64 p.new, .int .i64 p.size, .slice ao no co] 41)) := (Below.refl _ _).alloc (Nat.le_refl _) _
  obtain ⟨B, hB⟩ : ∃ B, w.heap.size = B := ⟨_, rfl⟩
  have hB1 : (w.alloc (.cells #[.int .i64 p.from_, .int .i64 p.to_, .int .i64 p.old, .int .i64 p.new, .int .i64 p.size, .slice ao no co] 41)).heap[B]? = some (.cells #[.int .i64 p.from_, .int .i64 p.to_, .int .i64 p.old, .int .i64 p.new, .int .i64 p.size, .slice ao no co] 41 (0, 0)) := by rw [heap_at, if_pos hB.symm]
  have hv2 : PV (w.alloc (.cells #[.int .i64 p.from_, .int .i64 p.to_, .int .i64 p.old, .int .i64 p.new, .int .i64 p.size, .slice ao no co] 41)) (.agg #[.int .i64 p.from_, .int .i64 p.to_, .int .i64 p.old, .int .i64 p.new, .int .i64 p.size, .slice ao no co]) p := ⟨ao, no, co, rfl, hop.1.later hb0, hop.2⟩
  replace w1 := w1.later hb0
  clear hop
  go_enter Try.func7, Try.ntmps7
  go_wp2_with fail
  generalize w.alloc (.cells #[.int .i64 p.from_, .int .i64 p.to_, .int .i64 p.old, .int .i64 p.new, .int .i64 p.size, .slice ao no co] 41) = W0 at hb0 hB1 hv2 w1 ⊢
  refine (HPt.out _ p _ hv2).mono ?_
  rintro e W1 ⟨ax, nx, cx, rfl, sx, c1⟩
  obtain ⟨⟨X, EX⟩, hX⟩ : ∃ R, PatM.putOf p = R := ⟨_, rfl⟩
  have HX := Lib.hid hX
  rw [hX] at sx ⊢
  simp only at sx ⊢
  clear hX
  replace hB1 := (c1.block B (lt_blk hB1)).trans hB1
  replace hv2 := hv2.later c1
  replace w1 := w1.later c1
  replace c1 := below_then hb0 c1
  clear hb0 hB W0
  go_wp2_with fail
  refine (HRd.out _ _ _ _ _ w1).mono ?_
  rintro e W2 ⟨vy, rfl, hy, c2⟩
  obtain ⟨⟨Y, EY⟩, hY⟩ : ∃ R, PatM.readOf l1 = R := ⟨_, rfl⟩
  have HY := Lib.hid hY
  rw [hY] at hy ⊢
  simp only at hy ⊢
  clear hY
  obtain ⟨ay, ny, cy, rfl, hoy⟩ := hy
  have hb3 : Below W2.heap.size W2 (W2.alloc (.cells #[.int .i64 Y.from_, .int .i64 Y.to_, .int .i64 Y.old, .int .i64 Y.new, .int .i64 Y.size, .slice ay ny cy] 41)) := (Below.refl _ _).alloc (Nat.le_refl _) _
  obtain ⟨Q, hQ⟩ : ∃ Q, W2.heap.size = Q := ⟨_, rfl⟩
  have hQ1 : (W2.alloc (.cells #[.int .i64 Y.from_, .int .i64 Y.to_, .int .i64 Y.old, .int .i64 Y.new, .int .i64 Y.size, .slice ay ny cy] 41)).heap[Q]? = some (.cells #[.int .i64 Y.from_, .int .i64 Y.to_, .int .i64 Y.old, .int .i64 Y.new, .int .i64 Y.size, .slice ay ny cy] 41 (0, 0)) := by rw [heap_at, if_pos hQ.symm]
  have hy2 : PV (W2.alloc (.cells #[.int .i64 Y.from_, .int .i64 Y.to_, .int .i64 Y.old, .int .i64 Y.new, .int .i64 Y.size, .slice ay ny cy] 41)) (.agg #[.int .i64 Y.from_, .int .i64 Y.to_, .int .i64 Y.old, .int .i64 Y.new, .int .i64 Y.size, .slice ay ny cy]) Y := ⟨ay, ny, cy, rfl, hoy.1.later hb3, hoy.2⟩
  replace hB1 := (hb3.block B (lt_blk ((c2.block B (lt_blk hB1)).trans hB1))).trans ((c2.block B (lt_blk hB1)).trans hB1)
  replace c2 := below_then c2 hb3
  replace hv2 := hv2.later c2
  replace w1 := w1.later c2
  replace sx := sx.later c2
  replace c2 := below_then c1 c2
  clear hoy hb3 c1
  obtain ⟨p0, p1, p2, p3, p4, p5, -⟩ := pat_cells hB1
  go_wp2_with fail
  generalize W2.alloc (.cells #[.int .i64 Y.from_, .int .i64 Y.to_, .int .i64 Y.old, .int .i64 Y.new, .int .i64 Y.size, .slice ay ny cy] 41) = W3 at hQ1 hy2 hB1 c2 hv2 w1 sx p0 p1 p2 p3 p4 p5 ⊢
  clear hQ W2
  refine (patPut_any _ p _ hv2).mono ?_
  rintro e W4 ⟨aX, nX, cX, rfl, sX, c4⟩
  rw [HX.out] at sX ⊢
  simp only at sX ⊢
  replace hQ1 := (c4.block Q (lt_blk hQ1)).trans hQ1
  replace hy2 := hy2.later c4
  replace w1 := w1.later c4
  replace sx := sx.later c4
  replace c4 := below_then c2 c4
  clear c2 hB1 hv2 p0 p1 p2 p3 p4 p5
  go_wp2_with fail
  refine (patRead_any _ _ _ _ _ w1).mono ?_
  rintro e W5 ⟨vY, rfl, hY, c5⟩
  rw [HY.out] at hY ⊢
  simp only at hY ⊢
  obtain ⟨aY, nY, cY, rfl, hoY⟩ := hY
  have hb6 : Below W5.heap.size W5 (W5.alloc (.cells #[.int .i64 Y.from_, .int .i64 Y.to_, .int .i64 Y.old, .int .i64 Y.new, .int .i64 Y.size, .slice aY nY cY] 41)) := (Below.refl _ _).alloc (Nat.le_refl _) _
  obtain ⟨R, hR⟩ : ∃ R, W5.heap.size = R := ⟨_, rfl⟩
  have hR1 : (W5.alloc (.cells #[.int .i64 Y.from_, .int .i64 Y.to_, .int .i64 Y.old, .int .i64 Y.new, .int .i64 Y.size, .slice aY nY cY] 41)).heap[R]? = some (.cells #[.int .i64 Y.from_, .int .i64 Y.to_, .int .i64 Y.old, .int .i64 Y.new, .int .i64 Y.size, .slice aY nY cY] 41 (0, 0)) := by rw [heap_at, if_pos hR.symm]
  have hY2 : PV (W5.alloc (.cells #[.int .i64 Y.from_, .int .i64 Y.to_, .int .i64 Y.old, .int .i64 Y.new, .int .i64 Y.size, .slice aY nY cY] 41)) (.agg #[.int .i64 Y.from_, .int .i64 Y.to_, .int .i64 Y.old, .int .i64 Y.new, .int .i64 Y.size, .slice aY nY cY]) Y := ⟨aY, nY, cY, rfl, hoY.1.later hb6, hoY.2⟩
  replace c5 := below_then c5 hb6
  replace hQ1 := (c5.block Q (lt_blk hQ1)).trans hQ1
  replace hy2 := hy2.later c5
  replace sx := sx.later c5
  replace sX := sX.later c5
  replace c5 := below_then c4 c5
  clear hoY hb6 c4 w1
  go_wp2_with fail
  generalize W5.alloc (.cells #[.int .i64 Y.from_, .int .i64 Y.to_, .int .i64 Y.old, .int .i64 Y.new, .int .i64 Y.size, .slice aY nY cY] 41) = W6 at hQ1 hy2 hR1 hY2 c5 sx sX ⊢
  clear hR W5
  refine (HFact.out _).mono ?_
  rintro e W7 ⟨rfl, c7⟩
  replace hQ1 := (c7.block Q (lt_blk hQ1)).trans hQ1
  replace hR1 := (c7.block R (lt_blk hR1)).trans hR1
  replace hy2 := hy2.later c7
  replace hY2 := hY2.later c7
  replace sx := sx.later c7
  replace sX := sX.later c7
  replace c7 := below_then c5 c7
  clear c5
  have hee : (EX == EX) = true := by simp
  have hff : (EY == EY) = true := by simp
  go_wp2_with fail
  refine (eqBytes_any _ _ _ _ _ _ _ _ _ sx sX).mono ?_
  rintro e w' ⟨rfl, rfl⟩
  rw [decide_eq_true (rfl : X = X)]
  obtain ⟨p0, p1, p2, p3, p4, p5, -⟩ := pat_cells hQ1
  obtain ⟨q0, q1, q2, q3, q4, q5, -⟩ := pat_cells hR1
  go_wp2_with fail
  refine (samePat_any _ _ Y Y _ hy2 hY2).mono ?_
  rintro e W8 ⟨rfl, c8⟩
  rw [decide_eq_true (rfl : Y = Y)]
  replace c8 := below_then c7 c8
  go_wp2_with fail
  go_ret
  exact ⟨rfl, c8⟩
end Go.Proofs.Ytmpmaljkmfgagab
