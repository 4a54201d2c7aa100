/-
  The closed fact of the patches' statements: a patch, and its bytes.
-/
import Derived.Test.YtmpmaljkmfgagabPatchC
import Derived.Test.YtmpmaljkmfgagabPatL
import Derived.Test.YtmpmaljkmfgagabEqAny
namespace Go.Proofs.Ytmpmaljkmfgagab
open Go.RowKit

set_option maxRecDepth 100000 in
set_option maxHeartbeats 1000000 in
theorem patched_any (HMk : MakePC) (HPt : PutPC) (HRd : ReadPC) (HDo : DoPC) (HSm : SamePC) (w : World) :
    Calls Try.prog 27 #[] w fun e w' => e = .returned (.bool true) ∧ Below w.heap.size w w' := by
  have kc := fun (w : World) (C : Array Value) (n c : Nat) => Lib.run_convert_bytes_const (P := Try.prog) w 22 5 C n c Try.underlying22 Try.underlying5
  have sz : ∀ (w : World) (o : Obj), (w.alloc o).heap.size = w.heap.size + 1 := fun w o => by simp
  have kc2 : ∀ (w : World) (o : Obj) (C : Array Value) (n c : Nat), (convert 22 22 (.slice (some ⟨w.heap.size + 1, 0, none⟩) n c)).run Try.prog ((w.alloc o).alloc (.cells C 5)) = .ok (.slice (some ⟨w.heap.size + 1, 0, none⟩) n c) ((w.alloc o).alloc (.cells C 5 (C.size, C.size + 1))) := fun w o C n c => by
    have := kc (w.alloc o) C n c
    rwa [sz] at this
  have l1 := lit_bs_marked w [97, 98, 99, 100, 101, 102, 103, 104] 8 (8, 9) rfl (by omega) (by decide)
  have b1 : Below w.heap.size w (w.alloc (.cells (([97, 98, 99, 100, 101, 102, 103, 104] : List Int).map (Value.int .u8)).toArray 5 (8, 9))) := (Below.refl _ _).alloc (Nat.le_refl _) _
  have l2 := lit_bs_marked (w.alloc (.cells (([97, 98, 99, 100, 101, 102, 103, 104] : List Int).map (Value.int .u8)).toArray 5 (8, 9))) [120, 101, 102, 103, 104, 97, 98, 99, 100] 9 (9, 10) rfl (by omega) (by decide)
  rw [sz] at l2
  have b2 := b1.alloc b1.size (.cells (([120, 101, 102, 103, 104, 97, 98, 99, 100] : List Int).map (Value.int .u8)).toArray 5 (9, 10))
  replace l1 := l1.later ((Below.refl _ _).alloc (Nat.le_refl _) (.cells (([120, 101, 102, 103, 104, 97, 98, 99, 100] : List Int).map (Value.int .u8)).toArray 5 (9, 10)))
  clear b1
  have SZ := Lib.hid sz
  clear sz
  replace HMk := Lib.hid HMk
  replace HPt := Lib.hid HPt
  replace HRd := Lib.hid HRd
  replace HDo := Lib.hid HDo
  replace HSm := Lib.hid HSm
  go_enter Try.func27, Try.ntmps27
  go_wp2_with fail
  refine (HMk.out 1 2 _ _ 8 8 9 9 [97, 98, 99, 100, 101, 102, 103, 104] [120, 101, 102, 103, 104, 97, 98, 99, 100] _ l1 l2 (by omega) (by omega) (by unfold I64; omega) (by unfold I64; omega)).mono ?_
  rintro e W1 ⟨ops, hdif, v, rfl, hv, hb1⟩
  obtain rfl := hdif.det dif_three
  rw [patL_made] at hv ⊢
  simp only at hv ⊢
  have b3 := below_then b2 hb1
  clear hdif l1 l2 b2 hb1
  obtain ⟨ap, np, cp, rfl, hop, hpi⟩ := hv
  simp only [patL] at hop hpi ⊢
  have hb2 : Below W1.heap.size W1 (W1.alloc (.cells #[.int .i64 1, .int .i64 2, .int .i64 33012, .int .i64 46707, .int .i64 9, .slice ap np cp] 41)) := (Below.refl _ _).alloc (Nat.le_refl _) _
  obtain ⟨B, hB⟩ : ∃ B, W1.heap.size = B := ⟨_, rfl⟩
  have hB1 : (W1.alloc (.cells #[.int .i64 1, .int .i64 2, .int .i64 33012, .int .i64 46707, .int .i64 9, .slice ap np cp] 41)).heap[B]? = some (.cells #[.int .i64 1, .int .i64 2, .int .i64 33012, .int .i64 46707, .int .i64 9, .slice ap np cp] 41 (0, 0)) := by rw [heap_at, if_pos hB.symm]
  have hv2 : PV (W1.alloc (.cells #[.int .i64 1, .int .i64 2, .int .i64 33012, .int .i64 46707, .int .i64 9, .slice ap np cp] 41)) (.agg #[.int .i64 1, .int .i64 2, .int .i64 33012, .int .i64 46707, .int .i64 9, .slice ap np cp]) patL := ⟨ap, np, cp, rfl, hop.later hb2, hpi⟩
  replace b3 := below_then b3 hb2
  clear hop hpi hb2
  go_wp2_with fail
  generalize W1.alloc (.cells #[.int .i64 1, .int .i64 2, .int .i64 33012, .int .i64 46707, .int .i64 9, .slice ap np cp] 41) = W2 at hB1 hv2 b3 ⊢
  clear hB W1
  refine (HPt.out _ patL _ hv2).mono ?_
  rintro e W3 ⟨ab, nb, cb, rfl, sb, c3⟩
  rw [PatM.putOf_ok patL_check, patL_put] at sb
  rw [PatM.putOf_ok patL_check]
  simp only at sb ⊢
  obtain rfl : nb = 15 := sb.len.symm
  replace hB1 := (c3.block B (lt_blk hB1)).trans hB1
  replace hv2 := hv2.later c3
  replace b3 := below_then b3 c3
  clear c3 W2
  go_wp2_with fail
  refine (HRd.out _ _ _ _ _ sb).mono ?_
  rintro e W4 ⟨vq, rfl, hq, c4⟩
  have hrd : PatM.readOf [1, 2, 128, 244, 182, 115, 9, 3, 255, 1, 120, 4, 4, 0, 4] = (patL, 0) := by rw [← patL_put]; exact PatM.read_put patL_check
  rw [hrd] at hq ⊢
  simp only at hq ⊢
  clear hrd
  obtain ⟨aq, nq_, cq, rfl, hoq, hqi⟩ := hq
  simp only [patL] at hoq hqi ⊢
  replace hB1 := (c4.block B (lt_blk hB1)).trans hB1
  replace hv2 := hv2.later c4
  replace sb := sb.later c4
  replace b3 := below_then b3 c4
  clear c4
  have hb2 : Below W4.heap.size W4 (W4.alloc (.cells #[.int .i64 1, .int .i64 2, .int .i64 33012, .int .i64 46707, .int .i64 9, .slice aq nq_ cq] 41)) := (Below.refl _ _).alloc (Nat.le_refl _) _
  obtain ⟨Q, hQ⟩ : ∃ Q, W4.heap.size = Q := ⟨_, rfl⟩
  have hQ1 : (W4.alloc (.cells #[.int .i64 1, .int .i64 2, .int .i64 33012, .int .i64 46707, .int .i64 9, .slice aq nq_ cq] 41)).heap[Q]? = some (.cells #[.int .i64 1, .int .i64 2, .int .i64 33012, .int .i64 46707, .int .i64 9, .slice aq nq_ cq] 41 (0, 0)) := by rw [heap_at, if_pos hQ.symm]
  have hq2 : PV (W4.alloc (.cells #[.int .i64 1, .int .i64 2, .int .i64 33012, .int .i64 46707, .int .i64 9, .slice aq nq_ cq] 41)) (.agg #[.int .i64 1, .int .i64 2, .int .i64 33012, .int .i64 46707, .int .i64 9, .slice aq nq_ cq]) patL := ⟨aq, nq_, cq, rfl, hoq.later hb2, hqi⟩
  replace hB1 := (hb2.block B (lt_blk hB1)).trans hB1
  replace hv2 := hv2.later hb2
  replace sb := sb.later hb2
  replace b3 := below_then b3 hb2
  clear hoq hqi hb2
  have l3 := lit_bs_marked (W4.alloc (.cells #[.int .i64 1, .int .i64 2, .int .i64 33012, .int .i64 46707, .int .i64 9, .slice aq nq_ cq] 41)) [97, 98, 99, 100, 101, 102, 103, 104] 8 (8, 9) rfl (by omega) (by decide)
  have hb5 : Below _ _ _ := (Below.refl _ (W4.alloc (.cells #[.int .i64 1, .int .i64 2, .int .i64 33012, .int .i64 46707, .int .i64 9, .slice aq nq_ cq] 41))).alloc (Nat.le_refl _) (.cells (([97, 98, 99, 100, 101, 102, 103, 104] : List Int).map (Value.int .u8)).toArray 5 (8, 9))
  rw [SZ.out] at l3
  obtain ⟨p0, p1, p2, p3, p4, p5, -⟩ := pat_cells hB1
  replace hB1 := (hb5.block B (lt_blk hB1)).trans hB1
  replace hQ1 := (hb5.block Q (lt_blk hQ1)).trans hQ1
  replace hv2 := hv2.later hb5
  replace hq2 := hq2.later hb5
  replace sb := sb.later hb5
  replace b3 := below_then b3 hb5
  clear hb5
  have kc4 := kc2 W4
  rw [hQ] at l3 kc4
  go_wp2_with fail
  refine (HDo.out _ patL _ _ _ _ _ hv2 l3).mono ?_
  rintro e W5 ⟨ac, nc, cc, rfl, sc, c5⟩
  rw [patL_done] at sc ⊢
  simp only at sc ⊢
  replace hB1 := (c5.block B (lt_blk hB1)).trans hB1
  replace hQ1 := (c5.block Q (lt_blk hQ1)).trans hQ1
  replace hv2 := hv2.later c5
  replace hq2 := hq2.later c5
  replace sb := sb.later c5
  replace b3 := below_then b3 c5
  clear c5 l3 kc4 hQ W4 p0 p1 p2 p3 p4 p5
  have l4 := lit_bs_marked W5 [97, 98, 99, 100, 101, 102, 103, 105] 8 (8, 9) rfl (by omega) (by decide)
  have hb6 : Below W5.heap.size W5 (W5.alloc (.cells (([97, 98, 99, 100, 101, 102, 103, 105] : List Int).map (Value.int .u8)).toArray 5 (8, 9))) := (Below.refl _ _).alloc (Nat.le_refl _) _
  obtain ⟨p0, p1, p2, p3, p4, p5, -⟩ := pat_cells hB1
  replace hB1 := (hb6.block B (lt_blk hB1)).trans hB1
  replace hQ1 := (hb6.block Q (lt_blk hQ1)).trans hQ1
  replace hv2 := hv2.later hb6
  replace hq2 := hq2.later hb6
  replace sb := sb.later hb6
  replace sc := sc.later hb6
  replace b3 := below_then b3 hb6
  clear hb6
  go_wp2_with fail
  refine (HDo.out _ patL _ _ _ _ _ hv2 l4).mono ?_
  rintro e W6 ⟨ad, nd, cd, rfl, -, c6⟩
  rw [patL_other]
  simp only
  replace hB1 := (c6.block B (lt_blk hB1)).trans hB1
  replace hQ1 := (c6.block Q (lt_blk hQ1)).trans hQ1
  replace hv2 := hv2.later c6
  replace hq2 := hq2.later c6
  replace sb := sb.later c6
  replace sc := sc.later c6
  replace b3 := below_then b3 c6
  clear c6 l4 p0 p1 p2 p3 p4 p5
  obtain ⟨p0, p1, p2, p3, p4, p5, -⟩ := pat_cells hB1
  obtain ⟨q0, q1, q2, q3, q4, q5, -⟩ := pat_cells hQ1
  go_wp2_with fail
  refine (HSm.out _ _ patL patL _ hv2 hq2).mono ?_
  rintro e W7 ⟨rfl, c7⟩
  rw [decide_eq_true (rfl : patL = patL)]
  replace sb := sb.later c7
  replace sc := (sc.later c7).string
  rw [show strOfNums [120, 101, 102, 103, 104, 97, 98, 99, 100] = ⟨#[120, 101, 102, 103, 104, 97, 98, 99, 100]⟩ from rfl] at sc
  replace b3 := below_then b3 c7
  clear c7 hB1 hQ1 hv2 hq2 p0 p1 p2 p3 p4 p5 q0 q1 q2 q3 q4 q5
  have hcut : ∀ W, (Instr.slice 22 (.slice ab 15 cb) (some (.int .i64 6)) none none).run Try.prog W = .ok (.slice (cutA ab cb 6) 9 (cb - 6)) W := fun W => run_cut_l ab 15 cb W 6 (by omega)
  have hs6 := sb.cut 6 (by omega)
  generalize cutA ab cb 6 = A6 at hcut hs6
  generalize cb - 6 = C6 at hcut hs6
  have l5 := lit_bs_marked W7 [9, 3, 255, 1, 120, 4, 4, 0, 4] 9 (0, 0) rfl (by omega) (by decide)
  have hb8 : Below W7.heap.size W7 (W7.alloc (.cells (([9, 3, 255, 1, 120, 4, 4, 0, 4] : List Int).map (Value.int .u8)).toArray 5 (0, 0))) := (Below.refl _ _).alloc (Nat.le_refl _) _
  replace hs6 := hs6.later hb8
  replace b3 := below_then b3 hb8
  clear hb8 sb
  go_wp2_with fail
  refine (eqBytes_any _ _ _ _ _ _ _ _ _ hs6 l5).mono ?_
  rintro e w' ⟨rfl, rfl⟩
  rw [decide_eq_true (by rfl)]
  go_wp2_with fail
  go_ret
  exact ⟨rfl, b3⟩
end Go.Proofs.Ytmpmaljkmfgagab
