/-
  The closed fact of the chunks' statements: a patch of one chunk.
-/
import Derived.Test.YtmpmaljkmfgagabChunkC
import Derived.Test.YtmpmaljkmfgagabRowToOpenN
import Derived.Test.YtmpmaljkmfgagabPatchC
import Derived.Test.YtmpmaljkmfgagabPatMade
import Derived.Test.YtmpmaljkmfgagabCheckCh
namespace Go.Proofs.Ytmpmaljkmfgagab
open Go.RowKit

/-- the packed bytes of the closed facts' patch -/
def packL : List Int := [15, 1, 2, 128, 244, 182, 115, 9, 3, 255, 1, 120, 4, 4, 0, 4]
theorem packL_packs : PackM.Packs (PatM.putL patL) packL := by
  rw [patL_put]
  refine .lit [1, 2, 128, 244, 182, 115, 9, 3, 255, 1, 120, 4, 4, 0, 4] [] 15 (by omega) (by omega) (by simp) ?_ (.inl rfl) .nil
  decide
theorem packL_unp : PackM.Unp 400 packL [] (PatM.putL patL, 0) := by
  have := packL_packs.back 400 [] [] (PatM.putL patL, 0) (by rw [patL_put]; simp) (by simpa using PackM.Unp.done (PatM.putL patL))
  simpa using this
/-- its one chunk -/
def chL : ChR := ⟨1, 2, 0, 1, packL⟩
theorem chL_cut : ChunkM.cutL patL.from_ patL.to_ packL = [chL] := by decide
theorem cut_patL {cs : List ChR} {err : Int} (h : ChunkM.CutIs patL cs err) : cs = [chL] ∧ err = 0 :=
  h.det (.inr ⟨patL_check, packL, packL_packs, chL_cut.symm, rfl⟩)
theorem chL_checks : ChunkM.checks [chL] = 0 := by decide
theorem join_chL {r : PatR × Int} (h : ChunkM.JoinIs [chL] r) : r = (patL, 0) := by
  refine h.det (.inr ⟨by decide, (PatM.putL patL, 0), ?_, ?_⟩)
  · have : ChunkM.flatD [chL] = packL := by decide
    rw [this]
    exact packL_unp
  · unfold ChunkM.joinEnd
    simp only
    rw [PatM.read_put patL_check]
    decide
theorem join_nil {r : PatR × Int} (h : ChunkM.JoinIs [] r) : r = (noPat, 5) := h.det (.inl ⟨by decide, by rw [show ChunkM.joinErr [] = 5 by decide]⟩)
/-- the chunk that is added -/
def chM : ChR := ⟨1, 2, 0, 1, [1, 2]⟩
theorem add_chM : ChunkM.addOf [] chM = ([chM], 0) := by decide

set_option maxRecDepth 100000 in
set_option maxHeartbeats 1000000 in
theorem chunkFact_any (HCt : CutCC) (HAd : AddCC) (HJn : JoinCC) (HLs : ListCC) (HSm : SamePC) (w : World) (hM : MaxCell w) :
    Calls Try.prog 51 #[] w fun e w' => e = .returned (.bool true) ∧ Below w.heap.size w w' := by
  have kc := fun (w : World) (C : Array Value) (n c : Nat) => Lib.run_convert_bytes_const (P := Try.prog) w 22 5 C n c Try.underlying22 Try.underlying5
  have sz : ∀ (w : World) (o : Obj), (w.alloc o).heap.size = w.heap.size + 1 := fun w o => by simp
  have kc2 : ∀ (w : World) (o : Obj) (C : Array Value) (n c : Nat), (convert 22 22 (.slice (some ⟨w.heap.size + 1, 0, none⟩) n c)).run Try.prog ((w.alloc o).alloc (.cells C 5)) = .ok (.slice (some ⟨w.heap.size + 1, 0, none⟩) n c) ((w.alloc o).alloc (.cells C 5 (C.size, C.size + 1))) := fun w o C n c => by
    have := kc (w.alloc o) C n c
    rwa [sz] at this
  have l1 := lit_bs_marked w [97, 98, 99, 100, 101, 102, 103, 104] 8 (8, 9) rfl (by omega) (by decide)
  have b1 : Below w.heap.size w (w.alloc (.cells (([97, 98, 99, 100, 101, 102, 103, 104] : List Int).map (Value.int .u8)).toArray 5 (8, 9))) := (Below.refl _ _).alloc (Nat.le_refl _) _
  have l2 := lit_bs_marked (w.alloc (.cells (([97, 98, 99, 100, 101, 102, 103, 104] : List Int).map (Value.int .u8)).toArray 5 (8, 9))) [120, 101, 102, 103, 104, 97, 98, 99, 100] 9 (9, 10) rfl (by omega) (by decide)
  rw [sz] at l2
  have b2 := b1.alloc b1.size (.cells (([120, 101, 102, 103, 104, 97, 98, 99, 100] : List Int).map (Value.int .u8)).toArray 5 (9, 10))
  replace l1 := l1.later ((Below.refl _ _).alloc (Nat.le_refl _) (.cells (([120, 101, 102, 103, 104, 97, 98, 99, 100] : List Int).map (Value.int .u8)).toArray 5 (9, 10)))
  have hM2 := hM.later b2
  have SZ := Lib.hid sz
  clear b1 sz
  replace HCt := Lib.hid HCt
  replace HAd := Lib.hid HAd
  replace HJn := Lib.hid HJn
  replace HLs := Lib.hid HLs
  replace HSm := Lib.hid HSm
  go_enter Try.func51, Try.ntmps51
  go_wp2_with fail
  refine (made_any 1 2 _ _ 8 8 9 9 [97, 98, 99, 100, 101, 102, 103, 104] [120, 101, 102, 103, 104, 97, 98, 99, 100] _ l1 l2 (by omega) (by omega) hM2 (by unfold I64; omega) (by unfold I64; omega)).mono ?_
  rintro e W1 ⟨ops, hdif, v, rfl, hv, hb1⟩
  obtain rfl := hdif.det dif_three
  rw [patL_made] at hv ⊢
  simp only at hv ⊢
  have b3 := below_then b2 hb1
  clear hdif l1 l2 b2 hb1 hM2 hM
  obtain ⟨ap, np, cp, rfl, hop, hpi⟩ := hv
  simp only [patL] at hop hpi ⊢
  have hb2 : Below W1.heap.size W1 (W1.alloc (.cells #[.int .i64 1, .int .i64 2, .int .i64 33012, .int .i64 46707, .int .i64 9, .slice ap np cp] 41)) := (Below.refl _ _).alloc (Nat.le_refl _) _
  obtain ⟨B, hB⟩ : ∃ B, W1.heap.size = B := ⟨_, rfl⟩
  have hB1 : (W1.alloc (.cells #[.int .i64 1, .int .i64 2, .int .i64 33012, .int .i64 46707, .int .i64 9, .slice ap np cp] 41)).heap[B]? = some (.cells #[.int .i64 1, .int .i64 2, .int .i64 33012, .int .i64 46707, .int .i64 9, .slice ap np cp] 41 (0, 0)) := by rw [heap_at, if_pos hB.symm]
  have hv2 : PV (W1.alloc (.cells #[.int .i64 1, .int .i64 2, .int .i64 33012, .int .i64 46707, .int .i64 9, .slice ap np cp] 41)) (.agg #[.int .i64 1, .int .i64 2, .int .i64 33012, .int .i64 46707, .int .i64 9, .slice ap np cp]) patL := ⟨ap, np, cp, rfl, hop.later hb2, hpi⟩
  replace b3 := below_then b3 hb2
  clear hop hpi hb2
  go_wp2_with fail
  generalize W1.alloc (.cells #[.int .i64 1, .int .i64 2, .int .i64 33012, .int .i64 46707, .int .i64 9, .slice ap np cp] 41) = W2 at hB1 hv2 b3 ⊢
  clear hB W1
  refine (HCt.out _ patL _ hv2).mono ?_
  rintro e W3 ⟨cs, err, al, nl, cl, hcut, rfl, sl, c3⟩
  obtain ⟨rfl, rfl⟩ := cut_patL hcut
  obtain rfl : nl = 1 := sl.len.symm
  replace hB1 := (c3.block B (lt_blk hB1)).trans hB1
  replace hv2 := hv2.later c3
  replace b3 := below_then b3 c3
  clear c3 W2 hcut
  go_wp2_with fail
  refine (HJn.out _ _ _ _ _ sl).mono ?_
  rintro e W4 ⟨r, hr, vq, rfl, hq, c4⟩
  obtain rfl := join_chL hr
  simp only at hq ⊢
  obtain ⟨aq, nq_, cq, rfl, hoq, hqi⟩ := hq
  simp only [patL] at hoq hqi ⊢
  replace hB1 := (c4.block B (lt_blk hB1)).trans hB1
  replace hv2 := hv2.later c4
  replace sl := sl.later c4
  replace b3 := below_then b3 c4
  clear c4 hr
  have hb2 : Below W4.heap.size W4 (W4.alloc (.cells #[.int .i64 1, .int .i64 2, .int .i64 33012, .int .i64 46707, .int .i64 9, .slice aq nq_ cq] 41)) := (Below.refl _ _).alloc (Nat.le_refl _) _
  obtain ⟨Q, hQ⟩ : ∃ Q, W4.heap.size = Q := ⟨_, rfl⟩
  have hQ1 : (W4.alloc (.cells #[.int .i64 1, .int .i64 2, .int .i64 33012, .int .i64 46707, .int .i64 9, .slice aq nq_ cq] 41)).heap[Q]? = some (.cells #[.int .i64 1, .int .i64 2, .int .i64 33012, .int .i64 46707, .int .i64 9, .slice aq nq_ cq] 41 (0, 0)) := by rw [heap_at, if_pos hQ.symm]
  have hq2 : PV (W4.alloc (.cells #[.int .i64 1, .int .i64 2, .int .i64 33012, .int .i64 46707, .int .i64 9, .slice aq nq_ cq] 41)) (.agg #[.int .i64 1, .int .i64 2, .int .i64 33012, .int .i64 46707, .int .i64 9, .slice aq nq_ cq]) patL := ⟨aq, nq_, cq, rfl, hoq.later hb2, hqi⟩
  replace hB1 := (hb2.block B (lt_blk hB1)).trans hB1
  replace hv2 := hv2.later hb2
  replace sl := sl.later hb2
  replace b3 := below_then b3 hb2
  clear hoq hqi hb2
  go_wp2_with fail
  generalize W4.alloc (.cells #[.int .i64 1, .int .i64 2, .int .i64 33012, .int .i64 46707, .int .i64 9, .slice aq nq_ cq] 41) = W5 at hB1 hQ1 hv2 hq2 sl b3 ⊢
  clear hQ W4
  refine (HJn.out _ _ _ [] _ (CS.nil_ _)).mono ?_
  rintro e W6 ⟨r, hr, vz, rfl, hz, c6⟩
  obtain rfl := join_nil hr
  simp only at hz ⊢
  obtain ⟨az, nz, cz, rfl, -, -⟩ := hz
  simp only [noPat] at ⊢
  have hb2 : Below W6.heap.size W6 (W6.alloc (.cells #[.int .i64 0, .int .i64 0, .int .i64 0, .int .i64 0, .int .i64 0, .slice az nz cz] 41)) := (Below.refl _ _).alloc (Nat.le_refl _) _
  have c7 := below_then c6 hb2
  replace hB1 := (c7.block B (lt_blk hB1)).trans hB1
  replace hQ1 := (c7.block Q (lt_blk hQ1)).trans hQ1
  replace hv2 := hv2.later c7
  replace hq2 := hq2.later c7
  replace sl := sl.later c7
  replace b3 := below_then b3 c7
  clear c6 c7 hb2 hr
  generalize hW7 : W6.alloc (.cells #[.int .i64 0, .int .i64 0, .int .i64 0, .int .i64 0, .int .i64 0, .slice az nz cz] 41) = W7 at hB1 hQ1 hv2 hq2 sl b3
  have lm := lit_bs W7 [1, 2] 2 rfl (by omega) (by decide)
  have hbm : Below W7.heap.size W7 (W7.alloc (.cells (([1, 2] : List Int).map (Value.int .u8)).toArray 5)) := (Below.refl _ _).alloc (Nat.le_refl _) _
  have hcm : CV (W7.alloc (.cells (([1, 2] : List Int).map (Value.int .u8)).toArray 5)) (.agg #[.int .i64 1, .int .i64 2, .int .i64 0, .int .i64 1, .slice (some ⟨W7.heap.size, 0, none⟩) 2 2]) chM := ⟨_, 2, 2, rfl, lm, by unfold I64; simp [chM], by unfold I64; simp [chM], by unfold I64; simp [chM], by unfold I64; simp [chM]⟩
  replace hB1 := (hbm.block B (lt_blk hB1)).trans hB1
  replace hQ1 := (hbm.block Q (lt_blk hQ1)).trans hQ1
  replace hv2 := hv2.later hbm
  replace hq2 := hq2.later hbm
  replace sl := sl.later hbm
  replace b3 := below_then b3 hbm
  clear lm hbm
  subst hW7
  rw [SZ.out] at hcm
  go_wp2_with fail
  refine (HAd.out none 0 0 [] _ chM _ (CS.nil_ _) hcm).mono ?_
  rintro e W8 ⟨am, nm, cm, rfl, sm, c8⟩
  rw [add_chM] at sm ⊢
  simp only at sm ⊢
  obtain rfl : nm = 1 := sm.len.symm
  replace hB1 := (c8.block B (lt_blk hB1)).trans hB1
  replace hQ1 := (c8.block Q (lt_blk hQ1)).trans hQ1
  replace hv2 := hv2.later c8
  replace hq2 := hq2.later c8
  replace sl := sl.later c8
  replace b3 := below_then b3 c8
  clear c8 hcm sm
  obtain ⟨b, off, rfl, hcs⟩ := sl.cells (by omega)
  obtain ⟨va, vm, vc, q0, q1, q2, q3, q4, q5, -⟩ := hcs 0 (by omega)
  have hdat : ([chL].getD 0 default).data = packL := rfl
  rw [hdat] at q5
  obtain rfl : vm = 16 := q5.len.symm
  obtain ⟨b2, off2, rfl, hcd⟩ := q5.cells (by omega)
  have d0 := hcd 0 (by omega)
  have hd0 : (packL[0]?.getD 0 : Int) = 15 := rfl
  rw [hd0] at d0
  simp only [Nat.zero_mul, Nat.add_zero] at q4 d0
  obtain ⟨p0, p1, p2, p3, p4, p5, -⟩ := pat_cells hB1
  obtain ⟨r0, r1, r2, r3, r4, r5, -⟩ := pat_cells hQ1
  have HSL := Lib.hid sl
  have HV2 := Lib.hid hv2
  have HQ2 := Lib.hid hq2
  have HB3 := Lib.hid b3
  clear hcs hcd q0 q1 q2 q3 q5 hdat hd0 sl hv2 hq2 b3 hB1 hQ1
  go_wp2_with fail
  refine (HSm.out _ _ patL patL _ HV2.out HQ2.out).mono ?_
  rintro e W9 ⟨rfl, c9⟩
  rw [decide_eq_true (rfl : patL = patL)]
  have HSL9 := Lib.hid (HSL.out.later c9)
  have HB9 := Lib.hid (below_then HB3.out c9)
  clear c9 HSL HB3 HV2 HQ2
  go_wp2_with fail
  refine (HLs.out _ _ _ _ _ HSL9.out).mono ?_
  rintro e W10 ⟨rfl, c10⟩
  rw [chL_checks]
  have b11 := below_then HB9.out c10
  go_wp2_with fail
  go_ret
  exact ⟨rfl, b11⟩
end Go.Proofs.Ytmpmaljkmfgagab
