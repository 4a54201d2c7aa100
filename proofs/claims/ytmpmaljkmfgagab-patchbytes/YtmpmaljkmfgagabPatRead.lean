/-
  Contract of the reference's PatchRead.
-/
import Derived.Test.YtmpmaljkmfgagabReadSt
import Derived.Deep.RegionHeld3
import Derived.Deep.DeepCutAuto
import Derived.Test.YtmpmaljkmfgagabStep
namespace Go.Proofs.Ytmpmaljkmfgagab
open Go.RowKit

/-- the rounds of PatchRead -/
def ReadRel (S : World → Prop) (b : List Int) (w : World) (B0 B1 B2 : Nat) (vb : Value) (f t o nw s : Int) (cnt : Nat) (i k : Value) (wr : World) : Prop :=
  ∃ (j kk : Nat) (vo : Value) (out : List OpR), i = .int .i64 j ∧ k = .int .i64 kk ∧ kk ≤ cnt ∧ 8 ≤ j ∧ j ≤ b.length ∧ out.length = kk ∧ RSt S w B0 B1 B2 vb f t o nw s vo out wr ∧ PatM.rd (cnt - kk) (b.drop j) out = PatM.rd cnt (b.drop 8) []

set_option maxRecDepth 100000 in
set_option maxHeartbeats 4000000 in
theorem patRead_n (a : Option Addr) (n c : Nat) (b : List Int) (w : World) (hs : BS w a n c b) :
    Calls Try.prog 35 #[.slice a n c] w (GivesPN (fun W => BS W a n c b) (PatM.readOf b) w) := by
  have HLn := Lib.hid hs.len
  obtain ⟨B0, hB0⟩ : ∃ B0, w.heap.size = B0 := ⟨_, rfl⟩
  have e0 : (w.alloc (.cells #[.slice a n c] 22)).heap.size = B0 + 1 := by simp [hB0]
  have hbl : Below w.heap.size w ((w.alloc (.cells #[.slice a n c] 22)).alloc (.cells #[.int .i64 0, .int .i64 0, .int .i64 0, .int .i64 0, .int .i64 0, .slice none 0 0] 41)) := ((Below.refl _ _).alloc (Nat.le_refl _) _).alloc (by rw [e0]; omega) _
  have hc0 : ((w.alloc (.cells #[.slice a n c] 22)).alloc (.cells #[.int .i64 0, .int .i64 0, .int .i64 0, .int .i64 0, .int .i64 0, .slice none 0 0] 41)).heap[B0]? = some (.cells #[.slice a n c] 22 (0, 0)) := by
    rw [heap_at, if_neg (by rw [e0]; omega), heap_at, if_pos hB0.symm]
  have hc1 : ((w.alloc (.cells #[.slice a n c] 22)).alloc (.cells #[.int .i64 0, .int .i64 0, .int .i64 0, .int .i64 0, .int .i64 0, .slice none 0 0] 41)).heap[B0 + 1]? = some (.cells #[.int .i64 0, .int .i64 0, .int .i64 0, .int .i64 0, .int .i64 0, .slice none 0 0] 41 (0, 0)) := by
    rw [heap_at, if_pos e0.symm]
  have hs0 := hs.later hbl
  have k0 := cell_blk hc0
  have HS := Lib.hid hs
  clear hs e0
  have hz0 : ((w.alloc (.cells #[.slice a n c] 22)).alloc (.cells #[.int .i64 0, .int .i64 0, .int .i64 0, .int .i64 0, .int .i64 0, .slice none 0 0] 41)).heap.size = B0 + 2 := by simp [hB0]
  have HBL : Hid (w.heap.size ≤ B0 + 1) := by show w.heap.size ≤ B0 + 1; omega
  -- what a call of 'bad' and the store of what it gives leave
  have HBAD : Hid (∀ (W W9 : World), W.heap[B0 + 1]? = some (.cells #[.int .i64 0, .int .i64 0, .int .i64 0, .int .i64 0, .int .i64 0, .slice none 0 0] 41 (0, 0)) → Below w.heap.size w W → Below W.heap.size W W9 →
      W9.heap[B0 + 1]? = some (.cells #[.int .i64 0, .int .i64 0, .int .i64 0, .int .i64 0, .int .i64 0, .slice none 0 0] 41 (0, 0)) ∧ Below w.heap.size w W9) := by
    show ∀ (W W9 : World), _
    intro W W9 h1 h2 h3
    exact ⟨(h3.block _ (lt_blk h1)).trans h1, below_then h2 h3⟩
  by_cases h400 : 400 < n
  · have HK : Hid (PatM.readOf b = (noPat, 1)) := by show _ = _; unfold PatM.readOf; rw [if_pos (by rw [HLn.out]; exact h400)]
    go_enter Try.func35, Try.ntmps35
    go_wp2_with fail
    generalize (w.alloc (.cells #[.slice a n c] 22)).alloc (.cells #[.int .i64 0, .int .i64 0, .int .i64 0, .int .i64 0, .int .i64 0, .slice none 0 0] 41) = W0 at hbl hc0 hc1 hs0 k0 hz0 ⊢
    refine (bad_any 1 _).mono ?_
    rintro e W9 ⟨rfl, b9⟩
    obtain ⟨hB1, hb9⟩ := HBAD.out W0 W9 (hc1) (hbl) b9
    obtain ⟨r0, r1, r2, r3, r4, r5, f0, f1, f2, f3, f4, f5⟩ := pat_cells hB1
    have g0 : ∀ v, (W9.setCell ⟨B0 + 1, 0, none⟩ v).cell? ⟨B0 + 1, 0, none⟩ = some v := fun v => World.cell?_setCell_same _ _ _ r0
    obtain ⟨W6, hW6, q0, q1, q2, q3, q4, q5, hoth, hsz⟩ := set_six hB1 (.int .i64 0) (.int .i64 0) (.int .i64 0) (.int .i64 0) (.int .i64 0) (.slice none 0 0)
    have HB6 : Hid (Below w.heap.size w W6) := by
      show Below _ _ _
      rw [← hW6]
      exact (((((hb9.setCell HBL.out _).setCell HBL.out _).setCell HBL.out _).setCell HBL.out _).setCell HBL.out _).setCell HBL.out _
    clear hoth hsz hb9 b9 hbl hc0 hc1 hs0 k0 hz0
    go_wp2_with fail
    try simp only [Exit.inBlock, Exit.then]
    refine bodyPost_ret (by simp [results, Try.results35, go_sem, q0, q1, q2, q3, q4, q5]; try rfl) rfl ?_
    exact ⟨_, by rw [HK.out], HB6.out, fun _ _ _ _ => by rw [HK.out]; exact noPat_pv _⟩
  · by_cases h8 : n < 8
    · have HK : Hid (PatM.readOf b = (noPat, 7)) := by show _ = _; unfold PatM.readOf; rw [if_neg (by rw [HLn.out]; exact h400), if_pos (by rw [HLn.out]; exact h8)]
      go_enter Try.func35, Try.ntmps35
      go_wp2_with fail
      generalize (w.alloc (.cells #[.slice a n c] 22)).alloc (.cells #[.int .i64 0, .int .i64 0, .int .i64 0, .int .i64 0, .int .i64 0, .slice none 0 0] 41) = W0 at hbl hc0 hc1 hs0 k0 hz0 ⊢
      refine (bad_any 7 _).mono ?_
      rintro e W9 ⟨rfl, b9⟩
      obtain ⟨hB1, hb9⟩ := HBAD.out W0 W9 (hc1) (hbl) b9
      obtain ⟨r0, r1, r2, r3, r4, r5, f0, f1, f2, f3, f4, f5⟩ := pat_cells hB1
      have g0 : ∀ v, (W9.setCell ⟨B0 + 1, 0, none⟩ v).cell? ⟨B0 + 1, 0, none⟩ = some v := fun v => World.cell?_setCell_same _ _ _ r0
      obtain ⟨W6, hW6, q0, q1, q2, q3, q4, q5, hoth, hsz⟩ := set_six hB1 (.int .i64 0) (.int .i64 0) (.int .i64 0) (.int .i64 0) (.int .i64 0) (.slice none 0 0)
      have HB6 : Hid (Below w.heap.size w W6) := by
        show Below _ _ _
        rw [← hW6]
        exact (((((hb9.setCell HBL.out _).setCell HBL.out _).setCell HBL.out _).setCell HBL.out _).setCell HBL.out _).setCell HBL.out _
      clear hoth hsz hb9 b9 hbl hc0 hc1 hs0 k0 hz0
      go_wp2_with fail
      try simp only [Exit.inBlock, Exit.then]
      refine bodyPost_ret (by simp [results, Try.results35, go_sem, q0, q1, q2, q3, q4, q5]; try rfl) rfl ?_
      exact ⟨_, by rw [HK.out], HB6.out, fun _ _ _ _ => by rw [HK.out]; exact noPat_pv _⟩
    · have hn8 : 8 ≤ n := by omega
      go_enter Try.func35, Try.ntmps35
      go_wp2_with fail
      generalize (w.alloc (.cells #[.slice a n c] 22)).alloc (.cells #[.int .i64 0, .int .i64 0, .int .i64 0, .int .i64 0, .int .i64 0, .slice none 0 0] 41) = W0 at hbl hc0 hc1 hs0 k0 hz0 ⊢
      obtain ⟨blk, off, rfl, hc⟩ := hs0.cells (by omega)
      have t0 := hc 0 (by omega)
      have t1 := hc 1 (by omega)
      have t2 := hc 2 (by omega)
      have t3 := hc 3 (by omega)
      have t4 := hc 4 (by omega)
      have t5 := hc 5 (by omega)
      have t6 := hc 6 (by omega)
      have y0 := hs0.byte 0
      have y1 := hs0.byte 1
      have y2 := hs0.byte 2
      have y3 := hs0.byte 3
      have y4 := hs0.byte 4
      have y5 := hs0.byte 5
      have y6 := hs0.byte 6
      have HHd : Hid (∀ ops, PatM.headOf b ops = ⟨b[0]?.getD 0, b[1]?.getD 0, b[2]?.getD 0 * 256 + b[3]?.getD 0, b[4]?.getD 0 * 256 + b[5]?.getD 0, b[6]?.getD 0, ops⟩) := by
        show ∀ ops, _
        intro ops
        simp only [PatM.headOf, List.getD_eq_getElem?_getD]
      generalize b[0]?.getD 0 = x0 at t0 y0 HHd
      generalize b[1]?.getD 0 = x1 at t1 y1 HHd
      generalize b[2]?.getD 0 = x2 at t2 y2 HHd
      generalize b[3]?.getD 0 = x3 at t3 y3 HHd
      generalize b[4]?.getD 0 = x4 at t4 y4 HHd
      generalize b[5]?.getD 0 = x5 at t5 y5 HHd
      generalize b[6]?.getD 0 = x6 at t6 y6 HHd
      rw [Nat.add_zero] at t0
      have HN2 : Hid (∀ W : World, W.cell? ⟨B0, 0, none⟩ = some (.slice (some ⟨blk, off, none⟩) n c) → W.cell? ⟨blk, off + 2, none⟩ = some (.int .u8 x2) → W.cell? ⟨blk, off + 3, none⟩ = some (.int .u8 x3) →
          Calls Try.prog 84 #[.int .i64 2, .pointer (some ⟨B0, 0, none⟩)] W fun e w' => e = .returned (.int .i64 (x2 * 256 + x3)) ∧ DrewN W w') := by
        show ∀ W : World, _
        intro W h1 h2 h3
        exact num_any B0 blk off n c 2 x2 x3 W h1 h2 h3 (by omega) (by omega) y2 y3
      have HN4 : Hid (∀ W : World, W.cell? ⟨B0, 0, none⟩ = some (.slice (some ⟨blk, off, none⟩) n c) → W.cell? ⟨blk, off + 4, none⟩ = some (.int .u8 x4) → W.cell? ⟨blk, off + 5, none⟩ = some (.int .u8 x5) →
          Calls Try.prog 84 #[.int .i64 4, .pointer (some ⟨B0, 0, none⟩)] W fun e w' => e = .returned (.int .i64 (x4 * 256 + x5)) ∧ DrewN W w') := by
        show ∀ W : World, _
        intro W h1 h2 h3
        exact num_any B0 blk off n c 4 x4 x5 W h1 h2 h3 (by omega) (by omega) y4 y5
      clear hc
      have u0 : (0 : Int) < n := by omega
      have u1 : (1 : Int) < n := by omega
      have u6 : (6 : Int) < n := by omega
      have v0 : 0 < n := by omega
      have v1 : 1 < n := by omega
      have v6 : 6 < n := by omega
      have z1 : ∀ (W : World) (q : Nat) (p : Addr), (W.drewN q).cell? p = W.cell? p := fun _ _ _ => rfl
      have z2 : ∀ (W : World) (q : Nat) (p : Addr), (W.drewN q).frozen? p = W.frozen? p := fun _ _ _ => rfl
      have z3 : ∀ (W : World) (q : Nat) (o : Obj), (W.drewN q).alloc o = (W.alloc o).drewN q := fun _ _ _ => rfl
      have z4 : ∀ (W : World) (q : Nat) (p : Addr) (v : Value), (W.drewN q).setCell p v = (W.setCell p v).drewN q := fun _ _ _ _ => rfl
      have hwx0 : IntKind.i64.wrap x0 = x0 := IntWalk.i64_in _ (by omega)
      have hwx1 : IntKind.i64.wrap x1 = x1 := IntWalk.i64_in _ (by omega)
      have hwx6 : IntKind.i64.wrap x6 = x6 := IntWalk.i64_in _ (by omega)
      have HST : Hid (RSt (fun W => BS W (some ⟨blk, off, none⟩) n c b) w B0 (B0 + 1) (B0 + 2) (.slice (some ⟨blk, off, none⟩) n c) x0 x1 (x2 * 256 + x3) (x4 * 256 + x5) x6 (.slice none 0 0) [] (W0.alloc (.cells #[.int .i64 x0, .int .i64 x1, .int .i64 (x2 * 256 + x3), .int .i64 (x4 * 256 + x5), .int .i64 x6, .slice none 0 0] 41))) := by
        refine ⟨by rw [heap_at, if_neg (by rw [hz0]; omega)]; exact hc0, by rw [heap_at, if_neg (by rw [hz0]; omega)]; exact hc1, by rw [heap_at, if_pos hz0.symm], ⟨[], rfl, World.ownsRow_nil _ _ _ _, fun i hi => absurd hi (by simp)⟩, hbl.alloc hbl.size _, by omega, by omega, by omega, fun W' hb => HS.out.later hb⟩
      go_cut [6] (fun s6 wx => s6 = .pointer (some ⟨B0 + 2, 0, none⟩) ∧ RSt (fun W => BS W (some ⟨blk, off, none⟩) n c b) w B0 (B0 + 1) (B0 + 2) (.slice (some ⟨blk, off, none⟩) n c) x0 x1 (x2 * 256 + x3) (x4 * 256 + x5) x6 (.slice none 0 0) [] wx)
      case first =>
        go_region_held3 (fun W => W.cell? ⟨B0, 0, none⟩ = some (.slice (some ⟨blk, off, none⟩) n c) ∧ W.cell? ⟨blk, off, none⟩ = some (.int .u8 x0) ∧ W.cell? ⟨blk, off + 1, none⟩ = some (.int .u8 x1) ∧ W.cell? ⟨blk, off + 2, none⟩ = some (.int .u8 x2) ∧ W.cell? ⟨blk, off + 3, none⟩ = some (.int .u8 x3) ∧ W.cell? ⟨blk, off + 4, none⟩ = some (.int .u8 x4) ∧ W.cell? ⟨blk, off + 5, none⟩ = some (.int .u8 x5) ∧ W.cell? ⟨blk, off + 6, none⟩ = some (.int .u8 x6))
          (first | exact ⟨k0, t0, t1, t2, t3, t4, t5, t6⟩ | go_keep)
          (first
            | (go_at_call_of 84 (Value.int .i64 2); refine (HN2.out _ ?_ ?_ ?_).mono ?_; (go_split_ands; assumption); (go_split_ands; assumption); (go_split_ands; assumption); rintro e W3 ⟨rfl, q3, rfl⟩)
            | (go_at_call_of 84 (Value.int .i64 4); refine (HN4.out _ ?_ ?_ ?_).mono ?_; (go_split_ands; assumption); (go_split_ands; assumption); (go_split_ands; assumption); rintro e W3 ⟨rfl, q4, rfl⟩))
        all_goals
          go_wp2_with fail
          go_meet
          exact ⟨rfl, HST.out.drewN _⟩
      case rest =>
        obtain ⟨rfl, hst⟩ := hcut
        have HST2 := Lib.hid hst
        have HI : Hid (I64 x0 ∧ I64 x1 ∧ I64 (x2 * 256 + x3) ∧ I64 (x4 * 256 + x5) ∧ I64 x6) := by
          show I64 _ ∧ _
          refine ⟨?_, ?_, ?_, ?_, ?_⟩ <;> (unfold I64; omega)
        have hc7 := HS.out.byte 7
        obtain ⟨C, hC⟩ : ∃ C : Nat, (b[7]?.getD 0 : Int) = (C : Int) := ⟨(b[7]?.getD 0).toNat, by omega⟩
        have hC255 : C ≤ 255 := by omega
        have HC : Hid ((b.getD 7 0).toNat = C) := by show _ = _; rw [List.getD_eq_getElem?_getD, hC]; simp
        have HC7 : Hid (w.cell? ⟨blk, off + 7, none⟩ = some (.int .u8 C)) := by
          show _ = _
          obtain ⟨b', o', e, hcs⟩ := HS.out.cells (by omega)
          cases e
          rw [← hC]
          exact hcs 7 (by omega)
        have HCS : Hid (∀ i, i < n → w.cell? ⟨blk, off + i, none⟩ = some (.int .u8 (b[i]?.getD 0))) := by
          show ∀ i, _
          obtain ⟨b', o', e, hcs⟩ := HS.out.cells (by omega)
          cases e
          exact hcs
        have HXc := Lib.hid HS.out.le
        obtain ⟨F2, hF2⟩ : ∃ F2, x2 * 256 + x3 = F2 := ⟨_, rfl⟩
        obtain ⟨F4, hF4⟩ : ∃ F4, x4 * 256 + x5 = F4 := ⟨_, rfl⟩
        rw [hF2, hF4] at HI HST2 HHd
        clear hst HST HN2 HN4 t0 t1 t2 t3 t4 t5 t6 k0 hc0 hc1 hbl hz0 hs0 y0 y1 y2 y3 y4 y5 y6 hC hc7 z1 z2 z3 z4 u0 u1 u6 v0 v1 v6 hF2 hF4 hwx0 hwx1 hwx6
        go_wp2_with fail
        go_loopw [7, 8] (fun i k wr => ReadRel (fun W => BS W (some ⟨blk, off, none⟩) n c b) b w B0 (B0 + 1) (B0 + 2) (.slice (some ⟨blk, off, none⟩) n c) x0 x1 F2 F4 x6 C i k wr) (fun _ k _ => C - (intOf k).toNat)
        case atStart => exact ⟨8, 0, _, [], rfl, rfl, Nat.zero_le _, Nat.le_refl _, by rw [HLn.out]; exact hn8, rfl, HST2.out, rfl⟩
        case round =>
          clear HST2
          obtain ⟨j, kk, vo, out, rfl, rfl, hkk, hj8, hjn, hol, hst, hrd⟩ := hrel
          rw [HLn.out] at hjn
          have HR := Lib.hid hst
          have HRD := Lib.hid hrd
          have HOL := Lib.hid hol
          have k0 := cell_blk hst.c0
          have t7 := cell_later hst.below HC7.out
          clear hst hrd hol
          have hn7 : 7 < n := by omega
          by_cases hlt : kk < C
          · obtain ⟨J, hJ⟩ : ∃ J : Nat, (j : Int) + 2 = J := ⟨j + 2, by omega⟩
            have HJ : Hid (j + 2 = J) := by show j + 2 = J; omega
            by_cases hsh : n < J
            · have HK : Hid (PatM.readOf b = (noPat, 7)) := PatM.read_err (by rw [HLn.out]; omega) (by rw [HLn.out]; omega) (by rw [HC.out, ← HRD.out]; exact PatM.rd_short (by omega) (by rw [List.length_drop, HLn.out]; omega)) (by omega)
              go_wp2_with fail
              refine (bad_any 7 _).mono ?_
              rintro e W9 ⟨rfl, b9⟩
              obtain ⟨hB1, hb9⟩ := HBAD.out _ W9 (HR.out.c1) (HR.out.below) b9
              obtain ⟨r0, r1, r2, r3, r4, r5, f0, f1, f2, f3, f4, f5⟩ := pat_cells hB1
              have g0 : ∀ v, (W9.setCell ⟨B0 + 1, 0, none⟩ v).cell? ⟨B0 + 1, 0, none⟩ = some v := fun v => World.cell?_setCell_same _ _ _ r0
              obtain ⟨W6, hW6, q0, q1, q2, q3, q4, q5, hoth, hsz⟩ := set_six hB1 (.int .i64 0) (.int .i64 0) (.int .i64 0) (.int .i64 0) (.int .i64 0) (.slice none 0 0)
              have HB6 : Hid (Below w.heap.size w W6) := by
                show Below _ _ _
                rw [← hW6]
                exact (((((hb9.setCell HBL.out _).setCell HBL.out _).setCell HBL.out _).setCell HBL.out _).setCell HBL.out _).setCell HBL.out _
              clear hoth hsz hb9 b9
              go_wp2_with fail
              try simp only [Exit.inBlock, Exit.then]
              refine bodyPost_ret (by simp [results, Try.results35, go_sem, q0, q1, q2, q3, q4, q5]; try rfl) rfl ?_
              exact ⟨_, by rw [HK.out], HB6.out, fun _ _ _ _ => by rw [HK.out]; exact noPat_pv _⟩
            · obtain ⟨J1, hJ1⟩ : ∃ J1 : Nat, (j : Int) + 1 = J1 := ⟨j + 1, by omega⟩
              have HJ1 : Hid (j + 1 = J1) := by show j + 1 = J1; omega
              have hj1 : j < n := by omega
              have hj2 : J1 < n := by omega
              have s1 := cell_later HR.out.below (HCS.out j hj1)
              have s2 := cell_later HR.out.below (HCS.out J1 hj2)
              have a1 := HS.out.byte j
              have a2 := HS.out.byte J1
              have HDR : Hid (b.drop j = b[j]?.getD 0 :: b[J1]?.getD 0 :: b.drop J) := by
                show _ = _
                rw [drop_byte b j (by rw [HLn.out]; exact hj1), HJ1.out, drop_byte b J1 (by rw [HLn.out]; exact hj2), ← HJ1.out, ← HJ.out]
              generalize b[j]?.getD 0 = x at s1 a1 HDR
              generalize b[J1]?.getD 0 = y at s2 a2 HDR
              obtain ⟨X, rfl⟩ : ∃ X : Nat, x = X := ⟨x.toNat, by omega⟩
              obtain ⟨Y, rfl⟩ : ∃ Y : Nat, y = Y := ⟨y.toNat, by omega⟩
              have hd1 : decide (j < n) = true := by simp; omega
              have hd2 : decide (J1 < n) = true := by simp; omega
              have hw1 : IntKind.i64.wrap (J1 : Int) = J1 := IntWalk.i64_in _ (by omega)
              have hrS : PatM.rd (C - kk) (b.drop j) out = PatM.rd (C - (kk + 1) + 1) ((X : Int) :: (Y : Int) :: b.drop J) out := by rw [HDR.out, show C - (kk + 1) + 1 = C - kk by omega]
              have HRS := Lib.hid (hrS.symm.trans HRD.out)
              clear hrS
              go_wp2_with fail
              go_quiet (fail)
              have HR1 := Lib.hid (HR.out.drewN nq)
              have k1 := cell_blk HR1.out.c0
              clear HR k0 t7 s1 s2
              generalize wr.drewN nq = W1 at HR1 k1 ⊢
              obtain ⟨p0, p1, p2, p3, p4, p5, -⟩ := pat_cells HR1.out.c2
              have hz1 := lt_blk HR1.out.c2
              by_cases hx : X = 255
              · subst hx
                obtain ⟨T, hT⟩ : ∃ T : Nat, (J : Int) + Y = T := ⟨J + Y, by omega⟩
                have HT : Hid (J + Y = T) := by show J + Y = T; omega
                by_cases hy : n < T
                · have HK : Hid (PatM.readOf b = (noPat, 7)) := PatM.read_err (o := []) (r := []) (by rw [HLn.out]; omega) (by rw [HLn.out]; omega) (by rw [HC.out, ← HRS.out, PatM.rd, if_pos (show ((255 : Nat) : Int) = 255 from rfl), if_pos (by rw [List.length_drop, HLn.out]; omega)]) (by omega)
                  clear p0 p1 p2 p3 p4 p5
                  go_wp2_with fail
                  refine (bad_any 7 _).mono ?_
                  rintro e W9 ⟨rfl, b9⟩
                  obtain ⟨hB1, hb9⟩ := HBAD.out _ W9 (HR1.out.c1) (HR1.out.below) b9
                  obtain ⟨r0, r1, r2, r3, r4, r5, f0, f1, f2, f3, f4, f5⟩ := pat_cells hB1
                  have g0 : ∀ v, (W9.setCell ⟨B0 + 1, 0, none⟩ v).cell? ⟨B0 + 1, 0, none⟩ = some v := fun v => World.cell?_setCell_same _ _ _ r0
                  obtain ⟨W6, hW6, q0, q1, q2, q3, q4, q5, hoth, hsz⟩ := set_six hB1 (.int .i64 0) (.int .i64 0) (.int .i64 0) (.int .i64 0) (.int .i64 0) (.slice none 0 0)
                  have HB6 : Hid (Below w.heap.size w W6) := by
                    show Below _ _ _
                    rw [← hW6]
                    exact (((((hb9.setCell HBL.out _).setCell HBL.out _).setCell HBL.out _).setCell HBL.out _).setCell HBL.out _).setCell HBL.out _
                  clear hoth hsz hb9 b9
                  go_wp2_with fail
                  try simp only [Exit.inBlock, Exit.then]
                  refine bodyPost_ret (by simp [results, Try.results35, go_sem, q0, q1, q2, q3, q4, q5]; try rfl) rfl ?_
                  exact ⟨_, by rw [HK.out], HB6.out, fun _ _ _ _ => by rw [HK.out]; exact noPat_pv _⟩
                · have hTJ : T - J = Y := by omega
                  have hcut : ∀ W, (Instr.slice 22 (.slice (some ⟨blk, off, none⟩) n c) (some (.int .i64 J)) (some (.int .i64 T)) none).run Try.prog W = .ok (.slice (cutA (some ⟨blk, off, none⟩) c J) Y (c - J)) W := fun W => by
                    have := run_cut_lh (some ⟨blk, off, none⟩) n c W J T (by omega) (by have := HXc.out; omega)
                    rwa [hTJ] at this
                  have hsrc : ∀ W', BS W' (some ⟨blk, off, none⟩) n c b → BS W' (cutA (some ⟨blk, off, none⟩) c J) Y (c - J) ((b.drop J).take Y) := fun W' h => by
                    have := h.mid J T (by omega) (by omega)
                    rwa [hTJ] at this
                  generalize cutA (some ⟨blk, off, none⟩) c J = A3 at hcut hsrc
                  generalize c - J = C3 at hcut hsrc
                  have hba : Below W1.heap.size W1 (W1.alloc (.cells #[.int .i64 0, .int .i64 0, .slice A3 Y C3] 36)) := (Below.refl _ _).alloc (Nat.le_refl _) _
                  obtain ⟨g, cap, W5, hrun, k5, f5, HS5⟩ := (HR1.out.later hba.drew).app (B := W1.heap.size) (A := 0) (L := 0) (by show (W1.alloc (.cells #[.int .i64 0, .int .i64 0, .slice A3 Y C3] 36)).heap[W1.heap.size]? = _; rw [heap_at, if_pos rfl]) hsrc (by unfold I64; omega) (by unfold I64; omega) (by rw [HOL.out]; omega)
                  rw [HOL.out] at hrun HS5
                  have HRN : Hid (PatM.rd (C - (kk + 1)) (b.drop T) (out ++ [⟨0, 0, (b.drop J).take Y⟩]) = PatM.rd C (b.drop 8) []) := by
                    show _ = _
                    rw [← HRS.out, PatM.rd, if_pos (show ((255 : Nat) : Int) = 255 from rfl), if_neg (by rw [List.length_drop, HLn.out]; omega), Int.toNat_natCast, List.drop_drop, HT.out]
                  have hwT : IntKind.i64.wrap (T : Int) = T := IntWalk.i64_in _ (by omega)
                  have hdT : decide (n < T) = false := by simp; omega
                  clear hba hsrc HR1 HRS
                  go_wp2_with fail
                  go_region_law (refine step_append_run rfl (.tmp 101) (.tmp 109) 23 23 rfl vo (.slice (some ⟨W1.heap.size, 0, none⟩) 1 1) (by simp [Act.eval]) (by simp [Act.eval]) _ _ hrun ?_)
                  all_goals
                    generalize W5.setCell ⟨B0 + 2, 5, none⟩ (.slice (some ⟨g, 0, none⟩) (kk + 1) cap) = W8 at HS5 ⊢
                    clear k5 f5 hrun W5 p0 p1 p2 p3 p4 p5 k1 hcut hz1
                    go_wp2_with fail
                    go_roundw
                    case rel =>
                      exact ⟨T, kk + 1, _, _, rfl, by go_num, by omega, by omega, by rw [HLn.out]; omega, by rw [List.length_append, HOL.out]; rfl, HS5.out, HRN.out⟩
                    case measure => simp [intOf]; omega
              · have hxb : ((X : Int) == 255) = false := by simp; omega
                by_cases hy : Y = 0
                · subst hy
                  have HK : Hid (PatM.readOf b = (noPat, 3)) := PatM.read_err (o := []) (r := []) (by rw [HLn.out]; omega) (by rw [HLn.out]; omega) (by rw [HC.out, ← HRS.out, PatM.rd, if_neg (by omega), if_pos (show ((0 : Nat) : Int) = 0 from rfl)]) (by omega)
                  clear p0 p1 p2 p3 p4 p5
                  go_wp2_with fail
                  refine (bad_any 3 _).mono ?_
                  rintro e W9 ⟨rfl, b9⟩
                  obtain ⟨hB1, hb9⟩ := HBAD.out _ W9 (HR1.out.c1) (HR1.out.below) b9
                  obtain ⟨r0, r1, r2, r3, r4, r5, f0, f1, f2, f3, f4, f5⟩ := pat_cells hB1
                  have g0 : ∀ v, (W9.setCell ⟨B0 + 1, 0, none⟩ v).cell? ⟨B0 + 1, 0, none⟩ = some v := fun v => World.cell?_setCell_same _ _ _ r0
                  obtain ⟨W6, hW6, q0, q1, q2, q3, q4, q5, hoth, hsz⟩ := set_six hB1 (.int .i64 0) (.int .i64 0) (.int .i64 0) (.int .i64 0) (.int .i64 0) (.slice none 0 0)
                  have HB6 : Hid (Below w.heap.size w W6) := by
                    show Below _ _ _
                    rw [← hW6]
                    exact (((((hb9.setCell HBL.out _).setCell HBL.out _).setCell HBL.out _).setCell HBL.out _).setCell HBL.out _).setCell HBL.out _
                  clear hoth hsz hb9 b9
                  go_wp2_with fail
                  try simp only [Exit.inBlock, Exit.then]
                  refine bodyPost_ret (by simp [results, Try.results35, go_sem, q0, q1, q2, q3, q4, q5]; try rfl) rfl ?_
                  exact ⟨_, by rw [HK.out], HB6.out, fun _ _ _ _ => by rw [HK.out]; exact noPat_pv _⟩
                · have hyb : ((Y : Int) == 0) = false := by simp; omega
                  have hba : Below W1.heap.size W1 (W1.alloc (.cells #[.int .i64 (X : Int), .int .i64 (Y : Int), .slice none 0 0] 36)) := (Below.refl _ _).alloc (Nat.le_refl _) _
                  obtain ⟨g, cap, W5, hrun, k5, f5, HS5⟩ := (HR1.out.later hba).app (B := W1.heap.size) (A := X) (L := Y) (by rw [heap_at, if_pos rfl]) (fun W' _ => BS.nil_ W') (by unfold I64; omega) (by unfold I64; omega) (by rw [HOL.out]; omega)
                  rw [HOL.out] at hrun HS5
                  have HRN : Hid (PatM.rd (C - (kk + 1)) (b.drop J) (out ++ [⟨X, Y, []⟩]) = PatM.rd C (b.drop 8) []) := by
                    show _ = _
                    rw [← HRS.out, PatM.rd, if_neg (by omega), if_neg (by omega)]
                  clear hba HR1 HRS
                  go_wp2_with (at_builtin; refine Lib.wpList_append_run _ rfl _ _ _ _ rfl _ _ rfl rfl _ _ hrun ?_)
                  go_roundw
                  case rel =>
                    exact ⟨J, kk + 1, _, _, rfl, by go_num, by omega, by omega, by rw [HLn.out]; omega, by rw [List.length_append, HOL.out]; rfl, HS5.out, HRN.out⟩
                  case measure => simp [intOf]; omega
          · obtain rfl : kk = C := by omega
            have HR0 : Hid (PatM.rd (b.getD 7 0).toNat (b.drop 8) [] = (0, out, b.drop j)) := by
              show _ = _
              rw [HC.out, ← HRD.out, Nat.sub_self, PatM.rd]
            by_cases hjl : j < n
            · have HK : Hid (PatM.readOf b = (noPat, 7)) := PatM.read_rest (by rw [HLn.out]; omega) (by rw [HLn.out]; omega) HR0.out (by rw [List.length_drop, HLn.out]; omega)
              go_wp2_with fail
              refine (bad_any 7 _).mono ?_
              rintro e W9 ⟨rfl, b9⟩
              obtain ⟨hB1, hb9⟩ := HBAD.out _ W9 (HR.out.c1) (HR.out.below) b9
              obtain ⟨r0, r1, r2, r3, r4, r5, f0, f1, f2, f3, f4, f5⟩ := pat_cells hB1
              have g0 : ∀ v, (W9.setCell ⟨B0 + 1, 0, none⟩ v).cell? ⟨B0 + 1, 0, none⟩ = some v := fun v => World.cell?_setCell_same _ _ _ r0
              obtain ⟨W6, hW6, q0, q1, q2, q3, q4, q5, hoth, hsz⟩ := set_six hB1 (.int .i64 0) (.int .i64 0) (.int .i64 0) (.int .i64 0) (.int .i64 0) (.slice none 0 0)
              have HB6 : Hid (Below w.heap.size w W6) := by
                show Below _ _ _
                rw [← hW6]
                exact (((((hb9.setCell HBL.out _).setCell HBL.out _).setCell HBL.out _).setCell HBL.out _).setCell HBL.out _).setCell HBL.out _
              clear hoth hsz hb9 b9
              go_wp2_with fail
              try simp only [Exit.inBlock, Exit.then]
              refine bodyPost_ret (by simp [results, Try.results35, go_sem, q0, q1, q2, q3, q4, q5]; try rfl) rfl ?_
              exact ⟨_, by rw [HK.out], HB6.out, fun _ _ _ _ => by rw [HK.out]; exact noPat_pv _⟩
            · have hfin := PatM.read_fin (by rw [HLn.out]; omega) (by rw [HLn.out]; omega) HR0.out (by rw [List.length_drop, HLn.out]; omega)
              rw [HHd.out] at hfin
              have HFin := Lib.hid hfin
              clear hfin
              obtain ⟨p0, p1, p2, p3, p4, p5, -⟩ := pat_cells HR.out.c2
              have hpv := HR.out.pv HI.out
              obtain ⟨E, hE⟩ : ∃ E, PatM.check ⟨x0, x1, F2, F4, x6, out⟩ = E := ⟨_, rfl⟩
              rw [hE] at HFin
              go_wp2_with fail
              refine (checkPat_any _ _ _ hpv).mono ?_
              rintro e W3 ⟨rfl, b3⟩
              rw [hE]
              have HR3 := Lib.hid (HR.out.later b3)
              clear hpv HR p0 p1 p2 p3 p4 p5 b3 hE k0 t7
              by_cases hE0 : E = 0
              · subst hE0
                have HK : Hid (PatM.readOf b = (⟨x0, x1, F2, F4, x6, out⟩, 0)) := by show _ = _; rw [HFin.out, if_neg (by simp)]
                obtain ⟨ao, co, hvo, -⟩ := HR3.out.o.os (HR3.out.hs _ HR3.out.below)
                rw [HOL.out] at hvo
                subst hvo
                obtain ⟨p0, p1, p2, p3, p4, p5, -⟩ := pat_cells HR3.out.c2
                obtain ⟨r0, r1, r2, r3, r4, r5, f0, f1, f2, f3, f4, f5⟩ := pat_cells HR3.out.c1
                have g0 : ∀ v, (W3.setCell ⟨B0 + 1, 0, none⟩ v).cell? ⟨B0 + 1, 0, none⟩ = some v := fun v => World.cell?_setCell_same _ _ _ r0
                obtain ⟨W6, hW6, q0, q1, q2, q3, q4, q5, hoth, hsz⟩ := set_six HR3.out.c1 (.int .i64 x0) (.int .i64 x1) (.int .i64 F2) (.int .i64 F4) (.int .i64 x6) (.slice ao kk co)
                have HB6 : Hid (Below w.heap.size w W6) := by
                  show Below _ _ _
                  rw [← hW6]
                  exact (((((HR3.out.below.setCell HBL.out _).setCell HBL.out _).setCell HBL.out _).setCell HBL.out _).setCell HBL.out _).setCell HBL.out _
                have HPV : Hid (∀ W' : World, W6.heap.size ≤ W'.heap.size → (∀ k, w.heap.size ≤ k → k < W6.heap.size → W'.heap[k]? = W6.heap[k]?) → BS W' (some ⟨blk, off, none⟩) n c b → PV W' (.agg #[.int .i64 x0, .int .i64 x1, .int .i64 F2, .int .i64 F4, .int .i64 x6, .slice ao kk co]) ⟨x0, x1, F2, F4, x6, out⟩) := by
                  show ∀ W' : World, _
                  intro W' hw1 hw2 hS'
                  have hle := HR3.out.le0
                  obtain ⟨ao', co', e, hos⟩ := (HR3.out.o.keep (W' := W') (fun g g1 g2 => (hw2 g (by omega) (by rw [hsz]; exact g2)).trans (hoth g (by omega)))).os hS'
                  rw [HOL.out] at e hos
                  cases e
                  exact ⟨ao, kk, co, rfl, hos, HI.out.1, HI.out.2.1, HI.out.2.2.1, HI.out.2.2.2.1, HI.out.2.2.2.2⟩
                clear hoth hsz
                go_wp2_with fail
                try simp only [Exit.inBlock, Exit.then]
                refine bodyPost_ret (by simp [results, Try.results35, go_sem, q0, q1, q2, q3, q4, q5]; try rfl) rfl ?_
                exact ⟨_, by rw [HK.out], HB6.out, fun W' h1 h2 h3 => by rw [HK.out]; exact HPV.out W' h1 h2 h3⟩
              · have hnb : (E != 0) = true := by simp [hE0]
                have HK : Hid (PatM.readOf b = (noPat, E)) := by show _ = _; rw [HFin.out, if_pos hE0]
                go_wp2_with fail
                refine (bad_any E _).mono ?_
                rintro e W9 ⟨rfl, b9⟩
                obtain ⟨hB1, hb9⟩ := HBAD.out _ W9 (HR3.out.c1) (HR3.out.below) b9
                obtain ⟨r0, r1, r2, r3, r4, r5, f0, f1, f2, f3, f4, f5⟩ := pat_cells hB1
                have g0 : ∀ v, (W9.setCell ⟨B0 + 1, 0, none⟩ v).cell? ⟨B0 + 1, 0, none⟩ = some v := fun v => World.cell?_setCell_same _ _ _ r0
                obtain ⟨W6, hW6, q0, q1, q2, q3, q4, q5, hoth, hsz⟩ := set_six hB1 (.int .i64 0) (.int .i64 0) (.int .i64 0) (.int .i64 0) (.int .i64 0) (.slice none 0 0)
                have HB6 : Hid (Below w.heap.size w W6) := by
                  show Below _ _ _
                  rw [← hW6]
                  exact (((((hb9.setCell HBL.out _).setCell HBL.out _).setCell HBL.out _).setCell HBL.out _).setCell HBL.out _).setCell HBL.out _
                clear hoth hsz hb9 b9
                go_wp2_with fail
                try simp only [Exit.inBlock, Exit.then]
                refine bodyPost_ret (by simp [results, Try.results35, go_sem, q0, q1, q2, q3, q4, q5]; try rfl) rfl ?_
                exact ⟨_, by rw [HK.out], HB6.out, fun _ _ _ _ => by rw [HK.out]; exact noPat_pv _⟩
theorem patRead_any (a : Option Addr) (n c : Nat) (b : List Int) (w : World) (hs : BS w a n c b) :
    Calls Try.prog 35 #[.slice a n c] w (GivesP (PatM.readOf b) w) :=
  (patRead_n a n c b w hs).mono (fun _ w' ⟨v, he, hb, hp⟩ => ⟨v, he, hp w' (Nat.le_refl _) (fun _ _ _ => rfl) (hs.later hb), hb⟩)
end Go.Proofs.Ytmpmaljkmfgagab
