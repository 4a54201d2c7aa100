/-
  Texts put into one: PatRead, JoinedR, RfActO, RfActW, SayDW, OpenRec, OpenDev.
-/
import Derived.Test.YtnnmpoknghbdnacGreatSeqChToReadSt
import Derived.Deep.RegionHeld3
import Derived.Deep.DeepCutAuto
import Derived.Test.YtnnmpoknghbdnacGreatCopyStToDifThree
import Derived.Test.YtnnmpoknghbdnacGreatPatLToPSame
import Derived.Test.YtnnmpoknghbdnacGreatRowToChSt
import Derived.Test.YtnnmpoknghbdnacGreatDvUpToPackRes
import Derived.Test.YtnnmpoknghbdnacGreatDvOpenToDvHear
import Derived.Deep.CutBlock
import Derived.Test.YtnnmpoknghbdnacGreatDvWriteToDvConf
set_option maxRecDepth 100000
set_option maxHeartbeats 4000000
namespace Go.Proofs.YtnnmpoknghbdnacGreat
open Go.RowKit
def ReadRel (S : World → Prop) (b : List Int) (w : World) (B0 B1 B2 : Nat) (vb : Value) (f t o nw s : Int) (cnt : Nat) (i k : Value) (wr : World) : Prop :=
 ∃ (j kk : Nat) (vo : Value) (out : List OpR), i = .int .i64 j ∧ k = .int .i64 kk ∧ kk ≤ cnt ∧ 8 ≤ j ∧ j ≤ b.length ∧ out.length = kk ∧ RSt S w B0 B1 B2 vb f t o nw s vo out wr ∧ PatM.rd (cnt - kk) (b.drop j) out = PatM.rd cnt (b.drop 8) []
theorem patRead_n (a : Option Addr) (n c : Nat) (b : List Int) (w : World) (hs : BS w a n c b) :
 Calls Tryz.prog 147 #[.slice a n c] w (GivesPN (fun W => BS W a n c b) (PatM.readOf b) w) := by
 have HLn := LH hs.len; obtain ⟨B0, hB0⟩ : ∃ B0, w.heap.size = B0 := ⟨_, rfl⟩; have e0 : (w.alloc (.cells #[.slice a n c] 22)).heap.size = B0 + 1 := by simp [hB0]
 have hbl : Below w.heap.size w ((w.alloc (.cells #[.slice a n c] 22)).alloc (.cells #[.int .i64 0, .int .i64 0, .int .i64 0, .int .i64 0, .int .i64 0, .slice none 0 0] 35)) := ((Below.refl _ _).alloc (Nat.le_refl _) _).alloc (by rw [e0]; omega) _
 have hc0 : ((w.alloc (.cells #[.slice a n c] 22)).alloc (.cells #[.int .i64 0, .int .i64 0, .int .i64 0, .int .i64 0, .int .i64 0, .slice none 0 0] 35)).heap[B0]? = some (.cells #[.slice a n c] 22 (0, 0)) := by
  rw [hpA, if_neg (by rw [e0]; omega), hpA, if_pos hB0.symm]
 have hc1 : ((w.alloc (.cells #[.slice a n c] 22)).alloc (.cells #[.int .i64 0, .int .i64 0, .int .i64 0, .int .i64 0, .int .i64 0, .slice none 0 0] 35)).heap[B0 + 1]? = some (.cells #[.int .i64 0, .int .i64 0, .int .i64 0, .int .i64 0, .int .i64 0, .slice none 0 0] 35 (0, 0)) := by
  rw [hpA, if_pos e0.symm]
 have hs0 := hs.later hbl; have k0 := za0 hc0; have HS := LH hs; clear hs e0; have hz0 : ((w.alloc (.cells #[.slice a n c] 22)).alloc (.cells #[.int .i64 0, .int .i64 0, .int .i64 0, .int .i64 0, .int .i64 0, .slice none 0 0] 35)).heap.size = B0 + 2 := by simp [hB0]
 have HBL : Hid (w.heap.size ≤ B0 + 1) := by show w.heap.size ≤ B0 + 1; omega
 -- what a call of 'bad' and the store of what it gives leave
 have HBAD : Hid (∀ (W W9 : World), W.heap[B0 + 1]? = some (.cells #[.int .i64 0, .int .i64 0, .int .i64 0, .int .i64 0, .int .i64 0, .slice none 0 0] 35 (0, 0)) → Below w.heap.size w W → Below W.heap.size W W9 →
  W9.heap[B0 + 1]? = some (.cells #[.int .i64 0, .int .i64 0, .int .i64 0, .int .i64 0, .int .i64 0, .slice none 0 0] 35 (0, 0)) ∧ Below w.heap.size w W9) := by
  show ∀ (W W9 : World), _; intro W W9 h1 h2 h3; exact ⟨(h3.block _ (zax h1)).trans h1, bTh h2 h3⟩
 by_cases h400 : 400 < n
 · have HK : Hid (PatM.readOf b = (zap, 1)) := by show _ = _; unfold PatM.readOf; rw [if_pos (by rw [HLn.out]; exact h400)]
   go_enter Tryz.func147, Tryz.ntmps147; go_wp2_with fail; generalize (w.alloc (.cells #[.slice a n c] 22)).alloc (.cells #[.int .i64 0, .int .i64 0, .int .i64 0, .int .i64 0, .int .i64 0, .slice none 0 0] 35) = W0 at hbl hc0 hc1 hs0 k0 hz0 ⊢; refine (bad_any 1 _).mono ?_; rintro e W9 ⟨rfl, b9⟩; obtain ⟨hB1, hb9⟩ := HBAD.out W0 W9 (hc1) (hbl) b9; obtain ⟨r0, r1, r2, r3, r4, r5, f0, f1, f2, f3, f4, f5⟩ := zak hB1; have g0 : ∀ v, (W9.setCell ⟨B0 + 1, 0, none⟩ v).cell? ⟨B0 + 1, 0, none⟩ = some v := fun v => World.cell?_setCell_same _ _ _ r0; obtain ⟨W6, hW6, q0, q1, q2, q3, q4, q5, hoth, hsz⟩ := zbh hB1 (.int .i64 0) (.int .i64 0) (.int .i64 0) (.int .i64 0) (.int .i64 0) (.slice none 0 0)
   have HB6 : Hid (Below w.heap.size w W6) := by
    show Below _ _ _; rw [← hW6]; exact (((((hb9.setCell HBL.out _).setCell HBL.out _).setCell HBL.out _).setCell HBL.out _).setCell HBL.out _).setCell HBL.out _
   clear hoth hsz hb9 b9 hbl hc0 hc1 hs0 k0 hz0; go_wp2_with fail
   try simp only [Exit.inBlock, Exit.then]
   refine bodyPost_ret (by simp [results, Tryz.results147, go_sem, q0, q1, q2, q3, q4, q5]; try rfl) rfl ?_; exact ⟨_, by rw [HK.out], HB6.out, fun _ _ _ _ => by rw [HK.out]; exact zaD _⟩
 · by_cases h8 : n < 8
   · have HK : Hid (PatM.readOf b = (zap, 7)) := by show _ = _; unfold PatM.readOf; rw [if_neg (by rw [HLn.out]; exact h400), if_pos (by rw [HLn.out]; exact h8)]
     go_enter Tryz.func147, Tryz.ntmps147; go_wp2_with fail; generalize (w.alloc (.cells #[.slice a n c] 22)).alloc (.cells #[.int .i64 0, .int .i64 0, .int .i64 0, .int .i64 0, .int .i64 0, .slice none 0 0] 35) = W0 at hbl hc0 hc1 hs0 k0 hz0 ⊢; refine (bad_any 7 _).mono ?_; rintro e W9 ⟨rfl, b9⟩; obtain ⟨hB1, hb9⟩ := HBAD.out W0 W9 (hc1) (hbl) b9; obtain ⟨r0, r1, r2, r3, r4, r5, f0, f1, f2, f3, f4, f5⟩ := zak hB1; have g0 : ∀ v, (W9.setCell ⟨B0 + 1, 0, none⟩ v).cell? ⟨B0 + 1, 0, none⟩ = some v := fun v => World.cell?_setCell_same _ _ _ r0; obtain ⟨W6, hW6, q0, q1, q2, q3, q4, q5, hoth, hsz⟩ := zbh hB1 (.int .i64 0) (.int .i64 0) (.int .i64 0) (.int .i64 0) (.int .i64 0) (.slice none 0 0)
     have HB6 : Hid (Below w.heap.size w W6) := by
      show Below _ _ _; rw [← hW6]; exact (((((hb9.setCell HBL.out _).setCell HBL.out _).setCell HBL.out _).setCell HBL.out _).setCell HBL.out _).setCell HBL.out _
     clear hoth hsz hb9 b9 hbl hc0 hc1 hs0 k0 hz0; go_wp2_with fail
     try simp only [Exit.inBlock, Exit.then]
     refine bodyPost_ret (by simp [results, Tryz.results147, go_sem, q0, q1, q2, q3, q4, q5]; try rfl) rfl ?_; exact ⟨_, by rw [HK.out], HB6.out, fun _ _ _ _ => by rw [HK.out]; exact zaD _⟩
   · have hn8 : 8 ≤ n := by omega
     go_enter Tryz.func147, Tryz.ntmps147; go_wp2_with fail; generalize (w.alloc (.cells #[.slice a n c] 22)).alloc (.cells #[.int .i64 0, .int .i64 0, .int .i64 0, .int .i64 0, .int .i64 0, .slice none 0 0] 35) = W0 at hbl hc0 hc1 hs0 k0 hz0 ⊢; obtain ⟨blk, off, rfl, hc⟩ := hs0.cells (by omega); have t0 := hc 0 (by omega); have t1 := hc 1 (by omega); have t2 := hc 2 (by omega); have t3 := hc 3 (by omega); have t4 := hc 4 (by omega); have t5 := hc 5 (by omega); have t6 := hc 6 (by omega); have y0 := hs0.byte 0; have y1 := hs0.byte 1; have y2 := hs0.byte 2; have y3 := hs0.byte 3; have y4 := hs0.byte 4; have y5 := hs0.byte 5; have y6 := hs0.byte 6
     have HHd : Hid (∀ ops, PatM.headOf b ops = ⟨b[0]?.getD 0, b[1]?.getD 0, b[2]?.getD 0 * 256 + b[3]?.getD 0, b[4]?.getD 0 * 256 + b[5]?.getD 0, b[6]?.getD 0, ops⟩) := by
      show ∀ ops, _; intro ops; simp only [PatM.headOf, List.getD_eq_getElem?_getD]
     generalize b[0]?.getD 0 = x0 at t0 y0 HHd; generalize b[1]?.getD 0 = x1 at t1 y1 HHd; generalize b[2]?.getD 0 = x2 at t2 y2 HHd; generalize b[3]?.getD 0 = x3 at t3 y3 HHd; generalize b[4]?.getD 0 = x4 at t4 y4 HHd; generalize b[5]?.getD 0 = x5 at t5 y5 HHd; generalize b[6]?.getD 0 = x6 at t6 y6 HHd; rw [Nat.add_zero] at t0
     have HN2 : Hid (∀ W : World, W.cell? ⟨B0, 0, none⟩ = some (.slice (some ⟨blk, off, none⟩) n c) → W.cell? ⟨blk, off + 2, none⟩ = some (.int .u8 x2) → W.cell? ⟨blk, off + 3, none⟩ = some (.int .u8 x3) →
      Calls Tryz.prog 190 #[.int .i64 2, .pointer (some ⟨B0, 0, none⟩)] W fun e w' => e = .returned (.int .i64 (x2 * 256 + x3)) ∧ zbD W w') := by
      show ∀ W : World, _; intro W h1 h2 h3; exact num_any B0 blk off n c 2 x2 x3 W h1 h2 h3 (by omega) (by omega) y2 y3
     have HN4 : Hid (∀ W : World, W.cell? ⟨B0, 0, none⟩ = some (.slice (some ⟨blk, off, none⟩) n c) → W.cell? ⟨blk, off + 4, none⟩ = some (.int .u8 x4) → W.cell? ⟨blk, off + 5, none⟩ = some (.int .u8 x5) →
      Calls Tryz.prog 190 #[.int .i64 4, .pointer (some ⟨B0, 0, none⟩)] W fun e w' => e = .returned (.int .i64 (x4 * 256 + x5)) ∧ zbD W w') := by
      show ∀ W : World, _; intro W h1 h2 h3; exact num_any B0 blk off n c 4 x4 x5 W h1 h2 h3 (by omega) (by omega) y4 y5
     clear hc; have u0 : (0 : Int) < n := by omega
     have u1 : (1 : Int) < n := by omega
     have u6 : (6 : Int) < n := by omega
     have v0 : 0 < n := by omega
     have v1 : 1 < n := by omega
     have v6 : 6 < n := by omega
     have z1 : ∀ (W : World) (q : Nat) (p : Addr), (W.drewN q).cell? p = W.cell? p := fun _ _ _ => rfl; have z2 : ∀ (W : World) (q : Nat) (p : Addr), (W.drewN q).frozen? p = W.frozen? p := fun _ _ _ => rfl; have z3 : ∀ (W : World) (q : Nat) (o : Obj), (W.drewN q).alloc o = (W.alloc o).drewN q := fun _ _ _ => rfl; have z4 : ∀ (W : World) (q : Nat) (p : Addr) (v : Value), (W.drewN q).setCell p v = (W.setCell p v).drewN q := fun _ _ _ _ => rfl; have hwx0 : IntKind.i64.wrap x0 = x0 := IntWalk.i64_in _ (by omega); have hwx1 : IntKind.i64.wrap x1 = x1 := IntWalk.i64_in _ (by omega); have hwx6 : IntKind.i64.wrap x6 = x6 := IntWalk.i64_in _ (by omega)
     have HST : Hid (RSt (fun W => BS W (some ⟨blk, off, none⟩) n c b) w B0 (B0 + 1) (B0 + 2) (.slice (some ⟨blk, off, none⟩) n c) x0 x1 (x2 * 256 + x3) (x4 * 256 + x5) x6 (.slice none 0 0) [] (W0.alloc (.cells #[.int .i64 x0, .int .i64 x1, .int .i64 (x2 * 256 + x3), .int .i64 (x4 * 256 + x5), .int .i64 x6, .slice none 0 0] 35))) := by
      refine ⟨by rw [hpA, if_neg (by rw [hz0]; omega)]; exact hc0, by rw [hpA, if_neg (by rw [hz0]; omega)]; exact hc1, by rw [hpA, if_pos hz0.symm], ⟨[], rfl, World.ownsRow_nil _ _ _ _, fun i hi => absurd hi (by simp)⟩, hbl.alloc hbl.size _, by omega, by omega, by omega, fun W' hb => HS.out.later hb⟩
     go_cut [6] (fun s6 wx => s6 = .pointer (some ⟨B0 + 2, 0, none⟩) ∧ RSt (fun W => BS W (some ⟨blk, off, none⟩) n c b) w B0 (B0 + 1) (B0 + 2) (.slice (some ⟨blk, off, none⟩) n c) x0 x1 (x2 * 256 + x3) (x4 * 256 + x5) x6 (.slice none 0 0) [] wx)
     case first =>
      go_region_held3 (fun W => W.cell? ⟨B0, 0, none⟩ = some (.slice (some ⟨blk, off, none⟩) n c) ∧ W.cell? ⟨blk, off, none⟩ = some (.int .u8 x0) ∧ W.cell? ⟨blk, off + 1, none⟩ = some (.int .u8 x1) ∧ W.cell? ⟨blk, off + 2, none⟩ = some (.int .u8 x2) ∧ W.cell? ⟨blk, off + 3, none⟩ = some (.int .u8 x3) ∧ W.cell? ⟨blk, off + 4, none⟩ = some (.int .u8 x4) ∧ W.cell? ⟨blk, off + 5, none⟩ = some (.int .u8 x5) ∧ W.cell? ⟨blk, off + 6, none⟩ = some (.int .u8 x6))
       (first | exact ⟨k0, t0, t1, t2, t3, t4, t5, t6⟩ | go_keep)
       (first
        | (go_at_call_of 190 (Value.int .i64 2); refine (HN2.out _ ?_ ?_ ?_).mono ?_; (go_split_ands; assumption); (go_split_ands; assumption); (go_split_ands; assumption); rintro e W3 ⟨rfl, q3, rfl⟩)
        | (go_at_call_of 190 (Value.int .i64 4); refine (HN4.out _ ?_ ?_ ?_).mono ?_; (go_split_ands; assumption); (go_split_ands; assumption); (go_split_ands; assumption); rintro e W3 ⟨rfl, q4, rfl⟩))
      all_goals
       go_wp2_with fail; go_meet; exact ⟨rfl, HST.out.drewN _⟩
     case rest =>
      obtain ⟨rfl, hst⟩ := hcut; have HST2 := LH hst
      have HI : Hid (I64 x0 ∧ I64 x1 ∧ I64 (x2 * 256 + x3) ∧ I64 (x4 * 256 + x5) ∧ I64 x6) := by
       show I64 _ ∧ _; refine ⟨?_, ?_, ?_, ?_, ?_⟩ <;> (unfold I64; omega)
      have hc7 := HS.out.byte 7; obtain ⟨C, hC⟩ : ∃ C : Nat, (b[7]?.getD 0 : Int) = (C : Int) := ⟨(b[7]?.getD 0).toNat, by omega⟩; have hC255 : C ≤ 255 := by omega
      have HC : Hid ((b.getD 7 0).toNat = C) := by show _ = _; rw [List.getD_eq_getElem?_getD, hC]; simp
      have HC7 : Hid (w.cell? ⟨blk, off + 7, none⟩ = some (.int .u8 C)) := by
       show _ = _; obtain ⟨b', o', e, hcs⟩ := HS.out.cells (by omega)
       cases e
       rw [← hC]; exact hcs 7 (by omega)
      have HCS : Hid (∀ i, i < n → w.cell? ⟨blk, off + i, none⟩ = some (.int .u8 (b[i]?.getD 0))) := by
       show ∀ i, _; obtain ⟨b', o', e, hcs⟩ := HS.out.cells (by omega)
       cases e
       exact hcs
      have HXc := LH HS.out.le; obtain ⟨F2, hF2⟩ : ∃ F2, x2 * 256 + x3 = F2 := ⟨_, rfl⟩; obtain ⟨F4, hF4⟩ : ∃ F4, x4 * 256 + x5 = F4 := ⟨_, rfl⟩; rw [hF2, hF4] at HI HST2 HHd; clear hst HST HN2 HN4 t0 t1 t2 t3 t4 t5 t6 k0 hc0 hc1 hbl hz0 hs0 y0 y1 y2 y3 y4 y5 y6 hC hc7 z1 z2 z3 z4 u0 u1 u6 v0 v1 v6 hF2 hF4 hwx0 hwx1 hwx6; go_wp2_with fail; go_loopw [7, 8] (fun i k wr => ReadRel (fun W => BS W (some ⟨blk, off, none⟩) n c b) b w B0 (B0 + 1) (B0 + 2) (.slice (some ⟨blk, off, none⟩) n c) x0 x1 F2 F4 x6 C i k wr) (fun _ k _ => C - (intOf k).toNat)
      case atStart => exact ⟨8, 0, _, [], rfl, rfl, Nat.zero_le _, Nat.le_refl _, by rw [HLn.out]; exact hn8, rfl, HST2.out, rfl⟩
      case round =>
       clear HST2; obtain ⟨j, kk, vo, out, rfl, rfl, hkk, hj8, hjn, hol, hst, hrd⟩ := hrel; rw [HLn.out] at hjn; have HR := LH hst; have HRD := LH hrd; have HOL := LH hol; have k0 := za0 hst.c0; have t7 := cell_later hst.below HC7.out; clear hst hrd hol; have hn7 : 7 < n := by omega
       by_cases hlt : kk < C
       · obtain ⟨J, hJ⟩ : ∃ J : Nat, (j : Int) + 2 = J := ⟨j + 2, by omega⟩
         have HJ : Hid (j + 2 = J) := by show j + 2 = J; omega
         by_cases hsh : n < J
         · have HK : Hid (PatM.readOf b = (zap, 7)) := PatM.read_err (by rw [HLn.out]; omega) (by rw [HLn.out]; omega) (by rw [HC.out, ← HRD.out]; exact PatM.rd_short (by omega) (by rw [List.length_drop, HLn.out]; omega)) (by omega)
           go_wp2_with fail; refine (bad_any 7 _).mono ?_; rintro e W9 ⟨rfl, b9⟩; obtain ⟨hB1, hb9⟩ := HBAD.out _ W9 (HR.out.c1) (HR.out.below) b9; obtain ⟨r0, r1, r2, r3, r4, r5, f0, f1, f2, f3, f4, f5⟩ := zak hB1; have g0 : ∀ v, (W9.setCell ⟨B0 + 1, 0, none⟩ v).cell? ⟨B0 + 1, 0, none⟩ = some v := fun v => World.cell?_setCell_same _ _ _ r0; obtain ⟨W6, hW6, q0, q1, q2, q3, q4, q5, hoth, hsz⟩ := zbh hB1 (.int .i64 0) (.int .i64 0) (.int .i64 0) (.int .i64 0) (.int .i64 0) (.slice none 0 0)
           have HB6 : Hid (Below w.heap.size w W6) := by
            show Below _ _ _; rw [← hW6]; exact (((((hb9.setCell HBL.out _).setCell HBL.out _).setCell HBL.out _).setCell HBL.out _).setCell HBL.out _).setCell HBL.out _
           clear hoth hsz hb9 b9; go_wp2_with fail
           try simp only [Exit.inBlock, Exit.then]
           refine bodyPost_ret (by simp [results, Tryz.results147, go_sem, q0, q1, q2, q3, q4, q5]; try rfl) rfl ?_; exact ⟨_, by rw [HK.out], HB6.out, fun _ _ _ _ => by rw [HK.out]; exact zaD _⟩
         · obtain ⟨J1, hJ1⟩ : ∃ J1 : Nat, (j : Int) + 1 = J1 := ⟨j + 1, by omega⟩
           have HJ1 : Hid (j + 1 = J1) := by show j + 1 = J1; omega
           have hj1 : j < n := by omega
           have hj2 : J1 < n := by omega
           have s1 := cell_later HR.out.below (HCS.out j hj1); have s2 := cell_later HR.out.below (HCS.out J1 hj2); have a1 := HS.out.byte j; have a2 := HS.out.byte J1
           have HDR : Hid (b.drop j = b[j]?.getD 0 :: b[J1]?.getD 0 :: b.drop J) := by
            show _ = _; rw [drop_byte b j (by rw [HLn.out]; exact hj1), HJ1.out, drop_byte b J1 (by rw [HLn.out]; exact hj2), ← HJ1.out, ← HJ.out]
           generalize b[j]?.getD 0 = x at s1 a1 HDR; generalize b[J1]?.getD 0 = y at s2 a2 HDR; obtain ⟨X, rfl⟩ : ∃ X : Nat, x = X := ⟨x.toNat, by omega⟩; obtain ⟨Y, rfl⟩ : ∃ Y : Nat, y = Y := ⟨y.toNat, by omega⟩; have hd1 : decide (j < n) = true := by simp; omega
           have hd2 : decide (J1 < n) = true := by simp; omega
           have hw1 : IntKind.i64.wrap (J1 : Int) = J1 := IntWalk.i64_in _ (by omega); have hrS : PatM.rd (C - kk) (b.drop j) out = PatM.rd (C - (kk + 1) + 1) ((X : Int) :: (Y : Int) :: b.drop J) out := by rw [HDR.out, show C - (kk + 1) + 1 = C - kk by omega]
           have HRS := LH (hrS.symm.trans HRD.out); clear hrS; go_wp2_with fail; go_quiet (fail); have HR1 := LH (HR.out.drewN nq); have k1 := za0 HR1.out.c0; clear HR k0 t7 s1 s2; generalize wr.drewN nq = W1 at HR1 k1 ⊢; obtain ⟨p0, p1, p2, p3, p4, p5, -⟩ := zak HR1.out.c2; have hz1 := zax HR1.out.c2; by_cases hx : X = 255
           · subst hx
             obtain ⟨T, hT⟩ : ∃ T : Nat, (J : Int) + Y = T := ⟨J + Y, by omega⟩; have HT : Hid (J + Y = T) := by show J + Y = T; omega
             by_cases hy : n < T
             · have HK : Hid (PatM.readOf b = (zap, 7)) := PatM.read_err (o := []) (r := []) (by rw [HLn.out]; omega) (by rw [HLn.out]; omega) (by rw [HC.out, ← HRS.out, PatM.rd, if_pos (show ((255 : Nat) : Int) = 255 from rfl), if_pos (by rw [List.length_drop, HLn.out]; omega)]) (by omega)
               clear p0 p1 p2 p3 p4 p5; go_wp2_with fail; refine (bad_any 7 _).mono ?_; rintro e W9 ⟨rfl, b9⟩; obtain ⟨hB1, hb9⟩ := HBAD.out _ W9 (HR1.out.c1) (HR1.out.below) b9; obtain ⟨r0, r1, r2, r3, r4, r5, f0, f1, f2, f3, f4, f5⟩ := zak hB1; have g0 : ∀ v, (W9.setCell ⟨B0 + 1, 0, none⟩ v).cell? ⟨B0 + 1, 0, none⟩ = some v := fun v => World.cell?_setCell_same _ _ _ r0; obtain ⟨W6, hW6, q0, q1, q2, q3, q4, q5, hoth, hsz⟩ := zbh hB1 (.int .i64 0) (.int .i64 0) (.int .i64 0) (.int .i64 0) (.int .i64 0) (.slice none 0 0)
               have HB6 : Hid (Below w.heap.size w W6) := by
                show Below _ _ _; rw [← hW6]; exact (((((hb9.setCell HBL.out _).setCell HBL.out _).setCell HBL.out _).setCell HBL.out _).setCell HBL.out _).setCell HBL.out _
               clear hoth hsz hb9 b9; go_wp2_with fail
               try simp only [Exit.inBlock, Exit.then]
               refine bodyPost_ret (by simp [results, Tryz.results147, go_sem, q0, q1, q2, q3, q4, q5]; try rfl) rfl ?_; exact ⟨_, by rw [HK.out], HB6.out, fun _ _ _ _ => by rw [HK.out]; exact zaD _⟩
             · have hTJ : T - J = Y := by omega
               have hcut : ∀ W, (Instr.slice 22 (.slice (some ⟨blk, off, none⟩) n c) (some (.int .i64 J)) (some (.int .i64 T)) none).run Tryz.prog W = .ok (.slice (cutA (some ⟨blk, off, none⟩) c J) Y (c - J)) W := fun W => by
                have := za6 (some ⟨blk, off, none⟩) n c W J T (by omega) (by have := HXc.out; omega)
                rwa [hTJ] at this
               have hsrc : ∀ W', BS W' (some ⟨blk, off, none⟩) n c b → BS W' (cutA (some ⟨blk, off, none⟩) c J) Y (c - J) ((b.drop J).take Y) := fun W' h => by
                have := h.mid J T (by omega) (by omega)
                rwa [hTJ] at this
               generalize cutA (some ⟨blk, off, none⟩) c J = A3 at hcut hsrc; generalize c - J = C3 at hcut hsrc; have hba : Below W1.heap.size W1 (W1.alloc (.cells #[.int .i64 0, .int .i64 0, .slice A3 Y C3] 159)) := (Below.refl _ _).alloc (Nat.le_refl _) _; obtain ⟨g, cap, W5, hrun, k5, f5, HS5⟩ := (HR1.out.later hba.drew).app (B := W1.heap.size) (A := 0) (L := 0) (by show (W1.alloc (.cells #[.int .i64 0, .int .i64 0, .slice A3 Y C3] 159)).heap[W1.heap.size]? = _; rw [hpA, if_pos rfl]) hsrc (by unfold I64; omega) (by unfold I64; omega) (by rw [HOL.out]; omega); rw [HOL.out] at hrun HS5
               have HRN : Hid (PatM.rd (C - (kk + 1)) (b.drop T) (out ++ [⟨0, 0, (b.drop J).take Y⟩]) = PatM.rd C (b.drop 8) []) := by
                show _ = _; rw [← HRS.out, PatM.rd, if_pos (show ((255 : Nat) : Int) = 255 from rfl), if_neg (by rw [List.length_drop, HLn.out]; omega), Int.toNat_natCast, List.drop_drop, HT.out]
               have hwT : IntKind.i64.wrap (T : Int) = T := IntWalk.i64_in _ (by omega); have hdT : decide (n < T) = false := by simp; omega
               clear hba hsrc HR1 HRS; go_wp2_with fail; go_region_law (refine step_append_run rfl (.tmp 101) (.tmp 109) 33 33 rfl vo (.slice (some ⟨W1.heap.size, 0, none⟩) 1 1) (by simp [Act.eval]) (by simp [Act.eval]) _ _ hrun ?_)
               all_goals
                generalize W5.setCell ⟨B0 + 2, 5, none⟩ (.slice (some ⟨g, 0, none⟩) (kk + 1) cap) = W8 at HS5 ⊢; clear k5 f5 hrun W5 p0 p1 p2 p3 p4 p5 k1 hcut hz1; go_wp2_with fail; go_roundw
                case rel =>
                 exact ⟨T, kk + 1, _, _, rfl, by go_num, by omega, by omega, by rw [HLn.out]; omega, by rw [List.length_append, HOL.out]; rfl, HS5.out, HRN.out⟩
                case measure => simp [intOf]; omega
           · have hxb : ((X : Int) == 255) = false := by simp; omega
             by_cases hy : Y = 0
             · subst hy
               have HK : Hid (PatM.readOf b = (zap, 3)) := PatM.read_err (o := []) (r := []) (by rw [HLn.out]; omega) (by rw [HLn.out]; omega) (by rw [HC.out, ← HRS.out, PatM.rd, if_neg (by omega), if_pos (show ((0 : Nat) : Int) = 0 from rfl)]) (by omega); clear p0 p1 p2 p3 p4 p5; go_wp2_with fail; refine (bad_any 3 _).mono ?_; rintro e W9 ⟨rfl, b9⟩; obtain ⟨hB1, hb9⟩ := HBAD.out _ W9 (HR1.out.c1) (HR1.out.below) b9; obtain ⟨r0, r1, r2, r3, r4, r5, f0, f1, f2, f3, f4, f5⟩ := zak hB1; have g0 : ∀ v, (W9.setCell ⟨B0 + 1, 0, none⟩ v).cell? ⟨B0 + 1, 0, none⟩ = some v := fun v => World.cell?_setCell_same _ _ _ r0; obtain ⟨W6, hW6, q0, q1, q2, q3, q4, q5, hoth, hsz⟩ := zbh hB1 (.int .i64 0) (.int .i64 0) (.int .i64 0) (.int .i64 0) (.int .i64 0) (.slice none 0 0)
               have HB6 : Hid (Below w.heap.size w W6) := by
                show Below _ _ _; rw [← hW6]; exact (((((hb9.setCell HBL.out _).setCell HBL.out _).setCell HBL.out _).setCell HBL.out _).setCell HBL.out _).setCell HBL.out _
               clear hoth hsz hb9 b9; go_wp2_with fail
               try simp only [Exit.inBlock, Exit.then]
               refine bodyPost_ret (by simp [results, Tryz.results147, go_sem, q0, q1, q2, q3, q4, q5]; try rfl) rfl ?_; exact ⟨_, by rw [HK.out], HB6.out, fun _ _ _ _ => by rw [HK.out]; exact zaD _⟩
             · have hyb : ((Y : Int) == 0) = false := by simp; omega
               have hba : Below W1.heap.size W1 (W1.alloc (.cells #[.int .i64 (X : Int), .int .i64 (Y : Int), .slice none 0 0] 159)) := (Below.refl _ _).alloc (Nat.le_refl _) _; obtain ⟨g, cap, W5, hrun, k5, f5, HS5⟩ := (HR1.out.later hba).app (B := W1.heap.size) (A := X) (L := Y) (by rw [hpA, if_pos rfl]) (fun W' _ => BS.nil_ W') (by unfold I64; omega) (by unfold I64; omega) (by rw [HOL.out]; omega); rw [HOL.out] at hrun HS5
               have HRN : Hid (PatM.rd (C - (kk + 1)) (b.drop J) (out ++ [⟨X, Y, []⟩]) = PatM.rd C (b.drop 8) []) := by
                show _ = _; rw [← HRS.out, PatM.rd, if_neg (by omega), if_neg (by omega)]
               clear hba HR1 HRS; go_wp2_with (at_builtin; refine Lib.wpList_append_run _ rfl _ _ _ _ rfl _ _ rfl rfl _ _ hrun ?_); go_roundw
               case rel =>
                exact ⟨J, kk + 1, _, _, rfl, by go_num, by omega, by omega, by rw [HLn.out]; omega, by rw [List.length_append, HOL.out]; rfl, HS5.out, HRN.out⟩
               case measure => simp [intOf]; omega
       · obtain rfl : kk = C := by omega
         have HR0 : Hid (PatM.rd (b.getD 7 0).toNat (b.drop 8) [] = (0, out, b.drop j)) := by
          show _ = _; rw [HC.out, ← HRD.out, Nat.sub_self, PatM.rd]
         by_cases hjl : j < n
         · have HK : Hid (PatM.readOf b = (zap, 7)) := PatM.read_rest (by rw [HLn.out]; omega) (by rw [HLn.out]; omega) HR0.out (by rw [List.length_drop, HLn.out]; omega)
           go_wp2_with fail; refine (bad_any 7 _).mono ?_; rintro e W9 ⟨rfl, b9⟩; obtain ⟨hB1, hb9⟩ := HBAD.out _ W9 (HR.out.c1) (HR.out.below) b9; obtain ⟨r0, r1, r2, r3, r4, r5, f0, f1, f2, f3, f4, f5⟩ := zak hB1; have g0 : ∀ v, (W9.setCell ⟨B0 + 1, 0, none⟩ v).cell? ⟨B0 + 1, 0, none⟩ = some v := fun v => World.cell?_setCell_same _ _ _ r0; obtain ⟨W6, hW6, q0, q1, q2, q3, q4, q5, hoth, hsz⟩ := zbh hB1 (.int .i64 0) (.int .i64 0) (.int .i64 0) (.int .i64 0) (.int .i64 0) (.slice none 0 0)
           have HB6 : Hid (Below w.heap.size w W6) := by
            show Below _ _ _; rw [← hW6]; exact (((((hb9.setCell HBL.out _).setCell HBL.out _).setCell HBL.out _).setCell HBL.out _).setCell HBL.out _).setCell HBL.out _
           clear hoth hsz hb9 b9; go_wp2_with fail
           try simp only [Exit.inBlock, Exit.then]
           refine bodyPost_ret (by simp [results, Tryz.results147, go_sem, q0, q1, q2, q3, q4, q5]; try rfl) rfl ?_; exact ⟨_, by rw [HK.out], HB6.out, fun _ _ _ _ => by rw [HK.out]; exact zaD _⟩
         · have hfin := PatM.read_fin (by rw [HLn.out]; omega) (by rw [HLn.out]; omega) HR0.out (by rw [List.length_drop, HLn.out]; omega)
           rw [HHd.out] at hfin; have HFin := LH hfin; clear hfin; obtain ⟨p0, p1, p2, p3, p4, p5, -⟩ := zak HR.out.c2; have hpv := HR.out.pv HI.out; obtain ⟨E, hE⟩ : ∃ E, PatM.check ⟨x0, x1, F2, F4, x6, out⟩ = E := ⟨_, rfl⟩; rw [hE] at HFin; go_wp2_with fail; refine (zbI _ _ _ hpv).mono ?_; rintro e W3 ⟨rfl, b3⟩; rw [hE]; have HR3 := LH (HR.out.later b3); clear hpv HR p0 p1 p2 p3 p4 p5 b3 hE k0 t7; by_cases hE0 : E = 0
           · subst hE0
             have HK : Hid (PatM.readOf b = (⟨x0, x1, F2, F4, x6, out⟩, 0)) := by show _ = _; rw [HFin.out, if_neg (by simp)]
             obtain ⟨ao, co, hvo, -⟩ := HR3.out.o.os (HR3.out.hs _ HR3.out.below); rw [HOL.out] at hvo; subst hvo; obtain ⟨p0, p1, p2, p3, p4, p5, -⟩ := zak HR3.out.c2; obtain ⟨r0, r1, r2, r3, r4, r5, f0, f1, f2, f3, f4, f5⟩ := zak HR3.out.c1; have g0 : ∀ v, (W3.setCell ⟨B0 + 1, 0, none⟩ v).cell? ⟨B0 + 1, 0, none⟩ = some v := fun v => World.cell?_setCell_same _ _ _ r0; obtain ⟨W6, hW6, q0, q1, q2, q3, q4, q5, hoth, hsz⟩ := zbh HR3.out.c1 (.int .i64 x0) (.int .i64 x1) (.int .i64 F2) (.int .i64 F4) (.int .i64 x6) (.slice ao kk co)
             have HB6 : Hid (Below w.heap.size w W6) := by
              show Below _ _ _; rw [← hW6]; exact (((((HR3.out.below.setCell HBL.out _).setCell HBL.out _).setCell HBL.out _).setCell HBL.out _).setCell HBL.out _).setCell HBL.out _
             have HPV : Hid (∀ W' : World, W6.heap.size ≤ W'.heap.size → (∀ k, w.heap.size ≤ k → k < W6.heap.size → W'.heap[k]? = W6.heap[k]?) → BS W' (some ⟨blk, off, none⟩) n c b → PV W' (.agg #[.int .i64 x0, .int .i64 x1, .int .i64 F2, .int .i64 F4, .int .i64 x6, .slice ao kk co]) ⟨x0, x1, F2, F4, x6, out⟩) := by
              show ∀ W' : World, _; intro W' hw1 hw2 hS'; have hle := HR3.out.le0; obtain ⟨ao', co', e, hos⟩ := (HR3.out.o.keep (W' := W') (fun g g1 g2 => (hw2 g (by omega) (by rw [hsz]; exact g2)).trans (hoth g (by omega)))).os hS'; rw [HOL.out] at e hos
              cases e
              exact ⟨ao, kk, co, rfl, hos, HI.out.1, HI.out.2.1, HI.out.2.2.1, HI.out.2.2.2.1, HI.out.2.2.2.2⟩
             clear hoth hsz; go_wp2_with fail
             try simp only [Exit.inBlock, Exit.then]
             refine bodyPost_ret (by simp [results, Tryz.results147, go_sem, q0, q1, q2, q3, q4, q5]; try rfl) rfl ?_; exact ⟨_, by rw [HK.out], HB6.out, fun W' h1 h2 h3 => by rw [HK.out]; exact HPV.out W' h1 h2 h3⟩
           · have hnb : (E != 0) = true := by simp [hE0]
             have HK : Hid (PatM.readOf b = (zap, E)) := by show _ = _; rw [HFin.out, if_pos hE0]
             go_wp2_with fail; refine (bad_any E _).mono ?_; rintro e W9 ⟨rfl, b9⟩; obtain ⟨hB1, hb9⟩ := HBAD.out _ W9 (HR3.out.c1) (HR3.out.below) b9; obtain ⟨r0, r1, r2, r3, r4, r5, f0, f1, f2, f3, f4, f5⟩ := zak hB1; have g0 : ∀ v, (W9.setCell ⟨B0 + 1, 0, none⟩ v).cell? ⟨B0 + 1, 0, none⟩ = some v := fun v => World.cell?_setCell_same _ _ _ r0; obtain ⟨W6, hW6, q0, q1, q2, q3, q4, q5, hoth, hsz⟩ := zbh hB1 (.int .i64 0) (.int .i64 0) (.int .i64 0) (.int .i64 0) (.int .i64 0) (.slice none 0 0)
             have HB6 : Hid (Below w.heap.size w W6) := by
              show Below _ _ _; rw [← hW6]; exact (((((hb9.setCell HBL.out _).setCell HBL.out _).setCell HBL.out _).setCell HBL.out _).setCell HBL.out _).setCell HBL.out _
             clear hoth hsz hb9 b9; go_wp2_with fail
             try simp only [Exit.inBlock, Exit.then]
             refine bodyPost_ret (by simp [results, Tryz.results147, go_sem, q0, q1, q2, q3, q4, q5]; try rfl) rfl ?_; exact ⟨_, by rw [HK.out], HB6.out, fun _ _ _ _ => by rw [HK.out]; exact zaD _⟩
def GivesJRN (l : List ChR) (w : World) (e : Ending) (w' : World) : Prop :=
 ∃ r, ChunkM.JoinIs l r ∧ ∃ v, e = .returned (.tuple #[v, .int .i64 r.2]) ∧ NewR w.heap.size w' (fun V => PV V v r.1) ∧ Below w.heap.size w w'
theorem joinedR_n (a : Option Addr) (n c : Nat) (l : List ChR) (w : World) (hl : CS w a n c l) :
 Calls Tryz.prog 90 #[.slice a n c] w (GivesJRN l w) := by
 have HL := LH hl; have HLn := LH hl.len; have hlen : n ≤ 9223372036854775807 := by have := hl.le; have := hl.max; omega
 obtain ⟨B, hBB⟩ : ∃ B, w.heap.size = B := ⟨_, rfl⟩; have hle : w.heap.size ≤ B := by omega
 have HLE := LH hle; have hb0 : Below w.heap.size w (w.alloc (.cells #[.int .i64 0, .int .i64 0, .int .i64 0, .int .i64 0, .int .i64 0, .slice none 0 0] 35)) := (Below.refl _ _).alloc (Nat.le_refl _) _; have hblk : (w.alloc (.cells #[.int .i64 0, .int .i64 0, .int .i64 0, .int .i64 0, .int .i64 0, .slice none 0 0] 35)).heap[B]? = some (.cells #[.int .i64 0, .int .i64 0, .int .i64 0, .int .i64 0, .int .i64 0, .slice none 0 0] 35 (0, 0)) := by rw [hpA, if_pos hBB.symm]
 have HB0 := LH hb0; have HBLK := LH hblk; clear hl hb0 hblk hle; go_enter Tryz.func90, Tryz.ntmps90; go_wp2_with fail; refine (checkChs_any a n c l _ (HL.out.later HB0.out)).mono ?_; rintro e W1 ⟨rfl, b1⟩; have hB1 := bTh HB0.out b1; have hblk1 := (b1.block B (zax HBLK.out)).trans HBLK.out; have HB1 := LH hB1; have HBLK1 := LH hblk1; clear b1 HB0 HBLK; obtain ⟨E, hE⟩ : ∃ E, ChunkM.checks l = E := ⟨_, rfl⟩; rw [hE]; by_cases hE0 : E = 0
 · subst hE0
   have HE := LH hE; clear hE; by_cases hn0 : n = 0
   · subst hn0
     have HJ : Hid (ChunkM.joinErr l = 5) := by
      show _ = _; unfold ChunkM.joinErr; rw [if_neg (by rw [HE.out]; simp), if_pos (.inl (List.eq_nil_of_length_eq_zero HLn.out))]
     obtain ⟨r0, r1, r2, r3, r4, r5, f0, f1, f2, f3, f4, f5⟩ := zak hblk1; have g0 : ∀ v, (W1.setCell ⟨B, 0, none⟩ v).cell? ⟨B, 0, none⟩ = some v := fun v => World.cell?_setCell_same _ _ _ r0; obtain ⟨W6, hW6, q0, q1, q2, q3, q4, q5, hb6, -, -⟩ := za7 hblk1 hB1 HLE.out (.int .i64 0) (.int .i64 0) (.int .i64 0) (.int .i64 0) (.int .i64 0) (.slice none 0 0); have HB6 := LH hb6; clear hb6 hB1 hblk1; go_wp2_with fail
     try simp only [Exit.inBlock, Exit.then]
     refine bodyPost_ret (by simp [results, Tryz.results90, go_sem, q0, q1, q2, q3, q4, q5]; try rfl) rfl ?_; exact ⟨(zap, 5), .inl ⟨by rw [HJ.out]; omega, by rw [HJ.out]⟩, _, rfl, NewR.any (fun V => zaD V), HB6.out⟩
   · obtain ⟨b, off, rfl, hcs⟩ := (HL.out.later hB1).cells (by omega)
     obtain ⟨za, zm, zc, z0, z1, z2, z3, -, -, zI⟩ := hcs 0 (by omega)
     have HM0 : Hid (l.getD 0 default ∈ l) := by
      show _ ∈ l; have := HLn.out
      cases l with
      | nil => simp at this; omega
      | cons x t => simp
     obtain ⟨zz, hzz⟩ : ∃ zz, l.getD 0 default = zz := ⟨_, rfl⟩; rw [hzz] at z0 z1 z3 HM0; have HZZ := LH hzz; obtain ⟨ZF, ZT, ZN, ZO, ZD⟩ := zz; simp only [Nat.zero_mul, Nat.add_zero] at z0 z1 z3; have hnb : ((n : Int) == 0) = false := by simp; omega
     have h0n : (0 : Int) < (n : Int) := by omega
     clear hcs z2 hzz; by_cases hof : (n : Int) = ZO
     · have hofb : ((n : Int) != ZO) = false := by simp [hof]
       have HJ : Hid (ChunkM.joinErr l = 0) := by
        show _ = _; unfold ChunkM.joinErr; rw [if_neg (by rw [HE.out]; simp), if_neg]; rintro (h | h)
        · rw [h] at HM0; exact absurd HM0.out (by simp)
        · rw [HZZ.out, HLn.out] at h; exact h hof
       have h52 := (ChunkM.joinErr_ok HJ.out).2.2.2; rw [HLn.out] at h52; have HDat := LH (ChunkM.checks_data HE.out); have HZ : Hid (∀ W, Below W1.heap.size W1 W → W.cell? ⟨b, off, none⟩ = some (.int .i64 ZF) ∧ W.cell? ⟨b, off + 1, none⟩ = some (.int .i64 ZT)) := fun W h => ⟨cell_later h z0, cell_later h z1⟩; clear hof; go_wp2_with fail; go_loopw [5, 33] (fun vb i wr => JoinRel l W1 vb i wr) (fun _ i _ => n - (intOf i).toNat)
       case atStart => exact ⟨0, rfl, Nat.zero_le _, by rw [List.take_zero]; exact World.ownsRow_nil _ _ _ _, Below.refl _ _⟩
       case round =>
        obtain ⟨k, rfl, hk, ho, hB⟩ := hrel; rw [HLn.out] at hk; have HO := LH ho; have HB := LH hB; clear ho hB; by_cases hlt : k < n
        · obtain ⟨b', off', e', hcs⟩ := ((HL.out.later hB1).later HB.out).cells (by omega)
          simp only [Option.some.injEq, Addr.mk.injEq, and_true] at e'; obtain ⟨rfl, rfl⟩ := e'; obtain ⟨va, vm, vc, p0, p1, p2, p3, p4, p5, pI⟩ := hcs k hlt; have HD := LH (drop_ch l k (by rw [HLn.out]; exact hlt))
          have hmem : l.getD k default ∈ l := by
           have : l.getD k default ∈ l.drop k := by rw [HD.out]; simp
           exact List.mem_of_mem_drop this
          have HTk : Hid (ChunkM.flatD (l.take (k + 1)) = ChunkM.flatD (l.take k) ++ (l.getD k default).data) := by
           show _ = _; have hkl : k < l.length := by rw [HLn.out]; exact hlt
           rw [List.take_add_one, ChunkM.flatD_append, List.getD_eq_getElem?_getD, List.getElem?_eq_getElem hkl]; simp [ChunkM.flatD]
          have hdl := HDat.out _ hmem; generalize l.getD k default = x at p0 p1 p2 p3 p4 p5 HTk hdl; obtain ⟨F, T, N, O, D⟩ := x; simp only at p0 p1 p2 p3 p4 p5 hdl HTk
          have hfl : (ChunkM.flatD (l.take k)).length ≤ 16 * k := by
           have := ChunkM.flat_len (l := l.take k) (fun c hc => HDat.out c (List.mem_of_mem_take hc)); rw [List.length_take, HLn.out] at this; omega
          have hbl : Below wr.heap.size wr (wr.alloc (.cells #[.int .i64 F, .int .i64 T, .int .i64 N, .int .i64 O, .slice va vm vc] 39)) := (Below.refl _ _).alloc (Nat.le_refl _) _; have hb2 := bTh HB.out hbl; have hvl := p5.len; obtain ⟨a5, c5, W5, hrun, hown5, hg5⟩ := zbi (zaQ HO.out hbl) (p5.later hbl) (by omega) (by have := hb2.size; omega); have HB5 := LH (hb2.grown hg5 hb2.size (fun g hg => (oL3 HO.out hg).1))
          have HO5 : Hid (W5.ownsRow W1.heap.size 5 1 (.slice a5 ((ChunkM.flatD (l.take k)).length + vm) c5) (ChunkM.flatD (l.take (k + 1))).length ((ChunkM.flatD (l.take (k + 1))).map (Value.int .u8))) := by
           show World.ownsRow _ _ _ _ _ _ _; rw [HTk.out, List.length_append, hvl]; exact hown5
          clear hcs hbl hb2 hown5 hg5 p5 pI hmem; generalize (ChunkM.flatD (l.take k)).length = fl at hrun hfl HO5; go_wp2_with (at_builtin; refine Lib.wpList_append_run _ rfl _ _ _ _ rfl _ _ rfl rfl _ _ hrun ?_); go_roundw
          case rel => exact ⟨k + 1, by go_num, by rw [HLn.out]; omega, HO5.out, HB5.out⟩
          case measure => simp [intOf]; omega
        · have hkn : k = n := by omega
          subst hkn; have ho := HO.out; rw [List.take_of_length_le (by rw [HLn.out]; exact Nat.le_refl _)] at ho; obtain ⟨fb, hfb⟩ : ∃ fb, ChunkM.flatD l = fb := ⟨_, rfl⟩
          have hfl : fb.length ≤ 832 := by
           have := ChunkM.flat_len HDat.out; rw [HLn.out, hfb] at this; omega
          have hby := flat_bytes HL.out.bytes; rw [hfb] at ho hby; have HFB := LH hfb; obtain ⟨av, cv, hvb⟩ := own_slice ho; subst hvb; have hbs := BS.of_own ho hby; have hblk2 := (HB.out.block B (zax HBLK1.out)).trans HBLK1.out; have hB2 := bTh HB1.out HB.out; obtain ⟨y0, y1⟩ := HZ.out _ HB.out; obtain ⟨FL, hFL⟩ : ∃ FL, fb.length = FL := ⟨_, rfl⟩; rw [hFL] at hbs hfl; have HBS := LH hbs; have HB2 := LH hB2; have HBLK2 := LH hblk2; rw [hFL]; clear ho hbs hby hfb hB2 hblk2 HO hFL; go_wp2_with fail; refine (unpacked_n av FL cv fb 400 _ HBS.out (by omega)).mono ?_; rintro e W3 ⟨u, a3, n3, c3, hu, rfl, s3n, b3⟩; have s3 := s3n.here; have HS3N := LH s3n; have HB2s := LH HB2.out.size; have HW23 := LH b3.size; have HB3s := LH (zax HBLK2.out); clear s3n; have hblk3 := (b3.block B (zax HBLK2.out)).trans HBLK2.out; have hB3 := bTh HB2.out b3; replace y0 := cell_later b3 y0; replace y1 := cell_later b3 y1; have HU : Hid (PackM.Unp 400 (ChunkM.flatD l) [] u) := by show PackM.Unp _ _ _ _; rw [HFB.out]; exact hu
          clear b3 hu HBS HB2 HBLK2; obtain ⟨ub, ue⟩ := u; simp only at s3 ⊢; by_cases hue : ue = 0
          · subst hue
            have HB3 := LH hB3; have HBLK3 := LH hblk3; have HS3 := LH s3; clear hB3 hblk3 s3; go_wp2_with fail; refine (patRead_n a3 n3 c3 ub _ HS3.out).mono ?_; rintro e W4 ⟨v4, rfl, b4, hpv⟩; have hpv4 := hpv W4 (Nat.le_refl _) (fun _ _ _ => rfl) (HS3.out.later b4); have HW34 := LH b4.block; obtain ⟨⟨pf, pt, po, pn, ps, pops⟩, hrp⟩ : ∃ rp, (PatM.readOf ub).1 = rp := ⟨_, rfl⟩; obtain ⟨re, hre⟩ : ∃ re, (PatM.readOf ub).2 = re := ⟨_, rfl⟩; rw [hrp] at hpv hpv4; rw [hre]; obtain ⟨ap, np, cp, rfl, -⟩ := hpv4; simp only at hpv ⊢; have hblk4 := (b4.block B (zax HBLK3.out)).trans HBLK3.out; have hB4 := bTh HB3.out b4; replace y0 := cell_later b4 y0; replace y1 := cell_later b4 y1; have hlt3 := zax HBLK3.out; have HPV := LH hpv; have HRP := LH hrp; have HRE := LH hre; have hbl : Below W4.heap.size W4 (W4.alloc (.cells #[.int .i64 pf, .int .i64 pt, .int .i64 po, .int .i64 pn, .int .i64 ps, .slice ap np cp] 35)) := (Below.refl _ _).alloc (Nat.le_refl _) _; have hblk5 := (hbl.block B (zax hblk4)).trans hblk4; have hB5 := bTh hB4 hbl; have y0' := cell_later hbl y0; have y1' := cell_later hbl y1; have hsb := (HS3.out.later b4).later hbl; have hnew : (W4.alloc (.cells #[.int .i64 pf, .int .i64 pt, .int .i64 po, .int .i64 pn, .int .i64 ps, .slice ap np cp] 35)).heap[W4.heap.size]? = some (.cells #[.int .i64 pf, .int .i64 pt, .int .i64 po, .int .i64 pn, .int .i64 ps, .slice ap np cp] 35 (0, 0)) := by rw [hpA, if_pos rfl]
            have hb45 := LH b4.size; have HBl := LH hbl; have HSB := LH hsb; have HNEW := LH hnew; have HB5 := LH hB5; have HBLK5 := LH hblk5; clear hrp hre hpv b4 hbl hblk4 hB4 y0 y1 hsb hnew hB5 hblk5; by_cases hre0 : re = 0
            · subst hre0
              go_wp2_with fail; generalize W4.alloc (.cells #[.int .i64 pf, .int .i64 pt, .int .i64 po, .int .i64 pn, .int .i64 ps, .slice ap np cp] 35) = W5 at y0' y1' HBl HSB HNEW HB5 HBLK5 ⊢; obtain ⟨p0, p1, p2, p3, p4, p5, -⟩ := zak HNEW.out; have HEnd : Hid (∀ r : PatR × Int, ChunkM.joinEnd l (ub, 0) = r → ChunkM.JoinIs l r) := fun r h => .inr ⟨HJ.out, (ub, 0), HU.out, h.symm⟩
              have HJE : Hid (ChunkM.joinEnd l (ub, 0) = if pf ≠ ZF ∨ pt ≠ ZT then (zap, 3) else (⟨pf, pt, po, pn, ps, pops⟩, 0)) := by
               show _ = _; unfold ChunkM.joinEnd; simp only; rw [if_neg (by simp), HRE.out, if_neg (by simp), HRP.out, HZZ.out]
              by_cases c1 : pf = ZF
              · subst c1
                have t1 : (pf != pf) = false := by simp
                by_cases c2 : pt = ZT
                · subst c2
                  have t2 : (pt != pt) = false := by simp
                  have HRes := LH (HEnd.out (⟨pf, pt, po, pn, ps, pops⟩, 0) (by rw [HJE.out, if_neg (by simp)])); go_quiet (fail); have hblkq : (W5.drewN nq).heap[B]? = _ := HBLK5.out; have hBq := below_drewN HB5.out nq; have hSq := HSB.out.drewN nq; have HBlq := LH (below_drewN HBl.out nq); have hnewq : (W5.drewN nq).heap[W4.heap.size]? = _ := HNEW.out; clear HBLK5 HB5 HSB HBl HNEW y0' y1' p0 p1 p2 p3 p4 p5; generalize W5.drewN nq = W7 at hblkq hBq hSq HBlq hnewq ⊢; obtain ⟨p0, p1, p2, p3, p4, p5, -⟩ := zak hnewq; obtain ⟨r0, r1, r2, r3, r4, r5, f0, f1, f2, f3, f4, f5⟩ := zak hblkq; have g0 : ∀ v, (W7.setCell ⟨B, 0, none⟩ v).cell? ⟨B, 0, none⟩ = some v := fun v => World.cell?_setCell_same _ _ _ r0; obtain ⟨W6, hW6, q0, q1, q2, q3, q4, q5, hb6, hoth, hsz⟩ := za7 hblkq hBq HLE.out (.int .i64 pf) (.int .i64 pt) (.int .i64 po) (.int .i64 pn) (.int .i64 ps) (.slice ap np cp); have HB6 := LH hb6
                  have HP6 : Hid (NewR w.heap.size W6 (fun V => PV V (.agg #[.int .i64 pf, .int .i64 pt, .int .i64 po, .int .i64 pn, .int .i64 ps, .slice ap np cp]) ⟨pf, pt, po, pn, ps, pops⟩)) := by
                   show NewR _ _ _; have hBlt := HB3s.out; have k3 : W4.heap.size ≤ W7.heap.size := HBlq.out.size
                   have hkeep : ∀ V : World, W6.heap.size ≤ V.heap.size → (∀ k, w.heap.size ≤ k → k < W6.heap.size → V.heap[k]? = W6.heap[k]?) → ∀ k, wr.heap.size ≤ k → k < W4.heap.size → V.heap[k]? = W4.heap[k]? := fun V v1 v2 k k1 k2 => by
                    rw [v2 k (by have := HB2s.out; omega) (by rw [hsz]; omega), hoth k (by omega)]; exact HBlq.out.block k k2
                   refine fun V v1 v2 => HPV.out V (Nat.le_trans (by rw [hsz]; exact HBlq.out.size) v1) (fun k k1 k2 => hkeep V v1 v2 k (Nat.le_trans HW23.out k1) k2) ?_; exact HS3N.out V (Nat.le_trans hb45.out (Nat.le_trans k3 (by rw [← hsz]; exact v1))) (fun k k1 k2 => (hkeep V v1 v2 k k1 (Nat.lt_of_lt_of_le k2 hb45.out)).trans (HW34.out k k2))
                  clear hb6 hoth hsz hblkq hBq hSq hnewq; go_wp2_with fail
                  try simp only [Exit.inBlock, Exit.then]
                  refine bodyPost_ret (by simp [results, Tryz.results90, go_sem, q0, q1, q2, q3, q4, q5]; try rfl) rfl ?_; exact ⟨_, HRes.out, _, rfl, HP6.out, HB6.out⟩
                · have t2 : (pt != ZT) = true := by simp [c2]
                  have HRes := LH (HEnd.out (zap, 3) (by rw [HJE.out, if_pos (.inr c2)])); go_quiet (fail); have hblkq : (W5.drewN nq).heap[B]? = _ := HBLK5.out; have hBq := below_drewN HB5.out nq; clear HBLK5 HB5 HSB HBl HNEW y0' y1' p0 p1 p2 p3 p4 p5; generalize W5.drewN nq = W7 at hblkq hBq ⊢; obtain ⟨r0, r1, r2, r3, r4, r5, f0, f1, f2, f3, f4, f5⟩ := zak hblkq; have g0 : ∀ v, (W7.setCell ⟨B, 0, none⟩ v).cell? ⟨B, 0, none⟩ = some v := fun v => World.cell?_setCell_same _ _ _ r0; obtain ⟨W6, hW6, q0, q1, q2, q3, q4, q5, hb6, -, -⟩ := za7 hblkq hBq HLE.out (.int .i64 0) (.int .i64 0) (.int .i64 0) (.int .i64 0) (.int .i64 0) (.slice none 0 0); have HB6 := LH hb6; clear hb6; go_wp2_with fail
                  try simp only [Exit.inBlock, Exit.then]
                  refine bodyPost_ret (by simp [results, Tryz.results90, go_sem, q0, q1, q2, q3, q4, q5]; try rfl) rfl ?_; exact ⟨_, HRes.out, _, rfl, NewR.any (fun V => zaD V), HB6.out⟩
              · have t1 : (pf != ZF) = true := by simp [c1]
                have HRes := LH (HEnd.out (zap, 3) (by rw [HJE.out, if_pos (.inl c1)])); go_quiet (fail); have hblkq : (W5.drewN nq).heap[B]? = _ := HBLK5.out; have hBq := below_drewN HB5.out nq; clear HBLK5 HB5 HSB HBl HNEW y0' y1' p0 p1 p2 p3 p4 p5; generalize W5.drewN nq = W7 at hblkq hBq ⊢; obtain ⟨r0, r1, r2, r3, r4, r5, f0, f1, f2, f3, f4, f5⟩ := zak hblkq; have g0 : ∀ v, (W7.setCell ⟨B, 0, none⟩ v).cell? ⟨B, 0, none⟩ = some v := fun v => World.cell?_setCell_same _ _ _ r0; obtain ⟨W6, hW6, q0, q1, q2, q3, q4, q5, hb6, -, -⟩ := za7 hblkq hBq HLE.out (.int .i64 0) (.int .i64 0) (.int .i64 0) (.int .i64 0) (.int .i64 0) (.slice none 0 0); have HB6 := LH hb6; clear hb6; go_wp2_with fail
                try simp only [Exit.inBlock, Exit.then]
                refine bodyPost_ret (by simp [results, Tryz.results90, go_sem, q0, q1, q2, q3, q4, q5]; try rfl) rfl ?_; exact ⟨_, HRes.out, _, rfl, NewR.any (fun V => zaD V), HB6.out⟩
            · have t0 : (re != 0) = true := by simp [hre0]
              have HRes : Hid (ChunkM.JoinIs l (zap, re)) := by
               show ChunkM.JoinIs _ _; refine .inr ⟨HJ.out, (ub, 0), HU.out, ?_⟩; unfold ChunkM.joinEnd; simp only; rw [if_neg (by simp), HRE.out, if_pos hre0]
              have hblkq := HBLK5.out; have hBq := HB5.out; clear HBLK5 HB5 HSB HBl HNEW y0' y1'; obtain ⟨r0, r1, r2, r3, r4, r5, f0, f1, f2, f3, f4, f5⟩ := zak hblkq; have g0 : ∀ v, ((W4.alloc (.cells #[.int .i64 pf, .int .i64 pt, .int .i64 po, .int .i64 pn, .int .i64 ps, .slice ap np cp] 35)).setCell ⟨B, 0, none⟩ v).cell? ⟨B, 0, none⟩ = some v := fun v => World.cell?_setCell_same _ _ _ r0; obtain ⟨W6, hW6, q0, q1, q2, q3, q4, q5, hb6, -, -⟩ := za7 hblkq hBq HLE.out (.int .i64 0) (.int .i64 0) (.int .i64 0) (.int .i64 0) (.int .i64 0) (.slice none 0 0); have HB6 := LH hb6; clear hb6; go_wp2_with fail
              try simp only [Exit.inBlock, Exit.then]
              refine bodyPost_ret (by simp [results, Tryz.results90, go_sem, q0, q1, q2, q3, q4, q5]; try rfl) rfl ?_; exact ⟨_, HRes.out, _, rfl, NewR.any (fun V => zaD V), HB6.out⟩
          · have t0 : (ue != 0) = true := by simp [hue]
            have HRes : Hid (ChunkM.JoinIs l (zap, ue)) := by
             show ChunkM.JoinIs _ _; refine .inr ⟨HJ.out, (ub, ue), HU.out, ?_⟩; unfold ChunkM.joinEnd; simp only; rw [if_pos hue]
            clear y0 y1 s3; obtain ⟨r0, r1, r2, r3, r4, r5, f0, f1, f2, f3, f4, f5⟩ := zak hblk3; have g0 : ∀ v, (W3.setCell ⟨B, 0, none⟩ v).cell? ⟨B, 0, none⟩ = some v := fun v => World.cell?_setCell_same _ _ _ r0; obtain ⟨W6, hW6, q0, q1, q2, q3, q4, q5, hb6, -, -⟩ := za7 hblk3 hB3 HLE.out (.int .i64 0) (.int .i64 0) (.int .i64 0) (.int .i64 0) (.int .i64 0) (.slice none 0 0); have HB6 := LH hb6; clear hb6; go_wp2_with fail
            try simp only [Exit.inBlock, Exit.then]
            refine bodyPost_ret (by simp [results, Tryz.results90, go_sem, q0, q1, q2, q3, q4, q5]; try rfl) rfl ?_; exact ⟨_, HRes.out, _, rfl, NewR.any (fun V => zaD V), HB6.out⟩
     · have hofb : ((n : Int) != ZO) = true := by simp [hof]
       have HRes : Hid (ChunkM.JoinIs l (zap, 5)) := by
        show ChunkM.JoinIs _ _
        have hj : ChunkM.joinErr l = 5 := by
         unfold ChunkM.joinErr; rw [if_neg (by rw [HE.out]; simp), if_pos (.inr (by rw [HZZ.out, HLn.out]; exact hof))]
        exact .inl ⟨by rw [hj]; omega, by rw [hj]⟩
       obtain ⟨r0, r1, r2, r3, r4, r5, f0, f1, f2, f3, f4, f5⟩ := zak hblk1; have g0 : ∀ v, (W1.setCell ⟨B, 0, none⟩ v).cell? ⟨B, 0, none⟩ = some v := fun v => World.cell?_setCell_same _ _ _ r0; obtain ⟨W6, hW6, q0, q1, q2, q3, q4, q5, hb6, -, -⟩ := za7 hblk1 hB1 HLE.out (.int .i64 0) (.int .i64 0) (.int .i64 0) (.int .i64 0) (.int .i64 0) (.slice none 0 0); have HB6 := LH hb6; clear hb6; go_wp2_with fail
       try simp only [Exit.inBlock, Exit.then]
       refine bodyPost_ret (by simp [results, Tryz.results90, go_sem, q0, q1, q2, q3, q4, q5]; try rfl) rfl ?_; exact ⟨_, HRes.out, _, rfl, NewR.any (fun V => zaD V), HB6.out⟩
 · have t0 : (E == 0) = false := by simp [hE0]
   have t1 : (E != 0) = true := by simp [hE0]
   have HRes : Hid (ChunkM.JoinIs l (zap, E)) := by
    show ChunkM.JoinIs _ _
    have hj : ChunkM.joinErr l = E := by
     unfold ChunkM.joinErr; rw [if_pos (by rw [hE]; exact hE0), hE]
    exact .inl ⟨by rw [hj]; exact hE0, by rw [hj]⟩
   clear hE; obtain ⟨r0, r1, r2, r3, r4, r5, f0, f1, f2, f3, f4, f5⟩ := zak hblk1; have g0 : ∀ v, (W1.setCell ⟨B, 0, none⟩ v).cell? ⟨B, 0, none⟩ = some v := fun v => World.cell?_setCell_same _ _ _ r0; obtain ⟨W6, hW6, q0, q1, q2, q3, q4, q5, hb6, -, -⟩ := za7 hblk1 hB1 HLE.out (.int .i64 0) (.int .i64 0) (.int .i64 0) (.int .i64 0) (.int .i64 0) (.slice none 0 0); have HB6 := LH hb6; clear hb6; go_wp2_with fail
   try simp only [Exit.inBlock, Exit.then]
   refine bodyPost_ret (by simp [results, Tryz.results90, go_sem, q0, q1, q2, q3, q4, q5]; try rfl) rfl ?_; exact ⟨_, HRes.out, _, rfl, NewR.any (fun V => zaD V), HB6.out⟩
attribute [local go_sem] run_store_func
theorem joinR_c (a : Option Addr) (n c : Nat) (l : List ChR) (p : PatR) (E : Int) (hJ : ChunkM.joinOf l = (p, E)) (w : World) (hl : CS w a n c l) : Calls Tryz.prog 90 #[.slice a n c] w (GivesJc p E w) := by
 refine (joinedR_n a n c l w hl).mono ?_; rintro e w' ⟨r, h1, v, rfl, h3, h4⟩; have hr : r = (p, E) := h1.of.trans hJ; subst hr; obtain ⟨oa, on, oc, rfl, -, hI⟩ := h3.here; refine ⟨oa, on, oc, rfl, fun V v1 v2 => ?_, hI, h4⟩; obtain ⟨oa', on', oc', he, ho, -⟩ := h3 V v1 v2; simp only [Value.agg.injEq, Array.mk.injEq, List.cons.injEq, Value.slice.injEq, true_and, and_true] at he; obtain ⟨rfl, rfl, rfl⟩ := he; exact ho
theorem rec_ver (r : RecR) (A : Nat) (hA : A < 2) : (rcC r)[5 + A * 3]? = some (.int .i64 (RecM.inf r (A : Int)).ver) := by
 rcases (show A = 0 ∨ A = 1 by omega) with rfl | rfl <;> rfl
theorem acts_open (w0 : World) (h : DevH) (d : DevR) (nn : Int) (x : ChR) (xa : Option Addr) (xm xc : Nat) (w : World) (hk : Below w0.heap.size w0 w) (HD : DH w0 h d) (hok : DevM.Ok d) (hu : d.up = true) : Calls Tryz.prog 26 #[devV h d, .agg #[.int .i64 5, .int .i64 nn], .agg #[.int .i64 x.fr, .int .i64 x.to_, .int .i64 x.n, .int .i64 x.of_, .slice xa xm xc]] w (zbK (fun V => Below w0.heap.size w0 V) (DevM.open_ d) w) := by
 have HR0 : Hid (DevM.open_ d = if d.busy = true ∨ (DevM.rc d).trying = true then (DevM.noDev, 5) else DevM.wrong (ChunkM.joinOf d.got).2
  (if (ChunkM.joinOf d.got).1.from_ ≠ (DevM.info d (DevM.act d)).ver ∨ (ChunkM.joinOf d.got).1.to_ < (DevM.rc d).floor then (DevM.noDev, 4)
   else DevM.wrong (zaz (ChunkM.joinOf d.got).1 (DevM.image d (DevM.act d))).2
    (DevM.wrong (RecM.writeOf d.c (DevM.put (DevM.rc d) RecM.noInf) false).2
     ({ d with c := (RecM.writeOf d.c (DevM.put (DevM.rc d) RecM.noInf) false).1, busy := true, job := (ChunkM.joinOf d.got).1, done := 0, got := [] }, 0)))) := by
  show _ = _; unfold DevM.open_
  rfl
 have ha := hok.act01; unfold DevM.act at ha; obtain ⟨A, hAe, hA2⟩ : ∃ A : Nat, (DevM.rc d).act = (A : Int) ∧ A < 2 := ⟨(DevM.rc d).act.toNat, by omega, by omega⟩; obtain ⟨O, hO, hO2⟩ := zb9 ha; have HPt := LH (put_is O hO hO2 RecM.noInf); have hin := (RecM.inf_nums (RecM.check_inf hok.rec_ (DevM.rc d).act)).2.1; have hlen := slB_len HD hok ha; obtain ⟨m, hm⟩ : ∃ m : Nat, (RecM.inf (DevM.rc d) (DevM.rc d).act).size = m := ⟨_, (Int.toNat_of_nonneg hin.1).symm⟩; have hm64 : m ≤ 64 := by omega
 obtain ⟨⟨p, J⟩, hJ⟩ : ∃ x, ChunkM.joinOf d.got = x := ⟨_, rfl⟩; obtain ⟨⟨xb, X⟩, hX⟩ : ∃ x, zaz p ((DevM.slot d (DevM.rc d).act).take m) = x := ⟨_, rfl⟩; obtain ⟨⟨L, E⟩, hW⟩ : ∃ x, RecM.writeOf d.c ((DevM.rc d).setI O RecM.noInf) false = x := ⟨_, rfl⟩
 have HR : Hid (DevM.open_ d = if d.busy = true ∨ (DevM.rc d).trying = true then (DevM.noDev, 5) else DevM.wrong J
  (if p.from_ ≠ (RecM.inf (DevM.rc d) (A : Int)).ver ∨ p.to_ < (DevM.rc d).floor then (DevM.noDev, 4)
   else DevM.wrong X (DevM.wrong E ({ d with c := L, busy := true, job := p, done := 0, got := [] }, 0)))) := by
  show _ = _
  have e1 : DevM.image d (DevM.act d) = (DevM.slot d (DevM.rc d).act).take m := by
   unfold DevM.image DevM.info DevM.act; rw [hm, Int.toNat_natCast]
  have e2 : DevM.info d (DevM.act d) = RecM.inf (DevM.rc d) (A : Int) := by
   unfold DevM.info DevM.act; rw [hAe]
  rw [HR0.out, hJ, e1, hX, HPt.out, hW, e2]
 have HWW := LH hW; have HCz := LH (fun q : E = 0 => cops_w (RecM.writeOf_zero hok.cops (r := (DevM.rc d).setI O RecM.noInf) (torn := false) (by rw [hW]; exact q)).2.1); rw [hW] at HCz; have HJn := LH (fun W (x : DH W h d) => joinR_c _ _ _ _ p J hJ W x.got); have HIm : Hid (∀ W, Calls Tryz.prog 64 #[.agg (dvC h d)] W fun e w' => e = .returned (.slice (slA h (DevM.rc d).act) m (slC h (DevM.rc d).act)) ∧ Below W.heap.size W w') := fun W => imageOf_any h d m W hok.cops hm (by omega)
 have HDo : Hid (∀ oa on oc W, DH W h d → OS W oa on oc p.ops → JobW p → Calls Tryz.prog 63 #[.agg (jbC oa on oc p), .slice (slA h (DevM.rc d).act) m (slC h (DevM.rc d).act)] W (zb1 (xb, X) W)) := fun oa on oc W hd ho hI => by
  have := done_any _ p _ _ _ _ W ⟨oa, on, oc, rfl, ho, hI⟩ ((hd.slB ha).head m (by omega)); rw [hX] at this; exact this
 have HAe := LH hAe; clear hin hm hm64 hlen hJ hX hW HPt HR0 ha hAe; have HNe : Hid (∀ W, Calls Tryz.prog 60 #[.agg (cpC d.c)] W fun e w' => e = .returned (.tuple #[.agg (rcC (DevM.rc d)), .int .i64 (RecM.newest d.c)]) ∧ Below W.heap.size W w') := fun W => zaP d.c hok.cops W; have HOk := LH hok; clear hok; have HDh := LH (HD.later hk); have HD0 := LH HD; have HK0 := LH hk; clear HD hk; unfold devV; obtain ⟨P1, hP1⟩ : ∃ P, w.heap.size = P := ⟨_, rfl⟩; have HS := LH (((((((((MS.start w).alloc (p := P1) (by simp [hP1]) (dvC h d) 37)).alloc (p := (P1 + 1)) (by simp [hP1]) #[.int .i64 5, .int .i64 nn] 55)).alloc (p := (P1 + 2)) (by simp [hP1]) #[.int .i64 x.fr, .int .i64 x.to_, .int .i64 x.n, .int .i64 x.of_, .slice xa xm xc] 39)).alloc (p := (P1 + 3)) (by simp [hP1]) zDev 37)); go_enter Tryz.func26, Tryz.ntmps26; go_upto_region 1 with fail; refine zau HS.out (fun V0 HS1 => ?_); replace HS := LH HS1; clear HS1 hP1; replace HS := LH (MH.of HS.out); obtain ⟨P8, hP8⟩ : ∃ P, V0.heap.size = P := ⟨_, rfl⟩; replace HS := LH (HS.out.alloc hP8 #[.nilFunc] 118); refine zaj ?_; refine zar (fun K hK => ?_); go_simp; refine hK.out _ _ ?_; clear hK K
 try simp only [Act.put, sA, sB, sC]
 refine zaF HS.out (fun V1 HS1 => ?_); replace HS := LH HS1; clear HS1 hP8; have c8 := cAt (k := 0) (v := .nilFunc) (HS.out.get 0 rfl) rfl; have z8 := tAt (k := 0) (HS.out.get 0 rfl); simp only at c8 z8; refine zar (fun K hK => ?_); go_simp; refine hK.out _ _ ?_; clear hK K c8 z8
 try simp only [Act.put, sA, sB, sC]
 refine zaF (HS.out.cell 0 rfl (k := 0) (v := (.func (.func 85) #[] #[])) (c' := #[(.func (.func 85) #[] #[])]) rfl) (fun V2 HS1 => ?_); replace HS := LH HS1; clear HS1; refine zal ?_; have cP1_26 := HS.out.cel 4 26 (v := .bool d.up) rfl rfl; have cP1p1_0 := HS.out.cel 3 0 (v := .int .i64 5) rfl rfl; rw [hu] at cP1_26; have bP1 := HS.out.gt 4 rfl
 go_wp2_with (first
  | ((with_reducible show wpList _ _ _ _ _ _); refine wLP rfl 31 (.tmp 39) rfl P1 2 rfl (dvC h d) 37 (0, 0) ?_ (cpC d.c) ?_ _ U31 rfl ?_ ?_; exact bP1; exact (zai h d); exact (sCp d.c)))
 clear cP1_26 cP1p1_0 bP1; refine (HNe.out _).mono ?_; rintro e W1 ⟨rfl, hb⟩; replace HS := LH (HS.out.later hb); clear hb; obtain ⟨P9, hP9⟩ : ∃ P, W1.heap.size = P := ⟨_, rfl⟩; replace HS := LH (HS.out.alloc hP9 (rcC (DevM.rc d)) 28); have cP1p1_0 := HS.out.cel 4 0 (v := .int .i64 5) rfl rfl; go_upto_region 7 with ((with_reducible show wpList _ _ _ _ _ _); refine wSN rfl 28 (.tmp 9) (.tmp 42) rfl P9 (rcC (DevM.rc d)) rfl rfl 28 _ ?_ ?_ ?_ ?_ ?_; exact hP9.symm; exact (sRc (DevM.rc d)); exact (lRc (DevM.rc d)); exact (oRc (DevM.rc d))); clear cP1p1_0; refine gnH HS.out (fun V3 HS1 => ?_); replace HS := LH HS1; clear HS1 hP9 HNe; have cP1p1_0 := HS.out.cel 4 0 (v := .int .i64 5) rfl rfl; have HUp := LH hu; clear hu; have cP1_29 := HS.out.cel 5 29 (v := .bool d.busy) rfl rfl; have cP9_2 := HS.out.cel 0 2 (v := .bool (DevM.rc d).trying) rfl rfl; by_cases hl : d.busy = true ∨ (DevM.rc d).trying = true
 case pos =>
  have HR2 : Hid (DevM.open_ d = (DevM.noDev, 5)) := HR.out.trans (if_pos hl); rcases Bool.eq_false_or_eq_true d.busy with hb | hb
  · rw [hb] at cP1_29
    clear hl hb; have cP8_0 := HS.out.cel 1 0 (v := (.func (.func 85) #[] #[])) rfl rfl; go_wp2_with fail; clear cP1p1_0 cP1_29 cP9_2 cP8_0; refine (zaI 5 _).mono ?_; rintro e W2 ⟨rfl, hb⟩; replace HS := LH (HS.out.later hb); clear hb; have HG := LH (HS.out.set 2 rfl zDev); have bP1p3 := HS.out.gt 2 rfl
    go_wp2_with (first
     | ((with_reducible show wpList _ _ _ _ _ _); refine wpList_store_row rfl 37 (.tmp 6) (.tmp 80) rfl (P1 + 3) zDev rfl rfl 37 zDev ?_ ?_ ?_ ?_ ?_; exact bP1p3; exact zac; exact zav; exact zaq))
    clear bP1p3; refine bodyPost_ret (v := .tuple #[.agg zDev, .int .i64 5]) ?_ rfl ?_
    · exact zam (fn := Tryz.f26) (p := 6) (a := 7) rfl rfl rfl (HG.out.get 2 rfl) U37 rfl zac
    · rw [HR2.out]
      exact ⟨noH, by rw [zaK], HG.out.below, NewR.any (fun W _ => DH.none_ W)⟩
  · have ht : (DevM.rc d).trying = true := by
     rcases hl with z | z
     · rw [hb] at z; cases z
     · exact z
    rw [hb] at cP1_29; rw [ht] at cP9_2; clear hl hb ht; have cP8_0 := HS.out.cel 1 0 (v := (.func (.func 85) #[] #[])) rfl rfl; go_wp2_with fail; clear cP1p1_0 cP1_29 cP9_2 cP8_0; refine (zaI 5 _).mono ?_; rintro e W2 ⟨rfl, hb⟩; replace HS := LH (HS.out.later hb); clear hb; have HG := LH (HS.out.set 2 rfl zDev); have bP1p3 := HS.out.gt 2 rfl
    go_wp2_with (first
     | ((with_reducible show wpList _ _ _ _ _ _); refine wpList_store_row rfl 37 (.tmp 6) (.tmp 80) rfl (P1 + 3) zDev rfl rfl 37 zDev ?_ ?_ ?_ ?_ ?_; exact bP1p3; exact zac; exact zav; exact zaq))
    clear bP1p3; refine bodyPost_ret (v := .tuple #[.agg zDev, .int .i64 5]) ?_ rfl ?_
    · exact zam (fn := Tryz.f26) (p := 6) (a := 7) rfl rfl rfl (HG.out.get 2 rfl) U37 rfl zac
    · rw [HR2.out]
      exact ⟨noH, by rw [zaK], HG.out.below, NewR.any (fun W _ => DH.none_ W)⟩
 replace HR := LH (HR.out.trans (if_neg hl))
 have hb : d.busy = false := by
  cases q : d.busy with
  | false => rfl
  | true => exact absurd (.inl q) hl
 have ht : (DevM.rc d).trying = false := by
  cases q : (DevM.rc d).trying with
  | false => rfl
  | true => exact absurd (.inr q) hl
 rw [hb] at cP1_29; rw [ht] at cP9_2; clear hl hb ht; have cP1_28 := HS.out.cel 5 28 (v := .slice h.ga h.gn h.gc) rfl rfl; go_wp2_with fail; clear cP1p1_0 cP1_29 cP9_2 cP1_28; refine (HJn.out _ (HDh.out.later HS.out.below)).mono ?_; rintro e W2 ⟨oa, on, oc, rfl, hn, hji, hb⟩; replace HS := LH (HS.out.gain hb hn); have HJI := LH hji; clear hb hn hji HJn; obtain ⟨P15, hP15⟩ : ∃ P, W2.heap.size = P := ⟨_, rfl⟩; replace HS := LH (HS.out.alloc hP15 (jbC oa on oc p) 35); go_upto_region 18 with ((with_reducible show wpList _ _ _ _ _ _); refine wSN rfl 35 (.tmp 15) (.tmp 86) rfl P15 (jbC oa on oc p) rfl rfl 35 _ ?_ ?_ ?_ ?_ ?_; exact hP15.symm; exact (sJb oa on oc p); exact (like_zjob oa on oc p); exact (zbg oa on oc p)); refine gnH HS.out (fun V4 HS1 => ?_); replace HS := LH HS1; clear HS1 hP15; by_cases hJ0 : J = 0
 case neg =>
  have HR2 : Hid (DevM.open_ d = (DevM.noDev, J)) := HR.out.trans (if_pos hJ0); have t0 : (J != 0) = true := by simp [hJ0]
  have cP8_0 := HS.out.cel 2 0 (v := (.func (.func 85) #[] #[])) rfl rfl; go_wp2_with fail; clear cP8_0; refine (zaI J _).mono ?_; rintro e W3 ⟨rfl, hb⟩; replace HS := LH (HS.out.later hb); clear hb; have HG := LH (HS.out.set 3 rfl zDev); have bP1p3 := HS.out.gt 3 rfl
  go_wp2_with (first
   | ((with_reducible show wpList _ _ _ _ _ _); refine wpList_store_row rfl 37 (.tmp 6) (.tmp 93) rfl (P1 + 3) zDev rfl rfl 37 zDev ?_ ?_ ?_ ?_ ?_; exact bP1p3; exact zac; exact zav; exact zaq))
  clear bP1p3; refine bodyPost_ret (v := .tuple #[.agg zDev, .int .i64 J]) ?_ rfl ?_
  · exact zam (fn := Tryz.f26) (p := 6) (a := 7) rfl rfl rfl (HG.out.get 3 rfl) U37 rfl zac
  · rw [HR2.out]
    exact ⟨noH, by rw [zaK], HG.out.below, NewR.any (fun W _ => DH.none_ W)⟩
 subst hJ0; replace HR := LH (HR.out.trans (if_neg (fun q => q rfl))); go_upto_region 20 with fail; have hA0 : (0 : Int) ≤ (A : Int) := by omega
 have hAI : (A : Int) < 2 := by omega
 obtain ⟨vr, hvr⟩ : ∃ vr, (RecM.inf (DevM.rc d) (A : Int)).ver = vr := ⟨_, rfl⟩; rw [hvr] at HR; have HVr := LH hvr; clear hvr; by_cases z1 : p.from_ = vr
 case neg =>
  have HR2 : Hid (DevM.open_ d = (DevM.noDev, 4)) := HR.out.trans (if_pos (.inl z1)); have t1 : (p.from_ != vr) = true := by simp [z1]
  clear z1; refine rTu (S := MS w [(P15, (jbC oa on oc p), 35), (P9, (rcC (DevM.rc d)), 28), (P8, #[(.func (.func 85) #[] #[])], 118), ((P1 + 3), zDev, 37), ((P1 + 2), #[.int .i64 x.fr, .int .i64 x.to_, .int .i64 x.n, .int .i64 x.of_, .slice xa xm xc], 39), ((P1 + 1), #[.int .i64 5, .int .i64 nn], 55), (P1, (dvC h d), 37)] [] []) [(0, false), (1, false), (2, false), (3, false), (4, false), (5, false), (6, false), (7, false), (8, false), (9, false), (10, false), (11, false), (12, false), (13, false), (14, false), (15, false)] false 9999 (by kernel_rfl) (by kernel_rfl) HS.out.ms.drew ?_; simp only [turned, gA, gB, gC]; replace HS := LH HS.out.drew; have uP15_0 : ∀ W, MS w [(P15, (jbC oa on oc p), 35), (P9, (rcC (DevM.rc d)), 28), (P8, #[(.func (.func 85) #[] #[])], 118), ((P1 + 3), zDev, 37), ((P1 + 2), #[.int .i64 x.fr, .int .i64 x.to_, .int .i64 x.n, .int .i64 x.of_, .slice xa xm xc], 39), ((P1 + 1), #[.int .i64 5, .int .i64 nn], 55), (P1, (dvC h d), 37)] [] [] W → W.cell? ⟨P15, 0, none⟩ = some (.int .i64 p.from_) := fun W hW => cAt (hW.get 0 rfl) rfl; have uP15_1 : ∀ W, MS w [(P15, (jbC oa on oc p), 35), (P9, (rcC (DevM.rc d)), 28), (P8, #[(.func (.func 85) #[] #[])], 118), ((P1 + 3), zDev, 37), ((P1 + 2), #[.int .i64 x.fr, .int .i64 x.to_, .int .i64 x.n, .int .i64 x.of_, .slice xa xm xc], 39), ((P1 + 1), #[.int .i64 5, .int .i64 nn], 55), (P1, (dvC h d), 37)] [] [] W → W.cell? ⟨P15, 1, none⟩ = some (.int .i64 p.to_) := fun W hW => cAt (hW.get 0 rfl) rfl
  have uP9_1 : ∀ W, MS w [(P15, (jbC oa on oc p), 35), (P9, (rcC (DevM.rc d)), 28), (P8, #[(.func (.func 85) #[] #[])], 118), ((P1 + 3), zDev, 37), ((P1 + 2), #[.int .i64 x.fr, .int .i64 x.to_, .int .i64 x.n, .int .i64 x.of_, .slice xa xm xc], 39), ((P1 + 1), #[.int .i64 5, .int .i64 nn], 55), (P1, (dvC h d), 37)] [] [] W → W.cell? ⟨P9, 1, none⟩ = some (.int .i64 (A : Int)) := fun W hW => by
   have := cAt (k := 1) (v := .int .i64 (DevM.rc d).act) (hW.get 1 rfl) rfl
   rwa [HAe.out] at this
  have uP9_4 : ∀ W, MS w [(P15, (jbC oa on oc p), 35), (P9, (rcC (DevM.rc d)), 28), (P8, #[(.func (.func 85) #[] #[])], 118), ((P1 + 3), zDev, 37), ((P1 + 2), #[.int .i64 x.fr, .int .i64 x.to_, .int .i64 x.n, .int .i64 x.of_, .slice xa xm xc], 39), ((P1 + 1), #[.int .i64 5, .int .i64 nn], 55), (P1, (dvC h d), 37)] [] [] W → W.cell? ⟨P9, 4, none⟩ = some (.int .i64 (DevM.rc d).floor) := fun W hW => cAt (hW.get 1 rfl) rfl
  have uP9_v : ∀ W, MS w [(P15, (jbC oa on oc p), 35), (P9, (rcC (DevM.rc d)), 28), (P8, #[(.func (.func 85) #[] #[])], 118), ((P1 + 3), zDev, 37), ((P1 + 2), #[.int .i64 x.fr, .int .i64 x.to_, .int .i64 x.n, .int .i64 x.of_, .slice xa xm xc], 39), ((P1 + 1), #[.int .i64 5, .int .i64 nn], 55), (P1, (dvC h d), 37)] [] [] W → W.cell? ⟨P9, 5 + A * 3, none⟩ = some (.int .i64 vr) := fun W hW => by
   have := cAt (k := 5 + A * 3) (hW.get 1 rfl) (rec_ver (DevM.rc d) A hA2)
   rwa [HVr.out] at this
  repeat (first
   | (refine tSt ?_ (by rfl) (fun W9 hW9 => ?_) ?_
      rotate_left
      · (go_simp <;> with_reducible rfl)
      simp only [Act.put, sA, sB, sC])
   | (refine tSk (by rfl) ?_; simp only [Act.put, sA, sB, sC]))
  clear uP15_0 uP15_1 uP9_1 uP9_4 uP9_v; refine tEn ?_; have cP8_0 := HS.out.cel 2 0 (v := (.func (.func 85) #[] #[])) rfl rfl; go_wp2_with fail; clear cP8_0; refine (zaI 4 _).mono ?_; rintro e W3 ⟨rfl, hb⟩; replace HS := LH (HS.out.later hb); clear hb; have HG := LH (HS.out.set 3 rfl zDev); have bP1p3 := HS.out.gt 3 rfl
  go_wp2_with (first
   | ((with_reducible show wpList _ _ _ _ _ _); refine wpList_store_row rfl 37 (.tmp 6) (.tmp 113) rfl (P1 + 3) zDev rfl rfl 37 zDev ?_ ?_ ?_ ?_ ?_; exact bP1p3; exact zac; exact zav; exact zaq))
  clear bP1p3; refine bodyPost_ret (v := .tuple #[.agg zDev, .int .i64 4]) ?_ rfl ?_
  · exact zam (fn := Tryz.f26) (p := 6) (a := 7) rfl rfl rfl (HG.out.get 3 rfl) U37 rfl zac
  · rw [HR2.out]
    exact ⟨noH, by rw [zaK], HG.out.below, NewR.any (fun W _ => DH.none_ W)⟩
 have t1 : (p.from_ != vr) = false := by simp [z1]
 by_cases z2 : p.to_ < (DevM.rc d).floor
 case pos =>
  have HR2 : Hid (DevM.open_ d = (DevM.noDev, 4)) := HR.out.trans (if_pos (.inr z2)); have t2 : decide (p.to_ < (DevM.rc d).floor) = true := by simp [z2]
  clear z1 z2; refine rTu (S := MS w [(P15, (jbC oa on oc p), 35), (P9, (rcC (DevM.rc d)), 28), (P8, #[(.func (.func 85) #[] #[])], 118), ((P1 + 3), zDev, 37), ((P1 + 2), #[.int .i64 x.fr, .int .i64 x.to_, .int .i64 x.n, .int .i64 x.of_, .slice xa xm xc], 39), ((P1 + 1), #[.int .i64 5, .int .i64 nn], 55), (P1, (dvC h d), 37)] [] []) [(0, false), (1, false), (2, false), (3, false), (4, false), (5, false), (6, false), (7, false), (8, false), (9, false), (10, false), (11, false), (12, false), (13, false), (14, false), (15, false)] false 9999 (by kernel_rfl) (by kernel_rfl) HS.out.ms.drew ?_; simp only [turned, gA, gB, gC]; replace HS := LH HS.out.drew; have uP15_0 : ∀ W, MS w [(P15, (jbC oa on oc p), 35), (P9, (rcC (DevM.rc d)), 28), (P8, #[(.func (.func 85) #[] #[])], 118), ((P1 + 3), zDev, 37), ((P1 + 2), #[.int .i64 x.fr, .int .i64 x.to_, .int .i64 x.n, .int .i64 x.of_, .slice xa xm xc], 39), ((P1 + 1), #[.int .i64 5, .int .i64 nn], 55), (P1, (dvC h d), 37)] [] [] W → W.cell? ⟨P15, 0, none⟩ = some (.int .i64 p.from_) := fun W hW => cAt (hW.get 0 rfl) rfl; have uP15_1 : ∀ W, MS w [(P15, (jbC oa on oc p), 35), (P9, (rcC (DevM.rc d)), 28), (P8, #[(.func (.func 85) #[] #[])], 118), ((P1 + 3), zDev, 37), ((P1 + 2), #[.int .i64 x.fr, .int .i64 x.to_, .int .i64 x.n, .int .i64 x.of_, .slice xa xm xc], 39), ((P1 + 1), #[.int .i64 5, .int .i64 nn], 55), (P1, (dvC h d), 37)] [] [] W → W.cell? ⟨P15, 1, none⟩ = some (.int .i64 p.to_) := fun W hW => cAt (hW.get 0 rfl) rfl
  have uP9_1 : ∀ W, MS w [(P15, (jbC oa on oc p), 35), (P9, (rcC (DevM.rc d)), 28), (P8, #[(.func (.func 85) #[] #[])], 118), ((P1 + 3), zDev, 37), ((P1 + 2), #[.int .i64 x.fr, .int .i64 x.to_, .int .i64 x.n, .int .i64 x.of_, .slice xa xm xc], 39), ((P1 + 1), #[.int .i64 5, .int .i64 nn], 55), (P1, (dvC h d), 37)] [] [] W → W.cell? ⟨P9, 1, none⟩ = some (.int .i64 (A : Int)) := fun W hW => by
   have := cAt (k := 1) (v := .int .i64 (DevM.rc d).act) (hW.get 1 rfl) rfl
   rwa [HAe.out] at this
  have uP9_4 : ∀ W, MS w [(P15, (jbC oa on oc p), 35), (P9, (rcC (DevM.rc d)), 28), (P8, #[(.func (.func 85) #[] #[])], 118), ((P1 + 3), zDev, 37), ((P1 + 2), #[.int .i64 x.fr, .int .i64 x.to_, .int .i64 x.n, .int .i64 x.of_, .slice xa xm xc], 39), ((P1 + 1), #[.int .i64 5, .int .i64 nn], 55), (P1, (dvC h d), 37)] [] [] W → W.cell? ⟨P9, 4, none⟩ = some (.int .i64 (DevM.rc d).floor) := fun W hW => cAt (hW.get 1 rfl) rfl
  have uP9_v : ∀ W, MS w [(P15, (jbC oa on oc p), 35), (P9, (rcC (DevM.rc d)), 28), (P8, #[(.func (.func 85) #[] #[])], 118), ((P1 + 3), zDev, 37), ((P1 + 2), #[.int .i64 x.fr, .int .i64 x.to_, .int .i64 x.n, .int .i64 x.of_, .slice xa xm xc], 39), ((P1 + 1), #[.int .i64 5, .int .i64 nn], 55), (P1, (dvC h d), 37)] [] [] W → W.cell? ⟨P9, 5 + A * 3, none⟩ = some (.int .i64 vr) := fun W hW => by
   have := cAt (k := 5 + A * 3) (hW.get 1 rfl) (rec_ver (DevM.rc d) A hA2)
   rwa [HVr.out] at this
  repeat (first
   | (refine tSt ?_ (by rfl) (fun W9 hW9 => ?_) ?_
      rotate_left
      · (go_simp <;> with_reducible rfl)
      simp only [Act.put, sA, sB, sC])
   | (refine tSk (by rfl) ?_; simp only [Act.put, sA, sB, sC]))
  clear uP15_0 uP15_1 uP9_1 uP9_4 uP9_v; refine tEn ?_; have cP8_0 := HS.out.cel 2 0 (v := (.func (.func 85) #[] #[])) rfl rfl; go_wp2_with fail; clear cP8_0; refine (zaI 4 _).mono ?_; rintro e W3 ⟨rfl, hb⟩; replace HS := LH (HS.out.later hb); clear hb; have HG := LH (HS.out.set 3 rfl zDev); have bP1p3 := HS.out.gt 3 rfl
  go_wp2_with (first
   | ((with_reducible show wpList _ _ _ _ _ _); refine wpList_store_row rfl 37 (.tmp 6) (.tmp 113) rfl (P1 + 3) zDev rfl rfl 37 zDev ?_ ?_ ?_ ?_ ?_; exact bP1p3; exact zac; exact zav; exact zaq))
  clear bP1p3; refine bodyPost_ret (v := .tuple #[.agg zDev, .int .i64 4]) ?_ rfl ?_
  · exact zam (fn := Tryz.f26) (p := 6) (a := 7) rfl rfl rfl (HG.out.get 3 rfl) U37 rfl zac
  · rw [HR2.out]
    exact ⟨noH, by rw [zaK], HG.out.below, NewR.any (fun W _ => DH.none_ W)⟩
 replace HR := LH (HR.out.trans (if_neg (by
  rintro (q | q)
  · exact q z1
  · exact z2 q)))
 have t2 : decide (p.to_ < (DevM.rc d).floor) = false := by simp; omega
 clear z1 z2; refine rTu (S := MS w [(P15, (jbC oa on oc p), 35), (P9, (rcC (DevM.rc d)), 28), (P8, #[(.func (.func 85) #[] #[])], 118), ((P1 + 3), zDev, 37), ((P1 + 2), #[.int .i64 x.fr, .int .i64 x.to_, .int .i64 x.n, .int .i64 x.of_, .slice xa xm xc], 39), ((P1 + 1), #[.int .i64 5, .int .i64 nn], 55), (P1, (dvC h d), 37)] [] []) [(0, false), (1, false), (2, false), (3, false), (4, false), (5, false), (6, false), (7, false), (8, false), (9, false), (10, false), (11, false), (12, false), (13, false), (14, false), (15, false)] false 9999 (by kernel_rfl) (by kernel_rfl) HS.out.ms.drew ?_; simp only [turned, gA, gB, gC]; replace HS := LH HS.out.drew; have uP15_0 : ∀ W, MS w [(P15, (jbC oa on oc p), 35), (P9, (rcC (DevM.rc d)), 28), (P8, #[(.func (.func 85) #[] #[])], 118), ((P1 + 3), zDev, 37), ((P1 + 2), #[.int .i64 x.fr, .int .i64 x.to_, .int .i64 x.n, .int .i64 x.of_, .slice xa xm xc], 39), ((P1 + 1), #[.int .i64 5, .int .i64 nn], 55), (P1, (dvC h d), 37)] [] [] W → W.cell? ⟨P15, 0, none⟩ = some (.int .i64 p.from_) := fun W hW => cAt (hW.get 0 rfl) rfl; have uP15_1 : ∀ W, MS w [(P15, (jbC oa on oc p), 35), (P9, (rcC (DevM.rc d)), 28), (P8, #[(.func (.func 85) #[] #[])], 118), ((P1 + 3), zDev, 37), ((P1 + 2), #[.int .i64 x.fr, .int .i64 x.to_, .int .i64 x.n, .int .i64 x.of_, .slice xa xm xc], 39), ((P1 + 1), #[.int .i64 5, .int .i64 nn], 55), (P1, (dvC h d), 37)] [] [] W → W.cell? ⟨P15, 1, none⟩ = some (.int .i64 p.to_) := fun W hW => cAt (hW.get 0 rfl) rfl
 have uP9_1 : ∀ W, MS w [(P15, (jbC oa on oc p), 35), (P9, (rcC (DevM.rc d)), 28), (P8, #[(.func (.func 85) #[] #[])], 118), ((P1 + 3), zDev, 37), ((P1 + 2), #[.int .i64 x.fr, .int .i64 x.to_, .int .i64 x.n, .int .i64 x.of_, .slice xa xm xc], 39), ((P1 + 1), #[.int .i64 5, .int .i64 nn], 55), (P1, (dvC h d), 37)] [] [] W → W.cell? ⟨P9, 1, none⟩ = some (.int .i64 (A : Int)) := fun W hW => by
  have := cAt (k := 1) (v := .int .i64 (DevM.rc d).act) (hW.get 1 rfl) rfl
  rwa [HAe.out] at this
 have uP9_4 : ∀ W, MS w [(P15, (jbC oa on oc p), 35), (P9, (rcC (DevM.rc d)), 28), (P8, #[(.func (.func 85) #[] #[])], 118), ((P1 + 3), zDev, 37), ((P1 + 2), #[.int .i64 x.fr, .int .i64 x.to_, .int .i64 x.n, .int .i64 x.of_, .slice xa xm xc], 39), ((P1 + 1), #[.int .i64 5, .int .i64 nn], 55), (P1, (dvC h d), 37)] [] [] W → W.cell? ⟨P9, 4, none⟩ = some (.int .i64 (DevM.rc d).floor) := fun W hW => cAt (hW.get 1 rfl) rfl
 have uP9_v : ∀ W, MS w [(P15, (jbC oa on oc p), 35), (P9, (rcC (DevM.rc d)), 28), (P8, #[(.func (.func 85) #[] #[])], 118), ((P1 + 3), zDev, 37), ((P1 + 2), #[.int .i64 x.fr, .int .i64 x.to_, .int .i64 x.n, .int .i64 x.of_, .slice xa xm xc], 39), ((P1 + 1), #[.int .i64 5, .int .i64 nn], 55), (P1, (dvC h d), 37)] [] [] W → W.cell? ⟨P9, 5 + A * 3, none⟩ = some (.int .i64 vr) := fun W hW => by
  have := cAt (k := 5 + A * 3) (hW.get 1 rfl) (rec_ver (DevM.rc d) A hA2)
  rwa [HVr.out] at this
 repeat (first
  | (refine tSt ?_ (by rfl) (fun W9 hW9 => ?_) ?_
     rotate_left
     · (go_simp <;> with_reducible rfl)
     simp only [Act.put, sA, sB, sC])
  | (refine tSk (by rfl) ?_; simp only [Act.put, sA, sB, sC]))
 clear uP15_0 uP15_1 uP9_1 uP9_4 uP9_v; refine tEn ?_; clear t1 t2; go_upto_region 22 with fail; refine rTu (S := MS w [(P15, (jbC oa on oc p), 35), (P9, (rcC (DevM.rc d)), 28), (P8, #[(.func (.func 85) #[] #[])], 118), ((P1 + 3), zDev, 37), ((P1 + 2), #[.int .i64 x.fr, .int .i64 x.to_, .int .i64 x.n, .int .i64 x.of_, .slice xa xm xc], 39), ((P1 + 1), #[.int .i64 5, .int .i64 nn], 55), (P1, (dvC h d), 37)] [] []) [(0, false), (1, false), (2, true), (3, true), (4, false), (5, false), (6, false), (7, false), (8, false)] false 9999 (by kernel_rfl) (by kernel_rfl) HS.out.ms.drew ?_; simp only [turned, gA, gB, gC]; replace HS := LH HS.out.drew
 repeat (first
  | ((refine zaw (by rfl) 35 (.tmp 15) rfl P15 rfl 35 (jbC oa on oc p) _ (fun W hW => hW.get 0 rfl) U35 rfl (sJb oa on oc p) ?_); simp only [Act.put, sA, sB, sC])
  | ((refine zaw (by rfl) 37 (.tmp 3) rfl P1 rfl 37 (dvC h d) _ (fun W hW => hW.get 6 rfl) U37 rfl (sDv h d) ?_); simp only [Act.put, sA, sB, sC])
  | (refine tSt ?_ (by rfl) (fun W9 hW9 => ?_) ?_
     rotate_left
     · (go_simp <;> with_reducible rfl)
     simp only [Act.put, sA, sB, sC])
  | (refine tSk (by rfl) ?_; simp only [Act.put, sA, sB, sC]))
 refine tCa (fun K hK => ?_); go_simp; go_at_call 64; with_reducible refine (HIm.out _).mono ?_
 rintro e W3 ⟨rfl, hb⟩; replace HS := LH (HS.out.later hb); clear hb
 try go_wp2_with fail
 refine hK.out _ _ HS.out.ms ?_; clear hK K
 try simp only [Act.put, sA, sB, sC]
 refine tCa (fun K hK => ?_); go_simp; go_at_call 63; with_reducible refine (HDo.out oa on oc _ (HDh.out.later HS.out.below) (HS.out.fact 0 rfl) HJI.out).mono ?_
 rintro e W4 ⟨ab, nb, cb, rfl, -, hb⟩; replace HS := LH (HS.out.later hb); clear hb
 try go_wp2_with fail
 refine hK.out _ _ HS.out.ms ?_; clear hK K
 try simp only [Act.put, sA, sB, sC]
 repeat (first
  | (refine tSt ?_ (by rfl) (fun W9 hW9 => ?_) ?_
     rotate_left
     · (go_simp <;> with_reducible rfl)
     simp only [Act.put, sA, sB, sC])
  | (refine tSk (by rfl) ?_; simp only [Act.put, sA, sB, sC]))
 refine tEn ?_; clear HIm HDo
 try simp only
 by_cases hX0 : X = 0
 case neg =>
  have HR2 : Hid (DevM.open_ d = (DevM.noDev, X)) := HR.out.trans (if_pos hX0); have t0 : (X != 0) = true := by simp [hX0]
  have cP8_0 := HS.out.cel 2 0 (v := (.func (.func 85) #[] #[])) rfl rfl; go_wp2_with fail; clear cP8_0; refine (zaI X _).mono ?_; rintro e W5 ⟨rfl, hb⟩; replace HS := LH (HS.out.later hb); clear hb; have HG := LH (HS.out.set 3 rfl zDev); have bP1p3 := HS.out.gt 3 rfl
  go_wp2_with (first
   | ((with_reducible show wpList _ _ _ _ _ _); refine wpList_store_row rfl 37 (.tmp 6) (.tmp 127) rfl (P1 + 3) zDev rfl rfl 37 zDev ?_ ?_ ?_ ?_ ?_; exact bP1p3; exact zac; exact zav; exact zaq))
  clear bP1p3; refine bodyPost_ret (v := .tuple #[.agg zDev, .int .i64 X]) ?_ rfl ?_
  · exact zam (fn := Tryz.f26) (p := 6) (a := 7) rfl rfl rfl (HG.out.get 3 rfl) U37 rfl zac
  · rw [HR2.out]
    exact ⟨noH, by rw [zaK], HG.out.below, NewR.any (fun W _ => DH.none_ W)⟩
 subst hX0; replace HR := LH (HR.out.trans (if_neg (fun q => q rfl))); go_upto_region 25 with fail; have hO0 : (0 : Int) ≤ (O : Int) := by omega
 have hOI : (O : Int) < 2 := by omega
 have hOw : IntKind.i64.wrap (O : Int) = (O : Int) := IntWalk.i64_in _ (by omega)
 have HWc : Hid (∀ W, W.heap[P1]? = some (.cells (dvC h d) 37 (0, 0)) → Calls Tryz.prog 86 #[.agg (rcC ((DevM.rc d).setI O RecM.noInf)), .bool false, .pointer (some ⟨P1, 0, none⟩)] W (GivesAW P1 (L, E) W)) := fun W hB => by
  have := acts2_any h d ((DevM.rc d).setI O RecM.noInf) false P1 W HOk.out.cops hB
  rwa [HWW.out] at this
 have cP9_1 := HS.out.cel 1 1 (v := .int .i64 (DevM.rc d).act) rfl rfl; have HS2 := LH (HS.out.cells 1 rfl (put_infV (DevM.rc d) O RecM.noInf hO2))
 go_upto_region 26 with (first
  | ((with_reducible show wpList _ _ _ _ _ _); refine wpList_store_mid rfl 25 (.tmp 134) (.tmp 132) rfl P9 (5 + O * 3) #[Value.int .i64 0, .int .i64 0, .int .i64 0] rfl rfl ?_ ?_ ?_ ?_; exact HS.out.ms.there 1 rfl (by show 5 + O * 3 + 3 ≤ 11; omega); exact size_inf RecM.noInf; exact one_inf RecM.noInf))
 clear cP9_1; refine gnH HS2.out (fun V5 HS1 => ?_); replace HS := LH HS1; clear HS1 HS2 hOw; have bP9 := HS.out.gt 1 rfl
 go_wp2_with (first
  | ((with_reducible show wpList _ _ _ _ _ _); refine LR rfl (t := 28) U28 rfl (.tmp 9) rfl P9 rfl bP9 (sRc ((DevM.rc d).setI O RecM.noInf)) ?_))
 clear bP9; refine (HWc.out _ (HS.out.get 6 rfl)).mono ?_; rintro e W5 ⟨V9, rfl, hb, hw⟩; replace HS := LH (HS.out.later hb); clear hb HWc; simp only at hw; by_cases hE : E = 0
 · subst hE
   rw [if_pos rfl] at hw; have HS9 := LH (HS.out.cells 6 rfl (zbr h d L)); rw [← hw] at HS9; clear hw; replace HS := HS9; clear HS9; have HLW := LH (HCz.out rfl); have HR2 : Hid (DevM.open_ d = ({ d with c := L, busy := true, job := p, done := 0, got := [] }, 0)) := HR.out; go_upto_region 27 with fail; replace HS := LH HS.out.drew; refine rTu (S := MS w [(P15, (jbC oa on oc p), 35), (P9, (rcC ((DevM.rc d).setI O RecM.noInf)), 28), (P8, #[(.func (.func 85) #[] #[])], 118), ((P1 + 3), zDev, 37), ((P1 + 2), #[.int .i64 x.fr, .int .i64 x.to_, .int .i64 x.n, .int .i64 x.of_, .slice xa xm xc], 39), ((P1 + 1), #[.int .i64 5, .int .i64 nn], 55)] [] []) [(0, false), (1, false), (2, true), (3, false), (4, true), (5, false), (6, true), (7, false), (8, true)] false 9999 (by kernel_rfl) (by kernel_rfl) (HS.out.ms.sub (List.sublist_append_left [(P15, (jbC oa on oc p), 35), (P9, (rcC ((DevM.rc d).setI O RecM.noInf)), 28), (P8, #[(.func (.func 85) #[] #[])], 118), ((P1 + 3), zDev, 37), ((P1 + 2), #[.int .i64 x.fr, .int .i64 x.to_, .int .i64 x.n, .int .i64 x.of_, .slice xa xm xc], 39), ((P1 + 1), #[.int .i64 5, .int .i64 nn], 55)] [(P1, _, 37)])) ?_; simp only [turned, gA, gB, gC]
   repeat (first
    | (refine zaw (by rfl) 35 (.tmp 15) rfl P15 rfl 35 (jbC oa on oc p) _ (fun W hW => hW.get 0 rfl) U35 rfl (sJb _ _ _ _) ?_; simp only [Act.put, sA, sB, sC])
    | (refine tSt ?_ (by rfl) (fun W9 hW9 => ?_) ?_
       rotate_left
       · (go_simp <;> with_reducible rfl)
       simp only [Act.put, sA, sB, sC]))
   have cX := cAt (k := 29) (v := .bool d.busy) (HS.out.get 6 rfl) rfl; have zX := tAt (k := 29) (HS.out.get 6 rfl); simp only at cX zX; have HS2 := LH (HS.out.cell 6 rfl (zbH h ({ d with c := L } : DevR) true)); refine tCa (fun K hK => ?_); go_simp; refine hK.out _ _ (HS2.out.ms.sub (List.sublist_append_left [(P15, (jbC oa on oc p), 35), (P9, (rcC ((DevM.rc d).setI O RecM.noInf)), 28), (P8, #[(.func (.func 85) #[] #[])], 118), ((P1 + 3), zDev, 37), ((P1 + 2), #[.int .i64 x.fr, .int .i64 x.to_, .int .i64 x.n, .int .i64 x.of_, .slice xa xm xc], 39), ((P1 + 1), #[.int .i64 5, .int .i64 nn], 55)] [(P1, _, 37)])) ?_; clear hK K cX zX
   try simp only [Act.put]
   try simp only [Act.put, sA, sB, sC]
   refine zaV HS2.out (fun Ubusy HS1 => ?_); replace HS := LH HS1; clear HS1 HS2
   repeat (first
    | (refine zaw (by rfl) 35 (.tmp 15) rfl P15 rfl 35 (jbC oa on oc p) _ (fun W hW => hW.get 0 rfl) U35 rfl (sJb _ _ _ _) ?_; simp only [Act.put, sA, sB, sC])
    | (refine tSt ?_ (by rfl) (fun W9 hW9 => ?_) ?_
       rotate_left
       · (go_simp <;> with_reducible rfl)
       simp only [Act.put, sA, sB, sC]))
   have HS2 := LH (HS.out.cells 6 rfl (put_job h ({ ({ d with c := L } : DevR) with busy := true } : DevR) oa on oc p)); refine tCa (fun K hK => ?_); refine zaW (by rfl) 35 (.tmp 140) (.tmp 138) rfl P1 30 (jbC oa on oc p) rfl rfl (HS.out.ms.there 6 rfl (by show 36 ≤ 37; decide)) (sJb _ _ _ _) (zbg _ _ _ _) ?_; refine hK.out _ _ (HS2.out.ms.sub (List.sublist_append_left [(P15, (jbC oa on oc p), 35), (P9, (rcC ((DevM.rc d).setI O RecM.noInf)), 28), (P8, #[(.func (.func 85) #[] #[])], 118), ((P1 + 3), zDev, 37), ((P1 + 2), #[.int .i64 x.fr, .int .i64 x.to_, .int .i64 x.n, .int .i64 x.of_, .slice xa xm xc], 39), ((P1 + 1), #[.int .i64 5, .int .i64 nn], 55)] [(P1, _, 37)])) ?_; clear hK K
   try simp only [Act.put]
   try simp only [Act.put, sA, sB, sC]
   refine zaV HS2.out (fun Ujob HS1 => ?_); replace HS := LH HS1; clear HS1 HS2
   repeat (first
    | (refine zaw (by rfl) 35 (.tmp 15) rfl P15 rfl 35 (jbC oa on oc p) _ (fun W hW => hW.get 0 rfl) U35 rfl (sJb _ _ _ _) ?_; simp only [Act.put, sA, sB, sC])
    | (refine tSt ?_ (by rfl) (fun W9 hW9 => ?_) ?_
       rotate_left
       · (go_simp <;> with_reducible rfl)
       simp only [Act.put, sA, sB, sC]))
   have cX := cAt (k := 36) (v := .int .i64 d.done) (HS.out.get 6 rfl) rfl; have zX := tAt (k := 36) (HS.out.get 6 rfl); simp only at cX zX; have HS2 := LH (HS.out.cell 6 rfl (zbe ({ h with oa := oa, on := on, oc := oc } : DevH) ({ ({ d with c := L } : DevR) with busy := true, job := p } : DevR) 0)); refine tCa (fun K hK => ?_); go_simp; refine hK.out _ _ (HS2.out.ms.sub (List.sublist_append_left [(P15, (jbC oa on oc p), 35), (P9, (rcC ((DevM.rc d).setI O RecM.noInf)), 28), (P8, #[(.func (.func 85) #[] #[])], 118), ((P1 + 3), zDev, 37), ((P1 + 2), #[.int .i64 x.fr, .int .i64 x.to_, .int .i64 x.n, .int .i64 x.of_, .slice xa xm xc], 39), ((P1 + 1), #[.int .i64 5, .int .i64 nn], 55)] [(P1, _, 37)])) ?_; clear hK K cX zX
   try simp only [Act.put]
   try simp only [Act.put, sA, sB, sC]
   refine zaV HS2.out (fun Udone HS1 => ?_); replace HS := LH HS1; clear HS1 HS2
   repeat (first
    | (refine zaw (by rfl) 35 (.tmp 15) rfl P15 rfl 35 (jbC oa on oc p) _ (fun W hW => hW.get 0 rfl) U35 rfl (sJb _ _ _ _) ?_; simp only [Act.put, sA, sB, sC])
    | (refine tSt ?_ (by rfl) (fun W9 hW9 => ?_) ?_
       rotate_left
       · (go_simp <;> with_reducible rfl)
       simp only [Act.put, sA, sB, sC]))
   have cX := cAt (k := 28) (v := .slice h.ga h.gn h.gc) (HS.out.get 6 rfl) rfl; have zX := tAt (k := 28) (HS.out.get 6 rfl); simp only at cX zX; have HS2 := LH (HS.out.cell 6 rfl (put_got' ({ h with oa := oa, on := on, oc := oc } : DevH) ({ ({ d with c := L } : DevR) with busy := true, job := p, done := 0 } : DevR) none 0 0 [])); refine tCa (fun K hK => ?_); go_simp; refine hK.out _ _ (HS2.out.ms.sub (List.sublist_append_left [(P15, (jbC oa on oc p), 35), (P9, (rcC ((DevM.rc d).setI O RecM.noInf)), 28), (P8, #[(.func (.func 85) #[] #[])], 118), ((P1 + 3), zDev, 37), ((P1 + 2), #[.int .i64 x.fr, .int .i64 x.to_, .int .i64 x.n, .int .i64 x.of_, .slice xa xm xc], 39), ((P1 + 1), #[.int .i64 5, .int .i64 nn], 55)] [(P1, _, 37)])) ?_; clear hK K cX zX
   try simp only [Act.put]
   try simp only [Act.put, sA, sB, sC]
   refine zaV HS2.out (fun Ugot HS1 => ?_); replace HS := LH HS1; clear HS1 HS2; refine tEn ?_; have cP8_0 := HS.out.cel 2 0 (v := (.func (.func 85) #[] #[])) rfl rfl; go_wp2_with fail; clear cP8_0; refine (zbW ({ h with oa := oa, on := on, oc := oc, ga := none, gn := 0, gc := 0 } : DevH) ({ ({ d with c := L } : DevR) with busy := true, job := p, done := 0, got := [] } : DevR) P1 P8 _ (HS.out.get 6 rfl) (HS.out.get 2 rfl)).mono ?_; rintro e W6 ⟨rfl, hb⟩; replace HS := LH (HS.out.later hb); clear hb; have HG := LH (HS.out.set 3 rfl (dvC ({ h with oa := oa, on := on, oc := oc, ga := none, gn := 0, gc := 0 } : DevH) ({ ({ d with c := L } : DevR) with busy := true, job := p, done := 0, got := [] } : DevR))); have bP1p3 := HS.out.gt 3 rfl
   go_wp2_with (first
    | ((with_reducible show wpList _ _ _ _ _ _); refine wpList_store_row rfl 37 (.tmp 6) (.tmp 146) rfl (P1 + 3) (dvC ({ h with oa := oa, on := on, oc := oc, ga := none, gn := 0, gc := 0 } : DevH) ({ ({ d with c := L } : DevR) with busy := true, job := p, done := 0, got := [] } : DevR)) rfl rfl 37 zDev ?_ ?_ ?_ ?_ ?_; exact bP1p3; exact (sDv ({ h with oa := oa, on := on, oc := oc, ga := none, gn := 0, gc := 0 } : DevH) ({ ({ d with c := L } : DevR) with busy := true, job := p, done := 0, got := [] } : DevR)); exact (zat _ _); exact (oDv ({ h with oa := oa, on := on, oc := oc, ga := none, gn := 0, gc := 0 } : DevH) ({ ({ d with c := L } : DevR) with busy := true, job := p, done := 0, got := [] } : DevR))))
   clear bP1p3; refine bodyPost_ret (v := .tuple #[.agg (dvC ({ h with oa := oa, on := on, oc := oc, ga := none, gn := 0, gc := 0 } : DevH) ({ ({ d with c := L } : DevR) with busy := true, job := p, done := 0, got := [] } : DevR)), .int .i64 0]) ?_ rfl ?_
   · exact zam (fn := Tryz.f26) (p := 6) (a := 7) rfl rfl rfl (HG.out.get 3 rfl) U37 rfl (sDv _ _)
   · rw [HR2.out]
     refine ⟨({ h with oa := oa, on := on, oc := oc, ga := none, gn := 0, gc := 0 } : DevH), rfl, HG.out.below, fun V v1 v2 hV => ?_⟩; have k0 := HD0.out.later hV; have k1 := HG.out.newR 0 rfl V v1 v2; exact ⟨k0.b0, k0.b1, CS.nil_ _, k1, HLW.out, k0.runI, HJI.out, zaS⟩
 · rw [if_neg hE] at hw
   subst hw; have HR2 : Hid (DevM.open_ d = (DevM.noDev, E)) := HR.out.trans (if_pos hE); go_upto_region 27 with fail; replace HS := LH HS.out.drew; refine rTu (S := MS w [(P15, (jbC oa on oc p), 35), (P9, (rcC ((DevM.rc d).setI O RecM.noInf)), 28), (P8, #[(.func (.func 85) #[] #[])], 118), ((P1 + 3), zDev, 37), ((P1 + 2), #[.int .i64 x.fr, .int .i64 x.to_, .int .i64 x.n, .int .i64 x.of_, .slice xa xm xc], 39), ((P1 + 1), #[.int .i64 5, .int .i64 nn], 55)] [] []) [(0, false), (1, false), (2, true), (3, false), (4, true), (5, false), (6, true), (7, false), (8, true)] false 9999 (by kernel_rfl) (by kernel_rfl) (HS.out.ms.sub (List.sublist_append_left [(P15, (jbC oa on oc p), 35), (P9, (rcC ((DevM.rc d).setI O RecM.noInf)), 28), (P8, #[(.func (.func 85) #[] #[])], 118), ((P1 + 3), zDev, 37), ((P1 + 2), #[.int .i64 x.fr, .int .i64 x.to_, .int .i64 x.n, .int .i64 x.of_, .slice xa xm xc], 39), ((P1 + 1), #[.int .i64 5, .int .i64 nn], 55)] [(P1, _, 37)])) ?_; simp only [turned, gA, gB, gC]
   repeat (first
    | (refine zaw (by rfl) 35 (.tmp 15) rfl P15 rfl 35 (jbC oa on oc p) _ (fun W hW => hW.get 0 rfl) U35 rfl (sJb _ _ _ _) ?_; simp only [Act.put, sA, sB, sC])
    | (refine tSt ?_ (by rfl) (fun W9 hW9 => ?_) ?_
       rotate_left
       · (go_simp <;> with_reducible rfl)
       simp only [Act.put, sA, sB, sC]))
   have cX := cAt (k := 29) (v := .bool d.busy) (HS.out.get 6 rfl) rfl; have zX := tAt (k := 29) (HS.out.get 6 rfl); simp only at cX zX; have HS2 := LH (HS.out.cell 6 rfl (zbH h d true)); refine tCa (fun K hK => ?_); go_simp; refine hK.out _ _ (HS2.out.ms.sub (List.sublist_append_left [(P15, (jbC oa on oc p), 35), (P9, (rcC ((DevM.rc d).setI O RecM.noInf)), 28), (P8, #[(.func (.func 85) #[] #[])], 118), ((P1 + 3), zDev, 37), ((P1 + 2), #[.int .i64 x.fr, .int .i64 x.to_, .int .i64 x.n, .int .i64 x.of_, .slice xa xm xc], 39), ((P1 + 1), #[.int .i64 5, .int .i64 nn], 55)] [(P1, _, 37)])) ?_; clear hK K cX zX
   try simp only [Act.put]
   try simp only [Act.put, sA, sB, sC]
   refine zaV HS2.out (fun Ubusy HS1 => ?_); replace HS := LH HS1; clear HS1 HS2
   repeat (first
    | (refine zaw (by rfl) 35 (.tmp 15) rfl P15 rfl 35 (jbC oa on oc p) _ (fun W hW => hW.get 0 rfl) U35 rfl (sJb _ _ _ _) ?_; simp only [Act.put, sA, sB, sC])
    | (refine tSt ?_ (by rfl) (fun W9 hW9 => ?_) ?_
       rotate_left
       · (go_simp <;> with_reducible rfl)
       simp only [Act.put, sA, sB, sC]))
   have HS2 := LH (HS.out.cells 6 rfl (put_job h ({ d with busy := true } : DevR) oa on oc p)); refine tCa (fun K hK => ?_); refine zaW (by rfl) 35 (.tmp 140) (.tmp 138) rfl P1 30 (jbC oa on oc p) rfl rfl (HS.out.ms.there 6 rfl (by show 36 ≤ 37; decide)) (sJb _ _ _ _) (zbg _ _ _ _) ?_; refine hK.out _ _ (HS2.out.ms.sub (List.sublist_append_left [(P15, (jbC oa on oc p), 35), (P9, (rcC ((DevM.rc d).setI O RecM.noInf)), 28), (P8, #[(.func (.func 85) #[] #[])], 118), ((P1 + 3), zDev, 37), ((P1 + 2), #[.int .i64 x.fr, .int .i64 x.to_, .int .i64 x.n, .int .i64 x.of_, .slice xa xm xc], 39), ((P1 + 1), #[.int .i64 5, .int .i64 nn], 55)] [(P1, _, 37)])) ?_; clear hK K
   try simp only [Act.put]
   try simp only [Act.put, sA, sB, sC]
   refine zaV HS2.out (fun Ujob HS1 => ?_); replace HS := LH HS1; clear HS1 HS2
   repeat (first
    | (refine zaw (by rfl) 35 (.tmp 15) rfl P15 rfl 35 (jbC oa on oc p) _ (fun W hW => hW.get 0 rfl) U35 rfl (sJb _ _ _ _) ?_; simp only [Act.put, sA, sB, sC])
    | (refine tSt ?_ (by rfl) (fun W9 hW9 => ?_) ?_
       rotate_left
       · (go_simp <;> with_reducible rfl)
       simp only [Act.put, sA, sB, sC]))
   have cX := cAt (k := 36) (v := .int .i64 d.done) (HS.out.get 6 rfl) rfl; have zX := tAt (k := 36) (HS.out.get 6 rfl); simp only at cX zX; have HS2 := LH (HS.out.cell 6 rfl (zbe ({ h with oa := oa, on := on, oc := oc } : DevH) ({ d with busy := true, job := p } : DevR) 0)); refine tCa (fun K hK => ?_); go_simp; refine hK.out _ _ (HS2.out.ms.sub (List.sublist_append_left [(P15, (jbC oa on oc p), 35), (P9, (rcC ((DevM.rc d).setI O RecM.noInf)), 28), (P8, #[(.func (.func 85) #[] #[])], 118), ((P1 + 3), zDev, 37), ((P1 + 2), #[.int .i64 x.fr, .int .i64 x.to_, .int .i64 x.n, .int .i64 x.of_, .slice xa xm xc], 39), ((P1 + 1), #[.int .i64 5, .int .i64 nn], 55)] [(P1, _, 37)])) ?_; clear hK K cX zX
   try simp only [Act.put]
   try simp only [Act.put, sA, sB, sC]
   refine zaV HS2.out (fun Udone HS1 => ?_); replace HS := LH HS1; clear HS1 HS2
   repeat (first
    | (refine zaw (by rfl) 35 (.tmp 15) rfl P15 rfl 35 (jbC oa on oc p) _ (fun W hW => hW.get 0 rfl) U35 rfl (sJb _ _ _ _) ?_; simp only [Act.put, sA, sB, sC])
    | (refine tSt ?_ (by rfl) (fun W9 hW9 => ?_) ?_
       rotate_left
       · (go_simp <;> with_reducible rfl)
       simp only [Act.put, sA, sB, sC]))
   have cX := cAt (k := 28) (v := .slice h.ga h.gn h.gc) (HS.out.get 6 rfl) rfl; have zX := tAt (k := 28) (HS.out.get 6 rfl); simp only at cX zX; have HS2 := LH (HS.out.cell 6 rfl (put_got' ({ h with oa := oa, on := on, oc := oc } : DevH) ({ d with busy := true, job := p, done := 0 } : DevR) none 0 0 [])); refine tCa (fun K hK => ?_); go_simp; refine hK.out _ _ (HS2.out.ms.sub (List.sublist_append_left [(P15, (jbC oa on oc p), 35), (P9, (rcC ((DevM.rc d).setI O RecM.noInf)), 28), (P8, #[(.func (.func 85) #[] #[])], 118), ((P1 + 3), zDev, 37), ((P1 + 2), #[.int .i64 x.fr, .int .i64 x.to_, .int .i64 x.n, .int .i64 x.of_, .slice xa xm xc], 39), ((P1 + 1), #[.int .i64 5, .int .i64 nn], 55)] [(P1, _, 37)])) ?_; clear hK K cX zX
   try simp only [Act.put]
   try simp only [Act.put, sA, sB, sC]
   refine zaV HS2.out (fun Ugot HS1 => ?_); replace HS := LH HS1; clear HS1 HS2; refine tEn ?_; have cP8_0 := HS.out.cel 2 0 (v := (.func (.func 85) #[] #[])) rfl rfl; go_wp2_with fail; clear cP8_0; refine (zbU ({ h with oa := oa, on := on, oc := oc, ga := none, gn := 0, gc := 0 } : DevH) ({ d with busy := true, job := p, done := 0, got := [] } : DevR) E hE P1 P8 _ (HS.out.get 6 rfl) (HS.out.get 2 rfl)).mono ?_; rintro e W6 ⟨rfl, hb⟩; replace HS := LH (HS.out.later hb); clear hb; have HG := LH (HS.out.set 3 rfl zDev); have bP1p3 := HS.out.gt 3 rfl
   go_wp2_with (first
    | ((with_reducible show wpList _ _ _ _ _ _); refine wpList_store_row rfl 37 (.tmp 6) (.tmp 146) rfl (P1 + 3) zDev rfl rfl 37 zDev ?_ ?_ ?_ ?_ ?_; exact bP1p3; exact zac; exact zav; exact zaq))
   clear bP1p3; refine bodyPost_ret (v := .tuple #[.agg zDev, .int .i64 E]) ?_ rfl ?_
   · exact zam (fn := Tryz.f26) (p := 6) (a := 7) rfl rfl rfl (HG.out.get 3 rfl) U37 rfl zac
   · rw [HR2.out]
     exact ⟨noH, by rw [zaK], HG.out.below, NewR.any (fun W _ => DH.none_ W)⟩
attribute [local go_sem] run_store_func
theorem line_genX {prog : Program} {ops : Array Oper} {rest : List Oper} {Q : Exit → Act → World → Prop} {a : Act} {W : World} (X : World → Prop) (h : X W) (k : ∀ V, X V → LnW prog ops Q rest a V) : LnW prog ops Q rest a W := k W h
namespace DevM
theorem over_step {s b : List Int} {dn k : Nat} (hs : s.length = 64) (hb : (fill b).length = 64) (h : dn + k < 64) : (over s b dn k).set (dn + k) ((fill b)[dn + k]?.getD 0) = over s b dn (k + 1) := by
 unfold over; have h1 : (s.take dn ++ ((fill b).drop dn).take k).length = dn + k := by simp; omega
 rw [List.set_append_right _ _ (by omega), h1, Nat.sub_self]; have h2 : s.drop (dn + k) = s[dn + k]'(by omega) :: s.drop (dn + k + 1) := List.drop_eq_getElem_cons (by omega); rw [h2, List.set_cons_zero]
 have h3 : ((fill b).drop dn).take (k + 1) = ((fill b).drop dn).take k ++ [(fill b)[dn + k]'(by omega)] := by
  rw [List.take_succ_eq_append_getElem (by simp; omega)]; simp
 rw [h3, List.getElem?_eq_getElem (by omega), Option.getD_some]; simp [Nat.add_assoc]
theorem over_zero (s b : List Int) (dn : Nat) : over s b dn 0 = s := by unfold over; simp
end DevM
theorem row_set {cur : Array Value} {S : List Int} {i : Nat} {x : Int} (hc : cur.toList.take 64 = S.map (Value.int .u8)) : (cur.setIfInBounds i (.int .u8 x)).toList.take 64 = (S.set i x).map (Value.int .u8) := by
 rw [Array.toList_setIfInBounds, List.take_set, hc, List.map_set]
theorem row_bs {W : World} {G C : Nat} {cur : Array Value} {S : List Int} (h : W.heap[G]? = some (.cells cur 5 (0, 0))) (hl : S.length = 64) (hc : cur.toList.take 64 = S.map (Value.int .u8)) (hC : 64 ≤ C) (hm : C ≤ 9223372036854775807) (hb : ∀ x ∈ S, 0 ≤ x ∧ x ≤ 255) : BS W (some ⟨G, 0, none⟩) 64 C S := by
 refine ⟨hl, hC, hm, hb, fun _ => ⟨G, 0, rfl, fun i hi => ?_⟩, fun q => by cases q⟩; rw [Nat.zero_add]
 have h1 : (cur.toList.take 64)[i]? = some (.int .u8 (S[i]?.getD 0)) := by
  rw [hc, List.getElem?_map, List.getElem?_eq_getElem (by omega)]
  rfl
 rw [List.getElem?_take_of_lt hi] at h1; simp only [World.cell?, h]
 simpa using h1
def DevH.setS (h : DevH) (O : Nat) (a : Option Addr) (n c : Nat) : DevH := if O = 0 then { h with a0 := a, n0 := n, c0 := c } else { h with a1 := a, n1 := n, c1 := c }
theorem put_slotV (h : DevH) (d : DevR) (O : Nat) (hO : O < 2) (a : Option Addr) (n c : Nat) (l : List Int) : (dvC h d).setIfInBounds O (.slice a n c) = dvC (h.setS O a n c) (DevM.setSlot d (O : Int) l) := by
 rcases (show O = 0 ∨ O = 1 by omega) with rfl | rfl <;> kernel_rfl
theorem dev_at36 (h : DevH) (d : DevR) : (dvC h d)[36]? = some (.int .i64 d.done) := rfl
theorem DevM.set_done (d : DevR) (k : Int) (b : List Int) : (DevM.setSlot d k b).done = d.done := (DevM.set_fields d k b).2.2.2.2.2.2
theorem setS_dh {V : World} {h : DevH} {d : DevR} (O : Nat) (hO : O < 2) (x : DH V h d) {a : Option Addr} {n c : Nat} {l : List Int} (hb : BS V a n c l) : DH V (h.setS O a n c) (DevM.setSlot d (O : Int) l) := by
 rcases (show O = 0 ∨ O = 1 by omega) with rfl | rfl
 · exact ⟨hb, x.b1, x.got, x.ops, x.copsW, x.runI, x.jobI, x.doneI⟩
 · exact ⟨x.b0, hb, x.got, x.ops, x.copsW, x.runI, x.jobI, x.doneI⟩
theorem DevM.Ok.oth01 {d : DevR} (h : DevM.Ok d) : DevM.oth d = 0 ∨ DevM.oth d = 1 := (DevM.oth_ne h).2
theorem over_bytes {s b : List Int} {dn n : Nat} (hs : ∀ y ∈ s, 0 ≤ y ∧ y ≤ 255) (hb : ∀ y ∈ b, 0 ≤ y ∧ y ≤ 255) : ∀ y ∈ DevM.over s b dn n, 0 ≤ y ∧ y ≤ 255 := by
 intro y hy; unfold DevM.over at hy; rcases List.mem_append.1 hy with hy | hy
 · rcases List.mem_append.1 hy with hy | hy
   · exact hs y (List.mem_of_mem_take hy)
   · have h1 := List.mem_of_mem_drop (List.mem_of_mem_take hy)
     unfold DevM.fill at h1; rcases List.mem_append.1 h1 with q | q
     · exact hb y q
     · rw [(List.mem_replicate.1 q).2]
       omega
 · exact hs y (List.mem_of_mem_drop hy)
theorem fillC_at {l : List Int} {J : Nat} (hl : (DevM.fill l).length = 64) (hJ : J < 64) : (zaX l)[J]? = some (.int .u8 ((DevM.fill l)[J]?.getD 0)) := by
 unfold zaX; simp [List.getElem?_eq_getElem (show J < (DevM.fill l).length by omega)]
def WrRel (w W4 : World) (G : Nat) (L : List (Nat × Array Value × TypeId)) (S B : List Int) (dn C M : Nat) (i : Value) (wr : World) : Prop :=
 ∃ (k : Nat) (cur : Array Value), i = .int .i64 k ∧ k ≤ M ∧ MH w ((G, cur, 5) :: L) [] wr ∧ Below W4.heap.size W4 wr ∧ cur.size = C ∧ cur.toList.take 64 = (DevM.over S B dn k).map (Value.int .u8)
theorem acts_writefalse (w0 : World) (h : DevH) (d : DevR) (nn : Int) (x : ChR) (xa : Option Addr) (xm xc : Nat) (w : World) (hk : Below w0.heap.size w0 w) (HD : DH w0 h d) (hok : DevM.Ok d) (hu : d.up = true) : Calls Tryz.prog 26 #[devV h d, .agg #[.int .i64 6, .int .i64 nn], .agg #[.int .i64 x.fr, .int .i64 x.to_, .int .i64 x.n, .int .i64 x.of_, .slice xa xm xc]] w (zbK (fun V => Below w0.heap.size w0 V) (DevM.write d false nn) w) := by
 have hbz := hok.up hu; have hsl := slB_len HD hok hok.oth01; have HAct := LH hok.act01; have hln := DevM.slot_len hok (DevM.oth d); have HNe : Hid (∀ W, Calls Tryz.prog 60 #[.agg (cpC d.c)] W fun e w' => e = .returned (.tuple #[.agg (rcC (DevM.rc d)), .int .i64 (RecM.newest d.c)]) ∧ Below W.heap.size W w') := fun W => zaP d.c hok.cops W; have HOk := LH hok; clear hok; have HDh := LH (HD.later hk); have HD0 := LH HD; have HK0 := LH hk; clear HD hk; unfold devV; obtain ⟨P1, hP1⟩ : ∃ P, w.heap.size = P := ⟨_, rfl⟩; have HS := LH (((((((((MS.start w).alloc (p := P1) (by simp [hP1]) (dvC h d) 37)).alloc (p := (P1 + 1)) (by simp [hP1]) #[.int .i64 6, .int .i64 nn] 55)).alloc (p := (P1 + 2)) (by simp [hP1]) #[.int .i64 x.fr, .int .i64 x.to_, .int .i64 x.n, .int .i64 x.of_, .slice xa xm xc] 39)).alloc (p := (P1 + 3)) (by simp [hP1]) zDev 37)); go_enter Tryz.func26, Tryz.ntmps26; go_upto_region 1 with fail; refine zau HS.out (fun V0 HS1 => ?_); replace HS := LH HS1; clear HS1 hP1; replace HS := LH (MH.of HS.out); obtain ⟨P8, hP8⟩ : ∃ P, V0.heap.size = P := ⟨_, rfl⟩; replace HS := LH (HS.out.alloc hP8 #[.nilFunc] 118); refine zaj ?_; refine zar (fun K hK => ?_); go_simp; refine hK.out _ _ ?_; clear hK K
 try simp only [Act.put, sA, sB, sC]
 refine zaF HS.out (fun V1 HS1 => ?_); replace HS := LH HS1; clear HS1 hP8; have c8 := cAt (k := 0) (v := .nilFunc) (HS.out.get 0 rfl) rfl; have z8 := tAt (k := 0) (HS.out.get 0 rfl); simp only at c8 z8; refine zar (fun K hK => ?_); go_simp; refine hK.out _ _ ?_; clear hK K c8 z8
 try simp only [Act.put, sA, sB, sC]
 refine zaF (HS.out.cell 0 rfl (k := 0) (v := (.func (.func 85) #[] #[])) (c' := #[(.func (.func 85) #[] #[])]) rfl) (fun V2 HS1 => ?_); replace HS := LH HS1; clear HS1; refine zal ?_; have cP1_26 := HS.out.cel 4 26 (v := .bool d.up) rfl rfl; have cP1p1_0 := HS.out.cel 3 0 (v := .int .i64 6) rfl rfl; rw [hu] at cP1_26; have bP1 := HS.out.gt 4 rfl
 go_wp2_with (first
  | ((with_reducible show wpList _ _ _ _ _ _); refine wLP rfl 31 (.tmp 39) rfl P1 2 rfl (dvC h d) 37 (0, 0) ?_ (cpC d.c) ?_ _ U31 rfl ?_ ?_; exact bP1; exact (zai h d); exact (sCp d.c)))
 clear cP1_26 cP1p1_0 bP1; refine (HNe.out _).mono ?_; rintro e W1 ⟨rfl, hb⟩; replace HS := LH (HS.out.later hb); clear hb; obtain ⟨P9, hP9⟩ : ∃ P, W1.heap.size = P := ⟨_, rfl⟩; replace HS := LH (HS.out.alloc hP9 (rcC (DevM.rc d)) 28); have cP1p1_0 := HS.out.cel 4 0 (v := .int .i64 6) rfl rfl; go_upto_region 7 with ((with_reducible show wpList _ _ _ _ _ _); refine wSN rfl 28 (.tmp 9) (.tmp 42) rfl P9 (rcC (DevM.rc d)) rfl rfl 28 _ ?_ ?_ ?_ ?_ ?_; exact hP9.symm; exact (sRc (DevM.rc d)); exact (lRc (DevM.rc d)); exact (oRc (DevM.rc d))); clear cP1p1_0; refine gnH HS.out (fun V3 HS1 => ?_); replace HS := LH HS1; clear HS1 hP9 HNe; have cP1p1_0 := HS.out.cel 4 0 (v := .int .i64 6) rfl rfl; have HUp := LH hu; clear hu; have cP1_29 := HS.out.cel 5 29 (v := .bool d.busy) rfl rfl; have cP1_36 := HS.out.cel 5 36 (v := .int .i64 d.done) rfl rfl; have cP1_34 := HS.out.cel 5 34 (v := .int .i64 d.job.size) rfl rfl; by_cases hl : d.busy = false ∨ d.job.size ≤ d.done
 case pos =>
  have HR : Hid ((DevM.write d false nn) = (DevM.noDev, 5)) := if_pos hl; rcases Bool.eq_false_or_eq_true d.busy with hb | hb
  · have t2 : decide (d.done ≥ d.job.size) = true := by
     rcases hl with z | z
     · rw [hb] at z; cases z
     · simp [z]
    rw [hb] at cP1_29; clear hl hb hbz hsl hln; have cP8_0 := HS.out.cel 1 0 (v := (.func (.func 85) #[] #[])) rfl rfl; go_wp2_with fail; clear cP1p1_0 cP1_29 cP1_36 cP1_34 cP8_0; refine (zaI 5 _).mono ?_; rintro e W2 ⟨rfl, hb⟩; replace HS := LH (HS.out.later hb); clear hb; have HG := LH (HS.out.set 2 rfl zDev); have bP1p3 := HS.out.gt 2 rfl
    go_wp2_with (first
     | ((with_reducible show wpList _ _ _ _ _ _); refine wpList_store_row rfl 37 (.tmp 6) (.tmp 164) rfl (P1 + 3) zDev rfl rfl 37 zDev ?_ ?_ ?_ ?_ ?_; exact bP1p3; exact zac; exact zav; exact zaq))
    clear bP1p3; refine bodyPost_ret (v := .tuple #[.agg zDev, .int .i64 5]) ?_ rfl ?_
    · exact zam (fn := Tryz.f26) (p := 6) (a := 7) rfl rfl rfl (HG.out.get 2 rfl) U37 rfl zac
    · rw [HR.out]
      exact ⟨noH, by rw [zaK], HG.out.below, NewR.any (fun W _ => DH.none_ W)⟩
  · rw [hb] at cP1_29
    clear hl hb hbz hsl hln; have cP8_0 := HS.out.cel 1 0 (v := (.func (.func 85) #[] #[])) rfl rfl; go_wp2_with fail; clear cP1p1_0 cP1_29 cP1_36 cP1_34 cP8_0; refine (zaI 5 _).mono ?_; rintro e W2 ⟨rfl, hb⟩; replace HS := LH (HS.out.later hb); clear hb; have HG := LH (HS.out.set 2 rfl zDev); have bP1p3 := HS.out.gt 2 rfl
    go_wp2_with (first
     | ((with_reducible show wpList _ _ _ _ _ _); refine wpList_store_row rfl 37 (.tmp 6) (.tmp 164) rfl (P1 + 3) zDev rfl rfl 37 zDev ?_ ?_ ?_ ?_ ?_; exact bP1p3; exact zac; exact zav; exact zaq))
    clear bP1p3; refine bodyPost_ret (v := .tuple #[.agg zDev, .int .i64 5]) ?_ rfl ?_
    · exact zam (fn := Tryz.f26) (p := 6) (a := 7) rfl rfl rfl (HG.out.get 2 rfl) U37 rfl zac
    · rw [HR.out]
      exact ⟨noH, by rw [zaK], HG.out.below, NewR.any (fun W _ => DH.none_ W)⟩
 have hbu : d.busy = true := by
  cases q : d.busy with
  | true => rfl
  | false => exact absurd (.inl q) hl
 have hge : ¬ d.job.size ≤ d.done := fun q => hl (.inr q); have HB := LH (hbz.busy hbu); have hz := HB.out.size; have hsz := DevM.size_le hz.1; have hd0 := HB.out.d0; have hd8 := HB.out.d8; have t2 : decide (d.done ≥ d.job.size) = false := by simp; omega
 rw [hbu] at cP1_29; obtain ⟨dn, hdn, hdn56⟩ : ∃ dn : Nat, d.done = dn ∧ dn ≤ 56 := ⟨d.done.toNat, by omega, by omega⟩; obtain ⟨O, hO, hO2⟩ := zb9 HAct.out; have hOd : DevM.oth d = (O : Int) := hO; rw [hOd] at hsl hln; have HOd := LH hOd; have HO := LH hO; have HDn := LH hdn; have HNl := LH hz.2.1; have HSl := LH hln; have HSb : Hid (∀ y ∈ DevM.slot d (O : Int), 0 ≤ y ∧ y ≤ 255) := (HD0.out.slB (by omega)).bytes; have HX : Hid (zaz d.job (DevM.image d (DevM.act d)) = (DevM.new d, 0)) := Prod.ext rfl HB.out.does; have hn0 : h.n0 = 64 := by have := HD0.out.b0.len; have := HOk.out.l0; omega
 have hn1 : h.n1 = 64 := by have := HD0.out.b1.len; have := HOk.out.l1; omega
 obtain ⟨m, hIm, hDo⟩ := imgDone_any h d _ HOk.out.cops hn0 hn1 HX.out w HDh.out; have HIm := LH hIm; have HDo := LH hDo; have HN := LH hsl.1; clear hIm hDo hn0 hn1 hz hsz hd0 hd8 hbu hge hbz hsl hln hdn hOd hO
 have HRl : Hid ((DevM.write d false nn) = ({ DevM.setSlot d (DevM.oth d) (DevM.over (DevM.slot d (DevM.oth d)) (DevM.new d) d.done.toNat 8) with done := d.done + 8 }, 0)) := by
  show _ = _; unfold DevM.write; rw [if_neg hl]
  try rfl
 clear hl; go_upto_region 33 with fail; clear t2; clear cP1p1_0 cP1_29 cP1_36 cP1_34; refine rTu (S := MS w [(P9, (rcC (DevM.rc d)), 28), (P8, #[(.func (.func 85) #[] #[])], 118), ((P1 + 3), zDev, 37), ((P1 + 2), #[.int .i64 x.fr, .int .i64 x.to_, .int .i64 x.n, .int .i64 x.of_, .slice xa xm xc], 39), ((P1 + 1), #[.int .i64 6, .int .i64 nn], 55), (P1, (dvC h d), 37)] [] []) [(0, false), (1, false), (2, false), (3, true), (4, true), (5, false), (6, false), (7, false), (8, false), (9, false)] false 9999 (by kernel_rfl) (by kernel_rfl) HS.out.ms.drew ?_; simp only [turned, gA, gB, gC]; replace HS := LH HS.out.drew
 repeat (first
  | ((refine turn_part (by rfl) 35 (.tmp 167) rfl P1 30 rfl 37 (dvC h d) (fun W hW => hW.get 5 rfl) (jbC h.oa h.on h.oc d.job) (zay h d) _ U35 rfl (sJb _ _ _ _) ?_); simp only [Act.put, sA, sB, sC])
  | ((refine zaw (by rfl) 37 (.tmp 3) rfl P1 rfl 37 (dvC h d) _ (fun W hW => hW.get 5 rfl) U37 rfl (sDv h d) ?_); simp only [Act.put, sA, sB, sC])
  | (refine tSt ?_ (by rfl) (fun W9 hW9 => ?_) ?_
     rotate_left
     · (go_simp <;> with_reducible rfl)
     simp only [Act.put, sA, sB, sC])
  | (refine tSk (by rfl) ?_; simp only [Act.put, sA, sB, sC]))
 refine tCa (fun K hK => ?_); go_simp; go_at_call 64; with_reducible refine (HIm.out _).mono ?_
 rintro e W2 ⟨rfl, hb⟩; replace HS := LH (HS.out.later hb); clear hb
 try go_wp2_with fail
 refine hK.out _ _ HS.out.ms ?_; clear hK K
 try simp only [Act.put, sA, sB, sC]
 refine tCa (fun K hK => ?_); go_simp; go_at_call 63; with_reducible refine (HDo.out _ (HDh.out.later HS.out.below)).mono ?_
 rintro e W3 ⟨ab, nb, cb, rfl, hbs, hb⟩; replace HS := LH (HS.out.later hb); have HBS := LH hbs; clear hbs; clear hb
 try go_wp2_with fail
 refine hK.out _ _ HS.out.ms ?_; clear hK K
 try simp only [Act.put, sA, sB, sC]
 repeat (first
  | (refine tSt ?_ (by rfl) (fun W9 hW9 => ?_) ?_
     rotate_left
     · (go_simp <;> with_reducible rfl)
     simp only [Act.put, sA, sB, sC])
  | (refine tSk (by rfl) ?_; simp only [Act.put, sA, sB, sC]))
 refine tEn ?_; clear HIm HDo
 try simp only at HBS ⊢
 have HNb := LH HBS.out.bytes; have cP1p1_0 := HS.out.cel 4 0 (v := .int .i64 6) rfl rfl; go_upto_region 37 with fail; clear cP1p1_0; skip; replace HS := LH (HS.out.sub (H' := []) (fun _ q => by cases q)) ; have HSB := LH HS.out; have HFil := LH (fun W (hb : BS W ab nb cb (DevM.new d)) => zbE ab nb cb (DevM.new d) W hb (by rw [← hb.len]; exact HNl.out)); have HFl64 : Hid ((DevM.fill (DevM.new d)).length = 64) := DevM.fill_len HNl.out; obtain ⟨P22, hP22⟩ : ∃ P, W3.heap.size = P := ⟨_, rfl⟩; have HS2 := LH (HS.out.alloc hP22 #[] 5); have HP22 := LH hP22; refine zaj ?_; refine zar (fun K hK => ?_); go_simp; refine hK.out _ _ ?_; clear hK K
 try simp only [Act.put, sA, sB, sC]
 refine line_genX (fun V => MH w ((P22, #[], 5) :: [(P9, (rcC (DevM.rc d)), 28), (P8, #[(.func (.func 85) #[] #[])], 118), ((P1 + 3), zDev, 37), ((P1 + 2), #[.int .i64 x.fr, .int .i64 x.to_, .int .i64 x.n, .int .i64 x.of_, .slice xa xm xc], 39), ((P1 + 1), #[.int .i64 6, .int .i64 nn], 55), (P1, (dvC h d), 37)]) [] V ∧ Below W3.heap.size W3 V) ⟨HS2.out, (Below.refl _ _).alloc (Nat.le_refl _) _⟩ (fun V6 hX => ?_); have HS6 := LH hX.1; have HB6 := LH hX.2; clear hX hP22 HS2 HS; have hown : V6.ownsRow W3.heap.size 5 1 (.slice (some ⟨P22, 0, none⟩) 0 0) 0 (([] : List Int).map (Value.int .u8)) := ⟨rfl, .inr ⟨P22, 0, #[], rfl, Nat.le_of_eq HP22.out, HS6.out.get 0 rfl, Nat.le_refl _, by unfold maxLen; omega, rfl, rfl⟩⟩; obtain ⟨a5, c5, W5, hrun, hown5, hg5⟩ := zbi hown ((HDh.out.slB (k := (O : Int)) (by omega)).later HS6.out.below) (by rw [HN.out]; omega) HB6.out.size; rw [HN.out] at hrun hown5; have HB5 : Hid (Below W3.heap.size W3 W5) := HB6.out.grown hg5 HB6.out.size (fun g hg => (oL3 hown hg).1); have cP9_1 := HS6.out.cel 1 1 (v := .int .i64 (DevM.rc d).act) rfl rfl; have hO := HO.out; have hOw : IntKind.i64.wrap (O : Int) = (O : Int) := IntWalk.i64_in _ (by omega); have hO0 : (0 : Int) ≤ (O : Int) := by omega
 have hOI : (O : Int) < 2 := by omega
 have cP1_O := cAt (k := O) (HS6.out.get 6 rfl) (zbQ h d O hO2); simp only at cP1_O; rw [HN.out] at cP1_O
 repeat (first
  | (refine zae ?_ (zaa rfl) ?_ ?_
     rotate_left
     · (go_simp <;> with_reducible rfl)
     simp only [Act.put, sA, sB, sC]))
 refine ⟨Lib.wpList_append_run _ rfl _ _ _ _ rfl _ _ rfl rfl _ _ hrun (LnW.out ?_)⟩; simp only [Act.put, sA, sB, sC]; obtain ⟨-, ho5⟩ := hown5
 obtain ⟨G, C, cur, hv5, hG0, hGb, hGn, hGm, hGs, hGt⟩ : ∃ G C cur, Value.slice a5 (0 + 64) c5 = .slice (some ⟨G, 0, none⟩) 64 C ∧ W3.heap.size ≤ G ∧ W5.heap[G]? = some (.cells cur 5 (0, 0)) ∧ 64 ≤ C ∧ C ≤ 9223372036854775807 ∧ cur.size = C ∧ cur.toList.take 64 = (DevM.slot d (O : Int)).map (Value.int .u8) := by
  rcases ho5 with ⟨-, q⟩ | ⟨g, cap, cur, hv, hb, hg, hn, hm, hs, ht⟩
  · omega
  · exact ⟨g, cap, cur, by simpa using hv, hb, hg, by omega, by unfold maxLen at hm; omega, by omega, (by
     have h9 := ht; rw [show (0 + 64) * 1 = 64 from rfl, List.nil_append] at h9
     exact h9)⟩
 simp only [Value.slice.injEq] at hv5; obtain ⟨rfl, -, rfl⟩ := hv5; have HS := LH ((MH.of HSB.out.ms).block HB5.out hGb hG0); have HGf : Hid (W3.heap.size ≤ G ∧ 64 ≤ c5 ∧ c5 ≤ 9223372036854775807) := ⟨hG0, hGn, hGm⟩; have HGc : Hid (cur.size = c5 ∧ cur.toList.take 64 = (DevM.slot d (O : Int)).map (Value.int .u8)) := ⟨hGs, hGt⟩; clear hrun ho5 hG0 hGb hGn hGm hGs hGt hown hg5 cP9_1 cP1_O HS6; refine zae ?_ (zaa rfl) ?_ ?_; rotate_left
 · (go_simp <;> with_reducible rfl)
 simp only [Act.put, sA, sB, sC]; refine zal ?_; go_wp2_with fail; go_loopw [190] (fun i wr => WrRel w W3 G [(P9, (rcC (DevM.rc d)), 28), (P8, #[(.func (.func 85) #[] #[])], 118), ((P1 + 3), zDev, 37), ((P1 + 2), #[.int .i64 x.fr, .int .i64 x.to_, .int .i64 x.n, .int .i64 x.of_, .slice xa xm xc], 39), ((P1 + 1), #[.int .i64 6, .int .i64 nn], 55), (P1, (dvC h d), 37)] (DevM.slot d (O : Int)) (DevM.new d) dn c5 8 i wr) (fun i _ => 8 - (intOf i).toNat)
 case atStart => exact ⟨0, cur, rfl, by omega, HS.out, HB5.out, HGc.out.1, by rw [DevM.over_zero]; exact HGc.out.2⟩
 case round =>
  obtain ⟨k, cur, rfl, hk, hms, hbw, hcs, hct⟩ := hrel; clear HS HGc HB5; have HS := LH hms; have HBW := LH hbw; have HCS := LH hcs; have HCT := LH hct; clear hms hbw hcs hct; by_cases hlt : k < 8
  · have hkI : (k : Int) < 8 := by omega
    obtain ⟨J, hJ, hJ64⟩ : ∃ J : Nat, dn + k = J ∧ J < 64 := ⟨dn + k, rfl, by omega⟩; have hJi : (dn : Int) + (k : Int) = (J : Int) := by omega
    have hJw : IntKind.i64.wrap (J : Int) = (J : Int) := IntWalk.i64_in _ (by omega); have hJ0 : (0 : Int) ≤ (J : Int) := by omega
    have hJ6 : (J : Int) < 64 := by omega
    go_upto_region 41 with fail; refine rTu (S := MS w [(G, cur, 5), (P9, (rcC (DevM.rc d)), 28), (P8, #[(.func (.func 85) #[] #[])], 118), ((P1 + 3), zDev, 37), ((P1 + 2), #[.int .i64 x.fr, .int .i64 x.to_, .int .i64 x.n, .int .i64 x.of_, .slice xa xm xc], 39), ((P1 + 1), #[.int .i64 6, .int .i64 nn], 55), (P1, (dvC h d), 37)] [] []) [(0, false), (1, false), (2, false), (3, false), (4, false), (5, false), (7, false), (8, false), (9, false), (10, false), (6, true), (11, false), (12, true), (13, false), (14, true)] true 14 (by kernel_rfl) (by kernel_rfl) HS.out.ms.drew ?_; simp only [turned, gA, gB, gC]; replace HS := LH HS.out.drew
    have uP1_36 : ∀ W, MS w [(G, cur, 5), (P9, (rcC (DevM.rc d)), 28), (P8, #[(.func (.func 85) #[] #[])], 118), ((P1 + 3), zDev, 37), ((P1 + 2), #[.int .i64 x.fr, .int .i64 x.to_, .int .i64 x.n, .int .i64 x.of_, .slice xa xm xc], 39), ((P1 + 1), #[.int .i64 6, .int .i64 nn], 55), (P1, (dvC h d), 37)] [] [] W → W.cell? ⟨P1, 36, none⟩ = some (.int .i64 (dn : Int)) := fun W hW => by
     have := cAt (k := 36) (v := .int .i64 d.done) (hW.get 6 rfl) rfl
     rwa [HDn.out] at this
    repeat (first
     | (refine tSt ?_ (by rfl) (fun W9 hW9 => ?_) ?_
        rotate_left
        · (go_simp <;> with_reducible rfl)
        simp only [Act.put, sA, sB, sC])
     | (refine tSk (by rfl) ?_; simp only [Act.put, sA, sB, sC]))
    refine tCa (fun K hK => ?_); go_simp; go_at_call 65; with_reducible refine (HFil.out _ (HBS.out.later (bTn HBW.out (Below.refl _ _).drew))).mono ?_
    rintro e W4 ⟨F, rfl, hF, -, -, -, hb⟩; replace HS := LH (HS.out.later hb); have HBW2 := LH (bTn (bTn HBW.out (Below.refl _ _).drew) hb); have cF := cAt (k := J) hF (fillC_at HFl64.out hJ64); clear hF; clear hb
    try go_wp2_with fail
    refine hK.out _ _ HS.out.ms ?_; clear hK K
    try simp only [Act.put, sA, sB, sC]
    repeat (first
     | (refine tSt ?_ (by rfl) (fun W9 hW9 => ?_) ?_
        rotate_left
        · (go_simp <;> with_reducible rfl)
        simp only [Act.put, sA, sB, sC])
     | (refine tSk (by rfl) ?_; simp only [Act.put, sA, sB, sC]))
    refine tCa (fun K hK => ?_); go_simp; refine hK.out _ _ HS.out.ms ?_; clear hK K
    try simp only [Act.put, sA, sB, sC]
    repeat (first
     | (refine tSt ?_ (by rfl) (fun W9 hW9 => ?_) ?_
        rotate_left
        · (go_simp <;> with_reducible rfl)
        simp only [Act.put, sA, sB, sC])
     | (refine tSk (by rfl) ?_; simp only [Act.put, sA, sB, sC]))
    obtain ⟨v0, hv0⟩ : ∃ v, cur[J]? = some v := ⟨_, Array.getElem?_eq_getElem (by have := HCS.out; have := HGf.out.2.1; omega)⟩; have cG := cAt (k := J) (HS.out.get 0 rfl) hv0; have zG := tAt (k := J) (HS.out.get 0 rfl); simp only at cG zG; clear cF hv0; obtain ⟨yv, hyv⟩ : ∃ yv, (DevM.fill (DevM.new d))[J]?.getD 0 = yv := ⟨_, rfl⟩; rw [hyv]; have HYv := LH hyv; clear hyv; clear uP1_36; refine turn_last (fun K hK => ?_); go_simp; refine hK.out _ _ (NoPanic.normal ?_); clear hK K
    try simp only [Act.put]
    clear cG zG; go_wp2_with fail; go_roundw
    case rel =>
     repeat apply Exists.intro
     refine ⟨⟨k + 1, cur.setIfInBounds J (.int .u8 yv), by go_num, by omega, HS.out.cell 0 rfl (k := J) (v := .int .u8 yv) rfl, bel_cell (q := ⟨G, J, none⟩) HBW2.out HGf.out.1 _, by simpa using HCS.out, ?_⟩, rfl⟩; rw [row_set HCT.out, ← HYv.out, ← hJ, DevM.over_step HSl.out HFl64.out (by omega)]
    case measure => simp [intOf]; omega
  · obtain rfl : k = 8 := by omega
    have hkI : ¬ ((8 : Nat) : Int) < 8 := by omega
    go_upto_region 43 with fail; have cP9_1 := HS.out.cel 1 1 (v := .int .i64 (DevM.rc d).act) rfl rfl; have cP1_O := cAt (k := O) (HS.out.get 6 rfl) (zbQ h d O hO2); have fP1_O := tAt (k := O) (HS.out.get 6 rfl); simp only at cP1_O fP1_O; go_upto_region 44 with fail; clear hOw hO0 hOI hO; clear cP9_1 cP1_O fP1_O; refine gnH (HS.out.cell 6 rfl (put_slotV h d O hO2 (some ⟨G, 0, none⟩) 64 c5 (DevM.over (DevM.slot d (O : Int)) (DevM.new d) dn 8))) (fun V7 HS1 => ?_); replace HS := LH HS1; clear HS1; have cP1_36 := cAt (k := 36) (v := .int .i64 d.done) (HS.out.get 6 rfl) (by rw [dev_at36, DevM.set_done]); simp only at cP1_36; rw [HDn.out] at cP1_36; have fP1_36 := HS.out.thw 6 36 rfl; have hdw : IntKind.i64.wrap ((dn : Int) + 8) = ((dn : Int) + 8) := IntWalk.i64_in _ (by omega); go_upto_region 45 with fail; clear hdw; clear cP1_36 fP1_36; refine gnH (HS.out.cell 6 rfl (zbe (h.setS O (some ⟨G, 0, none⟩) 64 c5) (DevM.setSlot d (O : Int) (DevM.over (DevM.slot d (O : Int)) (DevM.new d) dn 8)) ((dn : Int) + 8))) (fun V8 HS1 => ?_); replace HS := LH HS1; clear HS1; have cP1p1_0 := HS.out.cel 5 0 (v := .int .i64 6) rfl rfl
    have HRw : Hid (DevM.write d false nn = (({ (DevM.setSlot d (O : Int) (DevM.over (DevM.slot d (O : Int)) (DevM.new d) dn 8)) with done := ((dn : Int) + 8) } : DevR), 0)) := by
     show _ = _; rw [HRl.out]; rw [HOd.out, HDn.out, Int.toNat_natCast]
     try rfl
    have bP1 := HS.out.gt 6 rfl; have HG := LH (HS.out.set 3 rfl (dvC (h.setS O (some ⟨G, 0, none⟩) 64 c5) ({ (DevM.setSlot d (O : Int) (DevM.over (DevM.slot d (O : Int)) (DevM.new d) dn 8)) with done := ((dn : Int) + 8) } : DevR))); have bP1p3 := HS.out.gt 3 rfl
    go_wp2_with (first
     | ((with_reducible show wpList _ _ _ _ _ _); refine wpList_load_row rfl 37 (.tmp 3) rfl P1 rfl 37 (dvC (h.setS O (some ⟨G, 0, none⟩) 64 c5) ({ (DevM.setSlot d (O : Int) (DevM.over (DevM.slot d (O : Int)) (DevM.new d) dn 8)) with done := ((dn : Int) + 8) } : DevR)) (0, 0) _ ?_ U37 rfl ?_ ?_; exact bP1; exact (sDv (h.setS O (some ⟨G, 0, none⟩) 64 c5) ({ (DevM.setSlot d (O : Int) (DevM.over (DevM.slot d (O : Int)) (DevM.new d) dn 8)) with done := ((dn : Int) + 8) } : DevR)))
     | ((with_reducible show wpList _ _ _ _ _ _); refine wpList_store_row rfl 37 (.tmp 6) (.tmp 224) rfl (P1 + 3) (dvC (h.setS O (some ⟨G, 0, none⟩) 64 c5) ({ (DevM.setSlot d (O : Int) (DevM.over (DevM.slot d (O : Int)) (DevM.new d) dn 8)) with done := ((dn : Int) + 8) } : DevR)) rfl rfl 37 zDev ?_ ?_ ?_ ?_ ?_; exact bP1p3; exact (sDv (h.setS O (some ⟨G, 0, none⟩) 64 c5) ({ (DevM.setSlot d (O : Int) (DevM.over (DevM.slot d (O : Int)) (DevM.new d) dn 8)) with done := ((dn : Int) + 8) } : DevR)); exact (zat _ _); exact (oDv (h.setS O (some ⟨G, 0, none⟩) 64 c5) ({ (DevM.setSlot d (O : Int) (DevM.over (DevM.slot d (O : Int)) (DevM.new d) dn 8)) with done := ((dn : Int) + 8) } : DevR))))
    clear cP1p1_0 bP1 bP1p3; refine bodyPost_ret (v := .tuple #[.agg (dvC (h.setS O (some ⟨G, 0, none⟩) 64 c5) ({ (DevM.setSlot d (O : Int) (DevM.over (DevM.slot d (O : Int)) (DevM.new d) dn 8)) with done := ((dn : Int) + 8) } : DevR)), .int .i64 0]) ?_ rfl ?_
    · exact zam (fn := Tryz.f26) (p := 6) (a := 7) rfl rfl rfl (HG.out.get 3 rfl) U37 rfl (sDv _ _)
    · rw [HRw.out]
      have hgG := HG.out.gt 0 rfl; refine ⟨(h.setS O (some ⟨G, 0, none⟩) 64 c5), rfl, HG.out.below, fun V v1 v2 hV => ?_⟩; have k0 := HD0.out.later hV; have hwG : w.heap.size ≤ G := HG.out.ms.base (G, cur, 5) List.mem_cons_self; have hov : ((DevM.over (DevM.slot d (O : Int)) (DevM.new d) dn 8)).length = 64 := DevM.over_len HSl.out HNl.out (by omega); have hbG := row_bs (W := V) ((v2 G hwG (bLQ hgG)).trans hgG) hov HCT.out HGf.out.2.1 HGf.out.2.2 (over_bytes HSb.out HNb.out); have kS := setS_dh O hO2 k0 hbG; exact ⟨kS.b0, kS.b1, kS.got, kS.ops, kS.copsW, kS.runI, kS.jobI, (by unfold I64; simp only; omega)⟩
theorem acts_writetrue (w0 : World) (h : DevH) (d : DevR) (nn : Int) (x : ChR) (xa : Option Addr) (xm xc : Nat) (w : World) (hk : Below w0.heap.size w0 w) (HD : DH w0 h d) (hok : DevM.Ok d) (hu : d.up = true) : Calls Tryz.prog 26 #[devV h d, .agg #[.int .i64 11, .int .i64 nn], .agg #[.int .i64 x.fr, .int .i64 x.to_, .int .i64 x.n, .int .i64 x.of_, .slice xa xm xc]] w (zbK (fun V => Below w0.heap.size w0 V) (DevM.write d true nn) w) := by
 have hbz := hok.up hu; have hsl := slB_len HD hok hok.oth01; have HAct := LH hok.act01; have hln := DevM.slot_len hok (DevM.oth d); have HNe : Hid (∀ W, Calls Tryz.prog 60 #[.agg (cpC d.c)] W fun e w' => e = .returned (.tuple #[.agg (rcC (DevM.rc d)), .int .i64 (RecM.newest d.c)]) ∧ Below W.heap.size W w') := fun W => zaP d.c hok.cops W; have HOk := LH hok; clear hok; have HDh := LH (HD.later hk); have HD0 := LH HD; have HK0 := LH hk; clear HD hk; unfold devV; obtain ⟨P1, hP1⟩ : ∃ P, w.heap.size = P := ⟨_, rfl⟩; have HS := LH (((((((((MS.start w).alloc (p := P1) (by simp [hP1]) (dvC h d) 37)).alloc (p := (P1 + 1)) (by simp [hP1]) #[.int .i64 11, .int .i64 nn] 55)).alloc (p := (P1 + 2)) (by simp [hP1]) #[.int .i64 x.fr, .int .i64 x.to_, .int .i64 x.n, .int .i64 x.of_, .slice xa xm xc] 39)).alloc (p := (P1 + 3)) (by simp [hP1]) zDev 37)); go_enter Tryz.func26, Tryz.ntmps26; go_upto_region 1 with fail; refine zau HS.out (fun V0 HS1 => ?_); replace HS := LH HS1; clear HS1 hP1; replace HS := LH (MH.of HS.out); obtain ⟨P8, hP8⟩ : ∃ P, V0.heap.size = P := ⟨_, rfl⟩; replace HS := LH (HS.out.alloc hP8 #[.nilFunc] 118); refine zaj ?_; refine zar (fun K hK => ?_); go_simp; refine hK.out _ _ ?_; clear hK K
 try simp only [Act.put, sA, sB, sC]
 refine zaF HS.out (fun V1 HS1 => ?_); replace HS := LH HS1; clear HS1 hP8; have c8 := cAt (k := 0) (v := .nilFunc) (HS.out.get 0 rfl) rfl; have z8 := tAt (k := 0) (HS.out.get 0 rfl); simp only at c8 z8; refine zar (fun K hK => ?_); go_simp; refine hK.out _ _ ?_; clear hK K c8 z8
 try simp only [Act.put, sA, sB, sC]
 refine zaF (HS.out.cell 0 rfl (k := 0) (v := (.func (.func 85) #[] #[])) (c' := #[(.func (.func 85) #[] #[])]) rfl) (fun V2 HS1 => ?_); replace HS := LH HS1; clear HS1; refine zal ?_; have cP1_26 := HS.out.cel 4 26 (v := .bool d.up) rfl rfl; have cP1p1_0 := HS.out.cel 3 0 (v := .int .i64 11) rfl rfl; rw [hu] at cP1_26; have bP1 := HS.out.gt 4 rfl
 go_wp2_with (first
  | ((with_reducible show wpList _ _ _ _ _ _); refine wLP rfl 31 (.tmp 39) rfl P1 2 rfl (dvC h d) 37 (0, 0) ?_ (cpC d.c) ?_ _ U31 rfl ?_ ?_; exact bP1; exact (zai h d); exact (sCp d.c)))
 clear cP1_26 cP1p1_0 bP1; refine (HNe.out _).mono ?_; rintro e W1 ⟨rfl, hb⟩; replace HS := LH (HS.out.later hb); clear hb; obtain ⟨P9, hP9⟩ : ∃ P, W1.heap.size = P := ⟨_, rfl⟩; replace HS := LH (HS.out.alloc hP9 (rcC (DevM.rc d)) 28); have cP1p1_0 := HS.out.cel 4 0 (v := .int .i64 11) rfl rfl; go_upto_region 7 with ((with_reducible show wpList _ _ _ _ _ _); refine wSN rfl 28 (.tmp 9) (.tmp 42) rfl P9 (rcC (DevM.rc d)) rfl rfl 28 _ ?_ ?_ ?_ ?_ ?_; exact hP9.symm; exact (sRc (DevM.rc d)); exact (lRc (DevM.rc d)); exact (oRc (DevM.rc d))); clear cP1p1_0; refine gnH HS.out (fun V3 HS1 => ?_); replace HS := LH HS1; clear HS1 hP9 HNe; have cP1p1_0 := HS.out.cel 4 0 (v := .int .i64 11) rfl rfl; have HUp := LH hu; clear hu; have cP1_29 := HS.out.cel 5 29 (v := .bool d.busy) rfl rfl; have cP1_36 := HS.out.cel 5 36 (v := .int .i64 d.done) rfl rfl; have cP1_34 := HS.out.cel 5 34 (v := .int .i64 d.job.size) rfl rfl; by_cases hl : d.busy = false ∨ d.job.size ≤ d.done
 case pos =>
  have HR : Hid ((DevM.write d true nn) = (DevM.noDev, 5)) := if_pos hl; rcases Bool.eq_false_or_eq_true d.busy with hb | hb
  · have t2 : decide (d.done ≥ d.job.size) = true := by
     rcases hl with z | z
     · rw [hb] at z; cases z
     · simp [z]
    rw [hb] at cP1_29; clear hl hb hbz hsl hln; have cP8_0 := HS.out.cel 1 0 (v := (.func (.func 85) #[] #[])) rfl rfl; go_wp2_with fail; clear cP1p1_0 cP1_29 cP1_36 cP1_34 cP8_0; refine (zaI 5 _).mono ?_; rintro e W2 ⟨rfl, hb⟩; replace HS := LH (HS.out.later hb); clear hb; have HG := LH (HS.out.set 2 rfl zDev); have bP1p3 := HS.out.gt 2 rfl
    go_wp2_with (first
     | ((with_reducible show wpList _ _ _ _ _ _); refine wpList_store_row rfl 37 (.tmp 6) (.tmp 164) rfl (P1 + 3) zDev rfl rfl 37 zDev ?_ ?_ ?_ ?_ ?_; exact bP1p3; exact zac; exact zav; exact zaq))
    clear bP1p3; refine bodyPost_ret (v := .tuple #[.agg zDev, .int .i64 5]) ?_ rfl ?_
    · exact zam (fn := Tryz.f26) (p := 6) (a := 7) rfl rfl rfl (HG.out.get 2 rfl) U37 rfl zac
    · rw [HR.out]
      exact ⟨noH, by rw [zaK], HG.out.below, NewR.any (fun W _ => DH.none_ W)⟩
  · rw [hb] at cP1_29
    clear hl hb hbz hsl hln; have cP8_0 := HS.out.cel 1 0 (v := (.func (.func 85) #[] #[])) rfl rfl; go_wp2_with fail; clear cP1p1_0 cP1_29 cP1_36 cP1_34 cP8_0; refine (zaI 5 _).mono ?_; rintro e W2 ⟨rfl, hb⟩; replace HS := LH (HS.out.later hb); clear hb; have HG := LH (HS.out.set 2 rfl zDev); have bP1p3 := HS.out.gt 2 rfl
    go_wp2_with (first
     | ((with_reducible show wpList _ _ _ _ _ _); refine wpList_store_row rfl 37 (.tmp 6) (.tmp 164) rfl (P1 + 3) zDev rfl rfl 37 zDev ?_ ?_ ?_ ?_ ?_; exact bP1p3; exact zac; exact zav; exact zaq))
    clear bP1p3; refine bodyPost_ret (v := .tuple #[.agg zDev, .int .i64 5]) ?_ rfl ?_
    · exact zam (fn := Tryz.f26) (p := 6) (a := 7) rfl rfl rfl (HG.out.get 2 rfl) U37 rfl zac
    · rw [HR.out]
      exact ⟨noH, by rw [zaK], HG.out.below, NewR.any (fun W _ => DH.none_ W)⟩
 have hbu : d.busy = true := by
  cases q : d.busy with
  | true => rfl
  | false => exact absurd (.inl q) hl
 have hge : ¬ d.job.size ≤ d.done := fun q => hl (.inr q); have HB := LH (hbz.busy hbu); have hz := HB.out.size; have hsz := DevM.size_le hz.1; have hd0 := HB.out.d0; have hd8 := HB.out.d8; have t2 : decide (d.done ≥ d.job.size) = false := by simp; omega
 rw [hbu] at cP1_29; obtain ⟨dn, hdn, hdn56⟩ : ∃ dn : Nat, d.done = dn ∧ dn ≤ 56 := ⟨d.done.toNat, by omega, by omega⟩; obtain ⟨O, hO, hO2⟩ := zb9 HAct.out; have hOd : DevM.oth d = (O : Int) := hO; rw [hOd] at hsl hln; have HOd := LH hOd; have HO := LH hO; have HDn := LH hdn; have HNl := LH hz.2.1; have HSl := LH hln; have HSb : Hid (∀ y ∈ DevM.slot d (O : Int), 0 ≤ y ∧ y ≤ 255) := (HD0.out.slB (by omega)).bytes; have HX : Hid (zaz d.job (DevM.image d (DevM.act d)) = (DevM.new d, 0)) := Prod.ext rfl HB.out.does; have hn0 : h.n0 = 64 := by have := HD0.out.b0.len; have := HOk.out.l0; omega
 have hn1 : h.n1 = 64 := by have := HD0.out.b1.len; have := HOk.out.l1; omega
 obtain ⟨m, hIm, hDo⟩ := imgDone_any h d _ HOk.out.cops hn0 hn1 HX.out w HDh.out; have HIm := LH hIm; have HDo := LH hDo; have HN := LH hsl.1; clear hIm hDo hn0 hn1 hz hsz hd0 hd8 hbu hge hbz hsl hln hdn hOd hO
 have HRl : Hid ((DevM.write d true nn) = if true then (DevM.off (DevM.setSlot d (DevM.oth d) (DevM.over (DevM.slot d (DevM.oth d)) (DevM.new d) d.done.toNat (DevM.many true nn).toNat)), 0) else ({ DevM.setSlot d (DevM.oth d) (DevM.over (DevM.slot d (DevM.oth d)) (DevM.new d) d.done.toNat 8) with done := d.done + 8 }, 0)) := by
  show _ = _; unfold DevM.write; rw [if_neg hl]
  try rfl
 clear hl; go_upto_region 33 with fail; clear t2; clear cP1p1_0 cP1_29 cP1_36 cP1_34; refine rTu (S := MS w [(P9, (rcC (DevM.rc d)), 28), (P8, #[(.func (.func 85) #[] #[])], 118), ((P1 + 3), zDev, 37), ((P1 + 2), #[.int .i64 x.fr, .int .i64 x.to_, .int .i64 x.n, .int .i64 x.of_, .slice xa xm xc], 39), ((P1 + 1), #[.int .i64 11, .int .i64 nn], 55), (P1, (dvC h d), 37)] [] []) [(0, false), (1, false), (2, false), (3, true), (4, true), (5, false), (6, false), (7, false), (8, false), (9, false)] false 9999 (by kernel_rfl) (by kernel_rfl) HS.out.ms.drew ?_; simp only [turned, gA, gB, gC]; replace HS := LH HS.out.drew
 repeat (first
  | ((refine turn_part (by rfl) 35 (.tmp 167) rfl P1 30 rfl 37 (dvC h d) (fun W hW => hW.get 5 rfl) (jbC h.oa h.on h.oc d.job) (zay h d) _ U35 rfl (sJb _ _ _ _) ?_); simp only [Act.put, sA, sB, sC])
  | ((refine zaw (by rfl) 37 (.tmp 3) rfl P1 rfl 37 (dvC h d) _ (fun W hW => hW.get 5 rfl) U37 rfl (sDv h d) ?_); simp only [Act.put, sA, sB, sC])
  | (refine tSt ?_ (by rfl) (fun W9 hW9 => ?_) ?_
     rotate_left
     · (go_simp <;> with_reducible rfl)
     simp only [Act.put, sA, sB, sC])
  | (refine tSk (by rfl) ?_; simp only [Act.put, sA, sB, sC]))
 refine tCa (fun K hK => ?_); go_simp; go_at_call 64; with_reducible refine (HIm.out _).mono ?_
 rintro e W2 ⟨rfl, hb⟩; replace HS := LH (HS.out.later hb); clear hb
 try go_wp2_with fail
 refine hK.out _ _ HS.out.ms ?_; clear hK K
 try simp only [Act.put, sA, sB, sC]
 refine tCa (fun K hK => ?_); go_simp; go_at_call 63; with_reducible refine (HDo.out _ (HDh.out.later HS.out.below)).mono ?_
 rintro e W3 ⟨ab, nb, cb, rfl, hbs, hb⟩; replace HS := LH (HS.out.later hb); have HBS := LH hbs; clear hbs; clear hb
 try go_wp2_with fail
 refine hK.out _ _ HS.out.ms ?_; clear hK K
 try simp only [Act.put, sA, sB, sC]
 repeat (first
  | (refine tSt ?_ (by rfl) (fun W9 hW9 => ?_) ?_
     rotate_left
     · (go_simp <;> with_reducible rfl)
     simp only [Act.put, sA, sB, sC])
  | (refine tSk (by rfl) ?_; simp only [Act.put, sA, sB, sC]))
 refine tEn ?_; clear HIm HDo
 try simp only at HBS ⊢
 have HNb := LH HBS.out.bytes; have cP1p1_0 := HS.out.cel 4 0 (v := .int .i64 11) rfl rfl; go_upto_region 36 with fail; clear cP1p1_0; obtain ⟨q, hq0, hmn, hmi, hmj⟩ : ∃ q : Int, q = min 8 nn ∧ min 8 nn = q ∧ (if nn ≤ 8 then nn else 8) = q ∧ (if 8 ≤ nn then 8 else nn) = q := ⟨min 8 nn, rfl, rfl, by split <;> omega, by split <;> omega⟩
 obtain ⟨M, hM, hM8, hxn, hxi, hxj⟩ : ∃ M : Nat, DevM.many true nn = (M : Int) ∧ M ≤ 8 ∧ max 0 q = (M : Int) ∧ (if q ≤ 0 then 0 else q) = (M : Int) ∧ (if 0 ≤ q then q else 0) = (M : Int) := by
  refine ⟨(max 0 q).toNat, ?_, by omega, by omega, by split <;> omega, by split <;> omega⟩; unfold DevM.many; rw [if_pos rfl, ← hq0]; omega
 have HM := LH hM; clear hM hq0; refine zaj ?_; have cP1p1_1 := HS.out.cel 4 1 (v := .int .i64 nn) rfl rfl
 repeat (first
  | (refine zag (by first | exact zaf rfl rfl rfl | exact zad rfl rfl) ?_; simp only [Act.put, sA, sB, sC])
  | (refine zae ?_ ?_ ?_ ?_
     rotate_left
     · first | exact zaa rfl | exact zab rfl rfl
     · (go_simp <;> with_reducible rfl)
     simp only [Act.put, sA, sB, sC]))
 clear cP1p1_1; refine zal ?_; clear hmn hmi hmj hxn hxi hxj; go_upto_region 37 with fail; replace HS := LH (HS.out.sub (H' := []) (fun _ q => by cases q)) ; have HSB := LH HS.out; have HFil := LH (fun W (hb : BS W ab nb cb (DevM.new d)) => zbE ab nb cb (DevM.new d) W hb (by rw [← hb.len]; exact HNl.out)); have HFl64 : Hid ((DevM.fill (DevM.new d)).length = 64) := DevM.fill_len HNl.out; obtain ⟨P22, hP22⟩ : ∃ P, W3.heap.size = P := ⟨_, rfl⟩; have HS2 := LH (HS.out.alloc hP22 #[] 5); have HP22 := LH hP22; refine zaj ?_; refine zar (fun K hK => ?_); go_simp; refine hK.out _ _ ?_; clear hK K
 try simp only [Act.put, sA, sB, sC]
 refine line_genX (fun V => MH w ((P22, #[], 5) :: [(P9, (rcC (DevM.rc d)), 28), (P8, #[(.func (.func 85) #[] #[])], 118), ((P1 + 3), zDev, 37), ((P1 + 2), #[.int .i64 x.fr, .int .i64 x.to_, .int .i64 x.n, .int .i64 x.of_, .slice xa xm xc], 39), ((P1 + 1), #[.int .i64 11, .int .i64 nn], 55), (P1, (dvC h d), 37)]) [] V ∧ Below W3.heap.size W3 V) ⟨HS2.out, (Below.refl _ _).alloc (Nat.le_refl _) _⟩ (fun V6 hX => ?_); have HS6 := LH hX.1; have HB6 := LH hX.2; clear hX hP22 HS2 HS; have hown : V6.ownsRow W3.heap.size 5 1 (.slice (some ⟨P22, 0, none⟩) 0 0) 0 (([] : List Int).map (Value.int .u8)) := ⟨rfl, .inr ⟨P22, 0, #[], rfl, Nat.le_of_eq HP22.out, HS6.out.get 0 rfl, Nat.le_refl _, by unfold maxLen; omega, rfl, rfl⟩⟩; obtain ⟨a5, c5, W5, hrun, hown5, hg5⟩ := zbi hown ((HDh.out.slB (k := (O : Int)) (by omega)).later HS6.out.below) (by rw [HN.out]; omega) HB6.out.size; rw [HN.out] at hrun hown5; have HB5 : Hid (Below W3.heap.size W3 W5) := HB6.out.grown hg5 HB6.out.size (fun g hg => (oL3 hown hg).1); have cP9_1 := HS6.out.cel 1 1 (v := .int .i64 (DevM.rc d).act) rfl rfl; have hO := HO.out; have hOw : IntKind.i64.wrap (O : Int) = (O : Int) := IntWalk.i64_in _ (by omega); have hO0 : (0 : Int) ≤ (O : Int) := by omega
 have hOI : (O : Int) < 2 := by omega
 have cP1_O := cAt (k := O) (HS6.out.get 6 rfl) (zbQ h d O hO2); simp only at cP1_O; rw [HN.out] at cP1_O
 repeat (first
  | (refine zae ?_ (zaa rfl) ?_ ?_
     rotate_left
     · (go_simp <;> with_reducible rfl)
     simp only [Act.put, sA, sB, sC]))
 refine ⟨Lib.wpList_append_run _ rfl _ _ _ _ rfl _ _ rfl rfl _ _ hrun (LnW.out ?_)⟩; simp only [Act.put, sA, sB, sC]; obtain ⟨-, ho5⟩ := hown5
 obtain ⟨G, C, cur, hv5, hG0, hGb, hGn, hGm, hGs, hGt⟩ : ∃ G C cur, Value.slice a5 (0 + 64) c5 = .slice (some ⟨G, 0, none⟩) 64 C ∧ W3.heap.size ≤ G ∧ W5.heap[G]? = some (.cells cur 5 (0, 0)) ∧ 64 ≤ C ∧ C ≤ 9223372036854775807 ∧ cur.size = C ∧ cur.toList.take 64 = (DevM.slot d (O : Int)).map (Value.int .u8) := by
  rcases ho5 with ⟨-, q⟩ | ⟨g, cap, cur, hv, hb, hg, hn, hm, hs, ht⟩
  · omega
  · exact ⟨g, cap, cur, by simpa using hv, hb, hg, by omega, by unfold maxLen at hm; omega, by omega, (by
     have h9 := ht; rw [show (0 + 64) * 1 = 64 from rfl, List.nil_append] at h9
     exact h9)⟩
 simp only [Value.slice.injEq] at hv5; obtain ⟨rfl, -, rfl⟩ := hv5; have HS := LH ((MH.of HSB.out.ms).block HB5.out hGb hG0); have HGf : Hid (W3.heap.size ≤ G ∧ 64 ≤ c5 ∧ c5 ≤ 9223372036854775807) := ⟨hG0, hGn, hGm⟩; have HGc : Hid (cur.size = c5 ∧ cur.toList.take 64 = (DevM.slot d (O : Int)).map (Value.int .u8)) := ⟨hGs, hGt⟩; clear hrun ho5 hG0 hGb hGn hGm hGs hGt hown hg5 cP9_1 cP1_O HS6; refine zae ?_ (zaa rfl) ?_ ?_; rotate_left
 · (go_simp <;> with_reducible rfl)
 simp only [Act.put, sA, sB, sC]; refine zal ?_; go_wp2_with fail; go_loopw [190] (fun i wr => WrRel w W3 G [(P9, (rcC (DevM.rc d)), 28), (P8, #[(.func (.func 85) #[] #[])], 118), ((P1 + 3), zDev, 37), ((P1 + 2), #[.int .i64 x.fr, .int .i64 x.to_, .int .i64 x.n, .int .i64 x.of_, .slice xa xm xc], 39), ((P1 + 1), #[.int .i64 11, .int .i64 nn], 55), (P1, (dvC h d), 37)] (DevM.slot d (O : Int)) (DevM.new d) dn c5 M i wr) (fun i _ => M - (intOf i).toNat)
 case atStart => exact ⟨0, cur, rfl, by omega, HS.out, HB5.out, HGc.out.1, by rw [DevM.over_zero]; exact HGc.out.2⟩
 case round =>
  obtain ⟨k, cur, rfl, hk, hms, hbw, hcs, hct⟩ := hrel; clear HS HGc HB5; have HS := LH hms; have HBW := LH hbw; have HCS := LH hcs; have HCT := LH hct; clear hms hbw hcs hct; by_cases hlt : k < M
  · have hkI : (k : Int) < (M : Int) := by omega
    obtain ⟨J, hJ, hJ64⟩ : ∃ J : Nat, dn + k = J ∧ J < 64 := ⟨dn + k, rfl, by omega⟩; have hJi : (dn : Int) + (k : Int) = (J : Int) := by omega
    have hJw : IntKind.i64.wrap (J : Int) = (J : Int) := IntWalk.i64_in _ (by omega); have hJ0 : (0 : Int) ≤ (J : Int) := by omega
    have hJ6 : (J : Int) < 64 := by omega
    go_upto_region 41 with fail; refine rTu (S := MS w [(G, cur, 5), (P9, (rcC (DevM.rc d)), 28), (P8, #[(.func (.func 85) #[] #[])], 118), ((P1 + 3), zDev, 37), ((P1 + 2), #[.int .i64 x.fr, .int .i64 x.to_, .int .i64 x.n, .int .i64 x.of_, .slice xa xm xc], 39), ((P1 + 1), #[.int .i64 11, .int .i64 nn], 55), (P1, (dvC h d), 37)] [] []) [(0, false), (1, false), (2, false), (3, false), (4, false), (5, false), (7, false), (8, false), (9, false), (10, false), (6, true), (11, false), (12, true), (13, false), (14, true)] true 14 (by kernel_rfl) (by kernel_rfl) HS.out.ms.drew ?_; simp only [turned, gA, gB, gC]; replace HS := LH HS.out.drew
    have uP1_36 : ∀ W, MS w [(G, cur, 5), (P9, (rcC (DevM.rc d)), 28), (P8, #[(.func (.func 85) #[] #[])], 118), ((P1 + 3), zDev, 37), ((P1 + 2), #[.int .i64 x.fr, .int .i64 x.to_, .int .i64 x.n, .int .i64 x.of_, .slice xa xm xc], 39), ((P1 + 1), #[.int .i64 11, .int .i64 nn], 55), (P1, (dvC h d), 37)] [] [] W → W.cell? ⟨P1, 36, none⟩ = some (.int .i64 (dn : Int)) := fun W hW => by
     have := cAt (k := 36) (v := .int .i64 d.done) (hW.get 6 rfl) rfl
     rwa [HDn.out] at this
    repeat (first
     | (refine tSt ?_ (by rfl) (fun W9 hW9 => ?_) ?_
        rotate_left
        · (go_simp <;> with_reducible rfl)
        simp only [Act.put, sA, sB, sC])
     | (refine tSk (by rfl) ?_; simp only [Act.put, sA, sB, sC]))
    refine tCa (fun K hK => ?_); go_simp; go_at_call 65; with_reducible refine (HFil.out _ (HBS.out.later (bTn HBW.out (Below.refl _ _).drew))).mono ?_
    rintro e W4 ⟨F, rfl, hF, -, -, -, hb⟩; replace HS := LH (HS.out.later hb); have HBW2 := LH (bTn (bTn HBW.out (Below.refl _ _).drew) hb); have cF := cAt (k := J) hF (fillC_at HFl64.out hJ64); clear hF; clear hb
    try go_wp2_with fail
    refine hK.out _ _ HS.out.ms ?_; clear hK K
    try simp only [Act.put, sA, sB, sC]
    repeat (first
     | (refine tSt ?_ (by rfl) (fun W9 hW9 => ?_) ?_
        rotate_left
        · (go_simp <;> with_reducible rfl)
        simp only [Act.put, sA, sB, sC])
     | (refine tSk (by rfl) ?_; simp only [Act.put, sA, sB, sC]))
    refine tCa (fun K hK => ?_); go_simp; refine hK.out _ _ HS.out.ms ?_; clear hK K
    try simp only [Act.put, sA, sB, sC]
    repeat (first
     | (refine tSt ?_ (by rfl) (fun W9 hW9 => ?_) ?_
        rotate_left
        · (go_simp <;> with_reducible rfl)
        simp only [Act.put, sA, sB, sC])
     | (refine tSk (by rfl) ?_; simp only [Act.put, sA, sB, sC]))
    obtain ⟨v0, hv0⟩ : ∃ v, cur[J]? = some v := ⟨_, Array.getElem?_eq_getElem (by have := HCS.out; have := HGf.out.2.1; omega)⟩; have cG := cAt (k := J) (HS.out.get 0 rfl) hv0; have zG := tAt (k := J) (HS.out.get 0 rfl); simp only at cG zG; clear cF hv0; obtain ⟨yv, hyv⟩ : ∃ yv, (DevM.fill (DevM.new d))[J]?.getD 0 = yv := ⟨_, rfl⟩; rw [hyv]; have HYv := LH hyv; clear hyv; clear uP1_36; refine turn_last (fun K hK => ?_); go_simp; refine hK.out _ _ (NoPanic.normal ?_); clear hK K
    try simp only [Act.put]
    clear cG zG; go_wp2_with fail; go_roundw
    case rel =>
     repeat apply Exists.intro
     refine ⟨⟨k + 1, cur.setIfInBounds J (.int .u8 yv), by go_num, by omega, HS.out.cell 0 rfl (k := J) (v := .int .u8 yv) rfl, bel_cell (q := ⟨G, J, none⟩) HBW2.out HGf.out.1 _, by simpa using HCS.out, ?_⟩, rfl⟩; rw [row_set HCT.out, ← HYv.out, ← hJ, DevM.over_step HSl.out HFl64.out (by omega)]
    case measure => simp [intOf]; omega
  · obtain rfl : M = k := by omega
    have hkI : ¬ ((M : Nat) : Int) < (M : Int) := by omega
    go_upto_region 43 with fail; have cP9_1 := HS.out.cel 1 1 (v := .int .i64 (DevM.rc d).act) rfl rfl; have cP1_O := cAt (k := O) (HS.out.get 6 rfl) (zbQ h d O hO2); have fP1_O := tAt (k := O) (HS.out.get 6 rfl); simp only at cP1_O fP1_O; go_upto_region 44 with fail; clear hOw hO0 hOI hO; clear cP9_1 cP1_O fP1_O; refine gnH (HS.out.cell 6 rfl (put_slotV h d O hO2 (some ⟨G, 0, none⟩) 64 c5 (DevM.over (DevM.slot d (O : Int)) (DevM.new d) dn M))) (fun V7 HS1 => ?_); replace HS := LH HS1; clear HS1; have cP1_36 := cAt (k := 36) (v := .int .i64 d.done) (HS.out.get 6 rfl) (by rw [dev_at36, DevM.set_done]); simp only at cP1_36; rw [HDn.out] at cP1_36; have fP1_36 := HS.out.thw 6 36 rfl; have hdw : IntKind.i64.wrap ((dn : Int) + (M : Int)) = ((dn : Int) + (M : Int)) := IntWalk.i64_in _ (by omega); go_upto_region 45 with fail; clear hdw; clear cP1_36 fP1_36; refine gnH (HS.out.cell 6 rfl (zbe (h.setS O (some ⟨G, 0, none⟩) 64 c5) (DevM.setSlot d (O : Int) (DevM.over (DevM.slot d (O : Int)) (DevM.new d) dn M)) ((dn : Int) + (M : Int)))) (fun V8 HS1 => ?_); replace HS := LH HS1; clear HS1; have cP1p1_0 := HS.out.cel 5 0 (v := .int .i64 11) rfl rfl; have HWo := LH (fun W => zb3 (h.setS O (some ⟨G, 0, none⟩) 64 c5) ({ (DevM.setSlot d (O : Int) (DevM.over (DevM.slot d (O : Int)) (DevM.new d) dn M)) with done := ((dn : Int) + (M : Int)) } : DevR) W); unfold devV at HWo; have bP1 := HS.out.gt 6 rfl
    go_wp2_with (first
     | ((with_reducible show wpList _ _ _ _ _ _); refine wpList_load_row rfl 37 (.tmp 3) rfl P1 rfl 37 (dvC (h.setS O (some ⟨G, 0, none⟩) 64 c5) ({ (DevM.setSlot d (O : Int) (DevM.over (DevM.slot d (O : Int)) (DevM.new d) dn M)) with done := ((dn : Int) + (M : Int)) } : DevR)) (0, 0) _ ?_ U37 rfl ?_ ?_; exact bP1; exact (sDv (h.setS O (some ⟨G, 0, none⟩) 64 c5) ({ (DevM.setSlot d (O : Int) (DevM.over (DevM.slot d (O : Int)) (DevM.new d) dn M)) with done := ((dn : Int) + (M : Int)) } : DevR))))
    clear cP1p1_0 bP1; refine (HWo.out _).mono ?_; rintro e W4 ⟨rfl, hb⟩; replace HS := LH (HS.out.later hb); clear hb; have HS2 := LH (HS.out.set 6 rfl (dvC (offH (h.setS O (some ⟨G, 0, none⟩) 64 c5)) (DevM.off ({ (DevM.setSlot d (O : Int) (DevM.over (DevM.slot d (O : Int)) (DevM.new d) dn M)) with done := ((dn : Int) + (M : Int)) } : DevR)))); have bP1 := HS.out.gt 6 rfl; have bP1 := HS.out.gt 6 rfl
    go_upto_region 47 with (first
     | ((with_reducible show wpList _ _ _ _ _ _); refine wpList_store_row rfl 37 (.tmp 3) (.tmp 223) rfl P1 (dvC (offH (h.setS O (some ⟨G, 0, none⟩) 64 c5)) (DevM.off ({ (DevM.setSlot d (O : Int) (DevM.over (DevM.slot d (O : Int)) (DevM.new d) dn M)) with done := ((dn : Int) + (M : Int)) } : DevR))) rfl rfl 37 (dvC (h.setS O (some ⟨G, 0, none⟩) 64 c5) ({ (DevM.setSlot d (O : Int) (DevM.over (DevM.slot d (O : Int)) (DevM.new d) dn M)) with done := ((dn : Int) + (M : Int)) } : DevR)) ?_ ?_ ?_ ?_ ?_; exact bP1; exact (sDv (offH (h.setS O (some ⟨G, 0, none⟩) 64 c5)) (DevM.off ({ (DevM.setSlot d (O : Int) (DevM.over (DevM.slot d (O : Int)) (DevM.new d) dn M)) with done := ((dn : Int) + (M : Int)) } : DevR))); exact (lDv _ _ _ _); exact (oDv (offH (h.setS O (some ⟨G, 0, none⟩) 64 c5)) (DevM.off ({ (DevM.setSlot d (O : Int) (DevM.over (DevM.slot d (O : Int)) (DevM.new d) dn M)) with done := ((dn : Int) + (M : Int)) } : DevR)))))
    clear bP1; refine gnH HS2.out (fun V9 HS1 => ?_); replace HS := LH HS1; clear HS1 HS2
    have HRw : Hid (DevM.write d true nn = ((DevM.off ({ (DevM.setSlot d (O : Int) (DevM.over (DevM.slot d (O : Int)) (DevM.new d) dn M)) with done := ((dn : Int) + (M : Int)) } : DevR)), 0)) := by
     show _ = _; rw [HRl.out]; rw [HOd.out, HDn.out, Int.toNat_natCast, HM.out, Int.toNat_natCast]
     try rfl
    have bP1 := HS.out.gt 6 rfl; have HG := LH (HS.out.set 3 rfl (dvC (offH (h.setS O (some ⟨G, 0, none⟩) 64 c5)) (DevM.off ({ (DevM.setSlot d (O : Int) (DevM.over (DevM.slot d (O : Int)) (DevM.new d) dn M)) with done := ((dn : Int) + (M : Int)) } : DevR)))); have bP1p3 := HS.out.gt 3 rfl
    go_wp2_with (first
     | ((with_reducible show wpList _ _ _ _ _ _); refine wpList_load_row rfl 37 (.tmp 3) rfl P1 rfl 37 (dvC (offH (h.setS O (some ⟨G, 0, none⟩) 64 c5)) (DevM.off ({ (DevM.setSlot d (O : Int) (DevM.over (DevM.slot d (O : Int)) (DevM.new d) dn M)) with done := ((dn : Int) + (M : Int)) } : DevR))) (0, 0) _ ?_ U37 rfl ?_ ?_; exact bP1; exact (sDv (offH (h.setS O (some ⟨G, 0, none⟩) 64 c5)) (DevM.off ({ (DevM.setSlot d (O : Int) (DevM.over (DevM.slot d (O : Int)) (DevM.new d) dn M)) with done := ((dn : Int) + (M : Int)) } : DevR))))
     | ((with_reducible show wpList _ _ _ _ _ _); refine wpList_store_row rfl 37 (.tmp 6) (.tmp 224) rfl (P1 + 3) (dvC (offH (h.setS O (some ⟨G, 0, none⟩) 64 c5)) (DevM.off ({ (DevM.setSlot d (O : Int) (DevM.over (DevM.slot d (O : Int)) (DevM.new d) dn M)) with done := ((dn : Int) + (M : Int)) } : DevR))) rfl rfl 37 zDev ?_ ?_ ?_ ?_ ?_; exact bP1p3; exact (sDv (offH (h.setS O (some ⟨G, 0, none⟩) 64 c5)) (DevM.off ({ (DevM.setSlot d (O : Int) (DevM.over (DevM.slot d (O : Int)) (DevM.new d) dn M)) with done := ((dn : Int) + (M : Int)) } : DevR))); exact (zat _ _); exact (oDv (offH (h.setS O (some ⟨G, 0, none⟩) 64 c5)) (DevM.off ({ (DevM.setSlot d (O : Int) (DevM.over (DevM.slot d (O : Int)) (DevM.new d) dn M)) with done := ((dn : Int) + (M : Int)) } : DevR)))))
    clear bP1 bP1p3; refine bodyPost_ret (v := .tuple #[.agg (dvC (offH (h.setS O (some ⟨G, 0, none⟩) 64 c5)) (DevM.off ({ (DevM.setSlot d (O : Int) (DevM.over (DevM.slot d (O : Int)) (DevM.new d) dn M)) with done := ((dn : Int) + (M : Int)) } : DevR))), .int .i64 0]) ?_ rfl ?_
    · exact zam (fn := Tryz.f26) (p := 6) (a := 7) rfl rfl rfl (HG.out.get 3 rfl) U37 rfl (sDv _ _)
    · rw [HRw.out]
      have hgG := HG.out.gt 0 rfl; refine ⟨(offH (h.setS O (some ⟨G, 0, none⟩) 64 c5)), rfl, HG.out.below, fun V v1 v2 hV => ?_⟩; have k0 := HD0.out.later hV; have hwG : w.heap.size ≤ G := HG.out.ms.base (G, cur, 5) List.mem_cons_self; have hov : ((DevM.over (DevM.slot d (O : Int)) (DevM.new d) dn M)).length = 64 := DevM.over_len HSl.out HNl.out (by omega); have hbG := row_bs (W := V) ((v2 G hwG (bLQ hgG)).trans hgG) hov HCT.out HGf.out.2.1 HGf.out.2.2 (over_bytes HSb.out HNb.out); have kS := setS_dh O hO2 k0 hbG; exact ⟨kS.b0, kS.b1, CS.nil_ _, OS.nil_ _, kS.copsW, zaS, zbv, zaS⟩
theorem saysD_walk (h : DevH) (d : DevR) (x : ChR) (xa : Option Addr) (xm xc : Nat) (kind nn : Int) (ba : Option Addr) (bn bc : Nat) (bl : List Int) (hg : DevH) (g : DevR) (w : World) (HD : DH w h d) (HX : CV w (.agg #[.int .i64 x.fr, .int .i64 x.to_, .int .i64 x.n, .int .i64 x.of_, .slice xa xm xc]) x) (HB : BS w ba bn bc bl) (HG : DH w hg g) (hM : MaxCell w)  : Calls Tryz.prog 3 #[devV h d, .agg #[.int .i64 x.fr, .int .i64 x.to_, .int .i64 x.n, .int .i64 x.of_, .slice xa xm xc], .int .i64 kind, .int .i64 nn, .slice ba bn bc, devV hg g] w fun e w' => e = .returned (.bool true) ∧ Below w.heap.size w w' := by
 have HIn := LH (fun W hm => installed_any W hm); have HMx := LH hM; have HDh := LH HD; have HGh := LH HG; have HXh := LH HX; have HBh := LH HB; obtain ⟨E0, hE0⟩ : ∃ E, DevM.check d = E := ⟨_, rfl⟩
 have HCk : Hid (∀ W, DH W h d → Calls Tryz.prog 14 #[.agg (dvC h d)] W fun e w' => e = .returned (.int .i64 E0) ∧ Below W.heap.size W w') := fun W hd => by
  have := ckD h d W hd
  rwa [hE0] at this
 have HCr : Hid (∀ W, DH W h d → Calls Tryz.prog 12 #[.agg (dvC h d)] W fun e w' => e = .returned (.int .i64 E0) ∧ Below W.heap.size W w') := fun W hd => by
  have := checkDev_any h d W hd
  rwa [hE0] at this
 have HE0 := LH hE0; obtain ⟨q, hq⟩ : ∃ q, decide (d = g) = q := ⟨_, rfl⟩
 have HSm : Hid (∀ W, DH W h d → DH W hg g → Calls Tryz.prog 15 #[.agg (dvC h d), .agg (dvC hg g)] W fun e w' => e = .returned (.bool q) ∧ Below W.heap.size W w') := fun W a b => by
  have := sameD_any h hg d g W a b
  rwa [hq] at this
 have HSr : Hid (∀ W, DH W h d → DH W hg g → Calls Tryz.prog 16 #[.agg (dvC h d), .agg (dvC hg g)] W fun e w' => e = .returned (.bool q) ∧ Below W.heap.size W w') := fun W a b => by
  have := za9 h hg d g W a b
  rwa [hq] at this
 obtain ⟨⟨X, EX⟩, hX⟩ : ∃ y, DevM.newOf bl = y := ⟨_, rfl⟩
 have HNw : Hid (∀ W, BS W ba bn bc bl → Calls Tryz.prog 11 #[.slice ba bn bc] W fun e w' => ∃ hx, e = .returned (.tuple #[.agg (dvC hx X), .int .i64 EX]) ∧ Below W.heap.size W w' ∧ NewR W.heap.size w' (fun V => DH V hx X)) := fun W hb => by
  have := newD_any ba bn bc bl W hb; rw [hX] at this; exact this
 have HXX := LH hX; have HLb := LH HB.len; obtain ⟨jn, hjn, hj9⟩ : ∃ jn : Nat, kind % 9 = (jn : Int) ∧ jn < 9 := ⟨(kind % 9).toNat, by omega, by omega⟩
 have HAt : Hid (∀ W, Calls Tryz.prog 18 #[.int .i64 kind, .int .i64 9] W fun e w' => e = .returned (.int .i64 (jn : Int)) ∧ W = w') := fun W => by
  have := at_any kind 9 W (by omega) (by omega); rw [hjn] at this; exact this
 have hj0 : (0 : Int) ≤ (jn : Int) := by omega
 have hj1 : (jn : Int) < 9 := by omega
 have HJ9 := LH hj9; clear hM HD HG HX HB hE0 hq hX hjn; unfold devV; obtain ⟨P1, hP1⟩ : ∃ P, w.heap.size = P := ⟨_, rfl⟩; have HS := LH (((((((MS.start w).alloc (p := P1) (by simp [hP1]) (dvC h d) 37)).alloc (p := (P1 + 1)) (by simp [hP1]) #[.int .i64 x.fr, .int .i64 x.to_, .int .i64 x.n, .int .i64 x.of_, .slice xa xm xc] 39)).alloc (p := (P1 + 2)) (by simp [hP1]) (dvC hg g) 37)); go_enter Tryz.func3, Tryz.ntmps3; go_upto_region 1 with fail; refine zau HS.out (fun V0 HS1 => ?_); replace HS := LH HS1; clear HS1 hP1; replace HS := LH (MH.of HS.out); go_wp2_with fail; refine (HNw.out _ (HBh.out.later HS.out.below)).mono ?_; rintro e W1 ⟨hx, rfl, hb, hn⟩; obtain ⟨lo1, hi1, hS9⟩ := HS.out.gainE hb hn; replace HS := LH hS9; clear hb hn hS9; clear HNw; obtain ⟨P13, hP13⟩ : ∃ P, W1.heap.size = P := ⟨_, rfl⟩; replace HS := LH (HS.out.alloc hP13 (dvC hx X) 37); go_upto_region 2 with ((with_reducible show wpList _ _ _ _ _ _); refine wSN rfl 37 (.tmp 13) (.tmp 23) rfl P13 (dvC hx X) rfl rfl 37 _ ?_ ?_ ?_ ?_ ?_; exact hP13.symm; exact (sDv hx X); exact (zat hx X); exact (oDv hx X)); refine gnH HS.out (fun V2 HS1 => ?_); replace HS := LH HS1; clear HS1 hP13; have bP1 := HS.out.gt 3 rfl
 go_wp2_with (first
  | ((with_reducible show wpList _ _ _ _ _ _); refine LR rfl (t := 37) U37 rfl (.tmp 6) rfl P1 rfl bP1 (sDv h d) ?_))
 clear bP1; refine (HCr.out _ (HDh.out.later HS.out.below)).mono ?_; rintro e W2 ⟨rfl, hb⟩; replace HS := LH (HS.out.later hb); clear hb; clear HCr; go_upto_region 3 with fail; refine rTu (S := MS w [(P13, (dvC hx X), 37), ((P1 + 2), (dvC hg g), 37), ((P1 + 1), #[.int .i64 x.fr, .int .i64 x.to_, .int .i64 x.n, .int .i64 x.of_, .slice xa xm xc], 39), (P1, (dvC h d), 37)] [] []) [(0, true), (1, false), (2, false), (3, false), (5, false), (4, true), (6, false), (7, false), (8, false), (9, false), (10, false), (12, false), (13, false), (11, true), (14, true), (15, false), (16, false)] false 9999 (by kernel_rfl) (by kernel_rfl) HS.out.ms.drew ?_; simp only [turned, gA, gB, gC]; replace HS := LH HS.out.drew; refine tCa (fun K hK => ?_); rw [if_pos (by first | exact zaa rfl | exact zab rfl rfl)]; go_simp; go_at_call 13; with_reducible refine (HIn.out _ (HMx.out.later HS.out.below)).mono ?_
 rintro e W3 ⟨rfl, hb⟩; replace HS := LH (HS.out.later hb); clear hb
 try go_wp2_with fail
 refine hK.out _ _ HS.out.ms ?_; clear hK K
 try simp only [Act.put, sA, sB, sC]
 repeat (first
  | ((refine zaw (by first | exact zaa rfl | exact zab rfl rfl) 37 (.tmp 6) rfl P1 rfl 37 (dvC h d) _ (fun W hW => hW.get 3 rfl) U37 rfl (sDv h d) ?_); simp only [Act.put, sA, sB, sC])
  | ((refine zaw (by first | exact zaa rfl | exact zab rfl rfl) 37 (.tmp 11) rfl (P1 + 2) rfl 37 (dvC hg g) _ (fun W hW => hW.get 1 rfl) U37 rfl (sDv hg g) ?_); simp only [Act.put, sA, sB, sC])
  | (refine tSt ?_ (by rfl) (fun W9 hW9 => ?_) ?_
     rotate_left
     · (go_simp <;> with_reducible rfl)
     simp only [Act.put, sA, sB, sC])
  | (refine tSk (by rfl) ?_; simp only [Act.put, sA, sB, sC]))
 refine tCa (fun K hK => ?_); rw [if_pos (by first | exact zaa rfl | exact zab rfl rfl)]; go_simp; go_at_call 14; with_reducible refine (HCk.out _ (HDh.out.later HS.out.below)).mono ?_
 rintro e W4 ⟨rfl, hb⟩; replace HS := LH (HS.out.later hb); clear hb
 try go_wp2_with fail
 refine hK.out _ _ HS.out.ms ?_; clear hK K
 try simp only [Act.put, sA, sB, sC]
 repeat (first
  | ((refine zaw (by first | exact zaa rfl | exact zab rfl rfl) 37 (.tmp 6) rfl P1 rfl 37 (dvC h d) _ (fun W hW => hW.get 3 rfl) U37 rfl (sDv h d) ?_); simp only [Act.put, sA, sB, sC])
  | ((refine zaw (by first | exact zaa rfl | exact zab rfl rfl) 37 (.tmp 11) rfl (P1 + 2) rfl 37 (dvC hg g) _ (fun W hW => hW.get 1 rfl) U37 rfl (sDv hg g) ?_); simp only [Act.put, sA, sB, sC])
  | (refine tSt ?_ (by rfl) (fun W9 hW9 => ?_) ?_
     rotate_left
     · (go_simp <;> with_reducible rfl)
     simp only [Act.put, sA, sB, sC])
  | (refine tSk (by rfl) ?_; simp only [Act.put, sA, sB, sC]))
 refine tCa (fun K hK => ?_); rw [if_pos (by first | exact zaa rfl | exact zab rfl rfl)]; go_simp; go_at_call 15; with_reducible refine (HSm.out _ (HDh.out.later HS.out.below) (HGh.out.later HS.out.below)).mono ?_
 rintro e W5 ⟨rfl, hb⟩; replace HS := LH (HS.out.later hb); clear hb
 try go_wp2_with fail
 refine hK.out _ _ HS.out.ms ?_; clear hK K
 try simp only [Act.put, sA, sB, sC]
 repeat (first
  | ((refine zaw (by first | exact zaa rfl | exact zab rfl rfl) 37 (.tmp 6) rfl P1 rfl 37 (dvC h d) _ (fun W hW => hW.get 3 rfl) U37 rfl (sDv h d) ?_); simp only [Act.put, sA, sB, sC])
  | ((refine zaw (by first | exact zaa rfl | exact zab rfl rfl) 37 (.tmp 11) rfl (P1 + 2) rfl 37 (dvC hg g) _ (fun W hW => hW.get 1 rfl) U37 rfl (sDv hg g) ?_); simp only [Act.put, sA, sB, sC])
  | (refine tSt ?_ (by rfl) (fun W9 hW9 => ?_) ?_
     rotate_left
     · (go_simp <;> with_reducible rfl)
     simp only [Act.put, sA, sB, sC])
  | (refine tSk (by rfl) ?_; simp only [Act.put, sA, sB, sC]))
 refine tCa (fun K hK => ?_); rw [if_pos (by first | exact zaa rfl | exact zab rfl rfl)]; go_simp; go_at_call 16; with_reducible refine (HSr.out _ (HDh.out.later HS.out.below) (HGh.out.later HS.out.below)).mono ?_
 rintro e W6 ⟨rfl, hb⟩; replace HS := LH (HS.out.later hb); clear hb
 try go_wp2_with fail
 refine hK.out _ _ HS.out.ms ?_; clear hK K
 try simp only [Act.put, sA, sB, sC]
 repeat (first
  | ((refine zaw (by first | exact zaa rfl | exact zab rfl rfl) 37 (.tmp 6) rfl P1 rfl 37 (dvC h d) _ (fun W hW => hW.get 3 rfl) U37 rfl (sDv h d) ?_); simp only [Act.put, sA, sB, sC])
  | ((refine zaw (by first | exact zaa rfl | exact zab rfl rfl) 37 (.tmp 11) rfl (P1 + 2) rfl 37 (dvC hg g) _ (fun W hW => hW.get 1 rfl) U37 rfl (sDv hg g) ?_); simp only [Act.put, sA, sB, sC])
  | (refine tSt ?_ (by rfl) (fun W9 hW9 => ?_) ?_
     rotate_left
     · (go_simp <;> with_reducible rfl)
     simp only [Act.put, sA, sB, sC])
  | (refine tSk (by rfl) ?_; simp only [Act.put, sA, sB, sC]))
 refine tEn ?_; clear HIn HMx HCk HSm HSr; go_upto_region 5 with fail; go_cut [72] (fun s72 wx => s72 = .bool false ∧ MH w [(P13, (dvC hx X), 37), ((P1 + 2), (dvC hg g), 37), ((P1 + 1), #[.int .i64 x.fr, .int .i64 x.to_, .int .i64 x.n, .int .i64 x.of_, .slice xa xm xc], 39), (P1, (dvC h d), 37)] [(lo1, hi1, fun V => DH V hx X)] wx)
 case first =>
  have hlb := HLb.out; rcases new_cases bl with ⟨hl, hz⟩ | ⟨hl, hz⟩
  · rw [HXX.out] at hz
    simp only [Prod.mk.injEq] at hz; obtain ⟨rfl, rfl⟩ := hz; have t1 : decide ((bn : Int) > 64) = true := by simp; omega
    have t2 : decide ((bn : Int) ≤ 64) = false := by simp; omega
    have HSz : Hid (∀ W, DH W hx DevM.noDev → Calls Tryz.prog 16 #[.agg (dvC hx DevM.noDev), .agg zDev] W fun e w' => e = .returned (.bool true) ∧ Below W.heap.size W w') := fun W a => by
     have := za9 hx noH DevM.noDev DevM.noDev W a (DH.none_ W); rw [decide_eq_true rfl, zaK] at this; exact this
    unfold zDev at HSz; clear hl hlb; refine rTu (S := MS w [(P13, (dvC hx DevM.noDev), 37), ((P1 + 2), (dvC hg g), 37), ((P1 + 1), #[.int .i64 x.fr, .int .i64 x.to_, .int .i64 x.n, .int .i64 x.of_, .slice xa xm xc], 39), (P1, (dvC h d), 37)] [] []) [(0, false), (1, false), (2, false), (3, false), (4, false), (5, false), (6, false), (7, false), (8, false), (9, true), (10, false), (11, false), (12, false), (13, false), (14, false), (15, false), (16, false), (17, false), (18, false), (19, false), (20, false), (21, false), (22, false), (23, true), (24, true), (25, false), (26, false), (27, false), (28, false)] false 9999 (by kernel_rfl) (by kernel_rfl) HS.out.ms.drew ?_; simp only [turned, gA, gB, gC]; replace HS := LH HS.out.drew
    repeat (first
     | ((refine zaw (by first | exact zaa rfl | exact zab rfl rfl) 37 (.tmp 13) rfl P13 rfl 37 (dvC hx DevM.noDev) _ (fun W hW => hW.get 0 rfl) U37 rfl (sDv hx DevM.noDev) ?_); simp only [Act.put, sA, sB, sC])
     | (refine tSt ?_ (by rfl) (fun W9 hW9 => ?_) ?_
        rotate_left
        · (go_simp <;> with_reducible rfl)
        simp only [Act.put, sA, sB, sC])
     | (refine tSk (by rfl) ?_; simp only [Act.put, sA, sB, sC]))
    refine tCa (fun K hK => ?_); rw [if_pos (by first | exact zaa rfl | exact zab rfl rfl)]; go_simp; go_at_call 16; with_reducible refine (HSz.out _ (HS.out.fact 0 rfl)).mono ?_
    rintro e W7 ⟨rfl, hb⟩; replace HS := LH (HS.out.later hb); clear hb
    try go_wp2_with fail
    refine hK.out _ _ HS.out.ms ?_; clear hK K
    try simp only [Act.put, sA, sB, sC]
    repeat (first
     | ((refine zaw (by first | exact zaa rfl | exact zab rfl rfl) 37 (.tmp 13) rfl P13 rfl 37 (dvC hx DevM.noDev) _ (fun W hW => hW.get 0 rfl) U37 rfl (sDv hx DevM.noDev) ?_); simp only [Act.put, sA, sB, sC])
     | (refine tSt ?_ (by rfl) (fun W9 hW9 => ?_) ?_
        rotate_left
        · (go_simp <;> with_reducible rfl)
        simp only [Act.put, sA, sB, sC])
     | (refine tSk (by rfl) ?_; simp only [Act.put, sA, sB, sC]))
    refine zb4 (by first | exact zaf rfl rfl rfl | exact zad rfl rfl) HS.out.ms ?_
    try simp only [Act.put, sA, sB, sC]
    refine zb4 (by first | exact zaf rfl rfl rfl | exact zad rfl rfl) HS.out.ms ?_
    try simp only [Act.put, sA, sB, sC]
    repeat (first
     | ((refine zaw (by first | exact zaa rfl | exact zab rfl rfl) 37 (.tmp 13) rfl P13 rfl 37 (dvC hx DevM.noDev) _ (fun W hW => hW.get 0 rfl) U37 rfl (sDv hx DevM.noDev) ?_); simp only [Act.put, sA, sB, sC])
     | (refine tSt ?_ (by rfl) (fun W9 hW9 => ?_) ?_
        rotate_left
        · (go_simp <;> with_reducible rfl)
        simp only [Act.put, sA, sB, sC])
     | (refine tSk (by rfl) ?_; simp only [Act.put, sA, sB, sC]))
    refine tEn ?_; go_wp2_with fail; go_meet; exact ⟨rfl, HS.out⟩
  · rw [HXX.out] at hz
    simp only at hz; subst hz
    have hXe : X = (⟨DevM.fill bl, DevM.fill [], ⟨⟨true, (⟨1, 0, false, 0, 1, (⟨1, bn, SumM.addL 1 bl⟩ : InfR), RecM.noInf⟩ : RecR)⟩, RecM.noCop⟩, true, 0, [], false, zap, 0⟩ : DevR) := by
     have h9 := HXX.out; unfold DevM.newOf at h9; rw [if_neg (by omega), hlb] at h9; exact (congrArg Prod.fst h9).symm
    have t1 : decide ((bn : Int) > 64) = false := by simp; omega
    have t2 : decide ((bn : Int) ≤ 64) = true := by simp; omega
    have HFr := LH (fun W (hb : BS W ba bn bc bl) => freshD_any ba bn bc bl W hb (by omega)); rw [← hXe] at HFr
    have HSz : Hid (∀ hf W, DH W hx X → DH W hf X → Calls Tryz.prog 16 #[.agg (dvC hx X), .agg (dvC hf X)] W fun e w' => e = .returned (.bool true) ∧ Below W.heap.size W w') := fun hf W a b => by
     have := za9 hx hf X X W a b; rw [decide_eq_true rfl] at this; exact this
    clear hl hlb hXe; refine rTu (S := MS w [(P13, (dvC hx X), 37), ((P1 + 2), (dvC hg g), 37), ((P1 + 1), #[.int .i64 x.fr, .int .i64 x.to_, .int .i64 x.n, .int .i64 x.of_, .slice xa xm xc], 39), (P1, (dvC h d), 37)] [] []) [(0, false), (1, false), (2, false), (3, false), (4, false), (5, false), (6, false), (7, false), (8, false), (9, true), (10, false), (11, false), (12, false), (13, false), (14, false), (15, false), (16, false), (17, false), (18, false), (19, false), (20, false), (21, false), (22, false), (23, true), (24, true), (25, false), (26, false), (27, false), (28, false)] false 9999 (by kernel_rfl) (by kernel_rfl) HS.out.ms.drew ?_; simp only [turned, gA, gB, gC]; replace HS := LH HS.out.drew
    repeat (first
     | ((refine zaw (by first | exact zaa rfl | exact zab rfl rfl) 37 (.tmp 13) rfl P13 rfl 37 (dvC hx X) _ (fun W hW => hW.get 0 rfl) U37 rfl (sDv hx X) ?_); simp only [Act.put, sA, sB, sC])
     | (refine tSt ?_ (by rfl) (fun W9 hW9 => ?_) ?_
        rotate_left
        · (go_simp <;> with_reducible rfl)
        simp only [Act.put, sA, sB, sC])
     | (refine tSk (by rfl) ?_; simp only [Act.put, sA, sB, sC]))
    refine zb4 (by first | exact zaf rfl rfl rfl | exact zad rfl rfl) HS.out.ms ?_
    try simp only [Act.put, sA, sB, sC]
    repeat (first
     | ((refine zaw (by first | exact zaa rfl | exact zab rfl rfl) 37 (.tmp 13) rfl P13 rfl 37 (dvC hx X) _ (fun W hW => hW.get 0 rfl) U37 rfl (sDv hx X) ?_); simp only [Act.put, sA, sB, sC])
     | (refine tSt ?_ (by rfl) (fun W9 hW9 => ?_) ?_
        rotate_left
        · (go_simp <;> with_reducible rfl)
        simp only [Act.put, sA, sB, sC])
     | (refine tSk (by rfl) ?_; simp only [Act.put, sA, sB, sC]))
    refine tCa (fun K hK => ?_); rw [if_pos (by first | exact zaa rfl | exact zab rfl rfl)]; go_simp; go_at_call 17; with_reducible refine (HFr.out _ (HBh.out.later HS.out.below)).mono ?_
    rintro e W7 ⟨hf, rfl, hb, hn⟩; have hFf := hn.here; replace HS := LH (HS.out.later hb); have HFf := LH hFf; clear hb hn hFf
    try go_wp2_with fail
    refine hK.out _ _ HS.out.ms ?_; clear hK K
    try simp only [Act.put, sA, sB, sC]
    unfold devV; refine tCa (fun K hK => ?_); rw [if_pos (by first | exact zaa rfl | exact zab rfl rfl)]; go_simp; go_at_call 16; with_reducible refine (HSz.out hf _ (HS.out.fact 0 rfl) HFf.out).mono ?_
    rintro e W8 ⟨rfl, hb⟩; replace HS := LH (HS.out.later hb); clear hb
    try go_wp2_with fail
    refine hK.out _ _ HS.out.ms ?_; clear hK K
    try simp only [Act.put, sA, sB, sC]
    repeat (first
     | ((refine zaw (by first | exact zaa rfl | exact zab rfl rfl) 37 (.tmp 13) rfl P13 rfl 37 (dvC hx X) _ (fun W hW => hW.get 0 rfl) U37 rfl (sDv hx X) ?_); simp only [Act.put, sA, sB, sC])
     | (refine tSt ?_ (by rfl) (fun W9 hW9 => ?_) ?_
        rotate_left
        · (go_simp <;> with_reducible rfl)
        simp only [Act.put, sA, sB, sC])
     | (refine tSk (by rfl) ?_; simp only [Act.put, sA, sB, sC]))
    refine tEn ?_; go_wp2_with fail; go_meet; exact ⟨rfl, HS.out⟩
 case' rest =>
  obtain ⟨rfl, hs⟩ := hcut; replace HS := LH hs; clear hs HXX HLb HBh
 go_upto_region 7 with fail; obtain ⟨P73, hP73⟩ : ∃ P, wc.heap.size = P := ⟨_, rfl⟩; replace HS := LH (HS.out.alloc hP73 #[.int .i64 2, .int .i64 5, .int .i64 6, .int .i64 7, .int .i64 8, .int .i64 9, .int .i64 10, .int .i64 11, .int .i64 12] 3); refine zaj ?_; refine zar (fun K hK => ?_); go_simp; refine hK.out _ _ ?_; clear hK K
 try simp only [Act.put, sA, sB, sC]
 refine zaF HS.out (fun V7 HS1 => ?_); replace HS := LH HS1; clear HS1 hP73
 repeat (first
  | (refine zag (by first | exact zaf rfl rfl rfl | exact zad rfl rfl) ?_; simp only [Act.put, sA, sB, sC])
  | (refine zae ?_ ?_ ?_ ?_
     rotate_left
     · first | exact zaa rfl | exact zab rfl rfl
     · (go_simp <;> with_reducible rfl)
     simp only [Act.put, sA, sB, sC]))
 refine zar (fun K hK => ?_); rw [if_pos (by first | exact zaa rfl | exact zab rfl rfl)]; go_simp; go_at_call 18; with_reducible refine (HAt.out _).mono ?_
 rintro e W7 ⟨rfl, rfl⟩; skip; clear HAt
 try go_wp2_with fail
 refine hK.out _ _ ?_; clear hK K
 try simp only [Act.put, sA, sB, sC]
 obtain ⟨K, hK⟩ : ∃ K, sayK jn = K := ⟨_, rfl⟩; have cP73 := cAt (k := jn) (HS.out.get 0 rfl) (sayK_at jn hj9); simp only at cP73; rw [hK] at cP73; have HKK := LH hK; clear hK
 repeat (first
  | (refine zag (by first | exact zaf rfl rfl rfl | exact zad rfl rfl) ?_; simp only [Act.put, sA, sB, sC])
  | (refine zae ?_ ?_ ?_ ?_
     rotate_left
     · first | exact zaa rfl | exact zab rfl rfl
     · (go_simp <;> with_reducible rfl)
     simp only [Act.put, sA, sB, sC]))
 clear cP73; refine zal ?_; clear hj0 hj1 hj9; obtain ⟨P16, hP16⟩ : ∃ P, V7.heap.size = P := ⟨_, rfl⟩; replace HS := LH (HS.out.alloc hP16 zDev 37); go_upto_region 10 with fail; refine gnH HS.out (fun V8 HS1 => ?_); replace HS := LH HS1; clear HS1 hP16; go_upto_block 0 with fail; go_cut [17] (fun s17 wx => SayCut w h d x xa xm xc nn K E0 P16 [(P73, #[.int .i64 2, .int .i64 5, .int .i64 6, .int .i64 7, .int .i64 8, .int .i64 9, .int .i64 10, .int .i64 11, .int .i64 12], 3), (P13, (dvC hx X), 37), ((P1 + 2), (dvC hg g), 37), ((P1 + 1), #[.int .i64 x.fr, .int .i64 x.to_, .int .i64 x.n, .int .i64 x.of_, .slice xa xm xc], 39), (P1, (dvC h d), 37)] [(lo1, hi1, fun V => DH V hx X)] s17 wx)
 case first =>
  rcases (show jn = 0 ∨ jn = 1 ∨ jn = 2 ∨ jn = 3 ∨ jn = 4 ∨ jn = 5 ∨ jn = 6 ∨ jn = 7 ∨ jn = 8 from by have := HJ9.out; omega) with rfl | rfl | rfl | rfl | rfl | rfl | rfl | rfl | rfl
  · have hK : K = 2 := HKK.out.symm
    subst hK; clear HKK HJ9; obtain ⟨⟨Y, F⟩, hY⟩ : ∃ y, DevM.told d true (DevM.hear d x) = y := ⟨_, rfl⟩
    have HPr : Hid (∀ W, Below w.heap.size w W → DH W h d → Calls Tryz.prog 19 #[.agg (dvC h d), .agg #[.int .i64 x.fr, .int .i64 x.to_, .int .i64 x.n, .int .i64 x.of_, .slice xa xm xc]] W fun e w' => ∃ hy, e = .returned (.tuple #[.agg (dvC hy Y), .int .i64 F]) ∧ Below W.heap.size W w' ∧ NewR W.heap.size w' (fun V => DH V hy Y)) := fun W hW hd => by
     have _hW := hW; have := hearD_any h d x xa xm xc W hd (HXh.out.later hW); rw [hY] at this; exact this
    have HAc : Hid (E0 = 0 → ∀ W, Below w.heap.size w W → Calls Tryz.prog 26 #[.agg (dvC h d), .agg #[.int .i64 2, .int .i64 nn], .agg #[.int .i64 x.fr, .int .i64 x.to_, .int .i64 x.n, .int .i64 x.of_, .slice xa xm xc]] W (zbL w Y F W)) := fun h0 W hW => by
     have hok := DevM.ok_iff.1 (HE0.out.trans h0); have hY' := hY; unfold DevM.told DevM.wrong at hY'; rw [if_neg (fun q => q (HE0.out.trans h0))] at hY'; by_cases hu : d.up = true
     · rw [if_pos hu] at hY'
       have this := (acts_hear w h d nn x xa xm xc W hW HDh.out HXh.out hok hu); rw [hY'] at this; exact this
     · rw [if_neg hu] at hY'
       have := zbl w h d nn x xa xm xc W hW HDh.out 2 (by
        cases q2 : d.up with
        | true => first | (exact absurd q2 hu) | decide
        | false => first | (exact absurd q2 hu) | decide)
       rw [hY'] at this; exact this
    have HNo : Hid (E0 ≠ 0 → Y = DevM.noDev ∧ F = E0) := fun h0 => by
     have hY' := hY; unfold DevM.told DevM.wrong at hY'; rw [HE0.out, if_pos h0] at hY'; simp only [Prod.mk.injEq] at hY'; exact ⟨hY'.1.symm, hY'.2.symm⟩
    clear hY; have bP1 := HS.out.gt 5 rfl; have bP1p1 := HS.out.gt 4 rfl
    go_wp2_with (first
     | ((with_reducible show wpList _ _ _ _ _ _); refine LR rfl (t := 37) U37 rfl (.tmp 6) rfl P1 rfl bP1 (sDv h d) ?_)
     | ((with_reducible show wpList _ _ _ _ _ _); refine LR rfl (t := 39) U39 rfl (.tmp 7) rfl (P1 + 1) rfl bP1p1 (by kernel_rfl) ?_))
    clear bP1 bP1p1; refine (HPr.out _ HS.out.below (HDh.out.later HS.out.below)).mono ?_; rintro e W8 ⟨hy, rfl, hb, hn⟩; obtain ⟨lo2, hi2, hS9⟩ := HS.out.gainE hb hn; replace HS := LH hS9; clear hb hn hS9; clear HPr; have HS2 := LH (HS.out.set 0 rfl (dvC hy Y)); have bP16 := HS.out.gt 0 rfl
    go_wp2_with (first
     | ((with_reducible show wpList _ _ _ _ _ _); refine wpList_store_row rfl 37 (.tmp 16) (.tmp 85) rfl P16 (dvC hy Y) rfl rfl 37 zDev ?_ ?_ ?_ ?_ ?_; exact bP16; exact (sDv hy Y); exact (zat hy Y); exact (oDv hy Y)))
    clear bP16; go_meet; exact ⟨hy, Y, F, lo2, hi2, rfl, HS2.out, HAc.out, HNo.out⟩
  · have hK : K = 5 := HKK.out.symm
    subst hK; clear HKK HJ9; obtain ⟨⟨Y, F⟩, hY⟩ : ∃ y, DevM.told d true (DevM.open_ d) = y := ⟨_, rfl⟩
    have HPr : Hid (∀ W, Below w.heap.size w W → DH W h d → Calls Tryz.prog 20 #[.agg (dvC h d)] W fun e w' => ∃ hy, e = .returned (.tuple #[.agg (dvC hy Y), .int .i64 F]) ∧ Below W.heap.size W w' ∧ NewR W.heap.size w' (fun V => DH V hy Y)) := fun W hW hd => by
     have _hW := hW; have := openD_any h d W hd; rw [hY] at this; exact this
    have HAc : Hid (E0 = 0 → ∀ W, Below w.heap.size w W → Calls Tryz.prog 26 #[.agg (dvC h d), .agg #[.int .i64 5, .int .i64 nn], .agg #[.int .i64 x.fr, .int .i64 x.to_, .int .i64 x.n, .int .i64 x.of_, .slice xa xm xc]] W (zbL w Y F W)) := fun h0 W hW => by
     have hok := DevM.ok_iff.1 (HE0.out.trans h0); have hY' := hY; unfold DevM.told DevM.wrong at hY'; rw [if_neg (fun q => q (HE0.out.trans h0))] at hY'; by_cases hu : d.up = true
     · rw [if_pos hu] at hY'
       have this := (acts_open w h d nn x xa xm xc W hW HDh.out hok hu); rw [hY'] at this; exact this
     · rw [if_neg hu] at hY'
       have := zbl w h d nn x xa xm xc W hW HDh.out 5 (by
        cases q2 : d.up with
        | true => first | (exact absurd q2 hu) | decide
        | false => first | (exact absurd q2 hu) | decide)
       rw [hY'] at this; exact this
    have HNo : Hid (E0 ≠ 0 → Y = DevM.noDev ∧ F = E0) := fun h0 => by
     have hY' := hY; unfold DevM.told DevM.wrong at hY'; rw [HE0.out, if_pos h0] at hY'; simp only [Prod.mk.injEq] at hY'; exact ⟨hY'.1.symm, hY'.2.symm⟩
    clear hY; have bP1 := HS.out.gt 5 rfl
    go_wp2_with (first
     | ((with_reducible show wpList _ _ _ _ _ _); refine LR rfl (t := 37) U37 rfl (.tmp 6) rfl P1 rfl bP1 (sDv h d) ?_))
    clear bP1; refine (HPr.out _ HS.out.below (HDh.out.later HS.out.below)).mono ?_; rintro e W8 ⟨hy, rfl, hb, hn⟩; obtain ⟨lo2, hi2, hS9⟩ := HS.out.gainE hb hn; replace HS := LH hS9; clear hb hn hS9; clear HPr; have HS2 := LH (HS.out.set 0 rfl (dvC hy Y)); have bP16 := HS.out.gt 0 rfl
    go_wp2_with (first
     | ((with_reducible show wpList _ _ _ _ _ _); refine wpList_store_row rfl 37 (.tmp 16) (.tmp 92) rfl P16 (dvC hy Y) rfl rfl 37 zDev ?_ ?_ ?_ ?_ ?_; exact bP16; exact (sDv hy Y); exact (zat hy Y); exact (oDv hy Y)))
    clear bP16; go_meet; exact ⟨hy, Y, F, lo2, hi2, rfl, HS2.out, HAc.out, HNo.out⟩
  · have hK : K = 6 := HKK.out.symm
    subst hK; clear HKK HJ9; obtain ⟨⟨Y, F⟩, hY⟩ : ∃ y, DevM.told d true (DevM.write d false nn) = y := ⟨_, rfl⟩
    have HPr : Hid (∀ W, Below w.heap.size w W → DH W h d → Calls Tryz.prog 21 #[.agg (dvC h d), .bool false, .int .i64 nn] W fun e w' => ∃ hy, e = .returned (.tuple #[.agg (dvC hy Y), .int .i64 F]) ∧ Below W.heap.size W w' ∧ NewR W.heap.size w' (fun V => DH V hy Y)) := fun W hW hd => by
     have _hW := hW; have := writeD_any h d false nn W hd; rw [hY] at this; exact this
    have HAc : Hid (E0 = 0 → ∀ W, Below w.heap.size w W → Calls Tryz.prog 26 #[.agg (dvC h d), .agg #[.int .i64 6, .int .i64 nn], .agg #[.int .i64 x.fr, .int .i64 x.to_, .int .i64 x.n, .int .i64 x.of_, .slice xa xm xc]] W (zbL w Y F W)) := fun h0 W hW => by
     have hok := DevM.ok_iff.1 (HE0.out.trans h0); have hY' := hY; unfold DevM.told DevM.wrong at hY'; rw [if_neg (fun q => q (HE0.out.trans h0))] at hY'; by_cases hu : d.up = true
     · rw [if_pos hu] at hY'
       have this := (acts_writefalse w h d nn x xa xm xc W hW HDh.out hok hu); rw [hY'] at this; exact this
     · rw [if_neg hu] at hY'
       have := zbl w h d nn x xa xm xc W hW HDh.out 6 (by
        cases q2 : d.up with
        | true => first | (exact absurd q2 hu) | decide
        | false => first | (exact absurd q2 hu) | decide)
       rw [hY'] at this; exact this
    have HNo : Hid (E0 ≠ 0 → Y = DevM.noDev ∧ F = E0) := fun h0 => by
     have hY' := hY; unfold DevM.told DevM.wrong at hY'; rw [HE0.out, if_pos h0] at hY'; simp only [Prod.mk.injEq] at hY'; exact ⟨hY'.1.symm, hY'.2.symm⟩
    clear hY; have bP1 := HS.out.gt 5 rfl
    go_wp2_with (first
     | ((with_reducible show wpList _ _ _ _ _ _); refine LR rfl (t := 37) U37 rfl (.tmp 6) rfl P1 rfl bP1 (sDv h d) ?_))
    clear bP1; refine (HPr.out _ HS.out.below (HDh.out.later HS.out.below)).mono ?_; rintro e W8 ⟨hy, rfl, hb, hn⟩; obtain ⟨lo2, hi2, hS9⟩ := HS.out.gainE hb hn; replace HS := LH hS9; clear hb hn hS9; clear HPr; have HS2 := LH (HS.out.set 0 rfl (dvC hy Y)); have bP16 := HS.out.gt 0 rfl
    go_wp2_with (first
     | ((with_reducible show wpList _ _ _ _ _ _); refine wpList_store_row rfl 37 (.tmp 16) (.tmp 103) rfl P16 (dvC hy Y) rfl rfl 37 zDev ?_ ?_ ?_ ?_ ?_; exact bP16; exact (sDv hy Y); exact (zat hy Y); exact (oDv hy Y)))
    clear bP16; go_meet; exact ⟨hy, Y, F, lo2, hi2, rfl, HS2.out, HAc.out, HNo.out⟩
  · have hK : K = 7 := HKK.out.symm
    subst hK; clear HKK HJ9; obtain ⟨⟨Y, F⟩, hY⟩ : ∃ y, DevM.told d true (DevM.finish d false) = y := ⟨_, rfl⟩
    have HPr : Hid (∀ W, Below w.heap.size w W → DH W h d → Calls Tryz.prog 22 #[.agg (dvC h d), .bool false] W fun e w' => ∃ hy, e = .returned (.tuple #[.agg (dvC hy Y), .int .i64 F]) ∧ Below W.heap.size W w' ∧ NewR W.heap.size w' (fun V => DH V hy Y)) := fun W hW hd => by
     have _hW := hW; have := zb2 h d false W hd; rw [hY] at this; exact this
    have HAc : Hid (E0 = 0 → ∀ W, Below w.heap.size w W → Calls Tryz.prog 26 #[.agg (dvC h d), .agg #[.int .i64 7, .int .i64 nn], .agg #[.int .i64 x.fr, .int .i64 x.to_, .int .i64 x.n, .int .i64 x.of_, .slice xa xm xc]] W (zbL w Y F W)) := fun h0 W hW => by
     have hok := DevM.ok_iff.1 (HE0.out.trans h0); have hY' := hY; unfold DevM.told DevM.wrong at hY'; rw [if_neg (fun q => q (HE0.out.trans h0))] at hY'; by_cases hu : d.up = true
     · rw [if_pos hu] at hY'
       have this := (acts_finishfalse w h d nn x xa xm xc W hW HDh.out hok hu); rw [hY'] at this; exact this
     · rw [if_neg hu] at hY'
       have := zbl w h d nn x xa xm xc W hW HDh.out 7 (by
        cases q2 : d.up with
        | true => first | (exact absurd q2 hu) | decide
        | false => first | (exact absurd q2 hu) | decide)
       rw [hY'] at this; exact this
    have HNo : Hid (E0 ≠ 0 → Y = DevM.noDev ∧ F = E0) := fun h0 => by
     have hY' := hY; unfold DevM.told DevM.wrong at hY'; rw [HE0.out, if_pos h0] at hY'; simp only [Prod.mk.injEq] at hY'; exact ⟨hY'.1.symm, hY'.2.symm⟩
    clear hY; have bP1 := HS.out.gt 5 rfl
    go_wp2_with (first
     | ((with_reducible show wpList _ _ _ _ _ _); refine LR rfl (t := 37) U37 rfl (.tmp 6) rfl P1 rfl bP1 (sDv h d) ?_))
    clear bP1; refine (HPr.out _ HS.out.below (HDh.out.later HS.out.below)).mono ?_; rintro e W8 ⟨hy, rfl, hb, hn⟩; obtain ⟨lo2, hi2, hS9⟩ := HS.out.gainE hb hn; replace HS := LH hS9; clear hb hn hS9; clear HPr; have HS2 := LH (HS.out.set 0 rfl (dvC hy Y)); have bP16 := HS.out.gt 0 rfl
    go_wp2_with (first
     | ((with_reducible show wpList _ _ _ _ _ _); refine wpList_store_row rfl 37 (.tmp 16) (.tmp 113) rfl P16 (dvC hy Y) rfl rfl 37 zDev ?_ ?_ ?_ ?_ ?_; exact bP16; exact (sDv hy Y); exact (zat hy Y); exact (oDv hy Y)))
    clear bP16; go_meet; exact ⟨hy, Y, F, lo2, hi2, rfl, HS2.out, HAc.out, HNo.out⟩
  · have hK : K = 8 := HKK.out.symm
    subst hK; clear HKK HJ9; obtain ⟨⟨Y, F⟩, hY⟩ : ∃ y, DevM.told d true (DevM.confirm d) = y := ⟨_, rfl⟩
    have HPr : Hid (∀ W, Below w.heap.size w W → DH W h d → Calls Tryz.prog 23 #[.agg (dvC h d)] W fun e w' => ∃ hy, e = .returned (.tuple #[.agg (dvC hy Y), .int .i64 F]) ∧ Below W.heap.size W w' ∧ NewR W.heap.size w' (fun V => DH V hy Y)) := fun W hW hd => by
     have _hW := hW; have := confirmD_any h d W hd; rw [hY] at this; exact this
    have HAc : Hid (E0 = 0 → ∀ W, Below w.heap.size w W → Calls Tryz.prog 26 #[.agg (dvC h d), .agg #[.int .i64 8, .int .i64 nn], .agg #[.int .i64 x.fr, .int .i64 x.to_, .int .i64 x.n, .int .i64 x.of_, .slice xa xm xc]] W (zbL w Y F W)) := fun h0 W hW => by
     have hok := DevM.ok_iff.1 (HE0.out.trans h0); have hY' := hY; unfold DevM.told DevM.wrong at hY'; rw [if_neg (fun q => q (HE0.out.trans h0))] at hY'; by_cases hu : d.up = true
     · rw [if_pos hu] at hY'
       have this := (acts_confirm w h d nn x xa xm xc W hW HDh.out hok hu); rw [hY'] at this; exact this
     · rw [if_neg hu] at hY'
       have := zbl w h d nn x xa xm xc W hW HDh.out 8 (by
        cases q2 : d.up with
        | true => first | (exact absurd q2 hu) | decide
        | false => first | (exact absurd q2 hu) | decide)
       rw [hY'] at this; exact this
    have HNo : Hid (E0 ≠ 0 → Y = DevM.noDev ∧ F = E0) := fun h0 => by
     have hY' := hY; unfold DevM.told DevM.wrong at hY'; rw [HE0.out, if_pos h0] at hY'; simp only [Prod.mk.injEq] at hY'; exact ⟨hY'.1.symm, hY'.2.symm⟩
    clear hY; have bP1 := HS.out.gt 5 rfl
    go_wp2_with (first
     | ((with_reducible show wpList _ _ _ _ _ _); refine LR rfl (t := 37) U37 rfl (.tmp 6) rfl P1 rfl bP1 (sDv h d) ?_))
    clear bP1; refine (HPr.out _ HS.out.below (HDh.out.later HS.out.below)).mono ?_; rintro e W8 ⟨hy, rfl, hb, hn⟩; obtain ⟨lo2, hi2, hS9⟩ := HS.out.gainE hb hn; replace HS := LH hS9; clear hb hn hS9; clear HPr; have HS2 := LH (HS.out.set 0 rfl (dvC hy Y)); have bP16 := HS.out.gt 0 rfl
    go_wp2_with (first
     | ((with_reducible show wpList _ _ _ _ _ _); refine wpList_store_row rfl 37 (.tmp 16) (.tmp 120) rfl P16 (dvC hy Y) rfl rfl 37 zDev ?_ ?_ ?_ ?_ ?_; exact bP16; exact (sDv hy Y); exact (zat hy Y); exact (oDv hy Y)))
    clear bP16; go_meet; exact ⟨hy, Y, F, lo2, hi2, rfl, HS2.out, HAc.out, HNo.out⟩
  · have hK : K = 9 := HKK.out.symm
    subst hK; clear HKK HJ9; obtain ⟨⟨Y, F⟩, hY⟩ : ∃ y, DevM.told d true (DevM.crash d) = y := ⟨_, rfl⟩
    have HPr : Hid (∀ W, Below w.heap.size w W → DH W h d → Calls Tryz.prog 24 #[.agg (dvC h d)] W fun e w' => ∃ hy, e = .returned (.tuple #[.agg (dvC hy Y), .int .i64 F]) ∧ Below W.heap.size W w' ∧ NewR W.heap.size w' (fun V => DH V hy Y)) := fun W hW hd => by
     have _hW := hW; have := crashD_any h d W hd; rw [hY] at this; exact this
    have HAc : Hid (E0 = 0 → ∀ W, Below w.heap.size w W → Calls Tryz.prog 26 #[.agg (dvC h d), .agg #[.int .i64 9, .int .i64 nn], .agg #[.int .i64 x.fr, .int .i64 x.to_, .int .i64 x.n, .int .i64 x.of_, .slice xa xm xc]] W (zbL w Y F W)) := fun h0 W hW => by
     have hok := DevM.ok_iff.1 (HE0.out.trans h0); have hY' := hY; unfold DevM.told DevM.wrong at hY'; rw [if_neg (fun q => q (HE0.out.trans h0))] at hY'; by_cases hu : d.up = true
     · rw [if_pos hu] at hY'
       have this := (acts_crash w h d nn x xa xm xc W hW HDh.out hok hu); rw [hY'] at this; exact this
     · rw [if_neg hu] at hY'
       have := zbl w h d nn x xa xm xc W hW HDh.out 9 (by
        cases q2 : d.up with
        | true => first | (exact absurd q2 hu) | decide
        | false => first | (exact absurd q2 hu) | decide)
       rw [hY'] at this; exact this
    have HNo : Hid (E0 ≠ 0 → Y = DevM.noDev ∧ F = E0) := fun h0 => by
     have hY' := hY; unfold DevM.told DevM.wrong at hY'; rw [HE0.out, if_pos h0] at hY'; simp only [Prod.mk.injEq] at hY'; exact ⟨hY'.1.symm, hY'.2.symm⟩
    clear hY; have bP1 := HS.out.gt 5 rfl
    go_wp2_with (first
     | ((with_reducible show wpList _ _ _ _ _ _); refine LR rfl (t := 37) U37 rfl (.tmp 6) rfl P1 rfl bP1 (sDv h d) ?_))
    clear bP1; refine (HPr.out _ HS.out.below (HDh.out.later HS.out.below)).mono ?_; rintro e W8 ⟨hy, rfl, hb, hn⟩; obtain ⟨lo2, hi2, hS9⟩ := HS.out.gainE hb hn; replace HS := LH hS9; clear hb hn hS9; clear HPr; have HS2 := LH (HS.out.set 0 rfl (dvC hy Y)); have bP16 := HS.out.gt 0 rfl
    go_wp2_with (first
     | ((with_reducible show wpList _ _ _ _ _ _); refine wpList_store_row rfl 37 (.tmp 16) (.tmp 127) rfl P16 (dvC hy Y) rfl rfl 37 zDev ?_ ?_ ?_ ?_ ?_; exact bP16; exact (sDv hy Y); exact (zat hy Y); exact (oDv hy Y)))
    clear bP16; go_meet; exact ⟨hy, Y, F, lo2, hi2, rfl, HS2.out, HAc.out, HNo.out⟩
  · have hK : K = 10 := HKK.out.symm
    subst hK; clear HKK HJ9; obtain ⟨⟨Y, F⟩, hY⟩ : ∃ y, DevM.told d false (DevM.boot d) = y := ⟨_, rfl⟩
    have HPr : Hid (∀ W, Below w.heap.size w W → DH W h d → Calls Tryz.prog 25 #[.agg (dvC h d)] W fun e w' => ∃ hy, e = .returned (.tuple #[.agg (dvC hy Y), .int .i64 F]) ∧ Below W.heap.size W w' ∧ NewR W.heap.size w' (fun V => DH V hy Y)) := fun W hW hd => by
     have _hW := hW; have := bootD_any h d W hd; rw [hY] at this; exact this
    have HAc : Hid (E0 = 0 → ∀ W, Below w.heap.size w W → Calls Tryz.prog 26 #[.agg (dvC h d), .agg #[.int .i64 10, .int .i64 nn], .agg #[.int .i64 x.fr, .int .i64 x.to_, .int .i64 x.n, .int .i64 x.of_, .slice xa xm xc]] W (zbL w Y F W)) := fun h0 W hW => by
     have hok := DevM.ok_iff.1 (HE0.out.trans h0); have hY' := hY; unfold DevM.told DevM.wrong at hY'; rw [if_neg (fun q => q (HE0.out.trans h0))] at hY'; by_cases hu : d.up = false
     · rw [if_pos hu] at hY'
       have this := (acts_boot w h d nn x xa xm xc W hW HDh.out hok hu); rw [hY'] at this; exact this
     · rw [if_neg hu] at hY'
       have := zbl w h d nn x xa xm xc W hW HDh.out 10 (by
        cases q2 : d.up with
        | true => first | (exact absurd q2 hu) | decide
        | false => first | (exact absurd q2 hu) | decide)
       rw [hY'] at this; exact this
    have HNo : Hid (E0 ≠ 0 → Y = DevM.noDev ∧ F = E0) := fun h0 => by
     have hY' := hY; unfold DevM.told DevM.wrong at hY'; rw [HE0.out, if_pos h0] at hY'; simp only [Prod.mk.injEq] at hY'; exact ⟨hY'.1.symm, hY'.2.symm⟩
    clear hY; have bP1 := HS.out.gt 5 rfl
    go_wp2_with (first
     | ((with_reducible show wpList _ _ _ _ _ _); refine LR rfl (t := 37) U37 rfl (.tmp 6) rfl P1 rfl bP1 (sDv h d) ?_))
    clear bP1; refine (HPr.out _ HS.out.below (HDh.out.later HS.out.below)).mono ?_; rintro e W8 ⟨hy, rfl, hb, hn⟩; obtain ⟨lo2, hi2, hS9⟩ := HS.out.gainE hb hn; replace HS := LH hS9; clear hb hn hS9; clear HPr; have HS2 := LH (HS.out.set 0 rfl (dvC hy Y)); have bP16 := HS.out.gt 0 rfl
    go_wp2_with (first
     | ((with_reducible show wpList _ _ _ _ _ _); refine wpList_store_row rfl 37 (.tmp 16) (.tmp 134) rfl P16 (dvC hy Y) rfl rfl 37 zDev ?_ ?_ ?_ ?_ ?_; exact bP16; exact (sDv hy Y); exact (zat hy Y); exact (oDv hy Y)))
    clear bP16; go_meet; exact ⟨hy, Y, F, lo2, hi2, rfl, HS2.out, HAc.out, HNo.out⟩
  · have hK : K = 11 := HKK.out.symm
    subst hK; clear HKK HJ9; obtain ⟨⟨Y, F⟩, hY⟩ : ∃ y, DevM.told d true (DevM.write d true nn) = y := ⟨_, rfl⟩
    have HPr : Hid (∀ W, Below w.heap.size w W → DH W h d → Calls Tryz.prog 21 #[.agg (dvC h d), .bool true, .int .i64 nn] W fun e w' => ∃ hy, e = .returned (.tuple #[.agg (dvC hy Y), .int .i64 F]) ∧ Below W.heap.size W w' ∧ NewR W.heap.size w' (fun V => DH V hy Y)) := fun W hW hd => by
     have _hW := hW; have := writeD_any h d true nn W hd; rw [hY] at this; exact this
    have HAc : Hid (E0 = 0 → ∀ W, Below w.heap.size w W → Calls Tryz.prog 26 #[.agg (dvC h d), .agg #[.int .i64 11, .int .i64 nn], .agg #[.int .i64 x.fr, .int .i64 x.to_, .int .i64 x.n, .int .i64 x.of_, .slice xa xm xc]] W (zbL w Y F W)) := fun h0 W hW => by
     have hok := DevM.ok_iff.1 (HE0.out.trans h0); have hY' := hY; unfold DevM.told DevM.wrong at hY'; rw [if_neg (fun q => q (HE0.out.trans h0))] at hY'; by_cases hu : d.up = true
     · rw [if_pos hu] at hY'
       have this := (acts_writetrue w h d nn x xa xm xc W hW HDh.out hok hu); rw [hY'] at this; exact this
     · rw [if_neg hu] at hY'
       have := zbl w h d nn x xa xm xc W hW HDh.out 11 (by
        cases q2 : d.up with
        | true => first | (exact absurd q2 hu) | decide
        | false => first | (exact absurd q2 hu) | decide)
       rw [hY'] at this; exact this
    have HNo : Hid (E0 ≠ 0 → Y = DevM.noDev ∧ F = E0) := fun h0 => by
     have hY' := hY; unfold DevM.told DevM.wrong at hY'; rw [HE0.out, if_pos h0] at hY'; simp only [Prod.mk.injEq] at hY'; exact ⟨hY'.1.symm, hY'.2.symm⟩
    clear hY; have bP1 := HS.out.gt 5 rfl
    go_wp2_with (first
     | ((with_reducible show wpList _ _ _ _ _ _); refine LR rfl (t := 37) U37 rfl (.tmp 6) rfl P1 rfl bP1 (sDv h d) ?_))
    clear bP1; refine (HPr.out _ HS.out.below (HDh.out.later HS.out.below)).mono ?_; rintro e W8 ⟨hy, rfl, hb, hn⟩; obtain ⟨lo2, hi2, hS9⟩ := HS.out.gainE hb hn; replace HS := LH hS9; clear hb hn hS9; clear HPr; have HS2 := LH (HS.out.set 0 rfl (dvC hy Y)); have bP16 := HS.out.gt 0 rfl
    go_wp2_with (first
     | ((with_reducible show wpList _ _ _ _ _ _); refine wpList_store_row rfl 37 (.tmp 16) (.tmp 103) rfl P16 (dvC hy Y) rfl rfl 37 zDev ?_ ?_ ?_ ?_ ?_; exact bP16; exact (sDv hy Y); exact (zat hy Y); exact (oDv hy Y)))
    clear bP16; go_meet; exact ⟨hy, Y, F, lo2, hi2, rfl, HS2.out, HAc.out, HNo.out⟩
  · have hK : K = 12 := HKK.out.symm
    subst hK; clear HKK HJ9; obtain ⟨⟨Y, F⟩, hY⟩ : ∃ y, DevM.told d true (DevM.finish d true) = y := ⟨_, rfl⟩
    have HPr : Hid (∀ W, Below w.heap.size w W → DH W h d → Calls Tryz.prog 22 #[.agg (dvC h d), .bool true] W fun e w' => ∃ hy, e = .returned (.tuple #[.agg (dvC hy Y), .int .i64 F]) ∧ Below W.heap.size W w' ∧ NewR W.heap.size w' (fun V => DH V hy Y)) := fun W hW hd => by
     have _hW := hW; have := zb2 h d true W hd; rw [hY] at this; exact this
    have HAc : Hid (E0 = 0 → ∀ W, Below w.heap.size w W → Calls Tryz.prog 26 #[.agg (dvC h d), .agg #[.int .i64 12, .int .i64 nn], .agg #[.int .i64 x.fr, .int .i64 x.to_, .int .i64 x.n, .int .i64 x.of_, .slice xa xm xc]] W (zbL w Y F W)) := fun h0 W hW => by
     have hok := DevM.ok_iff.1 (HE0.out.trans h0); have hY' := hY; unfold DevM.told DevM.wrong at hY'; rw [if_neg (fun q => q (HE0.out.trans h0))] at hY'; by_cases hu : d.up = true
     · rw [if_pos hu] at hY'
       have this := (acts_finishtrue w h d nn x xa xm xc W hW HDh.out hok hu); rw [hY'] at this; exact this
     · rw [if_neg hu] at hY'
       have := zbl w h d nn x xa xm xc W hW HDh.out 12 (by
        cases q2 : d.up with
        | true => first | (exact absurd q2 hu) | decide
        | false => first | (exact absurd q2 hu) | decide)
       rw [hY'] at this; exact this
    have HNo : Hid (E0 ≠ 0 → Y = DevM.noDev ∧ F = E0) := fun h0 => by
     have hY' := hY; unfold DevM.told DevM.wrong at hY'; rw [HE0.out, if_pos h0] at hY'; simp only [Prod.mk.injEq] at hY'; exact ⟨hY'.1.symm, hY'.2.symm⟩
    clear hY; have bP1 := HS.out.gt 5 rfl
    go_wp2_with (first
     | ((with_reducible show wpList _ _ _ _ _ _); refine LR rfl (t := 37) U37 rfl (.tmp 6) rfl P1 rfl bP1 (sDv h d) ?_))
    clear bP1; refine (HPr.out _ HS.out.below (HDh.out.later HS.out.below)).mono ?_; rintro e W8 ⟨hy, rfl, hb, hn⟩; obtain ⟨lo2, hi2, hS9⟩ := HS.out.gainE hb hn; replace HS := LH hS9; clear hb hn hS9; clear HPr; have HS2 := LH (HS.out.set 0 rfl (dvC hy Y)); have bP16 := HS.out.gt 0 rfl
    go_wp2_with (first
     | ((with_reducible show wpList _ _ _ _ _ _); refine wpList_store_row rfl 37 (.tmp 16) (.tmp 113) rfl P16 (dvC hy Y) rfl rfl 37 zDev ?_ ?_ ?_ ?_ ?_; exact bP16; exact (sDv hy Y); exact (zat hy Y); exact (oDv hy Y)))
    clear bP16; go_meet; exact ⟨hy, Y, F, lo2, hi2, rfl, HS2.out, HAc.out, HNo.out⟩
 case' rest =>
  obtain ⟨hy, Y, F, lo2, hi2, rfl, hs, hac, hno⟩ := hcut; replace HS := LH hs; have HAc := LH hac; have HNo := LH hno; clear hs hac hno HKK HJ9
 by_cases h0 : E0 = 0
 · subst h0
   replace HAc := LH (HAc.out rfl); clear HNo; have bP1p1 := HS.out.gt 4 rfl; have bP1 := HS.out.gt 5 rfl
   go_wp2_with (first
    | ((with_reducible show wpList _ _ _ _ _ _); refine LR rfl (t := 37) U37 rfl (.tmp 6) rfl P1 rfl bP1 (sDv h d) ?_)
    | ((with_reducible show wpList _ _ _ _ _ _); refine LR rfl (t := 39) U39 rfl (.tmp 7) rfl (P1 + 1) rfl bP1p1 (by kernel_rfl) ?_)
    | ((with_reducible show wpList _ _ _ _ _ _); refine zaM rfl 55 0 1 (.tmp 148) (.tmp 149) rfl (.int .i64 K) (.int .i64 nn) rfl rfl #[.int .i64 K, .int .i64 nn] (by kernel_rfl) ?_))
   clear bP1p1 bP1; refine (HAc.out _ HS.out.below).mono ?_; rintro e W8 ⟨h3, rfl, hb, hn⟩; obtain ⟨lo3, hi3, hS9⟩ := HS.out.gainE hb hn; replace HS := LH hS9; clear hb hn hS9; clear HAc; obtain ⟨P18, hP18⟩ : ∃ P, W8.heap.size = P := ⟨_, rfl⟩; replace HS := LH (HS.out.alloc hP18 (dvC h3 Y) 37); go_upto_region 30 with ((with_reducible show wpList _ _ _ _ _ _); refine wSN rfl 37 (.tmp 18) (.tmp 153) rfl P18 (dvC h3 Y) rfl rfl 37 _ ?_ ?_ ?_ ?_ ?_; exact hP18.symm; exact (sDv h3 Y); exact (zat h3 Y); exact (oDv h3 Y)); refine gnH HS.out (fun VA HS1 => ?_); replace HS := LH HS1; clear HS1 hP18; have t3 : (F == F) = true := by simp
   have HSz : Hid (∀ W, DH W hy Y → DH W h3 Y → Calls Tryz.prog 16 #[.agg (dvC hy Y), .agg (dvC h3 Y)] W fun e w' => e = .returned (.bool true) ∧ Below W.heap.size W w') := fun W a b => by
    have := za9 hy h3 Y Y W a b; rw [decide_eq_true rfl] at this; exact this
   refine zaj ?_
   repeat (first
    | ((refine zbX ?hw 37 (.tmp 16) rfl P16 rfl 37 (dvC hy Y) _ (HS.out.get 1 rfl) U37 rfl (sDv hy Y) ?_); (case hw => first | exact zaa rfl | exact zab rfl rfl); simp only [Act.put, sA, sB, sC])
    | ((refine zbX ?hw 37 (.tmp 18) rfl P18 rfl 37 (dvC h3 Y) _ (HS.out.get 0 rfl) U37 rfl (sDv h3 Y) ?_); (case hw => first | exact zaa rfl | exact zab rfl rfl); simp only [Act.put, sA, sB, sC])
    | (refine zag (by first | exact zaf rfl rfl rfl | exact zad rfl rfl) ?_; simp only [Act.put, sA, sB, sC])
    | (refine zae ?_ ?_ ?_ ?_
       rotate_left
       · first | exact zaa rfl | exact zab rfl rfl
       · (go_simp <;> with_reducible rfl)
       simp only [Act.put, sA, sB, sC]))
   refine zar (fun K hK => ?_); rw [if_pos (by first | exact zaa rfl | exact zab rfl rfl)]; go_simp; go_at_call 16; with_reducible refine (HSz.out _ (HS.out.fact 1 rfl) (HS.out.fact 0 rfl HS.out.below)).mono ?_
   rintro e W9 ⟨rfl, hb⟩; replace HS := LH (HS.out.later hb); clear hb
   try go_wp2_with fail
   refine hK.out _ _ ?_; clear hK K
   try simp only [Act.put, sA, sB, sC]
   repeat (first
    | ((refine zbX ?hw 37 (.tmp 16) rfl P16 rfl 37 (dvC hy Y) _ (HS.out.get 1 rfl) U37 rfl (sDv hy Y) ?_); (case hw => first | exact zaa rfl | exact zab rfl rfl); simp only [Act.put, sA, sB, sC])
    | ((refine zbX ?hw 37 (.tmp 18) rfl P18 rfl 37 (dvC h3 Y) _ (HS.out.get 0 rfl) U37 rfl (sDv h3 Y) ?_); (case hw => first | exact zaa rfl | exact zab rfl rfl); simp only [Act.put, sA, sB, sC])
    | (refine zag (by first | exact zaf rfl rfl rfl | exact zad rfl rfl) ?_; simp only [Act.put, sA, sB, sC])
    | (refine zae ?_ ?_ ?_ ?_
       rotate_left
       · first | exact zaa rfl | exact zab rfl rfl
       · (go_simp <;> with_reducible rfl)
       simp only [Act.put, sA, sB, sC]))
   refine zal ?_; go_wp2_with fail; go_ret; exact ⟨rfl, HS.out.below⟩
 · obtain ⟨rfl, rfl⟩ := HNo.out h0
   have t0 : (F != 0) = true := by simp [h0]
   have t3 : (F == F) = true := by simp
   clear h0 HAc HNo
   have HSz : Hid (∀ W, DH W hy DevM.noDev → Calls Tryz.prog 16 #[.agg (dvC hy DevM.noDev), .agg zDev] W fun e w' => e = .returned (.bool true) ∧ Below W.heap.size W w') := fun W a => by
    have := za9 hy noH DevM.noDev DevM.noDev W a (DH.none_ W); rw [decide_eq_true rfl, zaK] at this; exact this
   unfold zDev at HSz; go_upto_region 28 with fail; refine zaj ?_
   repeat (first
    | ((refine zbX ?hw 37 (.tmp 16) rfl P16 rfl 37 (dvC hy DevM.noDev) _ (HS.out.get 0 rfl) U37 rfl (sDv hy DevM.noDev) ?_); (case hw => first | exact zaa rfl | exact zab rfl rfl); simp only [Act.put, sA, sB, sC])
    | (refine zag (by first | exact zaf rfl rfl rfl | exact zad rfl rfl) ?_; simp only [Act.put, sA, sB, sC])
    | (refine zae ?_ ?_ ?_ ?_
       rotate_left
       · first | exact zaa rfl | exact zab rfl rfl
       · (go_simp <;> with_reducible rfl)
       simp only [Act.put, sA, sB, sC]))
   refine zar (fun K hK => ?_); rw [if_pos (by first | exact zaa rfl | exact zab rfl rfl)]; go_simp; go_at_call 16; with_reducible refine (HSz.out _ (HS.out.fact 0 rfl)).mono ?_
   rintro e W8 ⟨rfl, hb⟩; replace HS := LH (HS.out.later hb); clear hb
   try go_wp2_with fail
   refine hK.out _ _ ?_; clear hK K
   try simp only [Act.put, sA, sB, sC]
   repeat (first
    | ((refine zbX ?hw 37 (.tmp 16) rfl P16 rfl 37 (dvC hy DevM.noDev) _ (HS.out.get 0 rfl) U37 rfl (sDv hy DevM.noDev) ?_); (case hw => first | exact zaa rfl | exact zab rfl rfl); simp only [Act.put, sA, sB, sC])
    | (refine zag (by first | exact zaf rfl rfl rfl | exact zad rfl rfl) ?_; simp only [Act.put, sA, sB, sC])
    | (refine zae ?_ ?_ ?_ ?_
       rotate_left
       · first | exact zaa rfl | exact zab rfl rfl
       · (go_simp <;> with_reducible rfl)
       simp only [Act.put, sA, sB, sC]))
   refine zal ?_; go_wp2_with fail; go_ret; exact ⟨rfl, HS.out.below⟩
section
variable {P : Program} {w : World} {r : Reach} {b0 : Nat}
theorem zaC {t : TypeId} {v : Value} (ht : P.underlying t = some (.int .i64)) (h : Cell.okWide P w r b0 t v) : ∃ n, v = .int .i64 n ∧ I64 n := by
 unfold Cell.okWide at h; rw [ht] at h
 cases v <;> simp_all [Cell.ok, IntKind.has]
 rename_i k n; obtain ⟨rfl, h1, h2⟩ := h; have e1 : IntKind.i64.min = -9223372036854775808 := rfl; have e2 : IntKind.i64.max = 9223372036854775807 := rfl; unfold I64; omega
theorem zbO {t : TypeId} {v : Value} (ht : P.underlying t = some .bool) (h : Cell.okWide P w r b0 t v) : ∃ b, v = .bool b := by
 unfold Cell.okWide at h; rw [ht] at h
 cases v <;> simp_all [Cell.ok]
theorem row_cells {t : TypeId} {ts : List TypeId} {l : List Value} (hts : P.cellTypes P.depth t = some ts) (h : Row.okWide P w r b0 t ⟨l⟩) :
 ∀ (i : Nat) (u : TypeId) (v : Value), ts[i]? = some u → l[i]? = some v → Cell.okWide P w r b0 u v := by
 obtain ⟨ts', h1, -, h2⟩ := h; rw [hts] at h1
 cases h1
 intro i u v hu hv; obtain ⟨u', hu', hc⟩ := h2 i v (by simpa using hv); have hi : i < ts.length := (List.getElem?_eq_some_iff.1 hu).1; rw [Nat.mod_eq_of_lt hi, hu] at hu'
 cases hu'
 exact hc
end
theorem list37 {α : Type} (l : List α) (h : l.length = 37) : ∃ u0 u1 u2 u3 u4 u5 u6 u7 u8 u9 u10 u11 u12 u13 u14 u15 u16 u17 u18 u19 u20 u21 u22 u23 u24 u25 u26 u27 u28 u29 u30 u31 u32 u33 u34 u35 u36, l = u0 :: u1 :: u2 :: u3 :: u4 :: u5 :: u6 :: u7 :: u8 :: u9 :: u10 :: u11 :: u12 :: u13 :: u14 :: u15 :: u16 :: u17 :: u18 :: u19 :: u20 :: u21 :: u22 :: u23 :: u24 :: u25 :: u26 :: u27 :: u28 :: u29 :: u30 :: u31 :: u32 :: u33 :: u34 :: u35 :: u36 :: [] := by
 match l, h with
 | u0 :: u1 :: u2 :: u3 :: u4 :: u5 :: u6 :: u7 :: u8 :: u9 :: u10 :: u11 :: u12 :: u13 :: u14 :: u15 :: u16 :: u17 :: u18 :: u19 :: u20 :: u21 :: u22 :: u23 :: u24 :: u25 :: u26 :: u27 :: u28 :: u29 :: u30 :: u31 :: u32 :: u33 :: u34 :: u35 :: u36 :: [], _ => exact ⟨u0, u1, u2, u3, u4, u5, u6, u7, u8, u9, u10, u11, u12, u13, u14, u15, u16, u17, u18, u19, u20, u21, u22, u23, u24, u25, u26, u27, u28, u29, u30, u31, u32, u33, u34, u35, u36, rfl⟩
section
variable {H : Type} {enc : TypeId × Value → H} {w : World} {sp : Nat → Bool} {held : Bool}
theorem open_dev {r : Reach} {b0 : Nat} {v : Value} {d : DataW H} {ps : List MemPlace} (hv : Value.okWide Tryz.prog w r b0 37 v) (h : DataW.Trod enc Tryz.prog w 0 sp held 37 v d ps) : ∃ h x, v = devV h x ∧ DH w h x := by
 have hts : Tryz.prog.cellTypes Tryz.prog.depth 37 = some (22 :: 22 :: 4 :: 3 :: 3 :: 4 :: 3 :: 3 :: 3 :: 3 :: 3 :: 3 :: 3 :: 3 :: 4 :: 3 :: 3 :: 4 :: 3 :: 3 :: 3 :: 3 :: 3 :: 3 :: 3 :: 3 :: 4 :: 3 :: 32 :: 4 :: 3 :: 3 :: 3 :: 3 :: 3 :: 33 :: 3 :: []) := by kernel_rfl
 have hC : Tryz.prog.cellsOf 37 = 37 := by kernel_rfl
 have cS : Tryz.prog.cellsOf 23 = 2 := by kernel_rfl
 have cb : Tryz.prog.cellsOf 22 = 1 := by kernel_rfl
 have cg : Tryz.prog.cellsOf 32 = 1 := by kernel_rfl
 have cp : Tryz.prog.cellsOf 35 = 6 := by kernel_rfl
 have co : Tryz.prog.cellsOf 33 = 1 := by kernel_rfl
 have hu := U37; have hi := U3; have hb := U4; unfold Value.okWide at hv; rw [hu] at hv; obtain ⟨⟨l⟩, rfl, hsz, hrow⟩ := hv; rw [hC] at hsz; have hc := row_cells hts hrow; obtain ⟨fuel, hf⟩ := h; obtain ⟨xs, n, _, _, _, hlen, hg⟩ := DataW.trod_struct hu hf; have g0 : DataW.trod enc Tryz.prog w 0 sp held n 23 ((l.drop 0).take (Tryz.prog.cellsOf 23)) = xs[0]? := hg 0 _ rfl; have g4 : DataW.trod enc Tryz.prog w 0 sp held n 32 ((l.drop 28).take (Tryz.prog.cellsOf 32)) = xs[4]? := hg 4 _ rfl; have g6 : DataW.trod enc Tryz.prog w 0 sp held n 35 ((l.drop 30).take (Tryz.prog.cellsOf 35)) = xs[6]? := hg 6 _ rfl
 try simp only at g0 g4 g6
 have hlen' : xs.length = 8 := hlen; have some_ : ∀ i, i < 8 → ∃ y, xs[i]? = some y := fun i hi => ⟨_, List.getElem?_eq_getElem (by omega)⟩; obtain ⟨y0, e0⟩ := some_ 0 (by omega); obtain ⟨y4, e4⟩ := some_ 4 (by omega); obtain ⟨y6, e6⟩ := some_ 6 (by omega); rw [e0] at g0; rw [e4] at g4; rw [e6] at g6; obtain ⟨u0, u1, u2, u3, u4, u5, u6, u7, u8, u9, u10, u11, u12, u13, u14, u15, u16, u17, u18, u19, u20, u21, u22, u23, u24, u25, u26, u27, u28, u29, u30, u31, u32, u33, u34, u35, u36, rfl⟩ := list37 l (by simpa using hsz); obtain ⟨n2, rfl⟩ := zbO hb (hc 2 _ _ rfl rfl); obtain ⟨n3, rfl, w3⟩ := zaC hi (hc 3 _ _ rfl rfl); obtain ⟨n4, rfl, w4⟩ := zaC hi (hc 4 _ _ rfl rfl); obtain ⟨n5, rfl⟩ := zbO hb (hc 5 _ _ rfl rfl); obtain ⟨n6, rfl, w6⟩ := zaC hi (hc 6 _ _ rfl rfl); obtain ⟨n7, rfl, w7⟩ := zaC hi (hc 7 _ _ rfl rfl); obtain ⟨n8, rfl, w8⟩ := zaC hi (hc 8 _ _ rfl rfl); obtain ⟨n9, rfl, w9⟩ := zaC hi (hc 9 _ _ rfl rfl); obtain ⟨n10, rfl, w10⟩ := zaC hi (hc 10 _ _ rfl rfl); obtain ⟨n11, rfl, w11⟩ := zaC hi (hc 11 _ _ rfl rfl); obtain ⟨n12, rfl, w12⟩ := zaC hi (hc 12 _ _ rfl rfl); obtain ⟨n13, rfl, w13⟩ := zaC hi (hc 13 _ _ rfl rfl); obtain ⟨n14, rfl⟩ := zbO hb (hc 14 _ _ rfl rfl); obtain ⟨n15, rfl, w15⟩ := zaC hi (hc 15 _ _ rfl rfl); obtain ⟨n16, rfl, w16⟩ := zaC hi (hc 16 _ _ rfl rfl); obtain ⟨n17, rfl⟩ := zbO hb (hc 17 _ _ rfl rfl); obtain ⟨n18, rfl, w18⟩ := zaC hi (hc 18 _ _ rfl rfl); obtain ⟨n19, rfl, w19⟩ := zaC hi (hc 19 _ _ rfl rfl); obtain ⟨n20, rfl, w20⟩ := zaC hi (hc 20 _ _ rfl rfl); obtain ⟨n21, rfl, w21⟩ := zaC hi (hc 21 _ _ rfl rfl); obtain ⟨n22, rfl, w22⟩ := zaC hi (hc 22 _ _ rfl rfl); obtain ⟨n23, rfl, w23⟩ := zaC hi (hc 23 _ _ rfl rfl); obtain ⟨n24, rfl, w24⟩ := zaC hi (hc 24 _ _ rfl rfl); obtain ⟨n25, rfl, w25⟩ := zaC hi (hc 25 _ _ rfl rfl); obtain ⟨n26, rfl⟩ := zbO hb (hc 26 _ _ rfl rfl); obtain ⟨n27, rfl, w27⟩ := zaC hi (hc 27 _ _ rfl rfl); obtain ⟨n29, rfl⟩ := zbO hb (hc 29 _ _ rfl rfl); obtain ⟨n30, rfl, w30⟩ := zaC hi (hc 30 _ _ rfl rfl); obtain ⟨n31, rfl, w31⟩ := zaC hi (hc 31 _ _ rfl rfl); obtain ⟨n32, rfl, w32⟩ := zaC hi (hc 32 _ _ rfl rfl); obtain ⟨n33, rfl, w33⟩ := zaC hi (hc 33 _ _ rfl rfl); obtain ⟨n34, rfl, w34⟩ := zaC hi (hc 34 _ _ rfl rfl); obtain ⟨n36, rfl, w36⟩ := zaC hi (hc 36 _ _ rfl rfl); clear hc hrow hg; rw [cS] at g0; rw [cg] at g4; rw [cp] at g6; simp only [List.drop_zero, List.drop_succ_cons, List.take_succ_cons, List.take_zero] at g0 g4 g6; obtain ⟨a4, m4, c4, l4, rfl, ho4⟩ := open_cs g4; obtain ⟨xa, ma, _, _, _, hla, hga⟩ := DataW.trod_array U23 g0; have k0 := hga 0 (by omega); have k1 := hga 1 (by omega); rw [cb] at k0 k1; simp only [Nat.zero_mul, Nat.one_mul, List.drop_zero, List.drop_succ_cons, List.take_succ_cons, List.take_zero] at k0 k1; rw [List.getElem?_eq_getElem (by omega)] at k0 k1; obtain ⟨a0, m0, c0, l0, rfl, ho0⟩ := open_bs k0; obtain ⟨a1, m1, c1, l1, rfl, ho1⟩ := open_bs k1; obtain ⟨xp, mp, _, _, _, hlp, hgp⟩ := DataW.trod_struct U35 g6; have q5 : DataW.trod enc Tryz.prog w 0 sp held mp 33 (([.int .i64 n30, .int .i64 n31, .int .i64 n32, .int .i64 n33, .int .i64 n34, u35].drop 5).take (Tryz.prog.cellsOf 33)) = xp[5]? := hgp 5 _ rfl; have hlp' : xp.length = 6 := hlp
 try simp only at q5
 rw [co, List.getElem?_eq_getElem (by omega)] at q5; simp only [List.drop_zero, List.drop_succ_cons, List.take_succ_cons, List.take_zero] at q5; obtain ⟨a5, m5, c5, l5, rfl, ho5⟩ := open_os q5
 exact ⟨⟨a0, m0, c0, a1, m1, c1, a4, m4, c4, a5, m5, c5⟩, ⟨l0, l1, ⟨⟨n2, ⟨n3, n4, n5, n6, n7, ⟨n8, n9, n10⟩, ⟨n11, n12, n13⟩⟩⟩, ⟨n14, ⟨n15, n16, n17, n18, n19, ⟨n20, n21, n22⟩, ⟨n23, n24, n25⟩⟩⟩⟩, n26, n27, l4, n29, ⟨n30, n31, n32, n33, n34, l5⟩, n36⟩, rfl,
  ho0, ho1, ho4, ho5, ⟨⟨w3, w4, w6, w7, ⟨w8, w9, w10⟩, w11, w12, w13⟩, w15, w16, w18, w19, ⟨w20, w21, w22⟩, w23, w24, w25⟩, w27, ⟨w30, w31, w32, w33, w34⟩, w36⟩
end
end Go.Proofs.YtnnmpoknghbdnacGreat
