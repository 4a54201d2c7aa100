/-
  Contract of the reference's Added.
-/
import Derived.Test.YtmpmaljkmfgagabChunkC
import Derived.Test.YtmpmaljkmfgagabRowToOpenN
import Derived.Test.YtmpmaljkmfgagabIdxCh
import Derived.Deep.DeepCutAuto
namespace Go.Proofs.Ytmpmaljkmfgagab
open Go.RowKit

/-- the rounds of Added -/
def AddRel (L : List ChR) (W2 : World) (out i : Value) (wr : World) : Prop :=
  ∃ k : Nat, i = .int .i64 k ∧ k ≤ 52 ∧ ChSt W2 W2.heap.size out (ChunkM.under k L) wr ∧ Below W2.heap.size W2 wr
theorem under_le {k : Int} {l : List ChR} : (ChunkM.under k l).length ≤ l.length := List.length_filter_le _ _

set_option maxRecDepth 100000 in
set_option maxHeartbeats 2000000 in
theorem addedR_any (a : Option Addr) (n c : Nat) (l : List ChR) (v : Value) (x : ChR) (w : World) (hl : CS w a n c l) (hv : CV w v x) :
    Calls Try.prog 49 #[.slice a n c, v] w (GivesAd l x w) := by
  obtain ⟨xa, xm, xc, rfl, hd, hI⟩ := hv
  obtain ⟨F, T, N, O, D⟩ := x
  simp only at hd ⊢
  have hlen : n ≤ 9223372036854775807 := by have := hl.le; have := hl.max; omega
  have HL := Lib.hid hl
  have HLn := Lib.hid hl.len
  have HI := Lib.hid hI
  obtain ⟨B, hBB⟩ : ∃ B, w.heap.size = B := ⟨_, rfl⟩
  have hb0 : Below w.heap.size w (w.alloc (.cells #[.int .i64 F, .int .i64 T, .int .i64 N, .int .i64 O, .slice xa xm xc] 69)) := (Below.refl _ _).alloc (Nat.le_refl _) _
  have hblk : (w.alloc (.cells #[.int .i64 F, .int .i64 T, .int .i64 N, .int .i64 O, .slice xa xm xc] 69)).heap[B]? = some (.cells #[.int .i64 F, .int .i64 T, .int .i64 N, .int .i64 O, .slice xa xm xc] 69 (0, 0)) := by rw [heap_at, if_pos hBB.symm]
  have HB0 := Lib.hid hb0
  have HBLK := Lib.hid hblk
  have HD := Lib.hid hd
  clear hl hb0 hblk hd hI
  go_enter Try.func49, Try.ntmps49
  go_wp2_with fail
  refine (checkChs_any a n c l _ (HL.out.later HB0.out)).mono ?_
  rintro e W1 ⟨rfl, b1⟩
  have HB1 := Lib.hid (below_then HB0.out b1)
  have hblk1 := (b1.block B (lt_blk HBLK.out)).trans HBLK.out
  have HBLK1 := Lib.hid hblk1
  obtain ⟨E, hE⟩ : ∃ E, ChunkM.checks l = E := ⟨_, rfl⟩
  rw [hE]
  clear b1 HB0 HBLK
  by_cases hE0 : E = 0
  · subst hE0
    have HE := Lib.hid hE
    obtain ⟨k0, k1, k2, k3, k4⟩ := ch_cells hblk1
    have HCV : Hid (CV W1 (.agg #[.int .i64 F, .int .i64 T, .int .i64 N, .int .i64 O, .slice xa xm xc]) ⟨F, T, N, O, D⟩) := ⟨xa, xm, xc, rfl, HD.out.later HB1.out, HI.out⟩
    clear hE hblk1
    go_wp2_with fail
    refine (checkCh_any _ _ _ HCV.out).mono ?_
    rintro e W2 ⟨rfl, b2⟩
    have HB2 := Lib.hid (below_then HB1.out b2)
    have hblk2 := (b2.block B (lt_blk HBLK1.out)).trans HBLK1.out
    have HBLK2 := Lib.hid hblk2
    obtain ⟨E2, hE2⟩ : ∃ E, ChunkM.check ⟨F, T, N, O, D⟩ = E := ⟨_, rfl⟩
    rw [hE2]
    clear b2 HB1 HBLK1 HCV k0 k1 k2 k3 k4
    by_cases hE20 : E2 = 0
    · subst hE20
      have HE2 := Lib.hid hE2
      have hgood := ChunkM.check_good hE2
      simp only at hgood
      obtain ⟨-, -, gO, gN, -⟩ := hgood
      have HK : Hid (ChunkM.addOf l ⟨F, T, N, O, D⟩ = (ChunkM.ins (ChunkM.those l ⟨F, T, N, O, D⟩) ⟨F, T, N, O, D⟩, 0)) := by
        show _ = _
        unfold ChunkM.addOf
        rw [if_neg (by rw [HE.out]; simp), if_neg (by rw [HE2.out]; simp)]
      obtain ⟨k0, k1, k2, k3, k4⟩ := ch_cells hblk2
      have HL2 := Lib.hid (HL.out.later HB2.out)
      clear hE2 hblk2
      go_upto_if 50 with fail
      go_cut [50] (fun s50 wx => ∃ q : Bool, s50 = .bool q ∧ ((q = true ∧ ChunkM.those l ⟨F, T, N, O, D⟩ = []) ∨ (q = false ∧ ChunkM.those l ⟨F, T, N, O, D⟩ = l)) ∧ Below W2.heap.size W2 wx)
      case first =>
        by_cases hn0 : n = 0
        · subst hn0
          have HTh : Hid (ChunkM.those l ⟨F, T, N, O, D⟩ = l) := by
            show _ = _
            unfold ChunkM.those
            rw [if_neg (fun h => h.1 (List.eq_nil_of_length_eq_zero HLn.out))]
          go_wp2_with fail
          go_quiet (fail)
          have hbq := below_drewN (Below.refl W2.heap.size W2) nq
          go_wp2_with fail
          go_meet
          exact ⟨_, rfl, .inr ⟨rfl, HTh.out⟩, hbq⟩
        · obtain ⟨b, off, rfl, hcs⟩ := HL2.out.cells (by omega)
          obtain ⟨za, zm, zc, z0, z1, z2, z3, -, -, -⟩ := hcs 0 (by omega)
          have HNil : Hid (l ≠ []) := by
            show l ≠ []
            rintro rfl
            exact hn0 HLn.out.symm
          obtain ⟨zz, hzz⟩ : ∃ zz, l.getD 0 default = zz := ⟨_, rfl⟩
          rw [hzz] at z0 z1 z3
          have HZZ := Lib.hid hzz
          obtain ⟨ZF, ZT, ZN, ZO, ZD⟩ := zz
          simp only [Nat.zero_mul, Nat.add_zero] at z0 z1 z3
          have h0n : (0 : Int) < (n : Int) := by omega
          have h0m : 0 < n := by omega
          clear hcs z2 hzz
          have HOth : Hid (¬ (F = ZF ∧ T = ZT ∧ O = ZO) → ChunkM.those l ⟨F, T, N, O, D⟩ = []) := by
            show _ → _
            intro h
            unfold ChunkM.those
            rw [if_pos ⟨HNil.out, by rw [HZZ.out]; exact h⟩]
          by_cases e1 : F = ZF
          · subst e1
            have t1 : (F != F) = false := by simp
            by_cases e2 : T = ZT
            · subst e2
              have t2 : (T != T) = false := by simp
              by_cases e3 : O = ZO
              · subst e3
                have t3 : (O != O) = false := by simp
                have HTh : Hid (ChunkM.those l ⟨F, T, N, O, D⟩ = l) := by
                  show _ = _
                  unfold ChunkM.those
                  rw [if_neg (fun h => h.2 (by rw [HZZ.out]; exact ⟨rfl, rfl, rfl⟩))]
                go_wp2_with fail
                go_quiet (fail)
                have hbq := below_drewN (Below.refl W2.heap.size W2) nq
                go_wp2_with fail
                go_meet
                exact ⟨_, rfl, .inr ⟨rfl, HTh.out⟩, hbq⟩
              · have t3 : (O != ZO) = true := by simp [e3]
                have HTh := Lib.hid (HOth.out (fun h => e3 h.2.2))
                go_wp2_with fail
                go_quiet (fail)
                have hbq := below_drewN (Below.refl W2.heap.size W2) nq
                go_wp2_with fail
                go_meet
                exact ⟨_, rfl, .inl ⟨rfl, HTh.out⟩, hbq⟩
            · have t2 : (T != ZT) = true := by simp [e2]
              have HTh := Lib.hid (HOth.out (fun h => e2 h.2.1))
              go_wp2_with fail
              go_quiet (fail)
              have hbq := below_drewN (Below.refl W2.heap.size W2) nq
              go_wp2_with fail
              go_meet
              exact ⟨_, rfl, .inl ⟨rfl, HTh.out⟩, hbq⟩
          · have t1 : (F != ZF) = true := by simp [e1]
            have HTh := Lib.hid (HOth.out (fun h => e1 h.1))
            go_wp2_with fail
            go_quiet (fail)
            have hbq := below_drewN (Below.refl W2.heap.size W2) nq
            go_wp2_with fail
            go_meet
            exact ⟨_, rfl, .inl ⟨rfl, HTh.out⟩, hbq⟩
      case rest =>
       obtain ⟨qb, rfl, hqb, hbw⟩ := hcut
       have HQB := Lib.hid hqb
       have HBW := Lib.hid hbw
       clear hqb hbw k0 k1 k2 k3 k4
       generalize wc = W7 at HBW ⊢
       go_upto_if 50 with fail
       go_cut [0] (fun s0 wx => ∃ a9 n9 c9, s0 = .slice a9 n9 c9 ∧ CS wx a9 n9 c9 (ChunkM.those l ⟨F, T, N, O, D⟩) ∧ Below W2.heap.size W2 wx)
       case first =>
        rcases HQB.out with ⟨rfl, hth⟩ | ⟨rfl, hth⟩
        · have HTh := Lib.hid hth
          clear hth
          go_wp2_with fail
          go_meet
          exact ⟨none, 0, 0, rfl, by rw [HTh.out]; exact CS.nil_ _, HBW.out⟩
        · have HTh := Lib.hid hth
          clear hth
          go_wp2_with fail
          go_meet
          exact ⟨a, n, c, rfl, by rw [HTh.out]; exact HL2.out.later HBW.out, HBW.out⟩
       case rest =>
        obtain ⟨a9, n9, c9, rfl, hcs9, hb9⟩ := hcut
        have HTh : Hid (ChunkM.Up (ChunkM.those l ⟨F, T, N, O, D⟩) ∧ ∀ y ∈ ChunkM.those l ⟨F, T, N, O, D⟩, 0 ≤ y.n ∧ y.n < 52) := by
          show ChunkM.Up _ ∧ _
          unfold ChunkM.those
          split
          · exact ⟨trivial, by simp⟩
          · refine ⟨ChunkM.checks_up HE.out, fun y hy => ?_⟩
            have h1 := ChunkM.checks_all HE.out y hy
            have h2 := (ChunkM.check_good h1.1).2.2
            omega
        obtain ⟨l9, hl9⟩ : ∃ l9, ChunkM.those l ⟨F, T, N, O, D⟩ = l9 := ⟨_, rfl⟩
        rw [hl9] at HTh HK hcs9
        have HL9 := Lib.hid hcs9
        have HLn9 := Lib.hid hcs9.len
        have HB9 := Lib.hid (below_then HB2.out hb9)
        have hblk9 := (hb9.block B (lt_blk HBLK2.out)).trans HBLK2.out
        have HBLK9 := Lib.hid hblk9
        have HD9 := Lib.hid (HD.out.later (below_then HB2.out hb9))
        clear hl9 hcs9 hb9 hblk9 HL2 HL HQB HBW
        generalize wc = W3 at HL9 HB9 HBLK9 HD9 ⊢
        obtain ⟨L, hLL⟩ : ∃ L, ChunkM.ins l9 ⟨F, T, N, O, D⟩ = L := ⟨_, rfl⟩
        have HLL := Lib.hid hLL
        have HUp : Hid (ChunkM.Up L) := by show ChunkM.Up L; rw [← hLL]; exact ChunkM.ins_up HTh.out.1
        have HRng : Hid (∀ y ∈ L, 0 ≤ y.n ∧ y.n < 52) := by
          show ∀ y ∈ L, _
          intro y hy
          rw [← hLL] at hy
          rcases ChunkM.ins_mem hy with hy | rfl
          · exact HTh.out.2 y hy
          · simp only
            omega
        have HLen : Hid (∀ k : Nat, k ≤ 52 → (ChunkM.under k L).length ≤ 100) := by
          show ∀ k : Nat, _
          intro k hk
          have h1 := ChunkM.up_len (l := L) HUp.out (lo := 0) (hi := 52) (fun y hy => HRng.out y hy) (by omega)
          have h2 := under_le (k := (k : Int)) (l := L)
          omega
        have hmf : ∀ (fn : Fn) (first cap : Array Value) (w : World), (Instr.makeFunc fn first cap).run Try.prog w = .ok (.func fn first cap) w := fun _ _ _ _ => rfl
        clear hLL
        go_wp2_with fail
        go_loopw [8, 51] (fun out i wr => AddRel L W3 out i wr) (fun _ i _ => 52 - (intOf i).toNat)
        case atStart => exact ⟨0, rfl, by omega, by rw [ChunkM.under_none (k := ((0 : Nat) : Int)) (fun y hy => by have := HRng.out y hy; omega)]; exact ChSt.start _ _ _, Below.refl _ _⟩
        case round =>
          obtain ⟨k, rfl, hk, hch, hB⟩ := hrel
          have HCH := Lib.hid hch
          have HB := Lib.hid hB
          have hul := HLen.out k hk
          clear hch hB
          by_cases hlt : k < 52
          · have hba : Below wr.heap.size wr (wr.alloc (.cells #[.int .i64 (k : Int)] 3)) := (Below.refl _ _).alloc (Nat.le_refl _) _
            have hbn : (wr.alloc (.cells #[.int .i64 (k : Int)] 3)).heap[wr.heap.size]? = some (.cells #[.int .i64 (k : Int)] 3 (0, 0)) := by rw [heap_at, if_pos rfl]
            have HIx := Lib.hid (idxCh_any a9 n9 c9 l9 wr.heap.size k _ ((HL9.out.later HB.out).later hba) (cell_blk hbn))
            have HCH1 := Lib.hid (HCH.out.later hba)
            have HB1 := Lib.hid (below_then HB.out hba)
            have HBN := Lib.hid hbn
            clear hba hbn
            go_wp2_with fail
            refine HIx.out.mono ?_
            rintro e W5 ⟨i, rfl, hix, b5⟩
            have HCH5 := Lib.hid (HCH1.out.later b5)
            have HB5 := Lib.hid (below_then HB1.out b5)
            have kn := cell_blk ((b5.block _ (lt_blk HBN.out)).trans HBN.out)
            obtain ⟨k0, k1, k2, k3, k4⟩ := ch_cells ((HB5.out.block B (lt_blk HBLK9.out)).trans HBLK9.out)
            clear b5 HCH1 HB1 HIx HBN
            rcases hix with ⟨rfl, hno⟩ | ⟨j, rfl, hj, hjn⟩
            · have HNo := Lib.hid hno
              clear hno
              by_cases hN : (k : Int) = N
              · have tN : ((k : Int) == N) = true := by simp [hN]
                have HU : Hid (ChunkM.under ((k + 1 : Nat) : Int) L = ChunkM.under k L ++ [⟨F, T, N, O, D⟩]) := by
                  show _ = _
                  rw [show ((k + 1 : Nat) : Int) = (k : Int) + 1 by omega]
                  refine ChunkM.under_hit HUp.out ?_ hN.symm
                  rw [← HLL.out]
                  exact ChunkM.ins_self (fun y hy => by have := HNo.out y hy; simp only; omega)
                obtain ⟨g5, cap5, W6, hrun, HS6, -⟩ := HCH5.out.app ⟨F, T, N, O, D⟩ HD9.out HI.out (by omega) HB5.out.size HB5.out rfl
                obtain ⟨ul, hull⟩ : ∃ ul, (ChunkM.under k L).length = ul := ⟨_, rfl⟩
                rw [hull] at hrun HS6 hul
                simp only at hrun
                clear hN hull
                go_wp2_with (at_builtin; refine Lib.wpList_append_run _ rfl _ _ _ _ rfl _ _ rfl rfl _ _ hrun ?_)
                go_roundw
                case rel => exact ⟨k + 1, by go_num, by omega, by rw [HU.out]; exact HS6.out.1, HS6.out.2⟩
                case measure => simp [intOf]; omega
              · have tN : ((k : Int) == N) = false := by simp [hN]
                have HU : Hid (ChunkM.under ((k + 1 : Nat) : Int) L = ChunkM.under k L) := by
                  show _ = _
                  rw [show ((k + 1 : Nat) : Int) = (k : Int) + 1 by omega]
                  refine ChunkM.under_miss (fun y hy => ?_)
                  rw [← HLL.out] at hy
                  rcases ChunkM.ins_mem hy with hy | rfl
                  · exact HNo.out y hy
                  · simp only
                    omega
                go_wp2_with fail
                go_roundw
                case rel => exact ⟨k + 1, by go_num, by omega, by rw [HU.out]; exact HCH5.out, HB5.out⟩
                case measure => simp [intOf]; omega
            · rw [HLn9.out] at hj
              obtain ⟨b, off, rfl, hcs⟩ := HL9.out.cells (by omega)
              obtain ⟨va, vm, vc, q0, q1, q2, q3, q4, q5, qI⟩ := hcs j hj
              have HMem : Hid (l9.getD j default ∈ l9) := by
                show _ ∈ l9
                have hjl : j < l9.length := by rw [HLn9.out]; exact hj
                rw [List.getD_eq_getElem?_getD, List.getElem?_eq_getElem hjl]
                exact List.getElem_mem _
              generalize l9.getD j default = y at q0 q1 q2 q3 q4 q5 qI hjn HMem
              obtain ⟨yF, yT, yN, yO, yD⟩ := y
              simp only at q0 q1 q2 q3 q4 q5 hjn
              replace q0 := cell_later HB5.out q0
              replace q1 := cell_later HB5.out q1
              replace q2 := cell_later HB5.out q2
              replace q3 := cell_later HB5.out q3
              replace q4 := cell_later HB5.out q4
              have HU : Hid (ChunkM.under ((k + 1 : Nat) : Int) L = ChunkM.under k L ++ [⟨yF, yT, yN, yO, yD⟩]) := by
                show _ = _
                rw [show ((k + 1 : Nat) : Int) = (k : Int) + 1 by omega]
                refine ChunkM.under_hit HUp.out ?_ hjn
                rw [← HLL.out]
                exact ChunkM.ins_old HMem.out
              obtain ⟨g5, cap5, W6, hrun, HS6, -⟩ := HCH5.out.app ⟨yF, yT, yN, yO, yD⟩ q5 qI (by omega) HB5.out.size HB5.out rfl
              obtain ⟨ul, hull⟩ : ∃ ul, (ChunkM.under k L).length = ul := ⟨_, rfl⟩
              rw [hull] at hrun HS6 hul
              simp only at hrun
              have hj0 : (0 : Int) ≤ (j : Int) := by omega
              have hjn9 : (j : Int) < (n9 : Int) := by omega
              clear hcs q5 qI hull hjn
              go_wp2_with (at_builtin; refine Lib.wpList_append_run _ rfl _ _ _ _ rfl _ _ rfl rfl _ _ hrun ?_)
              go_roundw
              case rel => exact ⟨k + 1, by go_num, by omega, by rw [HU.out]; exact HS6.out.1, HS6.out.2⟩
              case measure => simp [intOf]; omega
          · have hk52 : k = 52 := by omega
            subst hk52
            have hch := HCH.out
            rw [ChunkM.under_all (fun y hy => by have := HRng.out y hy; omega)] at hch
            obtain ⟨a8, c8, h8⟩ := hch.form
            subst h8
            have HCS := Lib.hid (hch.cs rfl HB.out)
            have hb8 := below_then HB9.out HB.out
            clear hch HCH
            go_wp2_with fail
            go_ret2
            exact ⟨a8, _, c8, tup_a (by rw [HK.out]), by rw [HK.out, HLL.out]; exact HCS.out, hb8⟩
    · have t0 : (E2 != 0) = true := by simp [hE20]
      have HK : Hid (ChunkM.addOf l ⟨F, T, N, O, D⟩ = ([], E2)) := by
        show _ = _
        unfold ChunkM.addOf
        rw [if_neg (by rw [HE.out]; simp), if_pos (by rw [hE2]; exact hE20), hE2]
      clear hE2 hblk2
      go_wp2_with fail
      go_ret2
      exact ⟨none, 0, 0, tup_a (by rw [HK.out]), by rw [HK.out]; exact CS.nil_ _, HB2.out⟩
  · have t0 : (E != 0) = true := by simp [hE0]
    have HK : Hid (ChunkM.addOf l ⟨F, T, N, O, D⟩ = ([], E)) := by
      show _ = _
      unfold ChunkM.addOf
      rw [if_pos (by rw [hE]; exact hE0), hE]
    clear hE hblk1
    go_wp2_with fail
    go_ret2
    exact ⟨none, 0, 0, tup_a (by rw [HK.out]), by rw [HK.out]; exact CS.nil_ _, HB1.out⟩
end Go.Proofs.Ytmpmaljkmfgagab
