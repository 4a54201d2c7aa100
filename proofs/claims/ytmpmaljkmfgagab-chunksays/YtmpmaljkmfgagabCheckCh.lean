/-
  Contracts of the reference's CheckChunk and CheckChunks.
-/
import Derived.Test.YtmpmaljkmfgagabRowToOpenN
import Derived.Test.YtmpmaljkmfgagabInRefToCheckOps
namespace Go.Proofs.Ytmpmaljkmfgagab
open Go.RowKit

set_option maxRecDepth 100000 in
set_option maxHeartbeats 1000000 in
theorem checkCh_any (v : Value) (r : ChR) (w : World) (hv : CV w v r) :
    Calls Try.prog 53 #[v] w fun e w' => e = .returned (.int .i64 (ChunkM.check r)) ∧ Below w.heap.size w w' := by
  obtain ⟨a, m, c, rfl, hd, h1, h2, h3, h4⟩ := hv
  obtain ⟨f, t, n, o, D⟩ := r
  simp only at hd h1 h2 h3 h4 ⊢
  have HDL := Lib.hid hd.len
  have hm : m ≤ 9223372036854775807 := by have := hd.le; have := hd.max; omega
  have HB := Lib.hid ((Below.refl w.heap.size w).alloc (Nat.le_refl _) (.cells #[.int .i64 f, .int .i64 t, .int .i64 n, .int .i64 o, .slice a m c] 69))
  have HBad : Hid (ChunkM.badNums ⟨f, t, n, o, D⟩ → ChunkM.check ⟨f, t, n, o, D⟩ = 2) := by
    show _ → _
    intro h
    unfold ChunkM.check
    rw [if_pos h]
  unfold I64 at h1 h2 h3 h4
  clear hd
  go_enter Try.func53, Try.ntmps53
  go_wp2_with fail
  refine (in_any f 1 30 _).mono ?_
  rintro e w' ⟨rfl, rfl⟩
  by_cases c1 : 1 ≤ f ∧ f ≤ 30
  · rw [decide_eq_true c1]
    go_wp2_with fail
    refine (in_any t 1 30 _).mono ?_
    rintro e w' ⟨rfl, rfl⟩
    by_cases c2 : 1 ≤ t ∧ t ≤ 30
    · rw [decide_eq_true c2]
      go_wp2_with fail
      refine (in_any o 1 52 _).mono ?_
      rintro e w' ⟨rfl, rfl⟩
      by_cases c3 : 1 ≤ o ∧ o ≤ 52
      · rw [decide_eq_true c3]
        by_cases c4 : n < 0
        · have HE := Lib.hid (HBad.out (.inr (.inr (.inr (.inl c4)))))
          go_wp2_with fail
          go_ret
          exact ⟨ret_chk HE.out.symm, HB.out⟩
        · by_cases c5 : o ≤ n
          · have HE := Lib.hid (HBad.out (.inr (.inr (.inr (.inr c5)))))
            go_wp2_with fail
            go_ret
            exact ⟨ret_chk HE.out.symm, HB.out⟩
          · have HG : Hid (¬ ChunkM.badNums ⟨f, t, n, o, D⟩) := by
              show ¬ _
              unfold ChunkM.badNums
              simp only
              omega
            obtain ⟨O1, hO1⟩ : ∃ O1, o - 1 = O1 := ⟨_, rfl⟩
            by_cases c6 : n = O1
            · subst c6
              have t6 : (n == n) = true := by simp
              have HE : Hid (ChunkM.check ⟨f, t, n, o, D⟩ = if ¬ (1 ≤ (m : Int) ∧ (m : Int) ≤ 16) then 3 else 0) := by
                show _ = _
                rw [ChunkM.check_last HG.out hO1.symm]
                simp only [HDL.out]
              go_wp2_with fail
              refine (in_any m 1 16 _).mono ?_
              rintro e w' ⟨rfl, rfl⟩
              by_cases c7 : 1 ≤ (m : Int) ∧ (m : Int) ≤ 16
              · rw [decide_eq_true c7]
                go_wp2_with fail
                go_ret
                exact ⟨ret_chk (by rw [HE.out, if_neg (not_not_intro c7)]), HB.out⟩
              · rw [decide_eq_false c7]
                go_wp2_with fail
                go_ret
                exact ⟨ret_chk (by rw [HE.out, if_pos c7]), HB.out⟩
            · have t6 : (n == O1) = false := by simp [c6]
              have HE : Hid (ChunkM.check ⟨f, t, n, o, D⟩ = if ¬ (16 ≤ (m : Int) ∧ (m : Int) ≤ 16) then 3 else 0) := by
                show _ = _
                rw [ChunkM.check_mid HG.out (by simp only; rw [hO1]; exact c6)]
                simp only [HDL.out]
              go_wp2_with fail
              refine (in_any m 16 16 _).mono ?_
              rintro e w' ⟨rfl, rfl⟩
              by_cases c7 : 16 ≤ (m : Int) ∧ (m : Int) ≤ 16
              · rw [decide_eq_true c7]
                go_wp2_with fail
                go_ret
                exact ⟨ret_chk (by rw [HE.out, if_neg (not_not_intro c7)]), HB.out⟩
              · rw [decide_eq_false c7]
                go_wp2_with fail
                go_ret
                exact ⟨ret_chk (by rw [HE.out, if_pos c7]), HB.out⟩
      · rw [decide_eq_false c3]
        have HE := Lib.hid (HBad.out (.inr (.inr (.inl c3))))
        go_wp2_with fail
        go_ret
        exact ⟨ret_chk HE.out.symm, HB.out⟩
    · rw [decide_eq_false c2]
      have HE := Lib.hid (HBad.out (.inr (.inl c2)))
      go_wp2_with fail
      go_ret
      exact ⟨ret_chk HE.out.symm, HB.out⟩
  · rw [decide_eq_false c1]
    have HE := Lib.hid (HBad.out (.inl c1))
    go_wp2_with fail
    go_ret
    exact ⟨ret_chk HE.out.symm, HB.out⟩

/-- the rounds of CheckChunks -/
def ChksRel (l : List ChR) (w : World) (last i : Value) (wr : World) : Prop :=
  ∃ (k : Nat) (m : Int), i = .int .i64 k ∧ k ≤ l.length ∧ last = .int .i64 m ∧ -1 ≤ m ∧ m ≤ 52 ∧ ChunkM.chks (l.getD 0 default) (l.drop k) m = ChunkM.checks l ∧ Below w.heap.size w wr

set_option maxRecDepth 100000 in
set_option maxHeartbeats 2000000 in
theorem checkChs_any (a : Option Addr) (n c : Nat) (l : List ChR) (w : World) (hl : CS w a n c l) :
    Calls Try.prog 55 #[.slice a n c] w fun e w' => e = .returned (.int .i64 (ChunkM.checks l)) ∧ Below w.heap.size w w' := by
  have HL := Lib.hid hl
  have HLn := Lib.hid hl.len
  have hlen : n ≤ 9223372036854775807 := by have := hl.le; have := hl.max; omega
  clear hl
  go_enter Try.func55, Try.ntmps55
  go_wp2_with fail
  go_loopw [3, 9] (fun last i wr => ChksRel l w last i wr) (fun _ i _ => n - (intOf i).toNat)
  case atStart => exact ⟨0, -1, rfl, Nat.zero_le _, rfl, by omega, by omega, by cases l <;> rfl, Below.refl _ _⟩
  case round =>
    obtain ⟨k, m, rfl, hk, rfl, hm1, hm2, hc, hB⟩ := hrel
    rw [HLn.out] at hk
    have HC := Lib.hid hc
    have HB := Lib.hid hB
    clear hc hB
    by_cases hlt : k < n
    · obtain ⟨b, off, rfl, hcs⟩ := (HL.out.later HB.out).cells (by omega)
      obtain ⟨za, zm, zc, z0, z1, z2, z3, z4, z5, zI⟩ := hcs 0 (by omega)
      obtain ⟨va, vm, vc, q0, q1, q2, q3, q4, q5, qI⟩ := hcs k hlt
      have HD := Lib.hid (drop_ch l k (by rw [HLn.out]; exact hlt))
      obtain ⟨z, hz⟩ : ∃ z, l.getD 0 default = z := ⟨_, rfl⟩
      rw [hz] at z0 z1 z2 z3 z5 HC
      have HZZ := Lib.hid hz
      clear hz
      generalize l.getD k default = x at q0 q1 q2 q3 q4 q5 qI HD
      obtain ⟨ZF, ZT, ZN, ZO, ZD⟩ := z
      obtain ⟨F, T, N, O, D⟩ := x
      simp only [Nat.zero_mul, Nat.add_zero] at z0 z1 z3 q0 q1 q2 q3 q4 q5
      have hbl : Below wr.heap.size wr (wr.alloc (.cells #[.int .i64 F, .int .i64 T, .int .i64 N, .int .i64 O, .slice va vm vc] 69)) := (Below.refl _ _).alloc (Nat.le_refl _) _
      have HCV : Hid (CV (wr.alloc (.cells #[.int .i64 F, .int .i64 T, .int .i64 N, .int .i64 O, .slice va vm vc] 69)) (.agg #[.int .i64 F, .int .i64 T, .int .i64 N, .int .i64 O, .slice va vm vc]) ⟨F, T, N, O, D⟩) := ⟨va, vm, vc, rfl, q5.later hbl, qI⟩
      have HBL := Lib.hid (below_then HB.out hbl)
      have HBlk := Lib.hid (ch_block wr (.int .i64 F) (.int .i64 T) (.int .i64 N) (.int .i64 O) (.slice va vm vc))
      have HZ : Hid (∀ W, Below wr.heap.size wr W → W.cell? ⟨b, off, none⟩ = some (.int .i64 ZF) ∧ W.cell? ⟨b, off + 1, none⟩ = some (.int .i64 ZT) ∧ W.cell? ⟨b, off + 3, none⟩ = some (.int .i64 ZO)) := fun W h => ⟨cell_later h z0, cell_later h z1, cell_later h z3⟩
      have HBl := Lib.hid hbl
      clear hcs z0 z1 z2 z3 z4 z5 q5 qI hbl zI
      go_wp2_with fail
      refine (checkCh_any _ _ _ HCV.out).mono ?_
      rintro e W2 ⟨rfl, hb2⟩
      have HB2 := Lib.hid (below_then HBL.out hb2)
      obtain ⟨y0, y1, y2⟩ := HZ.out _ (below_then HBl.out hb2)
      obtain ⟨p0, p1, p2, p3, -⟩ := ch_cells ((hb2.block _ (by simp)).trans HBlk.out)
      clear hb2 HBlk HBL HCV HBl q0 q1 q2 q3 q4
      by_cases e0 : ChunkM.check ⟨F, T, N, O, D⟩ = 0
      · have HE0 := Lib.hid e0
        rw [e0]
        have hgood := ChunkM.check_good e0
        simp only at hgood
        obtain ⟨-, -, go, gn, -⟩ := hgood
        clear e0
        have h0 : (0 : Int) < (n : Int) := by omega
        have HF3 : Hid (¬ (F = ZF ∧ T = ZT ∧ O = ZO) ∨ N ≤ m → ChunkM.checks l = 3) := by
          show _ → _
          intro h
          rw [← HC.out, HD.out]
          exact ChunkM.chks_form HE0.out h
        by_cases e1 : F = ZF
        · subst e1
          have t1 : (F != F) = false := by simp
          by_cases e2 : T = ZT
          · subst e2
            have t2 : (T != T) = false := by simp
            by_cases e3 : O = ZO
            · subst e3
              have t3 : (O != O) = false := by simp
              by_cases e4 : N ≤ m
              · go_wp2_with fail
                go_quiet (fail)
                have HB4 := Lib.hid (below_drewN HB2.out nq)
                go_wp2_with fail
                go_ret
                exact ⟨ret_chk (HF3.out (.inr e4)).symm, HB4.out⟩
              · have t4 : decide (N ≤ m) = false := by simp; omega
                go_wp2_with fail
                go_quiet (fail)
                have HB4 := Lib.hid (below_drewN HB2.out nq)
                go_wp2_with fail
                go_roundw
                case rel =>
                  refine ⟨k + 1, N, by go_num, by rw [HLn.out]; omega, rfl, by omega, by omega, ?_, HB4.out⟩
                  rw [← HC.out, HD.out, HZZ.out]
                  exact (ChunkM.chks_on (z := ⟨F, T, ZN, O, ZD⟩) (last := m) HE0.out ⟨rfl, rfl, rfl⟩ (by simp only; omega)).symm
                case measure => simp [intOf]; omega
            · have t3 : (O != ZO) = true := by simp [e3]
              have HR := Lib.hid (HF3.out (.inl (fun h => e3 h.2.2)))
              go_wp2_with fail
              go_quiet (fail)
              have HB4 := Lib.hid (below_drewN HB2.out nq)
              go_wp2_with fail
              go_ret
              exact ⟨ret_chk HR.out.symm, HB4.out⟩
          · have t2 : (T != ZT) = true := by simp [e2]
            have HR := Lib.hid (HF3.out (.inl (fun h => e2 h.2.1)))
            go_wp2_with fail
            go_quiet (fail)
            have HB4 := Lib.hid (below_drewN HB2.out nq)
            go_wp2_with fail
            go_ret
            exact ⟨ret_chk HR.out.symm, HB4.out⟩
        · have t1 : (F != ZF) = true := by simp [e1]
          have HR := Lib.hid (HF3.out (.inl (fun h => e1 h.1)))
          go_wp2_with fail
          go_quiet (fail)
          have HB4 := Lib.hid (below_drewN HB2.out nq)
          go_wp2_with fail
          go_ret
          exact ⟨ret_chk HR.out.symm, HB4.out⟩
      · obtain ⟨E, hE⟩ : ∃ E, ChunkM.check ⟨F, T, N, O, D⟩ = E := ⟨_, rfl⟩
        have HE : Hid (ChunkM.checks l = E) := by
          show _ = _
          rw [← HC.out, HD.out, ChunkM.chks_bad e0, hE]
        rw [hE] at e0 ⊢
        have t0 : (E != 0) = true := by simp [e0]
        clear hE
        go_wp2_with fail
        go_ret
        exact ⟨ret_chk HE.out.symm, HB2.out⟩
    · have hdr : l.drop k = [] := List.drop_eq_nil_of_le (by rw [HLn.out]; omega)
      have HE : Hid (ChunkM.checks l = 0) := by
        show _ = _
        rw [← HC.out, hdr]
        rfl
      go_wp2_with fail
      go_ret
      exact ⟨ret_chk HE.out.symm, HB.out⟩
end Go.Proofs.Ytmpmaljkmfgagab
