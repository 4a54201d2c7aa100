/-
  The law ChunkOther, walked over what is asked of package chunk.
-/
import Derived.Test.YtmpmaljkmfgagabChunkFact
import Derived.Test.YtmpmaljkmfgagabRowToOpenN
import Derived.Test.YtmpmaljkmfgagabIdxOther
import Derived.Deep.DeepCutAuto
namespace Go.Proofs.Ytmpmaljkmfgagab
open Go.RowKit

/-- a literal of one chunk -/
theorem one_cs {W : World} {v : Value} {c : ChR} (hv : CV W v c) : ∃ a m cp, v = .agg #[.int .i64 c.fr, .int .i64 c.to_, .int .i64 c.n, .int .i64 c.of_, .slice a m cp] ∧
    CS (W.alloc (.cells #[.int .i64 c.fr, .int .i64 c.to_, .int .i64 c.n, .int .i64 c.of_, .slice a m cp] 69)) (some ⟨W.heap.size, 0, none⟩) 1 1 [c] := by
  obtain ⟨a, m, cp, rfl, hd, hI⟩ := hv
  refine ⟨a, m, cp, rfl, rfl, Nat.le_refl _, by omega, fun _ => ⟨_, 0, rfl, fun i hi => ?_⟩, fun h => by cases h⟩
  obtain rfl : i = 0 := by omega
  obtain ⟨k0, k1, k2, k3, k4⟩ := ch_cells (ch_block W (.int .i64 c.fr) (.int .i64 c.to_) (.int .i64 c.n) (.int .i64 c.of_) (.slice a m cp))
  exact ⟨a, m, cp, k0, k1, k2, k3, k4, hd.later ((Below.refl _ _).alloc (Nat.le_refl _) _), hI⟩

set_option maxRecDepth 100000 in
set_option maxHeartbeats 4000000 in
theorem chunkOther_walk (HLs : ListCC) (HSc : SameCC) (HCt : CutCC) (HAd : AddCC) (HJn : JoinCC) (HSm : SamePC) (a0 : Option Addr) (len0 cap0 : Nat) (l : List ChR) (v1 : Value) (c : ChR)
    (w : World) (w0 : CS w a0 len0 cap0 l) (hv1 : CV w v1 c) (hM : MaxCell w) :
    Calls Try.prog 14 #[.slice a0 len0 cap0, v1] w fun e w' => e = .returned (.bool true) ∧ Below w.heap.size w w' := by
  have HFact := Lib.hid (fun W => chunkFact_any HCt HAd HJn HLs HSm W)
  replace HLs := Lib.hid HLs
  replace HSc := Lib.hid HSc
  replace HAd := Lib.hid HAd
  clear HCt HJn HSm
  have HLn := Lib.hid w0.len
  have hmax : len0 ≤ 9223372036854775807 := by have := w0.le; have := w0.max; omega
  obtain ⟨ca, cm, cc, rfl, hd1, hI1⟩ := hv1
  obtain ⟨C, hC⟩ : ∃ C, w.heap.size = C := ⟨_, rfl⟩
  have b9 : Below w.heap.size w (w.alloc (.cells #[.int .i64 c.fr, .int .i64 c.to_, .int .i64 c.n, .int .i64 c.of_, .slice ca cm cc] 69)) := (Below.refl _ _).alloc (Nat.le_refl _) _
  have hC1 : (w.alloc (.cells #[.int .i64 c.fr, .int .i64 c.to_, .int .i64 c.n, .int .i64 c.of_, .slice ca cm cc] 69)).heap[C]? = some (.cells #[.int .i64 c.fr, .int .i64 c.to_, .int .i64 c.n, .int .i64 c.of_, .slice ca cm cc] 69 (0, 0)) := by rw [heap_at, if_pos hC.symm]
  replace w0 := w0.later b9
  replace hM := hM.later b9
  have hcv : CV _ (.agg #[.int .i64 c.fr, .int .i64 c.to_, .int .i64 c.n, .int .i64 c.of_, .slice ca cm cc]) c := ⟨ca, cm, cc, rfl, hd1.later b9, hI1⟩
  have hmf : ∀ (fn : Fn) (first cap : Array Value) (w : World), (Instr.makeFunc fn first cap).run Try.prog w = .ok (.func fn first cap) w := fun _ _ _ _ => rfl
  clear hd1 hI1
  go_enter Try.func14, Try.ntmps14
  go_wp2_with fail
  generalize w.alloc (.cells #[.int .i64 c.fr, .int .i64 c.to_, .int .i64 c.n, .int .i64 c.of_, .slice ca cm cc] 69) = W0 at hC1 w0 hM hcv b9 ⊢
  refine (HAd.out _ _ _ l _ c _ w0 hcv).mono ?_
  rintro e W1 ⟨a1, n1, c1, rfl, x1, d1⟩
  obtain ⟨⟨xs, ex⟩, hx⟩ : ∃ X, ChunkM.addOf l c = X := ⟨_, rfl⟩
  have HX := Lib.hid hx
  rw [hx] at x1 ⊢
  simp only at x1 ⊢
  replace hC1 := (d1.block C (lt_blk hC1)).trans hC1
  replace w0 := w0.later d1
  replace hM := hM.later d1
  replace hcv := hcv.later d1
  replace b9 := below_then b9 d1
  clear d1 hx
  go_wp2_with fail
  refine (HFact.out _ hM).mono ?_
  rintro e W2 ⟨rfl, d2⟩
  replace hC1 := (d2.block C (lt_blk hC1)).trans hC1
  replace w0 := w0.later d2
  replace hM := hM.later d2
  replace hcv := hcv.later d2
  replace x1 := x1.later d2
  replace b9 := below_then b9 d2
  clear d2
  by_cases hex : ex = 0
  · subst hex
    obtain ⟨hl, hc, hxs⟩ := ChunkM.addOf_ok (l := l) (c := c) (by rw [HX.out])
    rw [HX.out] at hxs
    simp only at hxs
    subst hxs
    have HL0 := Lib.hid hl
    have HC0 := Lib.hid hc
    have HChk := Lib.hid (ChunkM.made_checks hl hc)
    have HAgain := Lib.hid (ChunkM.made_again hl hc)
    have HLike : Hid ((ChunkM.ins (ChunkM.those l c) c).any (likeC c) = true) := by
      show _ = _
      obtain ⟨y, hy, hn⟩ := ChunkM.made_has (l := l) (c := c)
      have hk := (ChunkM.made_kin hl hc y hy).2
      exact List.any_eq_true.2 ⟨y, hy, by simp only [likeC, decide_eq_true_eq]; exact ⟨hn, hk.1, hk.2.1, hk.2.2⟩⟩
    clear hl hc
    go_wp2_with fail
    refine (HLs.out _ _ _ _ _ x1).mono ?_
    rintro e W3 ⟨rfl, d3⟩
    rw [HChk.out]
    replace hC1 := (d3.block C (lt_blk hC1)).trans hC1
    replace w0 := w0.later d3
    replace hcv := hcv.later d3
    replace x1 := x1.later d3
    replace b9 := below_then b9 d3
    clear d3 hM
    go_wp2_with fail
    refine (hasLike_any _ _ _ _ C c _ x1 ⟨_, hC1⟩).mono ?_
    rintro e W4 ⟨rfl, d4⟩
    rw [HLike.out]
    replace hC1 := (d4.block C (lt_blk hC1)).trans hC1
    replace w0 := w0.later d4
    replace hcv := hcv.later d4
    replace x1 := x1.later d4
    replace b9 := below_then b9 d4
    clear d4
    obtain ⟨k0, k1, k2, k3, k4⟩ := ch_cells hC1
    go_upto_region 6 with fail
    go_cut [7] (fun s7 wx => ∃ q : Bool, s7 = .bool q ∧ ((q = true ∧ ChunkM.kin c (l.getD 0 default)) ∨ (q = false ∧ (l = [] ∨ ¬ ChunkM.kin c (l.getD 0 default)))) ∧ Below W4.heap.size W4 wx)
    case first =>
      by_cases hn0 : len0 = 0
      · subst hn0
        have HNil : Hid (l = []) := List.eq_nil_of_length_eq_zero HLn.out
        go_wp2_with fail
        go_quiet (fail)
        have hbq := below_drewN (Below.refl W4.heap.size W4) nq
        go_wp2_with fail
        go_meet
        exact ⟨_, rfl, .inr ⟨rfl, .inl HNil.out⟩, hbq⟩
      · obtain ⟨b, off, rfl, hcs⟩ := w0.cells (by omega)
        obtain ⟨za, zm, zc, z0, z1, z2, z3, -, -, -⟩ := hcs 0 (by omega)
        obtain ⟨zz, hzz⟩ : ∃ zz, l.getD 0 default = zz := ⟨_, rfl⟩
        rw [hzz] at z0 z1 z3
        have HZZ := Lib.hid hzz
        obtain ⟨ZF, ZT, ZN, ZO, ZD⟩ := zz
        obtain ⟨cF, cT, cN, cO, cD⟩ := c
        simp only [Nat.zero_mul, Nat.add_zero] at z0 z1 z3 k0 k1 k2 k3
        have h0n : (0 : Int) < (len0 : Int) := by omega
        have h0m : 0 < len0 := by omega
        clear hcs z2 hzz
        by_cases e1 : ZF = cF
        · subst e1
          have t1 : (ZF == ZF) = true := by simp
          by_cases e2 : ZT = cT
          · subst e2
            have t2 : (ZT == ZT) = true := by simp
            by_cases e3 : ZO = cO
            · subst e3
              have t3 : (ZO == ZO) = true := by simp
              go_wp2_with fail
              go_quiet (fail)
              have hbq := below_drewN (Below.refl W4.heap.size W4) nq
              go_wp2_with fail
              go_meet
              exact ⟨_, rfl, .inl ⟨rfl, by rw [HZZ.out]; exact ⟨rfl, rfl, rfl⟩⟩, hbq⟩
            · have t3 : (ZO == cO) = false := by simp [e3]
              go_wp2_with fail
              go_quiet (fail)
              have hbq := below_drewN (Below.refl W4.heap.size W4) nq
              go_wp2_with fail
              go_meet
              exact ⟨_, rfl, .inr ⟨rfl, .inr (by rw [HZZ.out]; exact fun h => e3 h.2.2.symm)⟩, hbq⟩
          · have t2 : (ZT == cT) = false := by simp [e2]
            go_wp2_with fail
            go_quiet (fail)
            have hbq := below_drewN (Below.refl W4.heap.size W4) nq
            go_wp2_with fail
            go_meet
            exact ⟨_, rfl, .inr ⟨rfl, .inr (by rw [HZZ.out]; exact fun h => e2 h.2.1.symm)⟩, hbq⟩
        · have t1 : (ZF == cF) = false := by simp [e1]
          go_wp2_with fail
          go_quiet (fail)
          have hbq := below_drewN (Below.refl W4.heap.size W4) nq
          go_wp2_with fail
          go_meet
          exact ⟨_, rfl, .inr ⟨rfl, .inr (by rw [HZZ.out]; exact fun h => e1 h.1.symm)⟩, hbq⟩
    case rest =>
      obtain ⟨q, rfl, hq, d5⟩ := hcut
      replace hC1 := (d5.block C (lt_blk hC1)).trans hC1
      replace w0 := w0.later d5
      replace hcv := hcv.later d5
      replace x1 := x1.later d5
      replace b9 := below_then b9 d5
      clear d5 k0 k1 k2 k3 k4
      generalize wc = W5 at hC1 w0 hcv x1 b9 ⊢
      rcases hq with ⟨rfl, hk⟩ | ⟨rfl, hk⟩
      · have HTh := Lib.hid (ChunkM.those_mine hk)
        rw [HTh.out] at HAgain x1
        clear hk
        go_wp2_with fail
        refine (hasNum_any _ _ _ _ C c _ w0 ⟨_, hC1⟩).mono ?_
        rintro e W6 ⟨rfl, d6⟩
        obtain ⟨t, ht⟩ : ∃ t, l.any (numC c) = t := ⟨_, rfl⟩
        have HT := Lib.hid ht
        rw [ht]
        replace hC1 := (d6.block C (lt_blk hC1)).trans hC1
        replace w0 := w0.later d6
        replace hcv := hcv.later d6
        replace x1 := x1.later d6
        replace b9 := below_then b9 d6
        clear d6 ht
        obtain ⟨k0, k1, k2, k3, k4⟩ := ch_cells hC1
        go_wp2_with fail
        refine (HAd.out _ _ _ _ _ c _ x1 hcv).mono ?_
        rintro e W7 ⟨a7, n7, c7, rfl, x2, d7⟩
        rw [HAgain.out] at x2 ⊢
        simp only at x2 ⊢
        replace w0 := w0.later d7
        replace x1 := x1.later d7
        replace b9 := below_then b9 d7
        clear d7 hC1 hcv k0 k1 k2 k3 k4
        go_wp2_with fail
        refine (HSc.out _ _ _ _ _ _ _ _ _ x1 x2).mono ?_
        rintro e W8 ⟨rfl, d8⟩
        rw [decide_eq_true rfl]
        replace w0 := w0.later d8
        replace x1 := x1.later d8
        replace b9 := below_then b9 d8
        clear d8 x2
        have hX1 := x1.len
        cases t with
        | true =>
          obtain ⟨y, hy, hn⟩ := List.any_eq_true.1 HT.out
          have hins := ChunkM.ins_have (ChunkM.checks_up HL0.out) hy (by simpa [numC] using hn)
          rw [hins] at x1
          go_wp2_with fail
          refine (HSc.out _ _ _ _ _ _ _ _ _ x1 w0).mono ?_
          rintro e W9 ⟨rfl, d9⟩
          rw [decide_eq_true rfl]
          replace b9 := below_then b9 d9
          go_wp2_with fail
          go_ret
          exact ⟨rfl, b9⟩
        | false =>
          have hno : ∀ y ∈ l, y.n ≠ c.n := by
            intro y hy e
            have := List.any_eq_false.1 HT.out y hy
            simp [numC, e] at this
          have hil := ChunkM.ins_len hno
          rw [hX1, HLn.out] at hil
          subst hil
          have h52 := ChunkM.up_len (ChunkM.checks_up HL0.out) (lo := 0) (hi := 52) (fun y hy => by have h1 := ChunkM.checks_all HL0.out y hy; have h2 := (ChunkM.check_good h1.1).2.2; omega) (by omega)
          rw [HLn.out] at h52
          obtain ⟨K, hK⟩ : ∃ K : Int, (len0 : Int) + 1 = K := ⟨_, rfl⟩
          have hKK : (K == K) = true := by simp
          clear hno hX1 HAgain HX
          go_wp2_with fail
          go_ret
          exact ⟨ret_bool (by simp), b9⟩
      · have HTh := Lib.hid (ChunkM.those_other hk)
        rw [HTh.out] at HAgain x1
        clear hk
        obtain ⟨k0, k1, k2, k3, k4⟩ := ch_cells hC1
        go_wp2_with fail
        refine (HAd.out _ _ _ _ _ c _ x1 hcv).mono ?_
        rintro e W7 ⟨a7, n7, c7, rfl, x2, d7⟩
        rw [HAgain.out] at x2 ⊢
        simp only at x2 ⊢
        replace hC1 := (d7.block C (lt_blk hC1)).trans hC1
        replace hcv := hcv.later d7
        replace x1 := x1.later d7
        replace b9 := below_then b9 d7
        clear d7 k0 k1 k2 k3 k4
        go_wp2_with fail
        refine (HSc.out _ _ _ _ _ _ _ _ _ x1 x2).mono ?_
        rintro e W8 ⟨rfl, d8⟩
        rw [decide_eq_true rfl]
        replace hC1 := (d8.block C (lt_blk hC1)).trans hC1
        replace hcv := hcv.later d8
        replace x1 := x1.later d8
        replace b9 := below_then b9 d8
        clear d8 x2
        obtain ⟨k0, k1, k2, k3, k4⟩ := ch_cells hC1
        obtain ⟨ca', cm', cc', he, h1⟩ := one_cs hcv
        simp only [Value.agg.injEq, Array.mk.injEq, List.cons.injEq, Value.slice.injEq, and_true, true_and] at he
        obtain ⟨rfl, rfl, rfl⟩ := he
        have hbl : Below W8.heap.size W8 (W8.alloc (.cells #[.int .i64 c.fr, .int .i64 c.to_, .int .i64 c.n, .int .i64 c.of_, .slice ca cm cc] 69)) := (Below.refl _ _).alloc (Nat.le_refl _) _
        have x3 := x1.later hbl
        have b10 := below_then b9 hbl
        have hone : ChunkM.ins [] c = [c] := rfl
        rw [hone] at x3
        clear hbl b9 x1 hone
        go_wp2_with fail
        refine (HSc.out _ _ _ _ _ _ _ _ _ x3 h1).mono ?_
        rintro e W9 ⟨rfl, d9⟩
        rw [decide_eq_true rfl]
        have b11 := below_then b10 d9
        go_wp2_with fail
        go_ret
        exact ⟨rfl, b11⟩
  · have hne : (ex != 0) = true := by simp [hex]
    go_wp2_with fail
    refine (HFact.out _ hM).mono ?_
    rintro e W3 ⟨rfl, d3⟩
    replace b9 := below_then b9 d3
    go_wp2_with fail
    go_ret
    exact ⟨rfl, b9⟩
end Go.Proofs.Ytmpmaljkmfgagab
