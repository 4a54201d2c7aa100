/-
  The walk of the law PatchBack.
-/
import Derived.Test.YtmpmaljkmfgagabPatched
import Derived.Test.YtmpmaljkmfgagabDifMath
import Derived.Test.YtmpmaljkmfgagabImage
import Derived.Deep.DeepCutAuto
namespace Go.Proofs.Ytmpmaljkmfgagab
open Go.RowKit

/-- a patch that is made of images passes, and makes the one of the other -/
theorem made_good {x y : List Int} {ops : List OpR} (hx : x.length ≤ 64) (hy : y.length ≤ 64) (h : DeltaM.Dif x y [] ops) :
    PatM.check ⟨1, 2, SumM.addL 1 x, SumM.addL 1 y, y.length, ops⟩ = 0 ∧ madeOf 1 2 x y ops 0 = (⟨1, 2, SumM.addL 1 x, SumM.addL 1 y, y.length, ops⟩, 0) ∧ doneOf ⟨1, 2, SumM.addL 1 x, SumM.addL 1 y, y.length, ops⟩ x = (y, 0) := by
  have s1 := SumM.addL_bd x 1 (by omega) (by omega)
  have s2 := SumM.addL_bd y 1 (by omega) (by omega)
  have hg := h.good (by simpa using hy)
  have hg64 : DeltaM.Good 64 ops := by
    intro o ho
    refine ⟨(hg o ho).1, fun hb => (hg o ho).2 ?_⟩
    have h3 := DeltaM.good_len (hg o ho).2
    unfold DeltaM.badRange at hb
    omega
  have ht := h.total (by simpa using hy)
  have hf := h.few
  rw [if_pos rfl] at hf
  simp only [List.length_nil, Nat.zero_add] at ht
  have hc1 : DeltaM.check ops 64 y.length = 0 := DeltaM.check_pass (by omega) (by omega) (by omega) hg64 ht
  have hc2 : DeltaM.check ops x.length y.length = 0 := h.check hx hy
  have hc : PatM.check ⟨1, 2, SumM.addL 1 x, SumM.addL 1 y, y.length, ops⟩ = 0 := by
    unfold PatM.check
    rw [if_neg (by unfold PatM.badHead; simp only; omega)]
    exact hc1
  have ha : DeltaM.applied x ops y.length = y := by
    unfold DeltaM.applied
    rw [if_pos hc2, h.makes]
    simp
  refine ⟨hc, ?_, ?_⟩
  · unfold madeOf
    rw [if_neg (by simp), if_neg (by rw [hc]; simp)]
  · unfold doneOf
    simp only
    rw [if_neg (by rw [hc]; simp), if_neg (by omega), if_neg (by simp), if_neg (by rw [hc2]; simp), ha, if_neg (by simp)]

set_option maxRecDepth 100000 in
set_option maxHeartbeats 2000000 in
theorem patchBack_walk (HMk : MakePC) (HPt : PutPC) (HRd : ReadPC) (HDo : DoPC) (HSm : SamePC) (v : Value) (p : PatR) (a1 : Option Addr) (len1 cap1 : Nat) (l1 : List Int) (a2 : Option Addr) (len2 cap2 : Nat) (l2 : List Int) (a3 : Option Addr) (len3 cap3 : Nat) (l3 : List Int)
    (w : World) (hv : PV w v p) (w1 : BS w a1 len1 cap1 l1) (w2 : BS w a2 len2 cap2 l2) (w3 : BS w a3 len3 cap3 l3) :
    Calls Try.prog 8 #[v, .slice a1 len1 cap1, .slice a2 len2 cap2, .slice a3 len3 cap3] w fun e w' => e = .returned (.bool true) ∧ Below w.heap.size w w' := by
  have HFact := Lib.hid (patched_any HMk HPt HRd HDo HSm)
  replace HMk := Lib.hid HMk
  replace HPt := Lib.hid HPt
  replace HRd := Lib.hid HRd
  replace HDo := Lib.hid HDo
  replace HSm := Lib.hid HSm
  have hbt := w1.bytes
  have HBT := Lib.hid hbt
  clear hbt
  obtain ⟨ao, no, co, rfl, hop⟩ := hv
  have hb0 : Below w.heap.size w (w.alloc (.cells #[.int .i64 p.from_, .int .i64 p.to_, .int .i64 p.old, .int .i64 p.new, .int .i64 p.size, .slice ao no co] 41)) := (Below.refl _ _).alloc (Nat.le_refl _) _
  obtain ⟨B, hB⟩ : ∃ B, w.heap.size = B := ⟨_, rfl⟩
  have hB1 : (w.alloc (.cells #[.int .i64 p.from_, .int .i64 p.to_, .int .i64 p.old, .int .i64 p.new, .int .i64 p.size, .slice ao no co] 41)).heap[B]? = some (.cells #[.int .i64 p.from_, .int .i64 p.to_, .int .i64 p.old, .int .i64 p.new, .int .i64 p.size, .slice ao no co] 41 (0, 0)) := by rw [heap_at, if_pos hB.symm]
  have hv2 : PV (w.alloc (.cells #[.int .i64 p.from_, .int .i64 p.to_, .int .i64 p.old, .int .i64 p.new, .int .i64 p.size, .slice ao no co] 41)) (.agg #[.int .i64 p.from_, .int .i64 p.to_, .int .i64 p.old, .int .i64 p.new, .int .i64 p.size, .slice ao no co]) p := ⟨ao, no, co, rfl, hop.1.later hb0, hop.2⟩
  replace w1 := w1.later hb0
  replace w2 := w2.later hb0
  replace w3 := w3.later hb0
  clear hop
  go_enter Try.func8, Try.ntmps8
  go_wp2_with fail
  generalize w.alloc (.cells #[.int .i64 p.from_, .int .i64 p.to_, .int .i64 p.old, .int .i64 p.new, .int .i64 p.size, .slice ao no co] 41) = W0 at hb0 hB1 hv2 w1 w2 w3 ⊢
  clear hB
  refine (HPt.out _ p _ hv2).mono ?_
  rintro e W1 ⟨ax, nx, cx, rfl, sx, c1⟩
  replace hB1 := (c1.block B (lt_blk hB1)).trans hB1
  replace hv2 := hv2.later c1
  replace w1 := w1.later c1
  replace w2 := w2.later c1
  replace w3 := w3.later c1
  replace c1 := below_then hb0 c1
  clear hb0 W0
  obtain ⟨⟨X, EX⟩, hX⟩ : ∃ R, PatM.putOf p = R := ⟨_, rfl⟩
  have HX := Lib.hid hX
  rw [hX] at sx ⊢
  simp only at sx ⊢
  clear hX
  go_upto_if 28 with fail
  go_cut [] (fun wx => Below W1.heap.size W1 wx)
  case first =>
    by_cases hE : EX = 0
    · subst hE
      have hck : PatM.check p = 0 := by
        apply Classical.byContradiction
        intro h
        have := HX.out
        rw [PatM.putOf_bad h] at this
        simp only [Prod.mk.injEq] at this
        exact h this.2
      have hXl : X = PatM.putL p := by
        have := HX.out
        rw [PatM.putOf_ok hck] at this
        simp only [Prod.mk.injEq, and_true] at this
        exact this.symm
      subst hXl
      have HRP := Lib.hid (PatM.read_put hck)
      clear hck
      go_wp2_with fail
      refine (HRd.out _ _ _ _ _ sx).mono ?_
      rintro e W2 ⟨vq, rfl, hq, c2⟩
      rw [HRP.out] at hq ⊢
      simp only at hq ⊢
      obtain ⟨aq, nq_, cq, rfl, hoq⟩ := hq
      have hbq : Below W2.heap.size W2 (W2.alloc (.cells #[.int .i64 p.from_, .int .i64 p.to_, .int .i64 p.old, .int .i64 p.new, .int .i64 p.size, .slice aq nq_ cq] 41)) := (Below.refl _ _).alloc (Nat.le_refl _) _
      obtain ⟨Q, hQ⟩ : ∃ Q, W2.heap.size = Q := ⟨_, rfl⟩
      have hQ1 : (W2.alloc (.cells #[.int .i64 p.from_, .int .i64 p.to_, .int .i64 p.old, .int .i64 p.new, .int .i64 p.size, .slice aq nq_ cq] 41)).heap[Q]? = some (.cells #[.int .i64 p.from_, .int .i64 p.to_, .int .i64 p.old, .int .i64 p.new, .int .i64 p.size, .slice aq nq_ cq] 41 (0, 0)) := by rw [heap_at, if_pos hQ.symm]
      have hq2 : PV (W2.alloc (.cells #[.int .i64 p.from_, .int .i64 p.to_, .int .i64 p.old, .int .i64 p.new, .int .i64 p.size, .slice aq nq_ cq] 41)) (.agg #[.int .i64 p.from_, .int .i64 p.to_, .int .i64 p.old, .int .i64 p.new, .int .i64 p.size, .slice aq nq_ cq]) p := ⟨aq, nq_, cq, rfl, hoq.1.later hbq, hoq.2⟩
      replace hB1 := (c2.block B (lt_blk hB1)).trans hB1
      replace hB1 := (hbq.block B (lt_blk hB1)).trans hB1
      replace c2 := below_then c2 hbq
      replace hv2 := hv2.later c2
      clear hbq hoq
      obtain ⟨p0, p1, p2, p3, p4, p5, -⟩ := pat_cells hB1
      obtain ⟨q0, q1, q2, q3, q4, q5, -⟩ := pat_cells hQ1
      go_wp2_with fail
      refine (HSm.out _ _ p p _ hv2 hq2).mono ?_
      rintro e W3 ⟨rfl, c3⟩
      rw [decide_eq_true (rfl : p = p)]
      replace c3 := below_then c2 c3
      go_wp2_with fail
      go_meet
      exact c3
    · have hEb : (EX == 0) = false := by simp [hE]
      go_wp2_with fail
      go_meet
      exact Below.refl _ _
  case rest =>
    have c4 := below_then c1 hcut
    replace w1 := w1.later hcut
    replace w2 := w2.later hcut
    replace w3 := w3.later hcut
    clear hcut c1 hB1 hv2 sx HX
    go_wp2_with fail
    refine (HRd.out _ _ _ _ _ w1).mono ?_
    rintro e W5 ⟨vr, rfl, hr, c5⟩
    obtain ⟨⟨r, ER⟩, hR⟩ : ∃ R, PatM.readOf l1 = R := ⟨_, rfl⟩
    have HR := Lib.hid hR
    rw [hR] at hr ⊢
    simp only at hr ⊢
    clear hR
    obtain ⟨ar, nr, cr, rfl, hor⟩ := hr
    have hbr : Below W5.heap.size W5 (W5.alloc (.cells #[.int .i64 r.from_, .int .i64 r.to_, .int .i64 r.old, .int .i64 r.new, .int .i64 r.size, .slice ar nr cr] 41)) := (Below.refl _ _).alloc (Nat.le_refl _) _
    obtain ⟨D, hD⟩ : ∃ D, W5.heap.size = D := ⟨_, rfl⟩
    have hD1 : (W5.alloc (.cells #[.int .i64 r.from_, .int .i64 r.to_, .int .i64 r.old, .int .i64 r.new, .int .i64 r.size, .slice ar nr cr] 41)).heap[D]? = some (.cells #[.int .i64 r.from_, .int .i64 r.to_, .int .i64 r.old, .int .i64 r.new, .int .i64 r.size, .slice ar nr cr] 41 (0, 0)) := by rw [heap_at, if_pos hD.symm]
    have hr2 : PV (W5.alloc (.cells #[.int .i64 r.from_, .int .i64 r.to_, .int .i64 r.old, .int .i64 r.new, .int .i64 r.size, .slice ar nr cr] 41)) (.agg #[.int .i64 r.from_, .int .i64 r.to_, .int .i64 r.old, .int .i64 r.new, .int .i64 r.size, .slice ar nr cr]) r := ⟨ar, nr, cr, rfl, hor.1.later hbr, hor.2⟩
    replace c5 := below_then c5 hbr
    replace w1 := w1.later c5
    replace w2 := w2.later c5
    replace w3 := w3.later c5
    replace c5 := below_then c4 c5
    clear hbr hor c4
    go_upto_if 48 with fail
    generalize W5.alloc (.cells #[.int .i64 r.from_, .int .i64 r.to_, .int .i64 r.old, .int .i64 r.new, .int .i64 r.size, .slice ar nr cr] 41) = W6 at hD1 hr2 c5 w1 w2 w3 ⊢
    clear hD W5
    go_cut [] (fun wx => Below W6.heap.size W6 wx)
    case first =>
      by_cases hE : ER = 0
      · subst hE
        obtain ⟨hck, hpl⟩ := PatM.put_read HBT.out HR.out
        have HPO : Hid (PatM.putOf r = (l1, 0)) := by show _ = _; rw [PatM.putOf_ok hck, hpl]
        clear hck hpl
        obtain ⟨p0, p1, p2, p3, p4, p5, -⟩ := pat_cells hD1
        go_wp2_with fail
        refine (HPt.out _ r _ hr2).mono ?_
        rintro e W7 ⟨ay, ny, cy, rfl, sy, c7⟩
        rw [HPO.out] at sy ⊢
        simp only at sy ⊢
        replace w1 := w1.later c7
        go_wp2_with fail
        refine (eqBytes_any _ _ _ _ _ _ _ _ _ sy w1).mono ?_
        rintro e w' ⟨rfl, rfl⟩
        rw [decide_eq_true (rfl : l1 = l1)]
        go_wp2_with fail
        go_meet
        exact c7
      · have hEb : (ER == 0) = false := by simp [hE]
        go_wp2_with fail
        go_meet
        exact Below.refl _ _
    case rest =>
      have c8 := below_then c5 hcut
      replace w2 := w2.later hcut
      replace w3 := w3.later hcut
      clear hcut c5 hD1 hr2 w1 HR
      have i0 := w2.head (min len2 64) (by omega)
      have i1 := w3.head (min len3 64) (by omega)
      have m0 : min len2 64 ≤ 64 := by omega
      have m1 : min len3 64 ≤ 64 := by omega
      have HC0 := Lib.hid (image_any a2 len2 cap2 l2)
      have HC1 := Lib.hid (image_any a3 len3 cap3 l3)
      generalize min len2 64 = N0 at i0 m0 HC0
      generalize min len3 64 = N1 at i1 m1 HC1
      generalize l2.take N0 = L0 at i0
      generalize l3.take N1 = L1 at i1
      have HL0 := Lib.hid i0.len
      have HL1 := Lib.hid i1.len
      go_wp2_with fail
      refine (HC0.out _ w2).mono ?_
      rintro e w' ⟨rfl, rfl⟩
      go_wp2_with fail
      refine (HC1.out _ w3).mono ?_
      rintro e w' ⟨rfl, rfl⟩
      clear HC0 HC1 w2 w3
      go_wp2_with fail
      refine (HMk.out 1 2 _ _ _ _ _ _ _ _ _ i0 i1 m0 m1 (by unfold I64; omega) (by unfold I64; omega)).mono ?_
      rintro e W9 ⟨ops, hdif, vm, rfl, hm, c9⟩
      obtain ⟨hck, hmade, hdone⟩ := made_good (by rw [HL0.out]; exact m0) (by rw [HL1.out]; exact m1) hdif
      obtain ⟨pm, hpm⟩ : ∃ pm : PatR, ⟨1, 2, SumM.addL 1 L0, SumM.addL 1 L1, L1.length, ops⟩ = pm := ⟨_, rfl⟩
      rw [hpm] at hck hmade hdone
      rw [hmade] at hm ⊢
      simp only at hm ⊢
      have HDone := Lib.hid hdone
      have HPut := Lib.hid (PatM.putOf_ok hck)
      clear hpm hck hmade hdone hdif
      obtain ⟨am, nm, cm, rfl, hom⟩ := hm
      have hbm : Below W9.heap.size W9 (W9.alloc (.cells #[.int .i64 pm.from_, .int .i64 pm.to_, .int .i64 pm.old, .int .i64 pm.new, .int .i64 pm.size, .slice am nm cm] 41)) := (Below.refl _ _).alloc (Nat.le_refl _) _
      obtain ⟨M, hM⟩ : ∃ M, W9.heap.size = M := ⟨_, rfl⟩
      have hM1 : (W9.alloc (.cells #[.int .i64 pm.from_, .int .i64 pm.to_, .int .i64 pm.old, .int .i64 pm.new, .int .i64 pm.size, .slice am nm cm] 41)).heap[M]? = some (.cells #[.int .i64 pm.from_, .int .i64 pm.to_, .int .i64 pm.old, .int .i64 pm.new, .int .i64 pm.size, .slice am nm cm] 41 (0, 0)) := by rw [heap_at, if_pos hM.symm]
      have hm2 : PV (W9.alloc (.cells #[.int .i64 pm.from_, .int .i64 pm.to_, .int .i64 pm.old, .int .i64 pm.new, .int .i64 pm.size, .slice am nm cm] 41)) (.agg #[.int .i64 pm.from_, .int .i64 pm.to_, .int .i64 pm.old, .int .i64 pm.new, .int .i64 pm.size, .slice am nm cm]) pm := ⟨am, nm, cm, rfl, hom.1.later hbm, hom.2⟩
      replace c9 := below_then c9 hbm
      replace i0 := i0.later c9
      replace i1 := i1.later c9
      replace c9 := below_then c8 c9
      clear hbm hom c8
      go_wp2_with fail
      generalize W9.alloc (.cells #[.int .i64 pm.from_, .int .i64 pm.to_, .int .i64 pm.old, .int .i64 pm.new, .int .i64 pm.size, .slice am nm cm] 41) = W10 at hM1 hm2 c9 i0 i1 ⊢
      clear hM W9
      refine (HFact.out _).mono ?_
      rintro e W11 ⟨rfl, c11⟩
      replace hM1 := (c11.block M (lt_blk hM1)).trans hM1
      replace hm2 := hm2.later c11
      replace i0 := i0.later c11
      replace i1 := i1.later c11
      replace c11 := below_then c9 c11
      clear c9
      obtain ⟨p0, p1, p2, p3, p4, p5, -⟩ := pat_cells hM1
      go_wp2_with fail
      refine (HDo.out _ pm _ _ _ _ _ hm2 i0).mono ?_
      rintro e W12 ⟨ad, nd, cd, rfl, sd, c12⟩
      rw [HDone.out] at sd ⊢
      simp only at sd ⊢
      replace hM1 := (c12.block M (lt_blk hM1)).trans hM1
      replace hm2 := hm2.later c12
      replace i1 := i1.later c12
      replace c12 := below_then c11 c12
      clear c11 p0 p1 p2 p3 p4 p5
      obtain ⟨p0, p1, p2, p3, p4, p5, -⟩ := pat_cells hM1
      go_wp2_with fail
      refine (HPt.out _ pm _ hm2).mono ?_
      rintro e W13 ⟨ae, ne, ce, rfl, -, c13⟩
      rw [HPut.out]
      simp only
      replace i1 := i1.later c13
      replace sd := sd.later c13
      replace c13 := below_then c12 c13
      go_wp2_with fail
      refine (eqBytes_any _ _ _ _ _ _ _ _ _ sd i1).mono ?_
      rintro e w' ⟨rfl, rfl⟩
      rw [decide_eq_true (rfl : L1 = L1)]
      go_wp2_with fail
      go_ret
      exact ⟨rfl, c13⟩
end Go.Proofs.Ytmpmaljkmfgagab
