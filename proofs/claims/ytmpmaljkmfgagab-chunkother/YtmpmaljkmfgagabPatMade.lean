/-
  Contracts of the reference's Made.
-/
import Derived.Test.YtmpmaljkmfgagabSameOpsToCheckPat
import Derived.Test.YtmpmaljkmfgagabSumR
import Derived.Test.YtmpmaljkmfgagabDiffed
import Derived.Test.YtmpmaljkmfgagabApplied
import Derived.Handy
namespace Go.Proofs.Ytmpmaljkmfgagab
open Go.RowKit

set_option maxRecDepth 100000 in
set_option maxHeartbeats 1000000 in
theorem made_many (fr to : Int) (a a' : Option Addr) (n c n' c' : Nat) (w : World) (h : 64 < n ∨ 64 < n') :
    Calls Try.prog 25 #[.int .i64 fr, .int .i64 to, .slice a n c, .slice a' n' c'] w (GivesP (noPat, 1) w) := by
  have HH := Lib.hid h
  clear h
  have hb : Below w.heap.size w (w.alloc (.cells #[.int .i64 0, .int .i64 0, .int .i64 0, .int .i64 0, .int .i64 0, .slice none 0 0] 41)) := (Below.refl _ _).alloc (Nat.le_refl _) _
  go_enter Try.func25, Try.ntmps25
  go_wp2_with fail
  refine (diffed_many a a' n c n' c' _ HH.out).mono ?_
  rintro e w' ⟨rfl, rfl⟩
  go_wp2_with fail
  go_returns
  exact ⟨_, rfl, noPat_pv _, hb⟩

set_option maxRecDepth 100000 in
set_option maxHeartbeats 2000000 in
theorem made_any (fr to : Int) (a a' : Option Addr) (n c n' c' : Nat) (x y : List Int) (w : World) (hx : BS w a n c x) (hy : BS w a' n' c' y) (hn : n ≤ 64) (hn' : n' ≤ 64) (hM : MaxCell w) (hf : I64 fr) (ht : I64 to) :
    Calls Try.prog 25 #[.int .i64 fr, .int .i64 to, .slice a n c, .slice a' n' c'] w fun e w' => ∃ ops, DeltaM.Dif x y [] ops ∧ GivesP (madeOf fr to x y ops 0) w e w' := by
  have hb0 : Below w.heap.size w (w.alloc (.cells #[.int .i64 0, .int .i64 0, .int .i64 0, .int .i64 0, .int .i64 0, .slice none 0 0] 41)) := (Below.refl _ _).alloc (Nat.le_refl _) _
  have e0 : (w.alloc (.cells #[.int .i64 0, .int .i64 0, .int .i64 0, .int .i64 0, .int .i64 0, .slice none 0 0] 41)).heap.size = w.heap.size + 1 := by simp
  have hB0 : (w.alloc (.cells #[.int .i64 0, .int .i64 0, .int .i64 0, .int .i64 0, .int .i64 0, .slice none 0 0] 41)).heap[w.heap.size]? = some (.cells #[.int .i64 0, .int .i64 0, .int .i64 0, .int .i64 0, .int .i64 0, .slice none 0 0] 41 (0, 0)) := by rw [heap_at, if_pos rfl]
  obtain ⟨B, hBw⟩ : ∃ B, w.heap.size = B := ⟨_, rfl⟩
  have HBW := Lib.hid hBw
  rw [hBw] at hB0 e0
  have hx0 := hx.later hb0
  have hy0 := hy.later hb0
  have hM0 := hM.later hb0
  have HX := Lib.hid hx
  have HY := Lib.hid hy
  have HLY := Lib.hid hy.len
  have HF : Hid (I64 fr ∧ I64 to) := ⟨hf, ht⟩
  clear hx hy hM hf ht
  have HS := Lib.hid (SumM.addL_bd x 1 (by omega) (by omega))
  have HS' := Lib.hid (SumM.addL_bd y 1 (by omega) (by omega))
  go_enter Try.func25, Try.ntmps25
  go_wp2_with fail
  generalize w.alloc (.cells #[.int .i64 0, .int .i64 0, .int .i64 0, .int .i64 0, .int .i64 0, .slice none 0 0] 41) = W0 at hb0 hB0 hx0 hy0 hM0 e0 ⊢
  refine (diffed_any a a' n c n' c' x y _ hx0 hy0 hn hn' hM0).mono ?_
  rintro e W1 ⟨ops, ad, nd, cd, hdif, rfl, od, ⟨-, odn⟩, b1⟩
  have hW0 : B + 1 ≤ W0.heap.size := by omega
  replace odn := odn.mono hW0
  clear hW0
  have HD := Lib.hid hdif
  have hB1 := (b1.block B (by omega)).trans hB0
  have b1' := below_then hb0 b1
  have hx1 := HX.out.later b1'
  have hy1 := HY.out.later b1'
  have hz1 : B < W1.heap.size := by have := b1.size; omega
  clear hdif b1 hb0 hB0 hx0 hy0 hM0 e0 hBw W0
  go_wp2_with fail
  refine (sumOf_any a n c x _ hx1).mono ?_
  rintro e w' ⟨rfl, rfl⟩
  go_wp2_with fail
  refine (sumOf_any a' n' c' y _ hy1).mono ?_
  rintro e w' ⟨rfl, rfl⟩
  obtain ⟨s1, hs1⟩ : ∃ s, SumM.addL 1 x = s := ⟨_, rfl⟩
  obtain ⟨s2, hs2⟩ : ∃ s, SumM.addL 1 y = s := ⟨_, rfl⟩
  have HE1 := Lib.hid hs1
  have HE2 := Lib.hid hs2
  rw [hs1, hs2]
  rw [hs1] at HS
  rw [hs2] at HS'
  clear hs1 hs2 hx1 hy1
  have hb2 : Below W1.heap.size W1 (W1.alloc (.cells #[.int .i64 fr, .int .i64 to, .int .i64 s1, .int .i64 s2, .int .i64 (n' : Int), .slice ad nd cd] 41)) := (Below.refl _ _).alloc (Nat.le_refl _) _
  have hpv : PV (W1.alloc (.cells #[.int .i64 fr, .int .i64 to, .int .i64 s1, .int .i64 s2, .int .i64 (n' : Int), .slice ad nd cd] 41)) (.agg #[.int .i64 fr, .int .i64 to, .int .i64 s1, .int .i64 s2, .int .i64 (n' : Int), .slice ad nd cd]) ⟨fr, to, s1, s2, n', ops⟩ :=
    ⟨ad, nd, cd, rfl, od.later hb2, HF.out.1, HF.out.2, by have := HS.out; unfold I64; simp only; omega, by have := HS'.out; unfold I64; simp only; omega, by unfold I64; simp only; omega⟩
  obtain ⟨B2, hB2w⟩ : ∃ B2, W1.heap.size = B2 := ⟨_, rfl⟩
  have hB2 : (W1.alloc (.cells #[.int .i64 fr, .int .i64 to, .int .i64 s1, .int .i64 s2, .int .i64 (n' : Int), .slice ad nd cd] 41)).heap[B2]? = some (.cells #[.int .i64 fr, .int .i64 to, .int .i64 s1, .int .i64 s2, .int .i64 (n' : Int), .slice ad nd cd] 41 (0, 0)) := by rw [heap_at, if_pos hB2w.symm]
  have e2 : (W1.alloc (.cells #[.int .i64 fr, .int .i64 to, .int .i64 s1, .int .i64 s2, .int .i64 (n' : Int), .slice ad nd cd] 41)).heap.size = B2 + 1 := by simp [hB2w]
  have hB1' := (hb2.block B hz1).trans hB1
  have b2 := below_then b1' hb2
  clear b1' od
  go_wp2_with fail
  generalize W1.alloc (.cells #[.int .i64 fr, .int .i64 to, .int .i64 s1, .int .i64 s2, .int .i64 (n' : Int), .slice ad nd cd] 41) = W2 at hpv hB2 e2 hB1' b2 hb2 ⊢
  refine (checkPat_any _ _ _ hpv).mono ?_
  rintro e W3 ⟨rfl, b3⟩
  have HON := Lib.hid ((odn.later hb2).later b3)
  have hBr := (b3.block B (by omega)).trans hB1'
  have hBp := (b3.block B2 (by omega)).trans hB2
  have b4 := below_then b2 b3
  obtain ⟨E, hE⟩ : ∃ E, PatM.check ⟨fr, to, s1, s2, n', ops⟩ = E := ⟨_, rfl⟩
  have HE : Hid (PatM.check ⟨fr, to, SumM.addL 1 x, SumM.addL 1 y, y.length, ops⟩ = E) := by show _ = E; rw [HE1.out, HE2.out, HLY.out]; exact hE
  rw [hE]
  obtain ⟨r0, r1, r2, r3, r4, r5, f0, f1, f2, f3, f4, f5⟩ := pat_cells hBr
  obtain ⟨p0, p1, p2, p3, p4, p5, -⟩ := pat_cells hBp
  have hne : B ≠ B2 := by omega
  have HBL : Hid (w.heap.size ≤ B) := by show w.heap.size ≤ B; rw [HBW.out]; exact Nat.le_refl _
  have g0 : ∀ v, (W3.setCell ⟨B, 0, none⟩ v).cell? ⟨B, 0, none⟩ = some v := fun v => World.cell?_setCell_same _ _ _ r0
  clear hpv hB1' hB2 b3 b2 e2 hE hB2w hBp hz1 hB1 odn hb2
  by_cases h0 : E = 0
  · subst h0
    have HK : Hid (madeOf fr to x y ops 0 = (⟨fr, to, s1, s2, n', ops⟩, 0)) := by
      show _ = _
      unfold madeOf
      rw [if_neg (by simp), if_neg (by rw [HE.out]; simp), HE1.out, HE2.out, HLY.out]
    obtain ⟨W6, hW6, q0, q1, q2, q3, q4, q5, hoth, hsz⟩ := set_six hBr (.int .i64 fr) (.int .i64 to) (.int .i64 s1) (.int .i64 s2) (.int .i64 (n' : Int)) (.slice ad nd cd)
    have HB6 : Hid (Below w.heap.size w W6) := by
      show Below _ _ _
      rw [← hW6]
      exact (((((b4.setCell HBL.out _).setCell HBL.out _).setCell HBL.out _).setCell HBL.out _).setCell HBL.out _).setCell HBL.out _
    have HP6 : Hid (PV W6 (.agg #[.int .i64 fr, .int .i64 to, .int .i64 s1, .int .i64 s2, .int .i64 (n' : Int), .slice ad nd cd]) ⟨fr, to, s1, s2, n', ops⟩) := by
      show PV _ _ _
      exact ⟨ad, nd, cd, rfl, HON.out W6 (by rw [hsz]; exact Nat.le_refl _) (fun k k1 _ => hoth k (by omega)), HF.out.1, HF.out.2, by have := HS.out; unfold I64; simp only; omega, by have := HS'.out; unfold I64; simp only; omega, by unfold I64; simp only; omega⟩
    clear hoth hsz b4 HON
    go_wp2_with fail
    try simp only [Exit.inBlock, Exit.then]
    refine bodyPost_ret (by simp [results, Try.results25, go_sem, q0, q1, q2, q3, q4, q5]; try rfl) rfl ?_
    exact ⟨ops, HD.out, _, by rw [HK.out], by rw [HK.out]; exact HP6.out, HB6.out⟩
  · have hnb : (E != 0) = true := by simp [h0]
    have HK : Hid (madeOf fr to x y ops 0 = (noPat, E)) := by
      show _ = _
      unfold madeOf
      rw [if_neg (by simp), if_pos (by rw [HE.out]; exact h0), HE.out]
    obtain ⟨W6, hW6, q0, q1, q2, q3, q4, q5, hoth, hsz⟩ := set_six hBr (.int .i64 0) (.int .i64 0) (.int .i64 0) (.int .i64 0) (.int .i64 0) (.slice none 0 0)
    have HB6 : Hid (Below w.heap.size w W6) := by
      show Below _ _ _
      rw [← hW6]
      exact (((((b4.setCell HBL.out _).setCell HBL.out _).setCell HBL.out _).setCell HBL.out _).setCell HBL.out _).setCell HBL.out _
    clear hoth hsz b4 HON
    go_wp2_with fail
    try simp only [Exit.inBlock, Exit.then]
    refine bodyPost_ret (by simp [results, Try.results25, go_sem, q0, q1, q2, q3, q4, q5]; try rfl) rfl ?_
    exact ⟨ops, HD.out, _, by rw [HK.out], by rw [HK.out]; exact noPat_pv _, HB6.out⟩
end Go.Proofs.Ytmpmaljkmfgagab
