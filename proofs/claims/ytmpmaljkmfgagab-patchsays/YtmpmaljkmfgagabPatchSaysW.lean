/-
  The walk of the law PatchSays.
-/
import Derived.Test.YtmpmaljkmfgagabPatched
import Derived.Test.YtmpmaljkmfgagabPatDone
import Derived.Deep.RegionHeld3
namespace Go.Proofs.Ytmpmaljkmfgagab
open Go.RowKit

theorem made_all (fr to : Int) (a a' : Option Addr) (n c n' c' : Nat) (x y : List Int) (w : World) (hx : BS w a n c x) (hy : BS w a' n' c' y) (hM : MaxCell w) (hf : I64 fr) (ht : I64 to) :
    Calls Try.prog 25 #[.int .i64 fr, .int .i64 to, .slice a n c, .slice a' n' c'] w fun e w' => ∃ r, MadeIs fr to x y r ∧ GivesP r w e w' := by
  have e1 := hx.len
  have e2 := hy.len
  by_cases h : 64 < n ∨ 64 < n'
  · refine (made_many fr to a a' n c n' c' w h).mono ?_
    exact fun e w' hg => ⟨_, .many (by rw [e1, e2]; exact h), hg⟩
  · refine (made_any fr to a a' n c n' c' x y w hx hy (by omega) (by omega) hM hf ht).mono ?_
    rintro e w' ⟨ops, hd, hg⟩
    exact ⟨_, .any (by rw [e1, e2]; exact h) hd, hg⟩
theorem undrew {w w' : World} (h : Below w.drew.heap.size w.drew w') : Below w.heap.size w w' := ((Below.refl _ _).drew).trans h

theorem four_cells {W : World} {P Q X Z : Nat} {a0 a1 a2 a3 a4 a5 : Value} {b0 b1 b2 b3 b4 b5 : Value} {c0 c1 c2 c3 c4 c5 : Value} {d0 d1 d2 d3 d4 d5 : Value} (ha : W.heap[P]? = some (.cells #[a0, a1, a2, a3, a4, a5] 41 (0, 0))) (hb : W.heap[Q]? = some (.cells #[b0, b1, b2, b3, b4, b5] 41 (0, 0))) (hc : W.heap[X]? = some (.cells #[c0, c1, c2, c3, c4, c5] 41 (0, 0))) (hd : W.heap[Z]? = some (.cells #[d0, d1, d2, d3, d4, d5] 41 (0, 0))) :
    W.cell? ⟨P, 0, none⟩ = some a0 ∧ W.cell? ⟨P, 1, none⟩ = some a1 ∧ W.cell? ⟨P, 2, none⟩ = some a2 ∧ W.cell? ⟨P, 3, none⟩ = some a3 ∧ W.cell? ⟨P, 4, none⟩ = some a4 ∧ W.cell? ⟨P, 5, none⟩ = some a5 ∧ W.cell? ⟨Q, 0, none⟩ = some b0 ∧ W.cell? ⟨Q, 1, none⟩ = some b1 ∧ W.cell? ⟨Q, 2, none⟩ = some b2 ∧ W.cell? ⟨Q, 3, none⟩ = some b3 ∧ W.cell? ⟨Q, 4, none⟩ = some b4 ∧ W.cell? ⟨Q, 5, none⟩ = some b5 ∧ W.cell? ⟨X, 0, none⟩ = some c0 ∧ W.cell? ⟨X, 1, none⟩ = some c1 ∧ W.cell? ⟨X, 2, none⟩ = some c2 ∧ W.cell? ⟨X, 3, none⟩ = some c3 ∧ W.cell? ⟨X, 4, none⟩ = some c4 ∧ W.cell? ⟨X, 5, none⟩ = some c5 ∧ W.cell? ⟨Z, 0, none⟩ = some d0 ∧ W.cell? ⟨Z, 1, none⟩ = some d1 ∧ W.cell? ⟨Z, 2, none⟩ = some d2 ∧ W.cell? ⟨Z, 3, none⟩ = some d3 ∧ W.cell? ⟨Z, 4, none⟩ = some d4 ∧ W.cell? ⟨Z, 5, none⟩ = some d5 := by
  obtain ⟨a0, a1, a2, a3, a4, a5, -⟩ := pat_cells ha
  obtain ⟨b0, b1, b2, b3, b4, b5, -⟩ := pat_cells hb
  obtain ⟨c0, c1, c2, c3, c4, c5, -⟩ := pat_cells hc
  obtain ⟨d0, d1, d2, d3, d4, d5, -⟩ := pat_cells hd
  exact ⟨a0, a1, a2, a3, a4, a5, b0, b1, b2, b3, b4, b5, c0, c1, c2, c3, c4, c5, d0, d1, d2, d3, d4, d5⟩

set_option maxRecDepth 100000 in
set_option maxHeartbeats 4000000 in
theorem patchSays_walk (HMk : MakePC) (HMm : MakeManyPC) (HPt : PutPC) (HRd : ReadPC) (HDo : DoPC) (HSm : SamePC) (HCk : CheckPC) (v0 : Value) (p : PatR) (a1 : Option Addr) (len1 cap1 : Nat) (l1 : List Int) (a2 : Option Addr) (len2 cap2 : Nat) (l2 : List Int) (fr to : Int) (v5 : Value) (q : PatR)
    (w : World) (hv0 : PV w v0 p) (w1 : BS w a1 len1 cap1 l1) (w2 : BS w a2 len2 cap2 l2) (w3 : I64 fr) (w4 : I64 to) (hv5 : PV w v5 q) (hM : MaxCell w) :
    Calls Try.prog 6 #[v0, .slice a1 len1 cap1, .slice a2 len2 cap2, .int .i64 fr, .int .i64 to, v5] w fun e w' => e = .returned (.bool true) ∧ Below w.heap.size w w' := by
  have HFact := Lib.hid (patched_any HMk HPt HRd HDo HSm)
  have HMa := Lib.hid (makeP_all HMk HMm)
  replace HDo := Lib.hid HDo
  replace HSm := Lib.hid HSm
  replace HCk := Lib.hid HCk
  have HI : Hid (I64 fr ∧ I64 to) := ⟨w3, w4⟩
  clear HMk HMm HPt HRd w3 w4
  obtain ⟨ap, np, cp, rfl, hop⟩ := hv0
  obtain ⟨aq, nq_, cq, rfl, hoq⟩ := hv5
  obtain ⟨P, hP⟩ : ∃ P, w.heap.size = P := ⟨_, rfl⟩
  have e0 : (w.alloc (.cells #[.int .i64 p.from_, .int .i64 p.to_, .int .i64 p.old, .int .i64 p.new, .int .i64 p.size, .slice ap np cp] 41)).heap.size = P + 1 := by simp [hP]
  have hb0 : Below w.heap.size w ((w.alloc (.cells #[.int .i64 p.from_, .int .i64 p.to_, .int .i64 p.old, .int .i64 p.new, .int .i64 p.size, .slice ap np cp] 41)).alloc (.cells #[.int .i64 q.from_, .int .i64 q.to_, .int .i64 q.old, .int .i64 q.new, .int .i64 q.size, .slice aq nq_ cq] 41)) := ((Below.refl _ _).alloc (Nat.le_refl _) _).alloc (by rw [e0]; omega) _
  have hP1 : ((w.alloc (.cells #[.int .i64 p.from_, .int .i64 p.to_, .int .i64 p.old, .int .i64 p.new, .int .i64 p.size, .slice ap np cp] 41)).alloc (.cells #[.int .i64 q.from_, .int .i64 q.to_, .int .i64 q.old, .int .i64 q.new, .int .i64 q.size, .slice aq nq_ cq] 41)).heap[P]? = some (.cells #[.int .i64 p.from_, .int .i64 p.to_, .int .i64 p.old, .int .i64 p.new, .int .i64 p.size, .slice ap np cp] 41 (0, 0)) := by rw [heap_at, if_neg (by rw [e0]; omega), heap_at, if_pos hP.symm]
  have hQ1 : ((w.alloc (.cells #[.int .i64 p.from_, .int .i64 p.to_, .int .i64 p.old, .int .i64 p.new, .int .i64 p.size, .slice ap np cp] 41)).alloc (.cells #[.int .i64 q.from_, .int .i64 q.to_, .int .i64 q.old, .int .i64 q.new, .int .i64 q.size, .slice aq nq_ cq] 41)).heap[P + 1]? = some (.cells #[.int .i64 q.from_, .int .i64 q.to_, .int .i64 q.old, .int .i64 q.new, .int .i64 q.size, .slice aq nq_ cq] 41 (0, 0)) := by rw [heap_at, if_pos e0.symm]
  have hp2 : PV ((w.alloc (.cells #[.int .i64 p.from_, .int .i64 p.to_, .int .i64 p.old, .int .i64 p.new, .int .i64 p.size, .slice ap np cp] 41)).alloc (.cells #[.int .i64 q.from_, .int .i64 q.to_, .int .i64 q.old, .int .i64 q.new, .int .i64 q.size, .slice aq nq_ cq] 41)) (.agg #[.int .i64 p.from_, .int .i64 p.to_, .int .i64 p.old, .int .i64 p.new, .int .i64 p.size, .slice ap np cp]) p := ⟨ap, np, cp, rfl, hop.1.later hb0, hop.2⟩
  have hq2 : PV ((w.alloc (.cells #[.int .i64 p.from_, .int .i64 p.to_, .int .i64 p.old, .int .i64 p.new, .int .i64 p.size, .slice ap np cp] 41)).alloc (.cells #[.int .i64 q.from_, .int .i64 q.to_, .int .i64 q.old, .int .i64 q.new, .int .i64 q.size, .slice aq nq_ cq] 41)) (.agg #[.int .i64 q.from_, .int .i64 q.to_, .int .i64 q.old, .int .i64 q.new, .int .i64 q.size, .slice aq nq_ cq]) q := ⟨aq, nq_, cq, rfl, hoq.1.later hb0, hoq.2⟩
  replace w1 := w1.later hb0
  replace w2 := w2.later hb0
  replace hM := hM.later hb0
  clear hop hoq e0
  go_enter Try.func6, Try.ntmps6
  go_wp2_with fail
  generalize (w.alloc (.cells #[.int .i64 p.from_, .int .i64 p.to_, .int .i64 p.old, .int .i64 p.new, .int .i64 p.size, .slice ap np cp] 41)).alloc (.cells #[.int .i64 q.from_, .int .i64 q.to_, .int .i64 q.old, .int .i64 q.new, .int .i64 q.size, .slice aq nq_ cq] 41) = W0 at hb0 hP1 hQ1 hp2 hq2 w1 w2 hM ⊢
  obtain ⟨Q, hQ⟩ : ∃ Q, P + 1 = Q := ⟨_, rfl⟩
  rw [hQ] at hQ1
  refine (HMa.out fr to _ _ _ _ _ _ _ _ _ w1 w2 HI.out.1 HI.out.2).mono ?_
  rintro e W1 ⟨⟨x, ex⟩, hmi, vx, rfl, hx, c1⟩
  have HMI := Lib.hid hmi
  simp only at hx ⊢
  clear hmi
  obtain ⟨ax, nx, cx, rfl, hox⟩ := hx
  have hbx : Below W1.heap.size W1 (W1.alloc (.cells #[.int .i64 x.from_, .int .i64 x.to_, .int .i64 x.old, .int .i64 x.new, .int .i64 x.size, .slice ax nx cx] 41)) := (Below.refl _ _).alloc (Nat.le_refl _) _
  obtain ⟨X, hX⟩ : ∃ X, W1.heap.size = X := ⟨_, rfl⟩
  have hX1 : (W1.alloc (.cells #[.int .i64 x.from_, .int .i64 x.to_, .int .i64 x.old, .int .i64 x.new, .int .i64 x.size, .slice ax nx cx] 41)).heap[X]? = some (.cells #[.int .i64 x.from_, .int .i64 x.to_, .int .i64 x.old, .int .i64 x.new, .int .i64 x.size, .slice ax nx cx] 41 (0, 0)) := by rw [heap_at, if_pos hX.symm]
  have hx2 : PV (W1.alloc (.cells #[.int .i64 x.from_, .int .i64 x.to_, .int .i64 x.old, .int .i64 x.new, .int .i64 x.size, .slice ax nx cx] 41)) (.agg #[.int .i64 x.from_, .int .i64 x.to_, .int .i64 x.old, .int .i64 x.new, .int .i64 x.size, .slice ax nx cx]) x := ⟨ax, nx, cx, rfl, hox.1.later hbx, hox.2⟩
  replace hP1 := (c1.block P (lt_blk hP1)).trans hP1
  replace hQ1 := (c1.block Q (lt_blk hQ1)).trans hQ1
  replace hP1 := (hbx.block P (lt_blk hP1)).trans hP1
  replace hQ1 := (hbx.block Q (lt_blk hQ1)).trans hQ1
  replace c1 := below_then c1 hbx
  replace hp2 := hp2.later c1
  replace hq2 := hq2.later c1
  replace w1 := w1.later c1
  replace w2 := w2.later c1
  replace hM := hM.later c1
  have b9 := below_then hb0 c1
  clear c1 hb0 hbx hox
  obtain ⟨p0, p1, p2, p3, p4, p5, -⟩ := pat_cells hP1
  go_wp2_with fail
  generalize W1.alloc (.cells #[.int .i64 x.from_, .int .i64 x.to_, .int .i64 x.old, .int .i64 x.new, .int .i64 x.size, .slice ax nx cx] 41) = W2 at hX1 hx2 hP1 hQ1 hp2 hq2 w1 w2 hM b9 p0 p1 p2 p3 p4 p5 ⊢
  refine (HDo.out _ p _ _ _ _ _ hp2 w1).mono ?_
  rintro e W3 ⟨ay, ny, cy, rfl, sy, c3⟩
  obtain ⟨⟨y, ey⟩, hy⟩ : ∃ R, doneOf p l1 = R := ⟨_, rfl⟩
  have HY := Lib.hid hy
  rw [hy] at sy ⊢
  simp only at sy ⊢
  clear hy
  replace hP1 := (c3.block P (lt_blk hP1)).trans hP1
  replace hQ1 := (c3.block Q (lt_blk hQ1)).trans hQ1
  replace hX1 := (c3.block X (lt_blk hX1)).trans hX1
  replace hp2 := hp2.later c3
  replace hq2 := hq2.later c3
  replace hx2 := hx2.later c3
  replace w1 := w1.later c3
  replace w2 := w2.later c3
  replace hM := hM.later c3
  replace b9 := below_then b9 c3
  clear c3 p0 p1 p2 p3 p4 p5
  go_wp2_with fail
  refine (made_all fr to _ _ _ _ _ _ _ _ _ w1 w2 hM HI.out.1 HI.out.2).mono ?_
  rintro e W4 ⟨r', hmi', vz, rfl, hz, c4⟩
  obtain rfl := HMI.out.det hmi'
  simp only at hz ⊢
  clear hmi'
  obtain ⟨az, nz, cz, rfl, hoz⟩ := hz
  have hbz : Below W4.heap.size W4 (W4.alloc (.cells #[.int .i64 x.from_, .int .i64 x.to_, .int .i64 x.old, .int .i64 x.new, .int .i64 x.size, .slice az nz cz] 41)) := (Below.refl _ _).alloc (Nat.le_refl _) _
  obtain ⟨Z, hZ⟩ : ∃ Z, W4.heap.size = Z := ⟨_, rfl⟩
  have hZ1 : (W4.alloc (.cells #[.int .i64 x.from_, .int .i64 x.to_, .int .i64 x.old, .int .i64 x.new, .int .i64 x.size, .slice az nz cz] 41)).heap[Z]? = some (.cells #[.int .i64 x.from_, .int .i64 x.to_, .int .i64 x.old, .int .i64 x.new, .int .i64 x.size, .slice az nz cz] 41 (0, 0)) := by rw [heap_at, if_pos hZ.symm]
  have hz2 : PV (W4.alloc (.cells #[.int .i64 x.from_, .int .i64 x.to_, .int .i64 x.old, .int .i64 x.new, .int .i64 x.size, .slice az nz cz] 41)) (.agg #[.int .i64 x.from_, .int .i64 x.to_, .int .i64 x.old, .int .i64 x.new, .int .i64 x.size, .slice az nz cz]) x := ⟨az, nz, cz, rfl, hoz.1.later hbz, hoz.2⟩
  replace hP1 := (c4.block P (lt_blk hP1)).trans hP1
  replace hQ1 := (c4.block Q (lt_blk hQ1)).trans hQ1
  replace hX1 := (c4.block X (lt_blk hX1)).trans hX1
  replace hP1 := (hbz.block P (lt_blk hP1)).trans hP1
  replace hQ1 := (hbz.block Q (lt_blk hQ1)).trans hQ1
  replace hX1 := (hbz.block X (lt_blk hX1)).trans hX1
  replace c4 := below_then c4 hbz
  replace hp2 := hp2.later c4
  replace hq2 := hq2.later c4
  replace hx2 := hx2.later c4
  replace w1 := w1.later c4
  replace sy := sy.later c4
  replace b9 := below_then b9 c4
  clear c4 hbz hoz hM w2
  obtain ⟨p0, p1, p2, p3, p4, p5, -⟩ := pat_cells hP1
  go_wp2_with fail
  generalize W4.alloc (.cells #[.int .i64 x.from_, .int .i64 x.to_, .int .i64 x.old, .int .i64 x.new, .int .i64 x.size, .slice az nz cz] 41) = W5 at hZ1 hz2 hX1 hx2 hP1 hQ1 hp2 hq2 w1 sy b9 p0 p1 p2 p3 p4 p5 ⊢
  refine (done_any _ p _ _ _ _ _ hp2 w1).mono ?_
  rintro e W6 ⟨aY, nY, cY, rfl, sY, c6⟩
  rw [HY.out] at sY ⊢
  simp only at sY ⊢
  replace hP1 := (c6.block P (lt_blk hP1)).trans hP1
  replace hQ1 := (c6.block Q (lt_blk hQ1)).trans hQ1
  replace hX1 := (c6.block X (lt_blk hX1)).trans hX1
  replace hZ1 := (c6.block Z (lt_blk hZ1)).trans hZ1
  replace hp2 := hp2.later c6
  replace hq2 := hq2.later c6
  replace hx2 := hx2.later c6
  replace hz2 := hz2.later c6
  replace sy := sy.later c6
  replace b9 := below_then b9 c6
  clear c6 p0 p1 p2 p3 p4 p5 w1 hZ hX W1 W2 W4 W5 W0 W3
  obtain ⟨E, hE⟩ : ∃ E, PatM.check p = E := ⟨_, rfl⟩
  have HE := Lib.hid hE
  obtain ⟨D, hD⟩ : ∃ D, decide (p = q) = D := ⟨_, rfl⟩
  have HD := Lib.hid hD
  clear hE hD
  have h1 : (E == E) = true := by simp
  have h2 : (D == D) = true := by simp
  have h3 : (ex == ex) = true := by simp
  have h4 : (ey == ey) = true := by simp
  go_wp2_with fail
  go_region_held3 (fun W => W.cell? ⟨P, 0, none⟩ = some (.int .i64 p.from_) ∧ W.cell? ⟨P, 1, none⟩ = some (.int .i64 p.to_) ∧ W.cell? ⟨P, 2, none⟩ = some (.int .i64 p.old) ∧ W.cell? ⟨P, 3, none⟩ = some (.int .i64 p.new) ∧ W.cell? ⟨P, 4, none⟩ = some (.int .i64 p.size) ∧ W.cell? ⟨P, 5, none⟩ = some (.slice ap np cp) ∧ W.cell? ⟨Q, 0, none⟩ = some (.int .i64 q.from_) ∧ W.cell? ⟨Q, 1, none⟩ = some (.int .i64 q.to_) ∧ W.cell? ⟨Q, 2, none⟩ = some (.int .i64 q.old) ∧ W.cell? ⟨Q, 3, none⟩ = some (.int .i64 q.new) ∧ W.cell? ⟨Q, 4, none⟩ = some (.int .i64 q.size) ∧ W.cell? ⟨Q, 5, none⟩ = some (.slice aq nq_ cq) ∧ W.cell? ⟨X, 0, none⟩ = some (.int .i64 x.from_) ∧ W.cell? ⟨X, 1, none⟩ = some (.int .i64 x.to_) ∧ W.cell? ⟨X, 2, none⟩ = some (.int .i64 x.old) ∧ W.cell? ⟨X, 3, none⟩ = some (.int .i64 x.new) ∧ W.cell? ⟨X, 4, none⟩ = some (.int .i64 x.size) ∧ W.cell? ⟨X, 5, none⟩ = some (.slice ax nx cx) ∧ W.cell? ⟨Z, 0, none⟩ = some (.int .i64 x.from_) ∧ W.cell? ⟨Z, 1, none⟩ = some (.int .i64 x.to_) ∧ W.cell? ⟨Z, 2, none⟩ = some (.int .i64 x.old) ∧ W.cell? ⟨Z, 3, none⟩ = some (.int .i64 x.new) ∧ W.cell? ⟨Z, 4, none⟩ = some (.int .i64 x.size) ∧ W.cell? ⟨Z, 5, none⟩ = some (.slice az nz cz))
    (exact four_cells hP1 hQ1 hX1 hZ1)
    (first
        | (go_at_call 27; refine (HFact.out _).mono ?_; rintro e Wa ⟨rfl, cd⟩
           have ca := undrew cd
           clear cd
           replace hP1 := (ca.block P (lt_blk hP1)).trans hP1
           replace hQ1 := (ca.block Q (lt_blk hQ1)).trans hQ1
           replace hX1 := (ca.block X (lt_blk hX1)).trans hX1
           replace hZ1 := (ca.block Z (lt_blk hZ1)).trans hZ1
           replace hp2 := hp2.later ca
           replace hq2 := hq2.later ca
           replace hx2 := hx2.later ca
           replace hz2 := hz2.later ca
           replace sy := sy.later ca
           replace sY := sY.later ca
           replace b9 := below_then b9 ca
           clear ca)
        | (go_at_call 28; refine (HCk.out _ p _ hp2).mono ?_; rintro e Wb ⟨rfl, cb⟩
           rw [HE.out]
           replace hP1 := (cb.block P (lt_blk hP1)).trans hP1
           replace hQ1 := (cb.block Q (lt_blk hQ1)).trans hQ1
           replace hX1 := (cb.block X (lt_blk hX1)).trans hX1
           replace hZ1 := (cb.block Z (lt_blk hZ1)).trans hZ1
           replace hp2 := hp2.later cb
           replace hq2 := hq2.later cb
           replace hx2 := hx2.later cb
           replace hz2 := hz2.later cb
           replace sy := sy.later cb
           replace sY := sY.later cb
           replace b9 := below_then b9 cb
           clear cb)
        | (go_at_call 29; refine (checkPat_any _ p _ hp2).mono ?_; rintro e Wc ⟨rfl, cc⟩
           rw [HE.out]
           replace hP1 := (cc.block P (lt_blk hP1)).trans hP1
           replace hQ1 := (cc.block Q (lt_blk hQ1)).trans hQ1
           replace hX1 := (cc.block X (lt_blk hX1)).trans hX1
           replace hZ1 := (cc.block Z (lt_blk hZ1)).trans hZ1
           replace hp2 := hp2.later cc
           replace hq2 := hq2.later cc
           replace hx2 := hx2.later cc
           replace hz2 := hz2.later cc
           replace sy := sy.later cc
           replace sY := sY.later cc
           replace b9 := below_then b9 cc
           clear cc)
        | (go_at_call 30; refine (HSm.out _ _ p q _ hp2 hq2).mono ?_; rintro e Wd ⟨rfl, cd⟩
           rw [HD.out]
           replace hP1 := (cd.block P (lt_blk hP1)).trans hP1
           replace hQ1 := (cd.block Q (lt_blk hQ1)).trans hQ1
           replace hX1 := (cd.block X (lt_blk hX1)).trans hX1
           replace hZ1 := (cd.block Z (lt_blk hZ1)).trans hZ1
           replace hp2 := hp2.later cd
           replace hq2 := hq2.later cd
           replace hx2 := hx2.later cd
           replace hz2 := hz2.later cd
           replace sy := sy.later cd
           replace sY := sY.later cd
           replace b9 := below_then b9 cd
           clear cd)
        | (go_at_call_of 31 (Value.agg #[.int .i64 p.from_, .int .i64 p.to_, .int .i64 p.old, .int .i64 p.new, .int .i64 p.size, .slice ap np cp]); refine (samePat_any _ _ p q _ hp2 hq2).mono ?_; rintro e We ⟨rfl, ce⟩
           rw [HD.out]
           replace hP1 := (ce.block P (lt_blk hP1)).trans hP1
           replace hQ1 := (ce.block Q (lt_blk hQ1)).trans hQ1
           replace hX1 := (ce.block X (lt_blk hX1)).trans hX1
           replace hZ1 := (ce.block Z (lt_blk hZ1)).trans hZ1
           replace hp2 := hp2.later ce
           replace hq2 := hq2.later ce
           replace hx2 := hx2.later ce
           replace hz2 := hz2.later ce
           replace sy := sy.later ce
           replace sY := sY.later ce
           replace b9 := below_then b9 ce
           clear ce)
        | (go_at_call_of 31 (Value.agg #[.int .i64 x.from_, .int .i64 x.to_, .int .i64 x.old, .int .i64 x.new, .int .i64 x.size, .slice ax nx cx]); refine (samePat_any _ _ x x _ hx2 hz2).mono ?_; rintro e Wf ⟨rfl, cf⟩
           rw [decide_eq_true (rfl : x = x)]
           replace hP1 := (cf.block P (lt_blk hP1)).trans hP1
           replace hQ1 := (cf.block Q (lt_blk hQ1)).trans hQ1
           replace hX1 := (cf.block X (lt_blk hX1)).trans hX1
           replace hZ1 := (cf.block Z (lt_blk hZ1)).trans hZ1
           replace hp2 := hp2.later cf
           replace hq2 := hq2.later cf
           replace hx2 := hx2.later cf
           replace hz2 := hz2.later cf
           replace sy := sy.later cf
           replace sY := sY.later cf
           replace b9 := below_then b9 cf
           clear cf)
        | (go_at_call 19; refine (eqBytes_any _ _ _ _ _ _ _ _ _ sy sY).mono ?_; rintro e Wg ⟨rfl, rfl⟩; rw [decide_eq_true (rfl : y = y)]))
  go_wp2_with fail
  go_ret
  exact ⟨rfl, b9⟩
end Go.Proofs.Ytmpmaljkmfgagab
