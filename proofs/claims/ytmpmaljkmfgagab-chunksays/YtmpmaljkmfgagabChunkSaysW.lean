/-
  The law ChunkSays, walked over what is asked of package chunk.
-/
import Derived.Test.YtmpmaljkmfgagabChunkFact
import Derived.Test.YtmpmaljkmfgagabChunksR
import Derived.Test.YtmpmaljkmfgagabAddedR
import Derived.Test.YtmpmaljkmfgagabJoinedR
import Derived.Test.YtmpmaljkmfgagabSameCh
import Derived.Deep.RegionHeld3
namespace Go.Proofs.Ytmpmaljkmfgagab
open Go.RowKit

theorem undrewC {w w' : World} (h : Below w.drew.heap.size w.drew w') : Below w.heap.size w w' := ((Below.refl _ _).drew).trans h
/-- the memory of the law's last test -/
structure SaysW (w : World) (C X Z : Nat) (c : ChR) (ca : Option Addr) (cm cc : Nat) (al : Option Addr) (nl cl : Nat) (l : List ChR) (am : Option Addr) (nm cm' : Nat) (m : List ChR) (a1 : Option Addr) (n1 c1 : Nat) (a2 : Option Addr) (n2 c2 : Nat) (xs : List ChR)
    (a3 : Option Addr) (n3 c3 : Nat) (a4 : Option Addr) (n4 c4 : Nat) (ys : List ChR) (r : PatR) (a5 : Option Addr) (n5 c5 : Nat) (a6 : Option Addr) (n6 c6 : Nat) (W : World) : Prop where
  hc : W.heap[C]? = some (.cells #[.int .i64 c.fr, .int .i64 c.to_, .int .i64 c.n, .int .i64 c.of_, .slice ca cm cc] 69 (0, 0))
  hx : W.heap[X]? = some (.cells #[.int .i64 r.from_, .int .i64 r.to_, .int .i64 r.old, .int .i64 r.new, .int .i64 r.size, .slice a5 n5 c5] 41 (0, 0))
  hz : W.heap[Z]? = some (.cells #[.int .i64 r.from_, .int .i64 r.to_, .int .i64 r.old, .int .i64 r.new, .int .i64 r.size, .slice a6 n6 c6] 41 (0, 0))
  cv : CV W (.agg #[.int .i64 c.fr, .int .i64 c.to_, .int .i64 c.n, .int .i64 c.of_, .slice ca cm cc]) c
  l : CS W al nl cl l
  m : CS W am nm cm' m
  x1 : CS W a1 n1 c1 xs
  x2 : CS W a2 n2 c2 xs
  y1 : CS W a3 n3 c3 ys
  y2 : CS W a4 n4 c4 ys
  z1 : PV W (.agg #[.int .i64 r.from_, .int .i64 r.to_, .int .i64 r.old, .int .i64 r.new, .int .i64 r.size, .slice a5 n5 c5]) r
  z2 : PV W (.agg #[.int .i64 r.from_, .int .i64 r.to_, .int .i64 r.old, .int .i64 r.new, .int .i64 r.size, .slice a6 n6 c6]) r
  below : Below w.heap.size w W
  max : MaxCell W
section
variable {w : World} {C X Z : Nat} {c : ChR} {ca : Option Addr} {cm cc : Nat} {al : Option Addr} {nl cl : Nat} {l : List ChR} {am : Option Addr} {nm cm' : Nat} {m : List ChR} {a1 : Option Addr} {n1 c1 : Nat} {a2 : Option Addr} {n2 c2 : Nat} {xs : List ChR}
    {a3 : Option Addr} {n3 c3 : Nat} {a4 : Option Addr} {n4 c4 : Nat} {ys : List ChR} {r : PatR} {a5 : Option Addr} {n5 c5 : Nat} {a6 : Option Addr} {n6 c6 : Nat} {W W' : World}
theorem SaysW.later (h : SaysW w C X Z c ca cm cc al nl cl l am nm cm' m a1 n1 c1 a2 n2 c2 xs a3 n3 c3 a4 n4 c4 ys r a5 n5 c5 a6 n6 c6 W) (hb : Below W.heap.size W W') : SaysW w C X Z c ca cm cc al nl cl l am nm cm' m a1 n1 c1 a2 n2 c2 xs a3 n3 c3 a4 n4 c4 ys r a5 n5 c5 a6 n6 c6 W' :=
  ⟨(hb.block _ (lt_blk h.hc)).trans h.hc, (hb.block _ (lt_blk h.hx)).trans h.hx, (hb.block _ (lt_blk h.hz)).trans h.hz, h.cv.later hb, h.l.later hb, h.m.later hb, h.x1.later hb, h.x2.later hb, h.y1.later hb, h.y2.later hb, h.z1.later hb, h.z2.later hb, below_then h.below hb, h.max.later hb⟩
theorem SaysW.cells (h : SaysW w C X Z c ca cm cc al nl cl l am nm cm' m a1 n1 c1 a2 n2 c2 xs a3 n3 c3 a4 n4 c4 ys r a5 n5 c5 a6 n6 c6 W) :
    W.cell? ⟨C, 0, none⟩ = some (.int .i64 c.fr) ∧ W.cell? ⟨C, 1, none⟩ = some (.int .i64 c.to_) ∧ W.cell? ⟨C, 2, none⟩ = some (.int .i64 c.n) ∧ W.cell? ⟨C, 3, none⟩ = some (.int .i64 c.of_) ∧ W.cell? ⟨C, 4, none⟩ = some (.slice ca cm cc) ∧
    W.cell? ⟨X, 0, none⟩ = some (.int .i64 r.from_) ∧ W.cell? ⟨X, 1, none⟩ = some (.int .i64 r.to_) ∧ W.cell? ⟨X, 2, none⟩ = some (.int .i64 r.old) ∧ W.cell? ⟨X, 3, none⟩ = some (.int .i64 r.new) ∧ W.cell? ⟨X, 4, none⟩ = some (.int .i64 r.size) ∧ W.cell? ⟨X, 5, none⟩ = some (.slice a5 n5 c5) ∧
    W.cell? ⟨Z, 0, none⟩ = some (.int .i64 r.from_) ∧ W.cell? ⟨Z, 1, none⟩ = some (.int .i64 r.to_) ∧ W.cell? ⟨Z, 2, none⟩ = some (.int .i64 r.old) ∧ W.cell? ⟨Z, 3, none⟩ = some (.int .i64 r.new) ∧ W.cell? ⟨Z, 4, none⟩ = some (.int .i64 r.size) ∧ W.cell? ⟨Z, 5, none⟩ = some (.slice a6 n6 c6) := by
  obtain ⟨k0, k1, k2, k3, k4⟩ := ch_cells h.hc
  obtain ⟨p0, p1, p2, p3, p4, p5, -⟩ := pat_cells h.hx
  obtain ⟨q0, q1, q2, q3, q4, q5, -⟩ := pat_cells h.hz
  exact ⟨k0, k1, k2, k3, k4, p0, p1, p2, p3, p4, p5, q0, q1, q2, q3, q4, q5⟩
end

set_option maxRecDepth 100000 in
set_option maxHeartbeats 4000000 in
theorem chunkSays_walk (HCk : CheckCC) (HLs : ListCC) (HSc : SameCC) (HCt : CutCC) (HAd : AddCC) (HJn : JoinCC) (HSm : SamePC) (a0 : Option Addr) (len0 cap0 : Nat) (l : List ChR) (v1 : Value) (c : ChR) (v2 : Value) (p : PatR) (a3 : Option Addr) (len3 cap3 : Nat) (m : List ChR)
    (w : World) (w0 : CS w a0 len0 cap0 l) (hv1 : CV w v1 c) (hv2 : PV w v2 p) (w3 : CS w a3 len3 cap3 m) (hM : MaxCell w) :
    Calls Try.prog 12 #[.slice a0 len0 cap0, v1, v2, .slice a3 len3 cap3] w fun e w' => e = .returned (.bool true) ∧ Below w.heap.size w w' := by
  have HFact := Lib.hid (fun W => chunkFact_any HCt HAd HJn HLs HSm W)
  replace HCk := Lib.hid HCk
  replace HLs := Lib.hid HLs
  replace HSc := Lib.hid HSc
  replace HCt := Lib.hid HCt
  replace HAd := Lib.hid HAd
  replace HJn := Lib.hid HJn
  obtain ⟨ca, cm, cc, rfl, hd1, hI1⟩ := hv1
  obtain ⟨pa, pn, pc, rfl, ho2, hI2⟩ := hv2
  obtain ⟨C, hC⟩ : ∃ C, w.heap.size = C := ⟨_, rfl⟩
  have hb1 : Below w.heap.size w (w.alloc (.cells #[.int .i64 c.fr, .int .i64 c.to_, .int .i64 c.n, .int .i64 c.of_, .slice ca cm cc] 69)) := (Below.refl _ _).alloc (Nat.le_refl _) _
  have e1 : (w.alloc (.cells #[.int .i64 c.fr, .int .i64 c.to_, .int .i64 c.n, .int .i64 c.of_, .slice ca cm cc] 69)).heap.size = C + 1 := by simp [hC]
  have hb2 := hb1.alloc hb1.size (.cells #[.int .i64 p.from_, .int .i64 p.to_, .int .i64 p.old, .int .i64 p.new, .int .i64 p.size, .slice pa pn pc] 41)
  have hC1 : ((w.alloc (.cells #[.int .i64 c.fr, .int .i64 c.to_, .int .i64 c.n, .int .i64 c.of_, .slice ca cm cc] 69)).alloc (.cells #[.int .i64 p.from_, .int .i64 p.to_, .int .i64 p.old, .int .i64 p.new, .int .i64 p.size, .slice pa pn pc] 41)).heap[C]? = some (.cells #[.int .i64 c.fr, .int .i64 c.to_, .int .i64 c.n, .int .i64 c.of_, .slice ca cm cc] 69 (0, 0)) := by
    rw [heap_at, if_neg (by rw [e1]; omega), heap_at, if_pos hC.symm]
  have hP1 : ((w.alloc (.cells #[.int .i64 c.fr, .int .i64 c.to_, .int .i64 c.n, .int .i64 c.of_, .slice ca cm cc] 69)).alloc (.cells #[.int .i64 p.from_, .int .i64 p.to_, .int .i64 p.old, .int .i64 p.new, .int .i64 p.size, .slice pa pn pc] 41)).heap[C + 1]? = some (.cells #[.int .i64 p.from_, .int .i64 p.to_, .int .i64 p.old, .int .i64 p.new, .int .i64 p.size, .slice pa pn pc] 41 (0, 0)) := by
    rw [heap_at, if_pos e1.symm]
  replace w0 := w0.later hb2
  replace w3 := w3.later hb2
  replace hM := hM.later hb2
  have hcv : CV _ (.agg #[.int .i64 c.fr, .int .i64 c.to_, .int .i64 c.n, .int .i64 c.of_, .slice ca cm cc]) c := ⟨ca, cm, cc, rfl, hd1.later hb2, hI1⟩
  have hpv : PV _ (.agg #[.int .i64 p.from_, .int .i64 p.to_, .int .i64 p.old, .int .i64 p.new, .int .i64 p.size, .slice pa pn pc]) p := ⟨pa, pn, pc, rfl, ho2.later hb2, hI2⟩
  have b9 := hb2
  clear hb1 hb2 hd1 ho2 hI1 hI2
  go_enter Try.func12, Try.ntmps12
  go_wp2_with fail
  generalize (w.alloc (.cells #[.int .i64 c.fr, .int .i64 c.to_, .int .i64 c.n, .int .i64 c.of_, .slice ca cm cc] 69)).alloc (.cells #[.int .i64 p.from_, .int .i64 p.to_, .int .i64 p.old, .int .i64 p.new, .int .i64 p.size, .slice pa pn pc] 41) = W0 at hC1 hP1 w0 w3 hM hcv hpv b9 ⊢
  refine (HCt.out _ p _ hpv).mono ?_
  rintro e W1 ⟨xs, ex, a1, n1, c1, hcut, rfl, x1, d1⟩
  have HCut := Lib.hid hcut
  replace hC1 := (d1.block C (lt_blk hC1)).trans hC1
  replace hP1 := (d1.block (C + 1) (lt_blk hP1)).trans hP1
  replace w0 := w0.later d1
  replace w3 := w3.later d1
  replace hM := hM.later d1
  replace hcv := hcv.later d1
  replace hpv := hpv.later d1
  replace b9 := below_then b9 d1
  clear d1 hcut e1
  obtain ⟨k0, k1, k2, k3, k4⟩ := ch_cells hC1
  go_wp2_with fail
  refine (HAd.out _ _ _ l _ c _ w0 hcv).mono ?_
  rintro e W2 ⟨a2, n2, c2, rfl, y1, d2⟩
  obtain ⟨⟨ys, ey⟩, hy⟩ : ∃ Y, ChunkM.addOf l c = Y := ⟨_, rfl⟩
  have HY := Lib.hid hy
  rw [hy] at y1 ⊢
  simp only at y1 ⊢
  replace hC1 := (d2.block C (lt_blk hC1)).trans hC1
  replace hP1 := (d2.block (C + 1) (lt_blk hP1)).trans hP1
  replace w0 := w0.later d2
  replace w3 := w3.later d2
  replace hM := hM.later d2
  replace hcv := hcv.later d2
  replace hpv := hpv.later d2
  replace x1 := x1.later d2
  replace b9 := below_then b9 d2
  clear d2 hy k0 k1 k2 k3 k4
  go_wp2_with fail
  refine (HJn.out _ _ _ l _ w0).mono ?_
  rintro e W3 ⟨r, hj, vz, rfl, hz, d3⟩
  have HJ := Lib.hid hj
  obtain ⟨r, ez⟩ := r
  simp only at hz ⊢
  obtain ⟨a5, n5, c5, rfl, hoz⟩ := hz
  have hbz : Below W3.heap.size W3 (W3.alloc (.cells #[.int .i64 r.from_, .int .i64 r.to_, .int .i64 r.old, .int .i64 r.new, .int .i64 r.size, .slice a5 n5 c5] 41)) := (Below.refl _ _).alloc (Nat.le_refl _) _
  obtain ⟨X, hX⟩ : ∃ X, W3.heap.size = X := ⟨_, rfl⟩
  have hX1 : (W3.alloc (.cells #[.int .i64 r.from_, .int .i64 r.to_, .int .i64 r.old, .int .i64 r.new, .int .i64 r.size, .slice a5 n5 c5] 41)).heap[X]? = some (.cells #[.int .i64 r.from_, .int .i64 r.to_, .int .i64 r.old, .int .i64 r.new, .int .i64 r.size, .slice a5 n5 c5] 41 (0, 0)) := by rw [heap_at, if_pos hX.symm]
  have z1 : PV (W3.alloc (.cells #[.int .i64 r.from_, .int .i64 r.to_, .int .i64 r.old, .int .i64 r.new, .int .i64 r.size, .slice a5 n5 c5] 41)) (.agg #[.int .i64 r.from_, .int .i64 r.to_, .int .i64 r.old, .int .i64 r.new, .int .i64 r.size, .slice a5 n5 c5]) r := ⟨a5, n5, c5, rfl, hoz.1.later hbz, hoz.2⟩
  replace d3 := below_then d3 hbz
  replace hC1 := (d3.block C (lt_blk hC1)).trans hC1
  replace hP1 := (d3.block (C + 1) (lt_blk hP1)).trans hP1
  replace w0 := w0.later d3
  replace w3 := w3.later d3
  replace hM := hM.later d3
  replace hcv := hcv.later d3
  replace hpv := hpv.later d3
  replace x1 := x1.later d3
  replace y1 := y1.later d3
  replace b9 := below_then b9 d3
  clear d3 hbz hoz hj
  obtain ⟨p0, p1, p2, p3, p4, p5, -⟩ := pat_cells hP1
  go_wp2_with fail
  generalize W3.alloc (.cells #[.int .i64 r.from_, .int .i64 r.to_, .int .i64 r.old, .int .i64 r.new, .int .i64 r.size, .slice a5 n5 c5] 41) = W4 at hX1 z1 hC1 hP1 w0 w3 hM hcv hpv x1 y1 b9 p0 p1 p2 p3 p4 p5 ⊢
  refine (chunksR_any _ p _ hpv).mono ?_
  rintro e W5 ⟨xs', ex', a1', n1', c1', hcut', rfl, x2, d5⟩
  obtain ⟨rfl, rfl⟩ := HCut.out.det hcut'
  replace hX1 := (d5.block X (lt_blk hX1)).trans hX1
  replace hC1 := (d5.block C (lt_blk hC1)).trans hC1
  replace w0 := w0.later d5
  replace w3 := w3.later d5
  replace hM := hM.later d5
  replace hcv := hcv.later d5
  replace x1 := x1.later d5
  replace y1 := y1.later d5
  replace z1 := z1.later d5
  replace b9 := below_then b9 d5
  clear d5 hcut' p0 p1 p2 p3 p4 p5 hP1 hpv
  obtain ⟨k0, k1, k2, k3, k4⟩ := ch_cells hC1
  go_wp2_with fail
  refine (addedR_any _ _ _ l _ c _ w0 hcv).mono ?_
  rintro e W6 ⟨a2', n2', c2', rfl, y2, d6⟩
  rw [HY.out] at y2 ⊢
  simp only at y2 ⊢
  replace hX1 := (d6.block X (lt_blk hX1)).trans hX1
  replace hC1 := (d6.block C (lt_blk hC1)).trans hC1
  replace w0 := w0.later d6
  replace w3 := w3.later d6
  replace hM := hM.later d6
  replace hcv := hcv.later d6
  replace x1 := x1.later d6
  replace x2 := x2.later d6
  replace y1 := y1.later d6
  replace z1 := z1.later d6
  replace b9 := below_then b9 d6
  clear d6 k0 k1 k2 k3 k4
  go_wp2_with fail
  refine (joinedR_any _ _ _ l _ w0).mono ?_
  rintro e W7 ⟨r', hj', vz', rfl, hz', d7⟩
  obtain rfl := HJ.out.det hj'
  simp only at hz' ⊢
  obtain ⟨a6, n6, c6, rfl, hoz'⟩ := hz'
  have hbz : Below W7.heap.size W7 (W7.alloc (.cells #[.int .i64 r.from_, .int .i64 r.to_, .int .i64 r.old, .int .i64 r.new, .int .i64 r.size, .slice a6 n6 c6] 41)) := (Below.refl _ _).alloc (Nat.le_refl _) _
  obtain ⟨Z, hZ⟩ : ∃ Z, W7.heap.size = Z := ⟨_, rfl⟩
  have hZ1 : (W7.alloc (.cells #[.int .i64 r.from_, .int .i64 r.to_, .int .i64 r.old, .int .i64 r.new, .int .i64 r.size, .slice a6 n6 c6] 41)).heap[Z]? = some (.cells #[.int .i64 r.from_, .int .i64 r.to_, .int .i64 r.old, .int .i64 r.new, .int .i64 r.size, .slice a6 n6 c6] 41 (0, 0)) := by rw [heap_at, if_pos hZ.symm]
  replace d7 := below_then d7 hbz
  have hSY : SaysW w C X Z c ca cm cc a0 len0 cap0 l a3 len3 cap3 m a1 n1 c1 a1' n1' c1' xs a2 n2 c2 a2' n2' c2' ys r a5 n5 c5 a6 n6 c6 (W7.alloc (.cells #[.int .i64 r.from_, .int .i64 r.to_, .int .i64 r.old, .int .i64 r.new, .int .i64 r.size, .slice a6 n6 c6] 41)) :=
    ⟨(d7.block C (lt_blk hC1)).trans hC1, (d7.block X (lt_blk hX1)).trans hX1, hZ1, hcv.later d7, w0.later d7, w3.later d7, x1.later d7, x2.later d7, y1.later d7, y2.later d7, z1.later d7, ⟨a6, n6, c6, rfl, hoz'.1.later hbz, hoz'.2⟩, below_then b9 d7, hM.later d7⟩
  have HS := Lib.hid hSY
  clear hSY d7 hbz hZ1 hoz' hj' hX1 hC1 w0 w3 hM hcv x1 x2 y1 y2 z1 b9
  obtain ⟨E1, hE1⟩ : ∃ E, ChunkM.check c = E := ⟨_, rfl⟩
  obtain ⟨E2, hE2⟩ : ∃ E, ChunkM.checks l = E := ⟨_, rfl⟩
  obtain ⟨D, hD⟩ : ∃ D, decide (l = m) = D := ⟨_, rfl⟩
  have HE1 := Lib.hid hE1
  have HE2 := Lib.hid hE2
  have HD := Lib.hid hD
  clear hE1 hE2 hD
  have h1 : (E1 == E1) = true := by simp
  have h2 : (E2 == E2) = true := by simp
  have h3 : (D == D) = true := by simp
  have h4 : (ex == ex) = true := by simp
  have h5 : (ey == ey) = true := by simp
  have h6 : (ez == ez) = true := by simp
  go_wp2_with fail
  generalize W7.alloc (.cells #[.int .i64 r.from_, .int .i64 r.to_, .int .i64 r.old, .int .i64 r.new, .int .i64 r.size, .slice a6 n6 c6] 41) = W8 at HS ⊢
  replace HS := Lib.hid (HS.out.later (Below.refl _ _).drew)
  go_region_held3 (fun W => W.cell? ⟨C, 0, none⟩ = some (.int .i64 c.fr) ∧ W.cell? ⟨C, 1, none⟩ = some (.int .i64 c.to_) ∧ W.cell? ⟨C, 2, none⟩ = some (.int .i64 c.n) ∧ W.cell? ⟨C, 3, none⟩ = some (.int .i64 c.of_) ∧ W.cell? ⟨C, 4, none⟩ = some (.slice ca cm cc) ∧
    W.cell? ⟨X, 0, none⟩ = some (.int .i64 r.from_) ∧ W.cell? ⟨X, 1, none⟩ = some (.int .i64 r.to_) ∧ W.cell? ⟨X, 2, none⟩ = some (.int .i64 r.old) ∧ W.cell? ⟨X, 3, none⟩ = some (.int .i64 r.new) ∧ W.cell? ⟨X, 4, none⟩ = some (.int .i64 r.size) ∧ W.cell? ⟨X, 5, none⟩ = some (.slice a5 n5 c5) ∧
    W.cell? ⟨Z, 0, none⟩ = some (.int .i64 r.from_) ∧ W.cell? ⟨Z, 1, none⟩ = some (.int .i64 r.to_) ∧ W.cell? ⟨Z, 2, none⟩ = some (.int .i64 r.old) ∧ W.cell? ⟨Z, 3, none⟩ = some (.int .i64 r.new) ∧ W.cell? ⟨Z, 4, none⟩ = some (.int .i64 r.size) ∧ W.cell? ⟨Z, 5, none⟩ = some (.slice a6 n6 c6))
    (exact HS.out.cells)
    (first
      | (go_at_call 51; refine (HFact.out _ HS.out.max).mono ?_; rintro e Wa ⟨rfl, da⟩; replace HS := Lib.hid (HS.out.later da); clear da)
      | (go_at_call 52; refine (HCk.out _ c _ HS.out.cv).mono ?_; rintro e Wb ⟨rfl, db⟩; rw [HE1.out]; replace HS := Lib.hid (HS.out.later db); clear db)
      | (go_at_call 53; refine (checkCh_any _ c _ HS.out.cv).mono ?_; rintro e Wc ⟨rfl, dc⟩; rw [HE1.out]; replace HS := Lib.hid (HS.out.later dc); clear dc)
      | (go_at_call 54; refine (HLs.out _ _ _ l _ HS.out.l).mono ?_; rintro e Wd ⟨rfl, dd⟩; rw [HE2.out]; replace HS := Lib.hid (HS.out.later dd); clear dd)
      | (go_at_call 55; refine (checkChs_any _ _ _ l _ HS.out.l).mono ?_; rintro e We ⟨rfl, de⟩; rw [HE2.out]; replace HS := Lib.hid (HS.out.later de); clear de)
      | (go_at_call 56; refine (HSc.out _ _ _ _ _ _ l m _ HS.out.l HS.out.m).mono ?_; rintro e Wf ⟨rfl, df⟩; rw [HD.out]; replace HS := Lib.hid (HS.out.later df); clear df)
      | (go_at_call_of 57 (Value.slice a0 len0 cap0); refine (sameChs_any _ _ _ _ _ _ l m _ HS.out.l HS.out.m).mono ?_; rintro e Wg ⟨rfl, dg⟩; rw [HD.out]; replace HS := Lib.hid (HS.out.later dg); clear dg)
      | (go_at_call_of 57 (Value.slice a1 n1 c1); refine (sameChs_any _ _ _ _ _ _ xs xs _ HS.out.x1 HS.out.x2).mono ?_; rintro e Wh ⟨rfl, dh⟩; rw [decide_eq_true (rfl : xs = xs)]; replace HS := Lib.hid (HS.out.later dh); clear dh)
      | (go_at_call_of 57 (Value.slice a2 n2 c2); refine (sameChs_any _ _ _ _ _ _ ys ys _ HS.out.y1 HS.out.y2).mono ?_; rintro e Wi ⟨rfl, di⟩; rw [decide_eq_true (rfl : ys = ys)]; replace HS := Lib.hid (HS.out.later di); clear di)
      | (go_at_call 31; refine (samePat_any _ _ r r _ HS.out.z1 HS.out.z2).mono ?_; rintro e Wj ⟨rfl, dj⟩; rw [decide_eq_true (rfl : r = r)]; replace HS := Lib.hid (HS.out.later dj); clear dj))
  all_goals
    go_wp2_with fail
    go_ret
    exact ⟨rfl, HS.out.below⟩
end Go.Proofs.Ytmpmaljkmfgagab
