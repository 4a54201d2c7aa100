/-
  What the reference's PatchRead keeps in memory, and the contracts of its closures.
-/
import Derived.Test.YtmpmaljkmfgagabPutMath
import Derived.Test.YtmpmaljkmfgagabCheckPat
import Derived.Handy
namespace Go.Proofs.Ytmpmaljkmfgagab
open Go.RowKit

set_option maxRecDepth 100000 in
theorem bad_any (e : Int) (w : World) : Calls Try.prog 83 #[.int .i64 e] w fun en w' => en = .returned (.tuple #[.agg #[.int .i64 0, .int .i64 0, .int .i64 0, .int .i64 0, .int .i64 0, .slice none 0 0], .int .i64 e]) ∧ Below w.heap.size w w' := by
  have hb : Below w.heap.size w (w.alloc (.cells #[.int .i64 0, .int .i64 0, .int .i64 0, .int .i64 0, .int .i64 0, .slice none 0 0] 41)) := (Below.refl _ _).alloc (Nat.le_refl _) _
  go_enter Try.func83, Try.ntmps83
  go_wp2_with fail
  go_returns
  exact ⟨rfl, hb⟩

set_option maxRecDepth 100000 in
set_option maxHeartbeats 400000 in
theorem num_any (Bb blk off n c k : Nat) (x y : Int) (w : World) (hb : w.cell? ⟨Bb, 0, none⟩ = some (.slice (some ⟨blk, off, none⟩) n c)) (h1 : w.cell? ⟨blk, off + k, none⟩ = some (.int .u8 x)) (h2 : w.cell? ⟨blk, off + (k + 1), none⟩ = some (.int .u8 y))
    (hk : k + 1 < n) (hn : n ≤ 400) (x1 : 0 ≤ x ∧ x ≤ 255) (x2 : 0 ≤ y ∧ y ≤ 255) :
    Calls Try.prog 84 #[.int .i64 (k : Int), .pointer (some ⟨Bb, 0, none⟩)] w fun e w' => e = .returned (.int .i64 (x * 256 + y)) ∧ DrewN w w' := by
  obtain ⟨J, hJ⟩ : ∃ J : Nat, (k : Int) + 1 = J := ⟨k + 1, by omega⟩
  have hJ2 : k + 1 = J := by omega
  rw [hJ2] at hk h2
  have hkn : k < n := by omega
  clear hJ2
  go_enter Try.func84, Try.ntmps84
  go_wp2
  go_quiet (fail)
  go_wp2
  go_ret
  exact ⟨rfl, nq, rfl⟩

/-- a step's cells read as a step, its data in memory that was there: as long as 'S' holds -/
def ReadsA (S : World → Prop) (o : OpV) (r : OpR) : Prop :=
  o.at_ = r.at_ ∧ o.len = r.len ∧ I64 r.at_ ∧ I64 r.len ∧ ∃ a n c, o.v = .slice a n c ∧ ∀ W', S W' → BS W' a n c r.data
/-- steps in a row of the call's own, their data in memory that was there -/
def OutA (S : World → Prop) (W : World) (base : Nat) (vo : Value) (out : List OpR) : Prop :=
  ∃ vs : List OpV, vs.length = out.length ∧ W.ownsRow base 36 3 vo out.length (cellsV vs) ∧ ∀ i, i < out.length → ReadsA S (vs.getD i default) (out.getD i default)
theorem OutA.keep {S : World → Prop} {W W' : World} {base : Nat} {vo : Value} {out : List OpR} (h : OutA S W base vo out) (hk : ∀ g, base ≤ g → g < W.heap.size → W'.heap[g]? = W.heap[g]?) : OutA S W' base vo out := by
  obtain ⟨vs, h1, h2, h3⟩ := h
  exact ⟨vs, h1, own_keep h2 (fun g hg => hk g (own_lt3 h2 hg).1 (own_lt3 h2 hg).2), h3⟩
theorem OutA.app {S : World → Prop} {W : World} {base : Nat} {vo : Value} {out : List OpR} (h : OutA S W base vo out) {B : Nat} {A L : Int} {a : Option Addr} {n c : Nat} {d : List Int}
    (hB : W.heap[B]? = some (.cells #[.int .i64 A, .int .i64 L, .slice a n c] 36 (0, 0))) (hd : ∀ W', S W' → BS W' a n c d) (hA : I64 A) (hL : I64 L) (hn : out.length ≤ 1000) (hbase : base ≤ W.heap.size) :
    ∃ g cap W5, (Builtin.append_ #[23, 23] 23 #[vo, .slice (some ⟨B, 0, none⟩) 1 1]).run Try.prog W = .ok (.slice (some ⟨g, 0, none⟩) (out.length + 1) cap) W5 ∧
      OutA S W5 base (.slice (some ⟨g, 0, none⟩) (out.length + 1) cap) (out ++ [⟨A, L, d⟩]) ∧ W.grownBy W5 vo.ownBlock := by
  obtain ⟨i0, hi, hz0, hz1, hz2⟩ := info_parts Try.info_op
  obtain ⟨vs, h1, h2, h3⟩ := h
  obtain ⟨g, cap, W5, hr, ho, hg, hlies, hlt⟩ := run_append_lies (P := Try.prog) W 23 23 base 36 i0 _ 3 40 Try.underlying23 hi hz0 hz1 hz2 rfl (by decide) vo out.length _ h2 ⟨B, 0, none⟩ 1 1 (cellsV [⟨A, L, .slice a n c⟩])
    rfl (one_op hB) (by intro u hu; simp [cellsV] at hu; rcases hu with rfl | rfl | rfl <;> rfl) (by omega) (by unfold maxLen; omega) (by omega) hbase W.heap.size rfl
  refine ⟨g, cap, W5, hr, ⟨vs ++ [⟨A, L, .slice a n c⟩], by simp [h1], ?_, ?_⟩, hg⟩
  · rw [cellsV_append, List.length_append]
    exact ho
  · intro i hi'
    rw [List.length_append] at hi'
    simp only [List.length_cons, List.length_nil] at hi'
    rcases Nat.lt_or_ge i out.length with hlt2 | hge
    · have e1 : (vs ++ [(⟨A, L, .slice a n c⟩ : OpV)]).getD i default = vs.getD i default := by simp [List.getD_eq_getElem?_getD, List.getElem?_append_left (show i < vs.length by omega)]
      have e2 : (out ++ [(⟨A, L, d⟩ : OpR)]).getD i default = out.getD i default := by simp [List.getD_eq_getElem?_getD, List.getElem?_append_left hlt2]
      rw [e1, e2]
      exact h3 i hlt2
    · obtain rfl : i = out.length := by omega
      have e1 : (vs ++ [(⟨A, L, .slice a n c⟩ : OpV)]).getD out.length default = ⟨A, L, .slice a n c⟩ := by rw [← h1]; simp [List.getD_eq_getElem?_getD]
      have e2 : (out ++ [(⟨A, L, d⟩ : OpR)]).getD out.length default = ⟨A, L, d⟩ := by simp [List.getD_eq_getElem?_getD]
      rw [e1, e2]
      exact ⟨rfl, rfl, hA, hL, a, n, c, rfl, hd⟩
theorem OutA.os {S : World → Prop} {W : World} {base : Nat} {vo : Value} {out : List OpR} (h : OutA S W base vo out) (hS : S W) : ∃ a c, vo = .slice a out.length c ∧ OS W a out.length c out := by
  obtain ⟨vs, h1, h2, h3⟩ := h
  rcases h2.2 with ⟨rfl, h0⟩ | ⟨g, cap, cur, rfl, _, hcells, hle, hmx, hsz, htk⟩
  · obtain rfl : out = [] := List.eq_nil_of_length_eq_zero h0
    exact ⟨none, 0, rfl, OS.nil_ W⟩
  · refine ⟨_, cap, rfl, rfl, hle, by unfold maxLen at hmx; omega, fun hp => ⟨g, 0, rfl, fun i hi => ?_⟩, fun h => by cases h⟩
    have cell : ∀ j u, (cellsV vs)[j]? = some u → W.cell? ⟨g, j, none⟩ = some u := by
      intro j u hu
      have hj : j < (cellsV vs).length := by
        rcases Nat.lt_or_ge j (cellsV vs).length with q | q
        · exact q
        · rw [List.getElem?_eq_none q] at hu; cases hu
      rw [← htk, List.getElem?_take] at hu
      split at hu
      · simp only [World.cell?, hcells]
        simpa using hu
      · cases hu
    obtain ⟨g0, g1, g2⟩ := cellsV_get vs i (by omega)
    obtain ⟨r1, r2, r3, r4, a, n, c, r5, r6⟩ := h3 i hi
    refine ⟨a, n, c, ?_, ?_, ?_, r6 _ hS, r3, r4⟩
    · rw [Nat.zero_add, cell _ _ g0, r1]
    · rw [Nat.zero_add, cell _ _ g1, r2]
    · rw [Nat.zero_add, cell _ _ g2, r5]

/-- the memory of PatchRead: the blocks of 'b', of the result and of 'p' -/
structure RSt (S : World → Prop) (w0 : World) (B0 B1 B2 : Nat) (vb : Value) (f t o nw s : Int) (vo : Value) (out : List OpR) (W : World) : Prop where
  c0 : W.heap[B0]? = some (.cells #[vb] 22 (0, 0))
  c1 : W.heap[B1]? = some (.cells #[.int .i64 0, .int .i64 0, .int .i64 0, .int .i64 0, .int .i64 0, .slice none 0 0] 41 (0, 0))
  c2 : W.heap[B2]? = some (.cells #[.int .i64 f, .int .i64 t, .int .i64 o, .int .i64 nw, .int .i64 s, vo] 41 (0, 0))
  o : OutA S W (B2 + 1) vo out
  below : Below w0.heap.size w0 W
  le0 : w0.heap.size ≤ B0
  le1 : B0 < B1
  le2 : B1 < B2
  hs : ∀ W', Below w0.heap.size w0 W' → S W'
section
variable {S : World → Prop} {w0 : World} {B0 B1 B2 : Nat} {vb : Value} {f t o nw s : Int} {vo : Value} {out : List OpR} {W W' : World}
theorem RSt.later (h : RSt S w0 B0 B1 B2 vb f t o nw s vo out W) (hb : Below W.heap.size W W') : RSt S w0 B0 B1 B2 vb f t o nw s vo out W' :=
  ⟨(hb.block _ (lt_blk h.c0)).trans h.c0, (hb.block _ (lt_blk h.c1)).trans h.c1, (hb.block _ (lt_blk h.c2)).trans h.c2, h.o.keep (fun g _ g2 => hb.block g g2), below_then h.below hb, h.le0, h.le1, h.le2, h.hs⟩
theorem RSt.drewN (h : RSt S w0 B0 B1 B2 vb f t o nw s vo out W) (q : Nat) : RSt S w0 B0 B1 B2 vb f t o nw s vo out (W.drewN q) := h.later (below_drewN (Below.refl _ _) q)
/-- one more step, and the store of it -/
theorem RSt.app (h : RSt S w0 B0 B1 B2 vb f t o nw s vo out W) {B : Nat} {A L : Int} {a : Option Addr} {n c : Nat} {d : List Int}
    (hB : W.heap[B]? = some (.cells #[.int .i64 A, .int .i64 L, .slice a n c] 36 (0, 0))) (hd : ∀ W', S W' → BS W' a n c d) (hA : I64 A) (hL : I64 L) (hn : out.length ≤ 1000) :
    ∃ g cap W5, (Builtin.append_ #[23, 23] 23 #[vo, .slice (some ⟨B, 0, none⟩) 1 1]).run Try.prog W = .ok (.slice (some ⟨g, 0, none⟩) (out.length + 1) cap) W5 ∧
      W5.cell? ⟨B2, 5, none⟩ = some vo ∧ W5.frozen? ⟨B2, 5, none⟩ = false ∧
      Hid (RSt S w0 B0 B1 B2 vb f t o nw s (.slice (some ⟨g, 0, none⟩) (out.length + 1) cap) (out ++ [⟨A, L, d⟩]) (W5.setCell ⟨B2, 5, none⟩ (.slice (some ⟨g, 0, none⟩) (out.length + 1) cap))) := by
  have hl0 := lt_blk h.c0
  have hl1 := lt_blk h.c1
  have hl2 := lt_blk h.c2
  have hle1 := h.le1
  have hle2 := h.le2
  obtain ⟨g, cap, W5, hr, hO, hg⟩ := h.o.app hB hd hA hL hn (by omega)
  have far : ∀ k, k < B2 + 1 → some k ≠ vo.ownBlock := by
    intro k hk2 e
    obtain ⟨vs, _, q, _⟩ := h.o
    have := (own_lt3 q e.symm).1
    omega
  have e0 := (hg.block B0 hl0 (far _ (by omega))).trans h.c0
  have e1 := (hg.block B1 hl1 (far _ (by omega))).trans h.c1
  have e2 := (hg.block B2 hl2 (far _ (by omega))).trans h.c2
  have hB5 := h.below.grown hg h.below.size (fun g' hg' => by
    obtain ⟨vs, _, q, _⟩ := h.o
    have := (own_lt3 q hg').1
    have := h.le0
    omega)
  obtain ⟨p0, p1, p2, p3, p4, p5, f0, f1, f2, f3, f4, f5⟩ := pat_cells e2
  refine ⟨g, cap, W5, hr, p5, f5, ?_⟩
  refine ⟨(Below.heap_setCell W5 _ _ B0 (by show B0 ≠ B2; omega)).trans e0, (Below.heap_setCell W5 _ _ B1 (by show B1 ≠ B2; omega)).trans e1, by simp [World.setCell, Array.getElem?_modify, e2], ?_, hB5.setCell (by show w0.heap.size ≤ B2; have := h.le0; omega) _, h.le0, h.le1, h.le2, h.hs⟩
  exact hO.keep (fun k k1 _ => Below.heap_setCell W5 _ _ k (by show k ≠ B2; omega))
theorem RSt.pv (h : RSt S w0 B0 B1 B2 vb f t o nw s vo out W) (hf : I64 f ∧ I64 t ∧ I64 o ∧ I64 nw ∧ I64 s) : PV W (.agg #[.int .i64 f, .int .i64 t, .int .i64 o, .int .i64 nw, .int .i64 s, vo]) ⟨f, t, o, nw, s, out⟩ := by
  obtain ⟨a, c, rfl, hos⟩ := h.o.os (h.hs _ h.below)
  exact ⟨a, out.length, c, rfl, hos, hf.1, hf.2.1, hf.2.2.1, hf.2.2.2.1, hf.2.2.2.2⟩
end
end Go.Proofs.Ytmpmaljkmfgagab
