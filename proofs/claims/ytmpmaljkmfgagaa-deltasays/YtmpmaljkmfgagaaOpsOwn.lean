/-
  A list of steps that a call makes: a row of the call's own, each step's data in a row that nobody writes to any more; one more step appended.
-/
import Derived.Test.YtmpmaljkmfgagaaOps
import Derived.Deep.AppendLies
namespace Go.Proofs.Ytmpmaljkmfgagaa
open Go.RowKit

set_option maxRecDepth 100000 in
theorem Try.info_op : (Try.prog.info? 56).map (fun i => (i.zero, i.size, i.bytes)) = some (some (.agg #[.int .i64 0, .int .i64 0, .slice none 0 0]), 3, 40) := by kernel_rfl

/-- a step as its three cells hold it -/
structure OpV where
  at_ : Int
  len : Int
  v : Value
instance : Inhabited OpV := ⟨⟨0, 0, .slice none 0 0⟩⟩
def cellsV : List OpV → List Value
  | [] => []
  | o :: t => .int .i64 o.at_ :: .int .i64 o.len :: o.v :: cellsV t
set_option maxRecDepth 100000 in
theorem cellsV_append : ∀ x y, cellsV (x ++ y) = cellsV x ++ cellsV y
  | [], _ => rfl
  | o :: t, y => by simp [cellsV, cellsV_append t y]
set_option maxRecDepth 100000 in
theorem cellsV_length : ∀ x, (cellsV x).length = x.length * 3
  | [] => rfl
  | o :: t => by simp [cellsV, cellsV_length t]; omega
set_option maxRecDepth 100000 in
theorem cellsV_get : ∀ (x : List OpV) (i : Nat), i < x.length → (cellsV x)[i * 3]? = some (.int .i64 (x.getD i default).at_) ∧ (cellsV x)[i * 3 + 1]? = some (.int .i64 (x.getD i default).len) ∧ (cellsV x)[i * 3 + 2]? = some (x.getD i default).v
  | [], i, h => by simp at h
  | o :: t, 0, _ => by simp [cellsV]
  | o :: t, i + 1, h => by
    have := cellsV_get t i (by simpa using h)
    simp only [cellsV, List.getD_cons_succ, show (i + 1) * 3 = i * 3 + 1 + 1 + 1 by omega, List.getElem?_cons_succ]
    exact this

set_option maxRecDepth 100000 in
/-- a slice of bytes stays where its block stays -/
theorem BS.keepBlk {w w' : World} {a : Option Addr} {n c : Nat} {l : List Int} (h : BS w a n c l) (hk : ∀ p, a = some p → w'.heap[p.block]? = w.heap[p.block]?) : BS w' a n c l :=
  ⟨h.len, h.le, h.max, h.bytes, fun hp => by
    obtain ⟨b, off, rfl, hc⟩ := h.cells hp
    have hb := hk _ rfl
    simp only at hb
    refine ⟨b, off, rfl, fun i hi => ?_⟩
    rw [← hc i hi]
    simp only [World.cell?, hb], h.none_⟩

/-- a step's cells read as a step; its data lie from 'base' on, in a block that is neither of the two -/
def ReadsV (W : World) (base : Nat) (x y : Option Nat) (o : OpV) (r : OpR) : Prop :=
  o.at_ = r.at_ ∧ o.len = r.len ∧ I64 r.at_ ∧ I64 r.len ∧ ∃ a n c, o.v = .slice a n c ∧ BS W a n c r.data ∧ ∀ p, a = some p → base ≤ p.block ∧ p.block < W.heap.size ∧ some p.block ≠ x ∧ some p.block ≠ y
set_option maxRecDepth 100000 in
theorem ReadsV.keep {W W' : World} {base : Nat} {x y x' y' : Option Nat} {o : OpV} {r : OpR} (h : ReadsV W base x y o r) (hs : W.heap.size ≤ W'.heap.size)
    (hk : ∀ k, base ≤ k → k < W.heap.size → some k ≠ x → some k ≠ y → W'.heap[k]? = W.heap[k]? ∧ some k ≠ x' ∧ some k ≠ y') : ReadsV W' base x' y' o r := by
  obtain ⟨h1, h2, h3, h4, a, n, c, h5, h6, h7⟩ := h
  refine ⟨h1, h2, h3, h4, a, n, c, h5, h6.keepBlk (fun p hp => ?_), fun p hp => ?_⟩
  · obtain ⟨q1, q2, q3, q4⟩ := h7 p hp
    exact (hk _ q1 q2 q3 q4).1
  · obtain ⟨q1, q2, q3, q4⟩ := h7 p hp
    exact ⟨q1, by omega, (hk _ q1 q2 q3 q4).2⟩

/-- what is made so far: 'vo' holds the steps 'out', in memory of the call's own from 'base' on; block 'ex' is another one's -/
def OutSt (W : World) (base : Nat) (ex : Option Nat) (vo : Value) (out : List OpR) : Prop :=
  (∃ vs : List OpV, vs.length = out.length ∧ W.ownsRow base 56 3 vo out.length (cellsV vs) ∧ ∀ i, i < out.length → ReadsV W base vo.ownBlock ex (vs.getD i default) (out.getD i default)) ∧
  (∀ g, ex = some g → vo.ownBlock ≠ some g ∧ g < W.heap.size)

set_option maxRecDepth 100000 in
theorem own_lt3 {w : World} {base e s n : Nat} {v : Value} {xs : List Value} (h : w.ownsRow base e s v n xs) {g : Nat} (hg : v.ownBlock = some g) : base ≤ g ∧ g < w.heap.size := by
  rcases h.2 with ⟨rfl, _⟩ | ⟨g', cap, cur, rfl, h3, h4, _⟩
  · simp [Value.ownBlock] at hg
  · simp [Value.ownBlock] at hg
    subst hg
    refine ⟨h3, ?_⟩
    rcases Nat.lt_or_ge g' w.heap.size with hlt | hge
    · exact hlt
    · rw [Array.getElem?_eq_none hge] at h4; cases h4
set_option maxRecDepth 100000 in
/-- a row of the call's own stays where its block stays -/
theorem own_keep {w w' : World} {base e s n : Nat} {v : Value} {xs : List Value} (h : w.ownsRow base e s v n xs) (hk : ∀ g, v.ownBlock = some g → w'.heap[g]? = w.heap[g]?) : w'.ownsRow base e s v n xs := by
  refine ⟨h.1, ?_⟩
  rcases h.2 with h2 | ⟨g, cap, cur, rfl, h3, h4, h5⟩
  · exact .inl h2
  · exact .inr ⟨g, cap, cur, rfl, h3, by rw [hk g rfl]; exact h4, h5⟩

set_option maxRecDepth 100000 in
theorem OutSt.start (W : World) (base : Nat) (ex : Option Nat) (h : ∀ g, ex = some g → g < W.heap.size) : OutSt W base ex (.slice none 0 0) [] :=
  ⟨⟨[], rfl, World.ownsRow_nil _ _ _ _, fun i hi => absurd hi (by simp)⟩, fun g hg => ⟨by simp [Value.ownBlock], h g hg⟩⟩
set_option maxRecDepth 100000 in
/-- over a step that leaves the blocks of the call's own, but 'ex' -/
theorem OutSt.keep {W W' : World} {base : Nat} {ex ex' : Option Nat} {vo : Value} {out : List OpR} (h : OutSt W base ex vo out) (hs : W.heap.size ≤ W'.heap.size)
    (hk : ∀ k, base ≤ k → k < W.heap.size → some k ≠ ex → W'.heap[k]? = W.heap[k]? ∧ some k ≠ ex') (hx : ∀ g, ex' = some g → g < W'.heap.size) : OutSt W' base ex' vo out := by
  obtain ⟨⟨vs, h1, h2, h3⟩, h4⟩ := h
  have hv : ∀ g, vo.ownBlock = some g → W'.heap[g]? = W.heap[g]? ∧ some g ≠ ex' := by
    intro g hg
    obtain ⟨p1, p2⟩ := own_lt3 h2 hg
    exact hk g p1 p2 (fun e => (h4 g e.symm).1 hg)
  refine ⟨⟨vs, h1, own_keep h2 (fun g hg => (hv g hg).1), fun i hi => (h3 i hi).keep hs (fun k k1 k2 k3 k4 => ?_)⟩, fun g hg => ⟨fun e => (hv g e).2 hg.symm, hx g hg⟩⟩
  exact ⟨(hk k k1 k2 k4).1, k3, (hk k k1 k2 k4).2⟩
set_option maxRecDepth 100000 in
theorem OutSt.later {W W' : World} {base : Nat} {ex : Option Nat} {vo : Value} {out : List OpR} (h : OutSt W base ex vo out) (hb : Below W.heap.size W W') : OutSt W' base ex vo out :=
  h.keep hb.size (fun k _ k2 k3 => ⟨hb.block k k2, k3⟩) (fun g hg => by have := (h.2 g hg).2; have := hb.size; omega)

set_option maxRecDepth 100000 in
theorem one_op {W : World} {B : Nat} {A L : Int} {v : Value} (hB : W.heap[B]? = some (.cells #[.int .i64 A, .int .i64 L, v] 56 (0, 0))) :
    ∀ j u, (cellsV [⟨A, L, v⟩])[j]? = some u → W.cell? ((⟨B, 0, none⟩ : Addr).add j) = some u := by
  have := World.news_of_block hB
  simpa [cellsV] using this

set_option maxRecDepth 100000 in
/-- one more step -/
theorem OutSt.app {W : World} {base : Nat} {ex : Option Nat} {vo : Value} {out : List OpR} (h : OutSt W base ex vo out) {B : Nat} {A L : Int} {a : Option Addr} {n c : Nat} {d : List Int}
    (hB : W.heap[B]? = some (.cells #[.int .i64 A, .int .i64 L, .slice a n c] 56 (0, 0))) (hd : BS W a n c d) (hap : ∀ p, a = some p → base ≤ p.block ∧ p.block < W.heap.size ∧ some p.block ≠ vo.ownBlock ∧ some p.block ≠ ex)
    (hA : I64 A) (hL : I64 L) (hn : out.length ≤ 1000) (hbase : base ≤ W.heap.size) :
    ∃ g cap W5, (Builtin.append_ #[48, 48] 48 #[vo, .slice (some ⟨B, 0, none⟩) 1 1]).run Try.prog W = .ok (.slice (some ⟨g, 0, none⟩) (out.length + 1) cap) W5 ∧
      OutSt W5 base ex (.slice (some ⟨g, 0, none⟩) (out.length + 1) cap) (out ++ [⟨A, L, d⟩]) ∧ W.grownBy W5 vo.ownBlock ∧ (vo.ownBlock = some g ∨ g = W.heap.size) := by
  obtain ⟨i0, hi, hz0, hz1, hz2⟩ := info_parts Try.info_op
  obtain ⟨⟨vs, h1, h2, h3⟩, h4⟩ := h
  obtain ⟨g, cap, W5, hr, ho, hg, hlies, hlt⟩ := run_append_lies (P := Try.prog) W 48 48 base 56 i0 _ 3 40 Try.underlying48 hi hz0 hz1 hz2 rfl (by decide) vo out.length _ h2 ⟨B, 0, none⟩ 1 1 (cellsV [⟨A, L, .slice a n c⟩])
    rfl (one_op hB) (by intro u hu; simp [cellsV] at hu; rcases hu with rfl | rfl | rfl <;> rfl) (by omega) (by unfold maxLen; omega) (by omega) hbase W.heap.size rfl
  have key : ∀ k, base ≤ k → k < W.heap.size → some k ≠ vo.ownBlock → some k ≠ ex → W5.heap[k]? = W.heap[k]? ∧ some k ≠ (Value.slice (some ⟨g, 0, none⟩) (out.length + 1) cap).ownBlock ∧ some k ≠ ex := by
    intro k k1 k2 k3 k4
    refine ⟨hg.block k k2 k3, ?_, k4⟩
    simp only [Value.ownBlock]
    intro e
    injection e with e
    subst e
    rcases hlies with hl | hl
    · exact k3 hl.symm
    · omega
  refine ⟨g, cap, W5, hr, ⟨⟨vs ++ [⟨A, L, .slice a n c⟩], by simp [h1], ?_, ?_⟩, ?_⟩, hg, hlies⟩
  · rw [cellsV_append, List.length_append]
    exact ho
  · intro i hi'
    rw [List.length_append] at hi'
    simp only [List.length_cons, List.length_nil] at hi'
    rcases Nat.lt_or_ge i out.length with hlt2 | hge
    · have e1 : (vs ++ [(⟨A, L, .slice a n c⟩ : OpV)]).getD i default = vs.getD i default := by simp [List.getD_eq_getElem?_getD, List.getElem?_append_left (show i < vs.length by omega)]
      have e2 : (out ++ [(⟨A, L, d⟩ : OpR)]).getD i default = out.getD i default := by simp [List.getD_eq_getElem?_getD, List.getElem?_append_left hlt2]
      rw [e1, e2]
      exact (h3 i hlt2).keep hg.size key
    · obtain rfl : i = out.length := by omega
      have e1 : (vs ++ [(⟨A, L, .slice a n c⟩ : OpV)]).getD out.length default = ⟨A, L, .slice a n c⟩ := by rw [← h1]; simp [List.getD_eq_getElem?_getD]
      have e2 : (out ++ [(⟨A, L, d⟩ : OpR)]).getD out.length default = ⟨A, L, d⟩ := by simp [List.getD_eq_getElem?_getD]
      rw [e1, e2]
      have : ReadsV W base vo.ownBlock ex ⟨A, L, .slice a n c⟩ ⟨A, L, d⟩ := ⟨rfl, rfl, hA, hL, a, n, c, rfl, hd, hap⟩
      exact this.keep hg.size key
  · intro g' hg'
    obtain ⟨q1, q2⟩ := h4 g' hg'
    refine ⟨?_, by have := hg.size; omega⟩
    simp only [Value.ownBlock]
    intro e
    injection e with e
    subst e
    rcases hlies with hl | hl
    · exact q1 hl
    · omega

set_option maxRecDepth 100000 in
/-- what is made reads as the list -/
theorem OutSt.os {W : World} {base : Nat} {ex : Option Nat} {vo : Value} {out : List OpR} (h : OutSt W base ex vo out) : ∃ a c, vo = .slice a out.length c ∧ OS W a out.length c out := by
  obtain ⟨⟨vs, h1, h2, h3⟩, -⟩ := h
  rcases h2.2 with ⟨rfl, h0⟩ | ⟨g, cap, cur, rfl, _, hcells, hle, hmx, hsz, htk⟩
  · obtain rfl : out = [] := List.eq_nil_of_length_eq_zero h0
    exact ⟨none, 0, rfl, OS.nil_ W⟩
  · refine ⟨_, cap, rfl, rfl, hle, by unfold maxLen at hmx; omega, fun hp => ⟨g, 0, rfl, fun i hi => ?_⟩, fun h => by cases h⟩
    have cell : ∀ j u, (cellsV vs)[j]? = some u → W.cell? ⟨g, j, none⟩ = some u := by
      intro j u hu
      have hj : j < (cellsV vs).length := by
        rcases Nat.lt_or_ge j (cellsV vs).length with q | q
        · exact q
        · rw [List.getElem?_eq_none q] at hu; cases hu
      rw [← htk, List.getElem?_take] at hu
      split at hu
      · simp only [World.cell?, hcells]
        simpa using hu
      · cases hu
    obtain ⟨g0, g1, g2⟩ := cellsV_get vs i (by omega)
    obtain ⟨r1, r2, r3, r4, a, n, c, r5, r6, _⟩ := h3 i hi
    refine ⟨a, n, c, ?_, ?_, ?_, r6, r3, r4⟩
    · rw [Nat.zero_add, cell _ _ g0, r1]
    · rw [Nat.zero_add, cell _ _ g1, r2]
    · rw [Nat.zero_add, cell _ _ g2, r5]

/-- a slice of steps that reads as a list in every later world that has the same blocks from 'lo' on: it lies there -/
def OSN (w : World) (lo : Nat) (a : Option Addr) (n c : Nat) (l : List OpR) : Prop :=
  ∀ w' : World, w.heap.size ≤ w'.heap.size → (∀ k, lo ≤ k → k < w.heap.size → w'.heap[k]? = w.heap[k]?) → OS w' a n c l
set_option maxRecDepth 100000 in
theorem OSN.os {w : World} {lo : Nat} {a : Option Addr} {n c : Nat} {l : List OpR} (h : OSN w lo a n c l) : OS w a n c l := h w (Nat.le_refl _) (fun _ _ _ => rfl)
set_option maxRecDepth 100000 in
theorem OSN.later {w w' : World} {lo : Nat} {a : Option Addr} {n c : Nat} {l : List OpR} (h : OSN w lo a n c l) (hb : Below w.heap.size w w') : OSN w' lo a n c l :=
  fun w2 h1 h2 => h w2 (Nat.le_trans hb.size h1) (fun k k1 k2 => (h2 k k1 (Nat.lt_of_lt_of_le k2 hb.size)).trans (hb.block k k2))
set_option maxRecDepth 100000 in
theorem OSN.mono {w : World} {lo lo' : Nat} {a : Option Addr} {n c : Nat} {l : List OpR} (h : OSN w lo a n c l) (hl : lo' ≤ lo) : OSN w lo' a n c l :=
  fun w2 h1 h2 => h w2 h1 (fun k k1 k2 => h2 k (Nat.le_trans hl k1) k2)
set_option maxRecDepth 100000 in
theorem OutSt.osn {W : World} {base : Nat} {ex : Option Nat} {a : Option Addr} {n c : Nat} {out : List OpR} (h : OutSt W base ex (.slice a n c) out) : OSN W base a n c out := by
  intro W' h1 h2
  have h3 : OutSt W' base none (.slice a n c) out := by
    obtain ⟨⟨vs, q1, q2, q3⟩, -⟩ := h
    exact ⟨⟨vs, q1, own_keep q2 (fun g hg => h2 g (own_lt3 q2 hg).1 (own_lt3 q2 hg).2), fun i hi => (q3 i hi).keep h1 (fun k k1 k2 k3 _ => ⟨h2 k k1 k2, k3, by simp⟩)⟩, fun g hg => by cases hg⟩
  obtain ⟨a', c', e, ho⟩ := h3.os
  simp only [Value.slice.injEq] at e
  obtain ⟨rfl, rfl, rfl⟩ := e
  exact ho
end Go.Proofs.Ytmpmaljkmfgagaa
