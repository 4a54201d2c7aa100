/-
  What the reference's Composed keeps in memory (what is made), as its closure changes it.
-/
import Derived.Test.YtmpmaljkmfgagaaOpsLast
namespace Go.Proofs.Ytmpmaljkmfgagaa
open Go.RowKit

/-- what is made, from behind; the block of the last step's data -/
def COut (W : World) (base : Nat) (vo : Value) (lb : Option Nat) : List OpR → Prop
  | [] => vo = .slice none 0 0 ∧ lb = none
  | last :: t => OutL W base vo lb t.reverse last
set_option maxRecDepth 100000 in
theorem COut.out {W : World} {base : Nat} {vo : Value} {lb : Option Nat} {r : List OpR} (h : COut W base vo lb r) : OutSt W base none vo r.reverse := by
  cases r with
  | nil =>
    obtain ⟨rfl, -⟩ := h
    exact OutSt.start W base none (fun g hg => by cases hg)
  | cons last t =>
    rw [List.reverse_cons]
    exact OutL.out h
set_option maxRecDepth 100000 in
theorem COut.later {W W' : World} {base : Nat} {vo : Value} {lb : Option Nat} {r : List OpR} (h : COut W base vo lb r) (hb : Below W.heap.size W W') : COut W' base vo lb r := by
  cases r with
  | nil => exact h
  | cons last t => exact OutL.later h hb

/-- the memory of Composed: the block of 'out', what it holds -/
structure CSt (w0 : World) (B0 : Nat) (vo : Value) (lb : Option Nat) (r : List OpR) (W : World) : Prop where
  c0 : W.heap[B0]? = some (.cells #[vo] 48 (0, 0))
  o : COut W (B0 + 1) vo lb r
  below : Below w0.heap.size w0 W
  le0 : w0.heap.size ≤ B0
/-- blocks that are none of these stay -/
def Fr (W : World) (B0 : Nat) (vo : Value) (lb : Option Nat) (W' : World) (vo' : Value) (lb' : Option Nat) : Prop :=
  ∀ k, k < W.heap.size → k ≠ B0 → some k ≠ vo.ownBlock → some k ≠ lb → W'.heap[k]? = W.heap[k]? ∧ some k ≠ vo'.ownBlock ∧ some k ≠ lb'

section
variable {w0 : World} {B0 : Nat} {vo : Value} {lb : Option Nat} {r : List OpR} {W W' : World}
set_option maxRecDepth 100000 in
theorem CSt.later (h : CSt w0 B0 vo lb r W) (hb : Below W.heap.size W W') : CSt w0 B0 vo lb r W' :=
  ⟨(hb.block _ (lt_blk h.c0)).trans h.c0, h.o.later hb, below_then h.below hb, h.le0⟩
set_option maxRecDepth 100000 in
theorem CSt.base_le (h : CSt w0 B0 vo lb r W) : B0 + 1 ≤ W.heap.size := lt_blk h.c0
set_option maxRecDepth 100000 in
/-- a step that begins with a byte -/
theorem CSt.pushD (h : CSt w0 B0 vo lb r W) (x : Int) (hx : 0 ≤ x ∧ x ≤ 255) (hk : r.length ≤ 1000) :
    ∃ g cap W5, (Builtin.append_ #[48, 48] 48 #[vo, .slice (some ⟨W.heap.size + 1, 0, none⟩) 1 1]).run Try.prog ((W.alloc (.cells #[.int .u8 x] 5)).alloc (.cells #[.int .i64 0, .int .i64 0, .slice (some ⟨W.heap.size, 0, none⟩) 1 1] 56)) = .ok (.slice (some ⟨g, 0, none⟩) (r.length + 1) cap) W5 ∧
      W5.cell? ⟨B0, 0, none⟩ = some vo ∧ W5.frozen? ⟨B0, 0, none⟩ = false ∧
      Hid (CSt w0 B0 (.slice (some ⟨g, 0, none⟩) (r.length + 1) cap) (some W.heap.size) (⟨0, 0, [x]⟩ :: r) (W5.setCell ⟨B0, 0, none⟩ (.slice (some ⟨g, 0, none⟩) (r.length + 1) cap)) ∧
        Fr W B0 vo lb (W5.setCell ⟨B0, 0, none⟩ (.slice (some ⟨g, 0, none⟩) (r.length + 1) cap)) (.slice (some ⟨g, 0, none⟩) (r.length + 1) cap) (some W.heap.size)) := by
  have hB := h.base_le
  have e1 : (W.alloc (.cells #[.int .u8 x] 5)).heap.size = W.heap.size + 1 := by simp
  have hb1 : Below W.heap.size W (W.alloc (.cells #[.int .u8 x] 5)) := (Below.refl _ _).alloc (Nat.le_refl _) _
  have hb2 : Below W.heap.size W ((W.alloc (.cells #[.int .u8 x] 5)).alloc (.cells #[.int .i64 0, .int .i64 0, .slice (some ⟨W.heap.size, 0, none⟩) 1 1] 56)) := hb1.alloc hb1.size _
  have h2 := h.later hb2
  have e2 : ((W.alloc (.cells #[.int .u8 x] 5)).alloc (.cells #[.int .i64 0, .int .i64 0, .slice (some ⟨W.heap.size, 0, none⟩) 1 1] 56)).heap.size = W.heap.size + 2 := by simp
  have hx1 : ((W.alloc (.cells #[.int .u8 x] 5)).alloc (.cells #[.int .i64 0, .int .i64 0, .slice (some ⟨W.heap.size, 0, none⟩) 1 1] 56)).heap[W.heap.size]? = some (.cells #[.int .u8 x] 5 (0, 0)) := by
    rw [heap_at, if_neg (by rw [e1]; omega), heap_at, if_pos rfl]
  have hx2 : ((W.alloc (.cells #[.int .u8 x] 5)).alloc (.cells #[.int .i64 0, .int .i64 0, .slice (some ⟨W.heap.size, 0, none⟩) 1 1] 56)).heap[W.heap.size + 1]? = some (.cells #[.int .i64 0, .int .i64 0, .slice (some ⟨W.heap.size, 0, none⟩) 1 1] 56 (0, 0)) := by
    rw [heap_at, if_pos e1.symm]
  generalize (W.alloc (.cells #[.int .u8 x] 5)).alloc (.cells #[.int .i64 0, .int .i64 0, .slice (some ⟨W.heap.size, 0, none⟩) 1 1] 56) = W2 at hb2 h2 e2 hx1 hx2 ⊢
  have hO : OutSt W2 (B0 + 1) (some W.heap.size) vo r.reverse := h.o.out.keep hb2.size (fun k _ k2 _ => ⟨hb2.block k k2, by simp; omega⟩) (fun g hg => by injection hg with hg; omega)
  have hown : W2.ownsRow (B0 + 1) 5 1 (.slice (some ⟨W.heap.size, 0, none⟩) 1 1) ([x] : List Int).length (([x] : List Int).map (Value.int .u8)) := ⟨rfl, .inr ⟨W.heap.size, 1, #[.int .u8 x], rfl, hB, hx1, Nat.le_refl _, by unfold maxLen; omega, rfl, rfl⟩⟩
  obtain ⟨g, cap, W5, hr, hL, hg, hlies⟩ := hO.appL hx2 hown rfl (by simpa using hx) (by unfold I64; omega) (by unfold I64; omega) (by simpa using hk) (by omega)
  rw [List.length_reverse] at hr hL
  have far : some B0 ≠ vo.ownBlock := by
    intro e
    obtain ⟨⟨vs, _, q, _⟩, _⟩ := h.o.out
    have := (own_lt3 q e.symm).1
    omega
  have e0 := (hg.block B0 (by omega) far).trans h2.c0
  have hB5 := h2.below.grown hg h2.below.size (fun g' hg' => by
    obtain ⟨⟨vs, _, q, _⟩, _⟩ := h.o.out
    have := (own_lt3 q hg').1
    have := h.le0
    omega)
  refine ⟨g, cap, W5, hr, cell_blk e0, frozen_blk e0, ⟨set_blk e0 _, hL.set (by show B0 < B0 + 1; omega) _, hB5.setCell h.le0 _, h.le0⟩, fun k k1 k2 k3 k4 => ⟨?_, ?_, ?_⟩⟩
  · rw [Below.heap_setCell W5 _ _ k (by show k ≠ B0; exact k2), hg.block k (by omega) k3]
    exact hb2.block k k1
  · simp only [Value.ownBlock]
    intro e
    injection e with e
    rcases hlies with hl | hl
    · exact k3 (by rw [hl, e])
    · omega
  · intro e
    injection e with e
    omega
set_option maxRecDepth 100000 in
/-- a step that begins with a byte of the old image -/
theorem CSt.pushC (h : CSt w0 B0 vo lb r W) (A : Int) (hA : I64 A) (hk : r.length ≤ 1000) :
    ∃ g cap W5, (Builtin.append_ #[48, 48] 48 #[vo, .slice (some ⟨W.heap.size, 0, none⟩) 1 1]).run Try.prog (W.alloc (.cells #[.int .i64 A, .int .i64 1, .slice none 0 0] 56)) = .ok (.slice (some ⟨g, 0, none⟩) (r.length + 1) cap) W5 ∧
      W5.cell? ⟨B0, 0, none⟩ = some vo ∧ W5.frozen? ⟨B0, 0, none⟩ = false ∧
      Hid (CSt w0 B0 (.slice (some ⟨g, 0, none⟩) (r.length + 1) cap) none (⟨A, 1, []⟩ :: r) (W5.setCell ⟨B0, 0, none⟩ (.slice (some ⟨g, 0, none⟩) (r.length + 1) cap)) ∧
        Fr W B0 vo lb (W5.setCell ⟨B0, 0, none⟩ (.slice (some ⟨g, 0, none⟩) (r.length + 1) cap)) (.slice (some ⟨g, 0, none⟩) (r.length + 1) cap) none) := by
  have hB := h.base_le
  have hb2 : Below W.heap.size W (W.alloc (.cells #[.int .i64 A, .int .i64 1, .slice none 0 0] 56)) := (Below.refl _ _).alloc (Nat.le_refl _) _
  have h2 := h.later hb2
  have e2 : (W.alloc (.cells #[.int .i64 A, .int .i64 1, .slice none 0 0] 56)).heap.size = W.heap.size + 1 := by simp
  have hx2 : (W.alloc (.cells #[.int .i64 A, .int .i64 1, .slice none 0 0] 56)).heap[W.heap.size]? = some (.cells #[.int .i64 A, .int .i64 1, .slice none 0 0] 56 (0, 0)) := by
    rw [heap_at, if_pos rfl]
  generalize W.alloc (.cells #[.int .i64 A, .int .i64 1, .slice none 0 0] 56) = W2 at hb2 h2 e2 hx2 ⊢
  obtain ⟨g, cap, W5, hr, hL, hg, hlies⟩ := h2.o.out.appL (d := []) hx2 (World.ownsRow_nil _ _ _ _) rfl (by simp) hA (by unfold I64; omega) (by simpa using hk) (by omega)
  rw [List.length_reverse] at hr hL
  have far : some B0 ≠ vo.ownBlock := by
    intro e
    obtain ⟨⟨vs, _, q, _⟩, _⟩ := h.o.out
    have := (own_lt3 q e.symm).1
    omega
  have e0 := (hg.block B0 (by omega) far).trans h2.c0
  have hB5 := h2.below.grown hg h2.below.size (fun g' hg' => by
    obtain ⟨⟨vs, _, q, _⟩, _⟩ := h.o.out
    have := (own_lt3 q hg').1
    have := h.le0
    omega)
  refine ⟨g, cap, W5, hr, cell_blk e0, frozen_blk e0, ⟨set_blk e0 _, hL.set (by show B0 < B0 + 1; omega) _, hB5.setCell h.le0 _, h.le0⟩, fun k k1 k2 k3 k4 => ⟨?_, ?_, by simp⟩⟩
  · rw [Below.heap_setCell W5 _ _ k (by show k ≠ B0; exact k2), hg.block k (by omega) k3]
    exact hb2.block k k1
  · simp only [Value.ownBlock]
    intro e
    injection e with e
    rcases hlies with hl | hl
    · exact k3 (by rw [hl, e])
    · omega
end
section
variable {w0 : World} {B0 : Nat} {vo : Value} {lb : Option Nat} {t : List OpR} {last : OpR} {W : World}
set_option maxRecDepth 100000 in
/-- where the last step lies -/
theorem CSt.lastAt (h : CSt w0 B0 vo lb (last :: t) W) : ∃ g cap v, vo = .slice (some ⟨g, 0, none⟩) (t.length + 1) cap ∧ B0 < g ∧ g < W.heap.size ∧ W.cell? ⟨g, t.length * 3, none⟩ = some (.int .i64 last.at_) ∧ W.cell? ⟨g, t.length * 3 + 1, none⟩ = some (.int .i64 last.len) ∧
    W.cell? ⟨g, t.length * 3 + 2, none⟩ = some v ∧ (∀ j, W.frozen? ⟨g, j, none⟩ = false) ∧ v.ownBlock = lb := by
  have ho : OutL W (B0 + 1) vo lb t.reverse last := h.o
  obtain ⟨g, cap, v, h1, h2, h3, h4, h5, h6, h7, h8, h9⟩ := ho.cells
  rw [List.length_reverse] at h1 h4 h5 h6
  exact ⟨g, cap, v, h1, h2, h3, h4, h5, h6, h7, h9⟩
set_option maxRecDepth 100000 in
theorem CSt.moreC {g cap : Nat} (h : CSt w0 B0 (.slice (some ⟨g, 0, none⟩) (t.length + 1) cap) lb (last :: t) W) (hg : B0 < g) (L : Int) (hL : I64 L) :
    CSt w0 B0 (.slice (some ⟨g, 0, none⟩) (t.length + 1) cap) lb (⟨last.at_, L, last.data⟩ :: t) (W.setCell ⟨g, t.length * 3 + 1, none⟩ (.int .i64 L)) ∧
      Fr W B0 (.slice (some ⟨g, 0, none⟩) (t.length + 1) cap) lb (W.setCell ⟨g, t.length * 3 + 1, none⟩ (.int .i64 L)) (.slice (some ⟨g, 0, none⟩) (t.length + 1) cap) lb := by
  have ho : OutL W (B0 + 1) (.slice (some ⟨g, 0, none⟩) (t.length + 1) cap) lb t.reverse last := h.o
  have er : t.reverse.length = t.length := List.length_reverse
  rw [← er] at ho
  have ho2 := ho.longer L hL
  rw [er] at ho2
  refine ⟨⟨(Below.heap_setCell W _ _ B0 (by show B0 ≠ g; omega)).trans h.c0, ho2, h.below.setCell (by show w0.heap.size ≤ g; have := h.le0; omega) _, h.le0⟩, fun k k1 k2 k3 k4 => ⟨Below.heap_setCell W _ _ k ?_, k3, k4⟩⟩
  rintro rfl
  exact k3 rfl
set_option maxRecDepth 100000 in
theorem CSt.moreD {g cap : Nat} (h : CSt w0 B0 (.slice (some ⟨g, 0, none⟩) (t.length + 1) cap) lb (last :: t) W) (hg : B0 < g) {v : Value} (hv : W.cell? ⟨g, t.length * 3 + 2, none⟩ = some v) {ad : Addr} {x : Int} (hs : BS W (some ad) 1 1 [x]) (hk : last.data.length ≤ 1000) :
    ∃ g5 cap5 W5, (Builtin.append_ #[27, 27] 27 #[v, .slice (some ad) 1 1]).run Try.prog W = .ok (.slice (some ⟨g5, 0, none⟩) (last.data.length + 1) cap5) W5 ∧
      W5.cell? ⟨B0, 0, none⟩ = some (.slice (some ⟨g, 0, none⟩) (t.length + 1) cap) ∧ W5.cell? ⟨g, t.length * 3 + 2, none⟩ = some v ∧ W5.frozen? ⟨g, t.length * 3 + 2, none⟩ = false ∧
      Hid (CSt w0 B0 (.slice (some ⟨g, 0, none⟩) (t.length + 1) cap) (some g5) (⟨last.at_, last.len, last.data ++ [x]⟩ :: t) (W5.setCell ⟨g, t.length * 3 + 2, none⟩ (.slice (some ⟨g5, 0, none⟩) (last.data.length + 1) cap5)) ∧
        Fr W B0 (.slice (some ⟨g, 0, none⟩) (t.length + 1) cap) lb (W5.setCell ⟨g, t.length * 3 + 2, none⟩ (.slice (some ⟨g5, 0, none⟩) (last.data.length + 1) cap5)) (.slice (some ⟨g, 0, none⟩) (t.length + 1) cap) (some g5)) := by
  have hB := h.base_le
  obtain ⟨_, _, _, e, _, hgl, _, _, _, hfz, hvb⟩ := h.lastAt
  simp only [Value.slice.injEq, Option.some.injEq, Addr.mk.injEq, and_true, true_and] at e
  obtain ⟨rfl, rfl⟩ := e
  have ho : OutL W (B0 + 1) (.slice (some ⟨g, 0, none⟩) (t.length + 1) cap) lb t.reverse last := h.o
  have hlb : ∀ k, k < B0 + 1 → some k ≠ lb := by
    intro k hk2 e
    obtain ⟨vs, o, _, _, _, q⟩ := ho
    have := (q.lt e.symm).1
    omega
  have er : t.reverse.length = t.length := List.length_reverse
  rw [← er] at ho hv
  obtain ⟨g5, cap5, W5, hr, hg5, hlies, hlt, hgb, hO⟩ := ho.data hv hs hk hB
  rw [er] at hO hv
  have e0 := (hg5.block B0 (by omega) (hlb B0 (by omega))).trans h.c0
  have hB5 := h.below.grown hg5 h.below.size (fun g' hg' => by
    rcases Nat.lt_or_ge g' (B0 + 1) with q | q
    · exact absurd hg'.symm (hlb g' q)
    · have := h.le0; omega)
  refine ⟨g5, cap5, W5, hr, cell_blk e0, ?_, ?_, ⟨(Below.heap_setCell W5 _ _ B0 (by show B0 ≠ g; omega)).trans e0, hO, hB5.setCell (by show w0.heap.size ≤ g; have := h.le0; omega) _, h.le0⟩, fun k k1 k2 k3 k4 => ⟨?_, k3, ?_⟩⟩
  · simp only [World.cell?, hgb] at hv ⊢
    exact hv
  · have := hfz (t.length * 3 + 2)
    simp only [World.frozen?, hgb] at this ⊢
    exact this
  · rw [Below.heap_setCell W5 _ _ k (by rintro rfl; exact k3 rfl)]
    exact hg5.block k k1 k4
  · intro e
    injection e with e
    subst e
    rcases hlies with hl | hl
    · exact k4 hl.symm
    · omega
end
end Go.Proofs.Ytmpmaljkmfgagaa
