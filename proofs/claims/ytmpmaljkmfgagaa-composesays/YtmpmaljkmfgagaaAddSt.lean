/-
  What compose.Of keeps in memory: the steps that are made, the last one open; a row beside it that is left alone.
-/
import Derived.Test.YtmpmaljkmfgagaaCompSt
import Derived.Test.YtmpmaljkmfgagaaAddMath
namespace Go.Proofs.Ytmpmaljkmfgagaa
open Go.RowKit

section
variable {W : World} {base : Nat} {vo : Value} {lb : Option Nat} {init : List OpR} {last : OpR}
set_option maxRecDepth 100000 in
/-- bytes are appended to the last step's data -/
theorem OutL.dataN {g cap : Nat} (h : OutL W base (.slice (some ⟨g, 0, none⟩) (init.length + 1) cap) lb init last) {v : Value} (hv : W.cell? ⟨g, init.length * 3 + 2, none⟩ = some v) {ad : Addr} {n c : Nat} {d : List Int} (hs : BS W (some ad) n c d) (hn : 0 < n) (hk : last.data.length + n ≤ 1000) (hbase : base ≤ W.heap.size) :
    ∃ g5 cap5 W5, (Builtin.append_ #[27, 27] 27 #[v, .slice (some ad) n c]).run Try.prog W = .ok (.slice (some ⟨g5, 0, none⟩) (last.data.length + n) cap5) W5 ∧ W.grownBy W5 lb ∧ (lb = some g5 ∨ g5 = W.heap.size) ∧ g5 < W5.heap.size ∧
      W5.heap[g]? = W.heap[g]? ∧
      OutL (W5.setCell ⟨g, init.length * 3 + 2, none⟩ (.slice (some ⟨g5, 0, none⟩) (last.data.length + n) cap5)) base (.slice (some ⟨g, 0, none⟩) (init.length + 1) cap) (some g5) init ⟨last.at_, last.len, last.data ++ d⟩ := by
  obtain ⟨i0, hi, hz0, hz1, hz2⟩ := info_parts Try.info_u8
  obtain ⟨vs, o, h1, h2, h3, h4⟩ := h
  have hvo : v = o.v := by
    have e2 := h2.cellAt (init.length * 3 + 2) (by omega)
    rw [(cellsV_last vs o init.length h1).2.2, hv] at e2
    exact Option.some.inj e2
  subst hvo
  obtain ⟨q1, q2, q3, q4, q5, q6, q7, q8⟩ := h4
  obtain ⟨g5, cap5, W5, hr, ho, hg, hlies, hlt⟩ := run_append_lies (P := Try.prog) W 27 27 base 5 i0 _ 1 1 Try.underlying27 hi hz0 hz1 hz2 rfl (by decide) o.v last.data.length _ q5 ad n c (d.map (Value.int .u8))
    (by simpa using hs.len) hs.news (oneCell_u8 _) hn (by unfold maxLen; omega) (by omega) hbase W.heap.size rfl
  rw [q6] at hg hlies
  have hgl := own_lt3 h2 (g := g) rfl
  have hgne : some g ≠ lb := fun e => q8 g e.symm rfl
  have hgb := hg.block g hgl.2 hgne
  have hg5 : g5 ≠ g := by
    rintro rfl
    rcases hlies with hl | hl
    · exact hgne hl.symm
    · omega
  have h2' := own_keep h2 (w' := W5) (fun g' hg' => by
    simp only [Value.ownBlock] at hg'
    injection hg' with hg'
    subst hg'
    exact hgb)
  have hst := h2'.stored (init.length * 3 + 2) (.slice (some ⟨g5, 0, none⟩) (last.data.length + n) cap5)
  rw [cellsV_set2 vs o init.length h1] at hst
  refine ⟨g5, cap5, W5, hr, hg, hlies, hlt, hgb, vs, ⟨o.at_, o.len, _⟩, h1, hst.1, fun i hi => (h3 i hi).keep (Nat.le_trans hg.size hst.2.size) (fun k _ k2 k3 k4 => ?_), q1, q2, q3, q4, ?_, rfl, ?_, ?_⟩
  · have e1 := hg.block k k2 k4
    refine ⟨(hst.2.block k (by have := hg.size; omega) k3).trans e1, k3, ?_⟩
    intro e
    injection e with e
    subst e
    rcases hlies with hl | hl
    · exact k4 hl.symm
    · omega
  · have := own_keep ho (w' := W5.setCell ⟨g, init.length * 3 + 2, none⟩ (.slice (some ⟨g5, 0, none⟩) (last.data.length + n) cap5)) (fun g' hg' => by
      simp only [Value.ownBlock] at hg'
      injection hg' with hg'
      subst hg'
      exact hst.2.block g5 hlt (fun e => by injection e with e; exact hg5 e))
    rw [← hs.len] at this ⊢
    simpa using this
  · intro y hy
    rcases List.mem_append.1 hy with hy | hy
    · exact q7 y hy
    · exact hs.bytes y hy
  · intro g' hg' e
    injection hg' with hg'
    subst hg'
    simp only [Value.ownBlock] at e
    injection e with e
    exact hg5 e.symm
end
/-- what is made, from behind; 'ex': a block that is left alone -/
structure JSt (w0 : World) (ex : Option Nat) (vo : Value) (lb : Option Nat) (r : List OpR) (W : World) : Prop where
  o : COut W w0.heap.size vo lb r
  below : Below w0.heap.size w0 W
  free : ∀ g, ex = some g → g < W.heap.size ∧ vo.ownBlock ≠ some g ∧ lb ≠ some g
/-- the block is as it was -/
def Left (ex : Option Nat) (W W' : World) : Prop := ∀ g, ex = some g → W'.heap[g]? = W.heap[g]?
set_option maxRecDepth 100000 in
theorem Left.refl (ex : Option Nat) (W : World) : Left ex W W := fun _ _ => rfl
set_option maxRecDepth 100000 in
theorem Left.trans {ex : Option Nat} {W W' W'' : World} (h : Left ex W W') (h' : Left ex W' W'') : Left ex W W'' := fun g hg => (h' g hg).trans (h g hg)
section
variable {w0 : World} {ex : Option Nat} {vo : Value} {lb : Option Nat} {r : List OpR} {W W' : World}
set_option maxRecDepth 100000 in
theorem JSt.start (w0 W : World) (hb : Below w0.heap.size w0 W) : JSt w0 none (.slice none 0 0) none [] W := ⟨⟨rfl, rfl⟩, hb, fun g hg => by cases hg⟩
set_option maxRecDepth 100000 in
theorem JSt.left (h : JSt w0 ex vo lb r W) (hb : Below W.heap.size W W') : Left ex W W' := fun g hg => hb.block g (h.free g hg).1
set_option maxRecDepth 100000 in
theorem JSt.later (h : JSt w0 ex vo lb r W) (hb : Below W.heap.size W W') : JSt w0 ex vo lb r W' :=
  ⟨h.o.later hb, below_then h.below hb, fun g hg => ⟨Nat.lt_of_lt_of_le (h.free g hg).1 hb.size, (h.free g hg).2⟩⟩
set_option maxRecDepth 100000 in
theorem JSt.own (h : JSt w0 ex vo lb r W) {g : Nat} (hg : vo.ownBlock = some g) : w0.heap.size ≤ g ∧ g < W.heap.size := by
  obtain ⟨⟨vs, _, q, _⟩, _⟩ := h.o.out
  exact own_lt3 q hg
set_option maxRecDepth 100000 in
theorem JSt.ownL (h : JSt w0 ex vo lb r W) {g : Nat} (hg : lb = some g) : w0.heap.size ≤ g ∧ g < W.heap.size := by
  have ho := h.o
  cases r with
  | nil =>
    obtain ⟨_, rfl⟩ : vo = .slice none 0 0 ∧ lb = none := ho
    cases hg
  | cons last t =>
    obtain ⟨vs, o, _, _, _, q⟩ : OutL W w0.heap.size vo lb t.reverse last := ho
    exact q.lt hg
set_option maxRecDepth 100000 in
/-- another block to be left alone -/
theorem JSt.other (h : JSt w0 ex vo lb r W) (ex' : Option Nat) (hx : ∀ g, ex' = some g → g < W.heap.size ∧ vo.ownBlock ≠ some g ∧ lb ≠ some g) : JSt w0 ex' vo lb r W := ⟨h.o, h.below, hx⟩
set_option maxRecDepth 100000 in
theorem JSt.slice (h : JSt w0 ex vo lb r W) : ∃ a c, vo = .slice a r.length c ∧ OS W a r.length c r.reverse := by
  obtain ⟨a, c, h1, h2⟩ := h.o.out.os
  rw [List.length_reverse] at h1 h2
  exact ⟨a, c, h1, h2⟩
set_option maxRecDepth 100000 in
/-- one more step, its data new -/
theorem JSt.app {W0 : World} (h0 : JSt w0 ex vo lb r W0) (hb : Below W0.heap.size W0 W) (A L : Int) {v : Value} {d : List Int} (hv : W.ownsRow W0.heap.size 5 1 v d.length (d.map (Value.int .u8))) (hd : ∀ x ∈ d, 0 ≤ x ∧ x ≤ 255) (hA : I64 A) (hL : I64 L) (hk : r.length ≤ 1000) :
    ∃ g cap W5, (Builtin.append_ #[48, 48] 48 #[vo, .slice (some ⟨W.heap.size, 0, none⟩) 1 1]).run Try.prog (W.alloc (.cells #[.int .i64 A, .int .i64 L, v] 56)) = .ok (.slice (some ⟨g, 0, none⟩) (r.length + 1) cap) W5 ∧
      Hid (JSt w0 ex (.slice (some ⟨g, 0, none⟩) (r.length + 1) cap) v.ownBlock (⟨A, L, d⟩ :: r) W5 ∧ Left ex W0 W5) ∧ ∀ k, k < W0.heap.size → some k ≠ vo.ownBlock → W5.heap[k]? = W0.heap[k]? := by
  have hsz := h0.below.size
  have hsz1 := hb.size
  have hb1 : Below W.heap.size W (W.alloc (.cells #[.int .i64 A, .int .i64 L, v] 56)) := (Below.refl _ _).alloc (Nat.le_refl _) _
  have hb2 := below_then hb hb1
  have h2 := h0.later hb2
  have e2 : (W.alloc (.cells #[.int .i64 A, .int .i64 L, v] 56)).heap.size = W.heap.size + 1 := by simp
  have hx2 : (W.alloc (.cells #[.int .i64 A, .int .i64 L, v] 56)).heap[W.heap.size]? = some (.cells #[.int .i64 A, .int .i64 L, v] 56 (0, 0)) := by
    rw [heap_at, if_pos rfl]
  have hv2 := own_later hv hb1
  generalize W.alloc (.cells #[.int .i64 A, .int .i64 L, v] 56) = W2 at hb1 hb2 h2 e2 hx2 hv2 ⊢
  have hvlt : ∀ g, v.ownBlock = some g → W0.heap.size ≤ g ∧ g < W2.heap.size := fun g hg => own_lt3 hv2 hg
  have hv3 : W2.ownsRow w0.heap.size 5 1 v d.length (d.map (Value.int .u8)) := by
    refine ⟨hv2.1, ?_⟩
    rcases hv2.2 with q | ⟨g, cap, cur, q1, q2, q3⟩
    · exact .inl q
    · exact .inr ⟨g, cap, cur, q1, by omega, q3⟩
  have hO : OutSt W2 w0.heap.size v.ownBlock vo r.reverse := h0.o.out.keep hb2.size (fun k _ k2 _ => ⟨hb2.block k k2, fun e => by have := (hvlt k e.symm).1; omega⟩) (fun g hg => (hvlt g hg).2)
  obtain ⟨g, cap, W5, hr, hL, hg, hlies⟩ := hO.appL hx2 hv3 rfl hd hA hL (by simpa using hk) (by omega)
  rw [List.length_reverse] at hr hL
  refine ⟨g, cap, W5, hr, ⟨⟨hL, h2.below.grown hg h2.below.size (fun g' hg' => (h2.own hg').1), fun g' hg' => ?_⟩, fun g' hg' => ?_⟩, fun k k1 k2 => (hg.block k (by omega) k2).trans (hb2.block k k1)⟩
  · have q := h2.free g' hg'
    have q0 := (h0.free g' hg').1
    refine ⟨Nat.lt_of_lt_of_le q.1 hg.size, ?_, fun e => by have := (hvlt g' e).1; omega⟩
    simp only [Value.ownBlock]
    intro e
    injection e with e
    subst e
    rcases hlies with hl | hl
    · exact q.2.1 hl
    · omega
  · have q := h0.free g' hg'
    exact (hg.block g' (by omega) (fun e => q.2.1 e.symm)).trans (hb2.block g' q.1)
end
section
variable {w0 : World} {ex : Option Nat} {vo : Value} {lb : Option Nat} {t : List OpR} {last : OpR} {W : World}
set_option maxRecDepth 100000 in
/-- where the last step lies -/
theorem JSt.lastAt (h : JSt w0 ex vo lb (last :: t) W) : ∃ g cap v, vo = .slice (some ⟨g, 0, none⟩) (t.length + 1) cap ∧ w0.heap.size ≤ g ∧ g < W.heap.size ∧ W.cell? ⟨g, t.length * 3, none⟩ = some (.int .i64 last.at_) ∧ W.cell? ⟨g, t.length * 3 + 1, none⟩ = some (.int .i64 last.len) ∧
    W.cell? ⟨g, t.length * 3 + 2, none⟩ = some v ∧ (∀ j, W.frozen? ⟨g, j, none⟩ = false) ∧ v.ownBlock = lb ∧ ∃ a c, v = .slice a last.data.length c := by
  have ho : OutL W w0.heap.size vo lb t.reverse last := h.o
  obtain ⟨g, cap, v, h1, h2, h3, h4, h5, h6, h7, h8, h9⟩ := ho.cells
  rw [List.length_reverse] at h1 h4 h5 h6
  exact ⟨g, cap, v, h1, h2, h3, h4, h5, h6, h7, h9, own_slice h8⟩
set_option maxRecDepth 100000 in
/-- the last step is made longer -/
theorem JSt.moreC {g cap : Nat} (h : JSt w0 ex (.slice (some ⟨g, 0, none⟩) (t.length + 1) cap) lb (last :: t) W) (L : Int) (hL : I64 L) :
    JSt w0 ex (.slice (some ⟨g, 0, none⟩) (t.length + 1) cap) lb (⟨last.at_, L, last.data⟩ :: t) (W.setCell ⟨g, t.length * 3 + 1, none⟩ (.int .i64 L)) ∧ Left ex W (W.setCell ⟨g, t.length * 3 + 1, none⟩ (.int .i64 L)) := by
  have ho : OutL W w0.heap.size (.slice (some ⟨g, 0, none⟩) (t.length + 1) cap) lb t.reverse last := h.o
  have er : t.reverse.length = t.length := List.length_reverse
  rw [← er] at ho
  have ho2 := ho.longer L hL
  rw [er] at ho2
  have hg := (h.own (g := g) rfl).1
  refine ⟨⟨ho2, h.below.setCell hg _, fun g' hg' => ?_⟩, fun g' hg' => Below.heap_setCell W _ _ g' ?_⟩
  · rw [size_set]
    exact h.free g' hg'
  · rintro rfl
    exact (h.free g' hg').2.1 rfl
set_option maxRecDepth 100000 in
/-- bytes are appended to the last step's data -/
theorem JSt.moreD {g cap : Nat} (h : JSt w0 ex (.slice (some ⟨g, 0, none⟩) (t.length + 1) cap) lb (last :: t) W) {v : Value} (hv : W.cell? ⟨g, t.length * 3 + 2, none⟩ = some v) {ad : Addr} {n c : Nat} {d : List Int} (hs : BS W (some ad) n c d) (hn : 0 < n) (hk : last.data.length + n ≤ 1000) :
    ∃ g5 cap5 W5, (Builtin.append_ #[27, 27] 27 #[v, .slice (some ad) n c]).run Try.prog W = .ok (.slice (some ⟨g5, 0, none⟩) (last.data.length + n) cap5) W5 ∧
      W5.cell? ⟨g, t.length * 3 + 2, none⟩ = some v ∧ W5.frozen? ⟨g, t.length * 3 + 2, none⟩ = false ∧
      Hid (JSt w0 ex (.slice (some ⟨g, 0, none⟩) (t.length + 1) cap) (some g5) (⟨last.at_, last.len, last.data ++ d⟩ :: t) (W5.setCell ⟨g, t.length * 3 + 2, none⟩ (.slice (some ⟨g5, 0, none⟩) (last.data.length + n) cap5)) ∧
        Left ex W (W5.setCell ⟨g, t.length * 3 + 2, none⟩ (.slice (some ⟨g5, 0, none⟩) (last.data.length + n) cap5))) := by
  have hB := h.below.size
  obtain ⟨_, _, _, e, hg0, hgl, _, _, _, hfz, hvb, _⟩ := h.lastAt
  simp only [Value.slice.injEq, Option.some.injEq, Addr.mk.injEq, and_true, true_and] at e
  obtain ⟨rfl, rfl⟩ := e
  have ho : OutL W w0.heap.size (.slice (some ⟨g, 0, none⟩) (t.length + 1) cap) lb t.reverse last := h.o
  have er : t.reverse.length = t.length := List.length_reverse
  rw [← er] at ho hv
  obtain ⟨g5, cap5, W5, hr, hg5, hlies, hlt, hgb, hO⟩ := ho.dataN hv hs hn hk hB
  rw [er] at hO hv
  have hB5 := h.below.grown hg5 h.below.size (fun g' hg' => (h.ownL hg').1)
  refine ⟨g5, cap5, W5, hr, ?_, ?_, ⟨hO, hB5.setCell hg0 _, fun g' hg' => ?_⟩, fun g' hg' => ?_⟩
  · simp only [World.cell?, hgb] at hv ⊢
    exact hv
  · have := hfz (t.length * 3 + 2)
    simp only [World.frozen?, hgb] at this ⊢
    exact this
  · have q := h.free g' hg'
    rw [size_set]
    refine ⟨Nat.lt_of_lt_of_le q.1 hg5.size, q.2.1, fun e => ?_⟩
    injection e with e
    subst e
    rcases hlies with hl | hl
    · exact q.2.2 hl
    · omega
  · have q := h.free g' hg'
    rw [Below.heap_setCell W5 _ _ g' (by rintro rfl; exact q.2.1 rfl)]
    exact hg5.block g' q.1 (fun e => q.2.2 e.symm)
end
end Go.Proofs.Ytmpmaljkmfgagaa
