/-
  A list of steps that a call makes, its last one still open: its data are a row of the call's own that may grow; a step appended; a byte appended to the last one; the last one made longer.
-/
import Derived.Test.YtmpmaljkmfgagaaDiffSt
import Derived.Test.YtmpmaljkmfgagaaCompMath
namespace Go.Proofs.Ytmpmaljkmfgagaa
open Go.RowKit

/-- the last step's cells: its data are a row of the call's own, in block 'lb' -/
def LastV (W : World) (base : Nat) (x lb : Option Nat) (o : OpV) (r : OpR) : Prop :=
  o.at_ = r.at_ ∧ o.len = r.len ∧ I64 r.at_ ∧ I64 r.len ∧ W.ownsRow base 5 1 o.v r.data.length (r.data.map (Value.int .u8)) ∧ o.v.ownBlock = lb ∧ (∀ v ∈ r.data, 0 ≤ v ∧ v ≤ 255) ∧ ∀ g, lb = some g → x ≠ some g
/-- what is made so far, the last step apart -/
def OutL (W : World) (base : Nat) (vo : Value) (lb : Option Nat) (init : List OpR) (last : OpR) : Prop :=
  ∃ (vs : List OpV) (o : OpV), vs.length = init.length ∧ W.ownsRow base 56 3 vo (init.length + 1) (cellsV (vs ++ [o])) ∧
    (∀ i, i < init.length → ReadsV W base vo.ownBlock lb (vs.getD i default) (init.getD i default)) ∧ LastV W base vo.ownBlock lb o last

section
variable {W W' : World} {base : Nat} {vo : Value} {lb : Option Nat} {init : List OpR} {last : OpR}
set_option maxRecDepth 100000 in
theorem LastV.keep {x x' : Option Nat} {o : OpV} {r : OpR} (h : LastV W base x lb o r) (hk : ∀ g, lb = some g → W'.heap[g]? = W.heap[g]? ∧ x' ≠ some g) : LastV W' base x' lb o r := by
  obtain ⟨h1, h2, h3, h4, h5, h6, h7, h8⟩ := h
  exact ⟨h1, h2, h3, h4, own_keep h5 (fun g hg => (hk g (h6.symm.trans hg)).1), h6, h7, fun g hg => (hk g hg).2⟩
set_option maxRecDepth 100000 in
theorem LastV.lt {x : Option Nat} {o : OpV} {r : OpR} (h : LastV W base x lb o r) {g : Nat} (hg : lb = some g) : base ≤ g ∧ g < W.heap.size := own_lt3 h.2.2.2.2.1 (h.2.2.2.2.2.1.trans hg)
set_option maxRecDepth 100000 in
theorem OutL.later (h : OutL W base vo lb init last) (hb : Below W.heap.size W W') : OutL W' base vo lb init last := by
  obtain ⟨vs, o, h1, h2, h3, h4⟩ := h
  refine ⟨vs, o, h1, own_keep h2 (fun g hg => hb.block g (own_lt3 h2 hg).2), fun i hi => (h3 i hi).keep hb.size (fun k _ k2 k3 k4 => ⟨hb.block k k2, k3, k4⟩), h4.keep (fun g hg => ⟨hb.block g (h4.lt hg).2, h4.2.2.2.2.2.2.2 g hg⟩)⟩
set_option maxRecDepth 100000 in
theorem OutL.set (h : OutL W base vo lb init last) {p : Addr} (hp : p.block < base) (u : Value) : OutL (W.setCell p u) base vo lb init last := by
  obtain ⟨vs, o, h1, h2, h3, h4⟩ := h
  refine ⟨vs, o, h1, own_set h2 hp u, fun i hi => (h3 i hi).keep (by rw [size_set]; exact Nat.le_refl _) (fun k k1 _ k3 k4 => ⟨Below.heap_setCell W p u k (by omega), k3, k4⟩), h4.keep (fun g hg => ⟨Below.heap_setCell W p u g (by have := (h4.lt hg).1; omega), h4.2.2.2.2.2.2.2 g hg⟩)⟩
set_option maxRecDepth 100000 in
/-- the last step as one of the others: block 'ex' is another one's -/
theorem OutL.out (h : OutL W base vo lb init last) : OutSt W base none vo (init ++ [last]) := by
  obtain ⟨vs, o, h1, h2, h3, h4⟩ := h
  refine ⟨⟨vs ++ [o], by simp [h1], by rw [List.length_append]; exact h2, fun i hi => ?_⟩, fun g hg => by cases hg⟩
  rw [List.length_append] at hi
  simp only [List.length_cons, List.length_nil] at hi
  rcases Nat.lt_or_ge i init.length with hlt | hge
  · rw [show (vs ++ [o]).getD i default = vs.getD i default by simp [List.getD_eq_getElem?_getD, List.getElem?_append_left (show i < vs.length by omega)],
      show (init ++ [last]).getD i default = init.getD i default by simp [List.getD_eq_getElem?_getD, List.getElem?_append_left hlt]]
    exact (h3 i hlt).keep (Nat.le_refl _) (fun k _ _ k3 _ => ⟨rfl, k3, by simp⟩)
  · obtain rfl : i = init.length := by omega
    rw [show (vs ++ [o]).getD init.length default = o by rw [← h1]; simp [List.getD_eq_getElem?_getD], show (init ++ [last]).getD init.length default = last by simp [List.getD_eq_getElem?_getD]]
    obtain ⟨q1, q2, q3, q4, q5, q6, q7, q8⟩ := h4
    obtain ⟨a, c, hv⟩ := own_slice q5
    refine ⟨q1, q2, q3, q4, a, _, c, hv, BS.of_own (by rw [← hv]; exact q5) q7, fun p hp => ?_⟩
    have hob : o.v.ownBlock = some p.block := by rw [hv, hp]; rfl
    have := own_lt3 q5 hob
    exact ⟨this.1, this.2, fun e => q8 p.block (q6.symm.trans hob) e.symm, by simp⟩
end

set_option maxRecDepth 100000 in
/-- one more step, which is the last one then -/
theorem OutSt.appL {W : World} {base : Nat} {lb : Option Nat} {vo : Value} {out : List OpR} (h : OutSt W base lb vo out) {B : Nat} {A L : Int} {v : Value} {d : List Int}
    (hB : W.heap[B]? = some (.cells #[.int .i64 A, .int .i64 L, v] 56 (0, 0))) (hv : W.ownsRow base 5 1 v d.length (d.map (Value.int .u8))) (hlb : v.ownBlock = lb) (hd : ∀ x ∈ d, 0 ≤ x ∧ x ≤ 255)
    (hA : I64 A) (hL : I64 L) (hn : out.length ≤ 1000) (hbase : base ≤ W.heap.size) :
    ∃ g cap W5, (Builtin.append_ #[48, 48] 48 #[vo, .slice (some ⟨B, 0, none⟩) 1 1]).run Try.prog W = .ok (.slice (some ⟨g, 0, none⟩) (out.length + 1) cap) W5 ∧
      OutL W5 base (.slice (some ⟨g, 0, none⟩) (out.length + 1) cap) lb out ⟨A, L, d⟩ ∧ W.grownBy W5 vo.ownBlock ∧ (vo.ownBlock = some g ∨ g = W.heap.size) := by
  obtain ⟨i0, hi, hz0, hz1, hz2⟩ := info_parts Try.info_op
  obtain ⟨⟨vs, h1, h2, h3⟩, h4⟩ := h
  obtain ⟨a, c, hvs⟩ := own_slice hv
  obtain ⟨g, cap, W5, hr, ho, hg, hlies, hlt⟩ := run_append_lies (P := Try.prog) W 48 48 base 56 i0 _ 3 40 Try.underlying48 hi hz0 hz1 hz2 rfl (by decide) vo out.length _ h2 ⟨B, 0, none⟩ 1 1 (cellsV [⟨A, L, v⟩])
    rfl (one_op hB) (by intro u hu; simp [cellsV] at hu; rcases hu with rfl | rfl | rfl <;> first | rfl | (rw [hvs]; rfl)) (by omega) (by unfold maxLen; omega) (by omega) hbase W.heap.size rfl
  have ne : ∀ k, k < W.heap.size → some k ≠ vo.ownBlock → some k ≠ (Value.slice (some ⟨g, 0, none⟩) (out.length + 1) cap).ownBlock := by
    intro k k2 k3 e
    simp only [Value.ownBlock] at e
    injection e with e
    subst e
    rcases hlies with hl | hl
    · exact k3 hl.symm
    · omega
  refine ⟨g, cap, W5, hr, ⟨vs, ⟨A, L, v⟩, h1, by rw [cellsV_append]; exact ho, fun i hi => (h3 i hi).keep hg.size (fun k _ k2 k3 k4 => ⟨hg.block k k2 k3, ne k k2 k3, k4⟩), ?_⟩, hg, hlies⟩
  refine ⟨rfl, rfl, hA, hL, own_keep hv (fun g' hg' => hg.block g' (own_lt3 hv hg').2 (fun e => (h4 g' (hlb.symm.trans hg')).1 e.symm)), hlb, hd, fun g' hg' e => ?_⟩
  exact ne g' (h4 g' hg').2 (fun e2 => (h4 g' hg').1 e2.symm) e.symm

set_option maxRecDepth 100000 in
theorem cellsV_last (vs : List OpV) (o : OpV) (k : Nat) (hk : vs.length = k) : (cellsV (vs ++ [o]))[k * 3]? = some (.int .i64 o.at_) ∧ (cellsV (vs ++ [o]))[k * 3 + 1]? = some (.int .i64 o.len) ∧ (cellsV (vs ++ [o]))[k * 3 + 2]? = some o.v := by
  have := cellsV_get (vs ++ [o]) k (by simp; omega)
  rwa [show (vs ++ [o]).getD k default = o by rw [← hk]; simp [List.getD_eq_getElem?_getD]] at this
set_option maxRecDepth 100000 in
theorem cellsV_set1 (vs : List OpV) (o : OpV) (k : Nat) (hk : vs.length = k) (L : Int) : (cellsV (vs ++ [o])).set (k * 3 + 1) (.int .i64 L) = cellsV (vs ++ [⟨o.at_, L, o.v⟩]) := by
  rw [cellsV_append, cellsV_append, List.set_append_right _ _ (by rw [cellsV_length]; omega), cellsV_length, hk, show k * 3 + 1 - k * 3 = 1 by omega]
  rfl
set_option maxRecDepth 100000 in
theorem cellsV_set2 (vs : List OpV) (o : OpV) (k : Nat) (hk : vs.length = k) (v : Value) : (cellsV (vs ++ [o])).set (k * 3 + 2) v = cellsV (vs ++ [⟨o.at_, o.len, v⟩]) := by
  rw [cellsV_append, cellsV_append, List.set_append_right _ _ (by rw [cellsV_length]; omega), cellsV_length, hk, show k * 3 + 2 - k * 3 = 2 by omega]
  rfl

section
variable {W : World} {base : Nat} {vo : Value} {lb : Option Nat} {init : List OpR} {last : OpR}
set_option maxRecDepth 100000 in
/-- where the last step lies, and its cells -/
theorem OutL.cells (h : OutL W base vo lb init last) : ∃ g cap v, vo = .slice (some ⟨g, 0, none⟩) (init.length + 1) cap ∧ base ≤ g ∧ g < W.heap.size ∧ W.cell? ⟨g, init.length * 3, none⟩ = some (.int .i64 last.at_) ∧ W.cell? ⟨g, init.length * 3 + 1, none⟩ = some (.int .i64 last.len) ∧
    W.cell? ⟨g, init.length * 3 + 2, none⟩ = some v ∧ (∀ j, W.frozen? ⟨g, j, none⟩ = false) ∧ W.ownsRow base 5 1 v last.data.length (last.data.map (Value.int .u8)) ∧ v.ownBlock = lb := by
  obtain ⟨vs, o, h1, h2, h3, h4⟩ := h
  obtain ⟨g, cap, hv, hb, hlt⟩ := h2.form (by omega)
  subst hv
  obtain ⟨c0, c1, c2⟩ := cellsV_last vs o init.length h1
  have e0 := h2.cellAt (init.length * 3) (by omega)
  have e1 := h2.cellAt (init.length * 3 + 1) (by omega)
  have e2 := h2.cellAt (init.length * 3 + 2) (by omega)
  rw [c0] at e0
  rw [c1] at e1
  rw [c2] at e2
  obtain ⟨q1, q2, q3, q4, q5, q6, _⟩ := h4
  rw [q1] at e0
  rw [q2] at e1
  exact ⟨g, cap, o.v, rfl, hb, hlt, e0, e1, e2, fun j => h2.frozenAt j, q5, q6⟩
set_option maxRecDepth 100000 in
/-- the last step is made longer -/
theorem OutL.longer {g cap : Nat} (h : OutL W base (.slice (some ⟨g, 0, none⟩) (init.length + 1) cap) lb init last) (L : Int) (hL : I64 L) :
    OutL (W.setCell ⟨g, init.length * 3 + 1, none⟩ (.int .i64 L)) base (.slice (some ⟨g, 0, none⟩) (init.length + 1) cap) lb init ⟨last.at_, L, last.data⟩ := by
  obtain ⟨vs, o, h1, h2, h3, h4⟩ := h
  have hs := h2.stored (init.length * 3 + 1) (.int .i64 L)
  rw [cellsV_set1 vs o init.length h1 L] at hs
  obtain ⟨q1, q2, q3, q4, q5, q6, q7, q8⟩ := h4
  refine ⟨vs, ⟨o.at_, L, o.v⟩, h1, hs.1, fun i hi => (h3 i hi).keep hs.2.size (fun k _ k2 k3 k4 => ⟨hs.2.block k k2 k3, k3, k4⟩), q1, rfl, q3, hL, own_keep q5 (fun g' hg' => ?_), q6, q7, q8⟩
  exact hs.2.block g' (own_lt3 q5 hg').2 (fun e => q8 g' (q6.symm.trans hg') e.symm)
set_option maxRecDepth 100000 in
/-- a byte is appended to the last step's data -/
theorem OutL.data {g cap : Nat} (h : OutL W base (.slice (some ⟨g, 0, none⟩) (init.length + 1) cap) lb init last) {v : Value} (hv : W.cell? ⟨g, init.length * 3 + 2, none⟩ = some v) {ad : Addr} {x : Int} (hs : BS W (some ad) 1 1 [x]) (hk : last.data.length ≤ 1000) (hbase : base ≤ W.heap.size) :
    ∃ g5 cap5 W5, (Builtin.append_ #[27, 27] 27 #[v, .slice (some ad) 1 1]).run Try.prog W = .ok (.slice (some ⟨g5, 0, none⟩) (last.data.length + 1) cap5) W5 ∧ W.grownBy W5 lb ∧ (lb = some g5 ∨ g5 = W.heap.size) ∧ g5 < W5.heap.size ∧
      W5.heap[g]? = W.heap[g]? ∧
      OutL (W5.setCell ⟨g, init.length * 3 + 2, none⟩ (.slice (some ⟨g5, 0, none⟩) (last.data.length + 1) cap5)) base (.slice (some ⟨g, 0, none⟩) (init.length + 1) cap) (some g5) init ⟨last.at_, last.len, last.data ++ [x]⟩ := by
  obtain ⟨i0, hi, hz0, hz1, hz2⟩ := info_parts Try.info_u8
  obtain ⟨vs, o, h1, h2, h3, h4⟩ := h
  have hvo : v = o.v := by
    have e2 := h2.cellAt (init.length * 3 + 2) (by omega)
    rw [(cellsV_last vs o init.length h1).2.2, hv] at e2
    exact Option.some.inj e2
  subst hvo
  obtain ⟨q1, q2, q3, q4, q5, q6, q7, q8⟩ := h4
  obtain ⟨g5, cap5, W5, hr, ho, hg, hlies, hlt⟩ := run_append_lies (P := Try.prog) W 27 27 base 5 i0 _ 1 1 Try.underlying27 hi hz0 hz1 hz2 rfl (by decide) o.v last.data.length _ q5 ad 1 1 ([x].map (Value.int .u8))
    rfl hs.news (oneCell_u8 _) (by omega) (by unfold maxLen; omega) (by omega) hbase W.heap.size rfl
  rw [q6] at hg hlies
  have hgl := own_lt3 h2 (g := g) rfl
  have hgne : some g ≠ lb := fun e => q8 g e.symm rfl
  have hgb := hg.block g hgl.2 hgne
  have hg5 : g5 ≠ g := by
    rintro rfl
    rcases hlies with hl | hl
    · exact hgne hl.symm
    · omega
  have h2' := own_keep h2 (w' := W5) (fun g' hg' => by
    simp only [Value.ownBlock] at hg'
    injection hg' with hg'
    subst hg'
    exact hgb)
  have hst := h2'.stored (init.length * 3 + 2) (.slice (some ⟨g5, 0, none⟩) (last.data.length + 1) cap5)
  rw [cellsV_set2 vs o init.length h1] at hst
  refine ⟨g5, cap5, W5, hr, hg, hlies, hlt, hgb, vs, ⟨o.at_, o.len, _⟩, h1, hst.1, fun i hi => (h3 i hi).keep (Nat.le_trans hg.size hst.2.size) (fun k _ k2 k3 k4 => ?_), q1, q2, q3, q4, ?_, rfl, ?_, ?_⟩
  · have e1 := hg.block k k2 k4
    refine ⟨(hst.2.block k (by have := hg.size; omega) k3).trans e1, k3, ?_⟩
    intro e
    injection e with e
    subst e
    rcases hlies with hl | hl
    · exact k4 hl.symm
    · omega
  · have := own_keep ho (w' := W5.setCell ⟨g, init.length * 3 + 2, none⟩ (.slice (some ⟨g5, 0, none⟩) (last.data.length + 1) cap5)) (fun g' hg' => by
      simp only [Value.ownBlock] at hg'
      injection hg' with hg'
      subst hg'
      exact hst.2.block g5 hlt (fun e => by injection e with e; exact hg5 e))
    simpa using this
  · intro y hy
    rcases List.mem_append.1 hy with hy | hy
    · exact q7 y hy
    · exact hs.bytes y hy
  · intro g' hg' e
    injection hg' with hg'
    subst hg'
    simp only [Value.ownBlock] at e
    injection e with e
    exact hg5 e.symm
end
end Go.Proofs.Ytmpmaljkmfgagaa
