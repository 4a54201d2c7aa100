/-
  A list of steps that a call makes, the data being those of an argument; one more step appended.
-/
import Derived.Test.YtmpmaljkmfgagaaAddFns
namespace Go.Proofs.Ytmpmaljkmfgagaa
open Go.RowKit

/-- a step's cells read as a step; its data lie in the world that was -/
def ReadsO (w0 : World) (o : OpV) (r : OpR) : Prop :=
  o.at_ = r.at_ ∧ o.len = r.len ∧ I64 r.at_ ∧ I64 r.len ∧ ∃ a n c, o.v = .slice a n c ∧ BS w0 a n c r.data
/-- what is made so far -/
def PartSt (w0 : World) (base : Nat) (vo : Value) (out : List OpR) (W : World) : Prop :=
  ∃ vs : List OpV, vs.length = out.length ∧ W.ownsRow base 56 3 vo out.length (cellsV vs) ∧ ∀ i, i < out.length → ReadsO w0 (vs.getD i default) (out.getD i default)
section
variable {w0 : World} {base : Nat} {vo : Value} {out : List OpR} {W W' : World}
set_option maxRecDepth 100000 in
theorem PartSt.start (w0 W : World) (base : Nat) : PartSt w0 base (.slice none 0 0) [] W := ⟨[], rfl, World.ownsRow_nil _ _ _ _, fun i hi => absurd hi (by simp)⟩
set_option maxRecDepth 100000 in
theorem PartSt.keep (h : PartSt w0 base vo out W) (hk : ∀ g, vo.ownBlock = some g → W'.heap[g]? = W.heap[g]?) : PartSt w0 base vo out W' := by
  obtain ⟨vs, h1, h2, h3⟩ := h
  exact ⟨vs, h1, own_keep h2 hk, h3⟩
set_option maxRecDepth 100000 in
theorem PartSt.own (h : PartSt w0 base vo out W) {g : Nat} (hg : vo.ownBlock = some g) : base ≤ g ∧ g < W.heap.size := by
  obtain ⟨vs, h1, h2, h3⟩ := h
  exact own_lt3 h2 hg
set_option maxRecDepth 100000 in
theorem PartSt.later (h : PartSt w0 base vo out W) (hb : Below W.heap.size W W') : PartSt w0 base vo out W' := h.keep (fun _ hg => hb.block _ (h.own hg).2)
set_option maxRecDepth 100000 in
/-- one more step -/
theorem PartSt.app (h : PartSt w0 base vo out W) (A L : Int) {a : Option Addr} {n c : Nat} {d : List Int} (hd : BS w0 a n c d) (hA : I64 A) (hL : I64 L) (hn : out.length ≤ 1000) (hbase : base ≤ W.heap.size) {w : World} (hbl : Below base w W) (hw : base = w.heap.size) :
    ∃ g cap W5, (Builtin.append_ #[48, 48] 48 #[vo, .slice (some ⟨W.heap.size, 0, none⟩) 1 1]).run Try.prog (W.alloc (.cells #[.int .i64 A, .int .i64 L, .slice a n c] 56)) = .ok (.slice (some ⟨g, 0, none⟩) (out.length + 1) cap) W5 ∧
      Hid (PartSt w0 base (.slice (some ⟨g, 0, none⟩) (out.length + 1) cap) (out ++ [⟨A, L, d⟩]) W5 ∧ Below base w W5) ∧ ∀ k, k < W.heap.size → some k ≠ vo.ownBlock → W5.heap[k]? = W.heap[k]? := by
  subst hw
  obtain ⟨i0, hi, hz0, hz1, hz2⟩ := info_parts Try.info_op
  have hb1 : Below W.heap.size W (W.alloc (.cells #[.int .i64 A, .int .i64 L, .slice a n c] 56)) := (Below.refl _ _).alloc (Nat.le_refl _) _
  have e2 : (W.alloc (.cells #[.int .i64 A, .int .i64 L, .slice a n c] 56)).heap.size = W.heap.size + 1 := by simp
  have hx2 : (W.alloc (.cells #[.int .i64 A, .int .i64 L, .slice a n c] 56)).heap[W.heap.size]? = some (.cells #[.int .i64 A, .int .i64 L, .slice a n c] 56 (0, 0)) := by
    rw [heap_at, if_pos rfl]
  have hbl2 := below_then hbl hb1
  have h' := h.later hb1
  generalize W.alloc (.cells #[.int .i64 A, .int .i64 L, .slice a n c] 56) = W2 at hb1 e2 hx2 hbl2 h' ⊢
  have hown := fun g hg => h'.own (g := g) hg
  obtain ⟨vs, h1, h2, h3⟩ := h'
  obtain ⟨g, cap, W5, hr, ho, hg, hlies, hlt⟩ := run_append_lies (P := Try.prog) W2 48 48 w.heap.size 56 i0 _ 3 40 Try.underlying48 hi hz0 hz1 hz2 rfl (by decide) vo out.length _ h2 ⟨W.heap.size, 0, none⟩ 1 1 (cellsV [⟨A, L, .slice a n c⟩])
    rfl (one_op hx2) (by intro u hu; simp [cellsV] at hu; rcases hu with rfl | rfl | rfl <;> rfl) (by omega) (by unfold maxLen; omega) (by omega) (by omega) W2.heap.size rfl
  refine ⟨g, cap, W5, hr, ⟨⟨vs ++ [⟨A, L, .slice a n c⟩], by simp [h1], ?_, ?_⟩, hbl2.grown hg hbl2.size (fun g' hg' => (hown g' hg').1)⟩, fun k k1 k2 => (hg.block k (by omega) k2).trans (hb1.block k k1)⟩
  · rw [cellsV_append, List.length_append]
    exact ho
  · intro i hi'
    rw [List.length_append] at hi'
    simp only [List.length_cons, List.length_nil] at hi'
    rcases Nat.lt_or_ge i out.length with hlt2 | hge
    · have e1 : (vs ++ [(⟨A, L, .slice a n c⟩ : OpV)]).getD i default = vs.getD i default := by simp [List.getD_eq_getElem?_getD, List.getElem?_append_left (show i < vs.length by omega)]
      have e2 : (out ++ [(⟨A, L, d⟩ : OpR)]).getD i default = out.getD i default := by simp [List.getD_eq_getElem?_getD, List.getElem?_append_left hlt2]
      rw [e1, e2]
      exact h3 i hlt2
    · obtain rfl : i = out.length := by omega
      have e1 : (vs ++ [(⟨A, L, .slice a n c⟩ : OpV)]).getD out.length default = ⟨A, L, .slice a n c⟩ := by rw [← h1]; simp [List.getD_eq_getElem?_getD]
      have e2 : (out ++ [(⟨A, L, d⟩ : OpR)]).getD out.length default = ⟨A, L, d⟩ := by simp [List.getD_eq_getElem?_getD]
      rw [e1, e2]
      exact ⟨rfl, rfl, hA, hL, a, n, c, rfl, hd⟩
end
set_option maxRecDepth 100000 in
/-- the k-th step's cells -/
theorem PartSt.at_ {w0 : World} {base : Nat} {a : Option Addr} {n c : Nat} {out : List OpR} {W : World} (h : PartSt w0 base (.slice a n c) out W) {k : Nat} (hk : k < out.length) :
    ∃ g av nv cv, a = some ⟨g, 0, none⟩ ∧ W.cell? ⟨g, k * 3, none⟩ = some (.int .i64 (out.getD k default).at_) ∧ W.cell? ⟨g, k * 3 + 1, none⟩ = some (.int .i64 (out.getD k default).len) ∧ W.cell? ⟨g, k * 3 + 2, none⟩ = some (.slice av nv cv) ∧ BS w0 av nv cv (out.getD k default).data := by
  obtain ⟨vs, h1, h2, h3⟩ := h
  obtain ⟨g, cap, hv, hb, hlt⟩ := h2.form (by omega)
  simp only [Value.slice.injEq] at hv
  obtain ⟨rfl, rfl, rfl⟩ := hv
  obtain ⟨r1, r2, _, _, av, nv, cv, r5, r6⟩ := h3 k hk
  obtain ⟨c0, c1, c2⟩ := cellsV_get vs k (by omega)
  have e0 := h2.cellAt (k * 3) (by omega)
  have e1 := h2.cellAt (k * 3 + 1) (by omega)
  have e2 := h2.cellAt (k * 3 + 2) (by omega)
  rw [c0, r1] at e0
  rw [c1, r2] at e1
  rw [c2, r5] at e2
  exact ⟨g, av, nv, cv, rfl, e0, e1, e2, r6⟩
set_option maxRecDepth 100000 in
theorem PartSt.form {w0 : World} {base : Nat} {vo : Value} {out : List OpR} {W : World} (h : PartSt w0 base vo out W) : ∃ a c, vo = .slice a out.length c := by
  obtain ⟨vs, h1, h2, h3⟩ := h
  rcases h2.2 with ⟨q1, q2⟩ | ⟨g, cap, cur, q1, _⟩
  · exact ⟨none, 0, by rw [q1, q2]⟩
  · exact ⟨_, _, q1⟩
end Go.Proofs.Ytmpmaljkmfgagaa
