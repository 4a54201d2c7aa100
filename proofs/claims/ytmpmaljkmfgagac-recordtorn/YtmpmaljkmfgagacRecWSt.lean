/-
  The memory of Write, of program and reference alike: both copies, the record, the result; then the copy that is put.
-/
import Derived.Test.YtmpmaljkmfgagacRecSt
import Derived.Deep.WholeRow
namespace Go.Proofs.Ytmpmaljkmfgagac
open Go.RowKit

section
variable {P : Program} {ops : Array Oper} {rest : List Oper} {o : Oper} {a : Act} {w : World} {Q : Exit → Act → World → Prop}
/-- a load of so many cells in the midst of a row -/
theorem wpList_load_part (hgd : o.guard = none) (ty : TypeId) (x : Operand) (ho : o.op = .load ty x) (b k : Nat) (hx : a.eval x = .pointer (some ⟨b, k, none⟩)) (C : Array Value) (t : TypeId) (fr : Nat × Nat) (hB : w.heap[b]? = some (.cells C t fr))
    (cs : Array Value) (hcs : C.extract k (k + cs.size) = cs) (d : TypeDesc) (hu : P.underlying ty = some d) (hd : d.isRow = true) (hi : (P.info? ty).map (·.size) = some cs.size)
    (h : wpList P ops Q rest (a.put o.dst (.agg cs)) w) : wpList P ops Q (o :: rest) a w := by
  have hr := World.rangeAt_of_block hB k cs.size
  rw [hcs] at hr
  refine wpList_load_mid hgd ty x ho b k hx cs.toList d hr hu hd (by simpa using hi) ?_
  simpa using h
/-- a struct or an array built of parts -/
theorem wpList_build_is (hg : o.guard = none) (t : TypeId) (parts : Array (Nat × Operand)) (ho : o.op = .build t parts) (vs : List (Nat × Value)) (hvs : (parts.map fun (i, x) => (i, a.eval x)).toList = vs) (cs : Array Value) (hb : P.built t vs = some cs)
    (h : wpList P ops Q rest (a.put o.dst (.agg cs)) w) : wpList P ops Q (o :: rest) a w :=
  wpList_build hg t parts ho (by rw [hvs, hb]; rfl) (by rw [hvs, hb]; exact h)
theorem wpList_build_one (hg : o.guard = none) (t : TypeId) (i0 : Nat) (x0 : Operand) (ho : o.op = .build t #[(i0, x0)]) (v0 : Value) (h0 : a.eval x0 = v0) (cs : Array Value) (hb : P.built t [(i0, v0)] = some cs)
    (h : wpList P ops Q rest (a.put o.dst (.agg cs)) w) : wpList P ops Q (o :: rest) a w :=
  wpList_build_is hg t _ ho [(i0, v0)] (by simp [h0]) cs hb h
theorem wpList_build_two (hg : o.guard = none) (t : TypeId) (i0 i1 : Nat) (x0 x1 : Operand) (ho : o.op = .build t #[(i0, x0), (i1, x1)]) (v0 v1 : Value) (h0 : a.eval x0 = v0) (h1 : a.eval x1 = v1) (cs : Array Value) (hb : P.built t [(i0, v0), (i1, v1)] = some cs)
    (h : wpList P ops Q rest (a.put o.dst (.agg cs)) w) : wpList P ops Q (o :: rest) a w :=
  wpList_build_is hg t _ ho [(i0, v0), (i1, v1)] (by simp [h0, h1]) cs hb h
/-- a whole row into the block that was made last -/
theorem wpList_store_new (hgd : o.guard = none) (ty : TypeId) (x y : Operand) (ho : o.op = .store ty x y) (g : Nat) (cells : Array Value) (hx : a.eval x = .pointer (some ⟨g, 0, none⟩)) (hy : a.eval y = .agg cells)
    (t : TypeId) (old : Array Value) (hg : g = w.heap.size) (hi : (P.info? ty).map (·.size) = some cells.size) (hold : old.size = cells.size) (h1 : cells.all (·.oneCell') = true)
    (h : wpList P ops Q rest (a.put o.dst undef) (w.alloc (.cells cells t))) : wpList P ops Q (o :: rest) a (w.alloc (.cells old t)) := by
  subst hg
  refine wpList_store_row hgd ty x y ho w.heap.size cells hx hy t old (by rw [heap_at, if_pos rfl]) hi hold h1 ?_
  rw [World.setRow_alloc_new]
  exact h
end
def zeroCops : Array Value := #[.bool false, .int .i64 0, .int .i64 0, .bool false, .int .i64 0, .int .i64 0, .int .i64 0, .int .i64 0, .int .i64 0, .int .i64 0, .int .i64 0, .int .i64 0, .bool false, .int .i64 0, .int .i64 0, .bool false, .int .i64 0, .int .i64 0, .int .i64 0, .int .i64 0, .int .i64 0, .int .i64 0, .int .i64 0, .int .i64 0]
def copCells (c : CopR) : Array Value := #[.bool c.ok, .int .i64 c.r.gen, .int .i64 c.r.act, .bool c.r.trying, .int .i64 c.r.tries, .int .i64 c.r.floor, .int .i64 c.r.i0.ver, .int .i64 c.r.i0.size, .int .i64 c.r.i0.sum, .int .i64 c.r.i1.ver, .int .i64 c.r.i1.size, .int .i64 c.r.i1.sum]
structure WSt (w : World) (l : CopsR) (r : RecR) (W : World) : Prop where
  c0 : W.heap[w.heap.size]? = some (.cells (copsCells l) 29 (0, 0))
  c1 : W.heap[w.heap.size + 1]? = some (.cells (recCells r) 26 (0, 0))
  c2 : W.heap[w.heap.size + 2]? = some (.cells zeroCops 29 (0, 0))
  below : Below w.heap.size w W
section
variable {w : World} {l l' : CopsR} {r r' : RecR} {W W' : World}
theorem WSt.start (w : World) (l : CopsR) (r : RecR) : WSt w l r (((w.alloc (.cells (copsCells l) 29)).alloc (.cells (recCells r) 26)).alloc (.cells zeroCops 29)) := by
  refine ⟨?_, ?_, ?_, (((Below.refl _ _).alloc (Nat.le_refl _) _).alloc (by simp) _).alloc (by simp; omega) _⟩
  · rw [heap_at, if_neg (by simp; omega), heap_at, if_neg (by simp), heap_at, if_pos rfl]
  · rw [heap_at, if_neg (by simp), heap_at, if_pos (by simp)]
  · rw [heap_at, if_pos (by simp)]
theorem WSt.later (h : WSt w l r W) (hb : Below W.heap.size W W') : WSt w l r W' :=
  ⟨(hb.block _ (blk_ltQ h.c0)).trans h.c0, (hb.block _ (blk_ltQ h.c1)).trans h.c1, (hb.block _ (blk_ltQ h.c2)).trans h.c2, bel_then h.below hb⟩
theorem WSt.drew (h : WSt w l r W) : WSt w l r W.drew := h.later (Below.refl _ _).drew
theorem WSt.alloc (h : WSt w l r W) (o : Obj) : WSt w l r (W.alloc o) := h.later ((Below.refl _ _).alloc (Nat.le_refl _) o)
theorem WSt.lt (h : WSt w l r W) : w.heap.size + 2 < W.heap.size := blk_ltQ h.c2
theorem WSt.set (h : WSt w l r W) {i : Nat} {v : Value} (e : (recCells r).setIfInBounds i v = recCells r') : WSt w l r' (W.setCell ⟨w.heap.size + 1, i, none⟩ v) := by
  rw [setCell_eq_setRow W _ i _ _ _ v h.c1, e]
  exact ⟨(setRow_other W _ _ _ (by omega)).trans h.c0, setRow_heap W _ _ _ _ _ h.c1, (setRow_other W _ _ _ (by omega)).trans h.c2, bel_row h.below (by omega) _⟩
/-- a copy is put -/
theorem WSt.put (h : WSt w l r W) {o : Nat} {c : CopR} (e : putAt (copsCells l) o (copCells c).toList = copsCells l') : WSt w l' r (W.setCells w.heap.size o (copCells c).toList) :=
  have oth : ∀ (vs : List Value) (o : Nat) (W : World) (k : Nat), k ≠ w.heap.size → (W.setCells w.heap.size o vs).heap[k]? = W.heap[k]? := by
    intro vs
    induction vs with
    | nil => intros; rfl
    | cons v vs ih =>
      intro o W k hk
      show ((W.setCell ⟨w.heap.size, o, none⟩ v).setCells w.heap.size (o + 1) vs).heap[k]? = _
      rw [ih _ _ _ hk]
      exact Below.heap_setCell W _ v k hk
  ⟨(setCells_at _ _ _ _ h.c0).trans (by rw [e]), (oth _ _ _ _ (by omega)).trans h.c1, (oth _ _ _ _ (by omega)).trans h.c2, setCells_bel (Nat.le_refl _) _ _ _ h.below⟩
theorem WSt.there (h : WSt w l r W) {o : Nat} (ho : o + 12 ≤ 24) : W.there w.heap.size o 12 := by
  intro j hj
  have hs : (copsCells l).size = 24 := rfl
  simp only [World.cell?, World.frozen?, h.c0]
  rw [Array.getElem?_eq_getElem (by rw [hs]; omega)]
  simp
theorem WSt.give (h : WSt w l r W) : (W.setRow (w.heap.size + 2) (copsCells l)).heap[w.heap.size + 2]? = some (.cells (copsCells l) 29 (0, 0)) ∧ Below w.heap.size w (W.setRow (w.heap.size + 2) (copsCells l)) :=
  ⟨setRow_heap W _ _ _ _ _ h.c2, bel_row h.below (by omega) _⟩
theorem WSt.nil_ (h : WSt w l r W) : (W.setRow (w.heap.size + 2) zeroCops).heap[w.heap.size + 2]? = some (.cells zeroCops 29 (0, 0)) ∧ Below w.heap.size w (W.setRow (w.heap.size + 2) zeroCops) :=
  ⟨setRow_heap W _ _ _ _ _ h.c2, bel_row h.below (by omega) _⟩
theorem size_cops (l : CopsR) : (Try.prog.info? 29).map (·.size) = some (copsCells l).size := by kernel_rfl
theorem one_cops (l : CopsR) : (copsCells l).all (·.oneCell') = true := by kernel_rfl
theorem size_zcops : (Try.prog.info? 29).map (·.size) = some zeroCops.size := by kernel_rfl
theorem one_zcops : zeroCops.all (·.oneCell') = true := by kernel_rfl
theorem like_cops (l : CopsR) : zeroCops.size = (copsCells l).size := by kernel_rfl
theorem size_cop (c : CopR) : (Try.prog.info? 28).map (·.size) = some (copCells c).size := by kernel_rfl
theorem one_cop (c : CopR) : (copCells c).all (·.oneCell') = true := by kernel_rfl
theorem part_at0 (l : CopsR) : (copsCells l).extract 0 (0 + (copCells l.c0).size) = copCells l.c0 := by kernel_rfl
theorem part_at1 (l : CopsR) : (copsCells l).extract 12 (12 + (copCells l.c1).size) = copCells l.c1 := by kernel_rfl
theorem built_cops (c d : CopR) : Try.prog.built 29 [(0, .agg (copCells c)), (1, .agg (copCells d))] = some (copsCells ⟨c, d⟩) := by kernel_rfl
theorem put_at0 (l : CopsR) (c : CopR) : putAt (copsCells l) 0 (copCells c).toList = copsCells ⟨c, l.c1⟩ := by kernel_rfl
theorem put_at1 (l : CopsR) (c : CopR) : putAt (copsCells l) 12 (copCells c).toList = copsCells ⟨l.c0, c⟩ := by kernel_rfl
end
end Go.Proofs.Ytmpmaljkmfgagac
