/-
  A record in a block, and one to be returned: the memory of Start and Confirm, of program and reference alike.
-/
import Derived.Test.YtmpmaljkmfgagacRecRes
import Derived.StillTailTactics
import Derived.Deep.MidRow
namespace Go.Proofs.Ytmpmaljkmfgagac
open Go.RowKit

def zeroRec : Array Value := #[.int .i64 0, .int .i64 0, .bool false, .int .i64 0, .int .i64 0, .int .i64 0, .int .i64 0, .int .i64 0, .int .i64 0, .int .i64 0, .int .i64 0]
/-- so many cells from a place on -/
def putAt : Array Value → Nat → List Value → Array Value
  | c, _, [] => c
  | c, o, v :: vs => putAt (c.setIfInBounds o v) (o + 1) vs
theorem setCells_at {g : Nat} {t : TypeId} {fr : Nat × Nat} : ∀ (vs : List Value) (o : Nat) (W : World) (cur : Array Value), W.heap[g]? = some (.cells cur t fr) → (W.setCells g o vs).heap[g]? = some (.cells (putAt cur o vs) t fr)
  | [], _, _, _, h => h
  | v :: vs, o, W, cur, h => by
    show ((W.setCell ⟨g, o, none⟩ v).setCells g (o + 1) vs).heap[g]? = _
    refine setCells_at vs (o + 1) _ _ ?_
    rw [setCell_eq_setRow W g o cur t fr v h]
    exact setRow_heap W g cur _ t fr h
theorem setCells_bel {g base : Nat} (hg : base ≤ g) {w : World} : ∀ (vs : List Value) (o : Nat) (W : World), Below base w W → Below base w (W.setCells g o vs)
  | [], _, _, h => h
  | v :: vs, o, W, h => by
    show Below base w ((W.setCell ⟨g, o, none⟩ v).setCells g (o + 1) vs)
    exact setCells_bel hg vs (o + 1) _ (h.setCell hg v)
theorem rangeAt_block {W : World} {g : Nat} {cs : Array Value} {t : TypeId} {fr : Nat × Nat} (h : W.heap[g]? = some (.cells cs t fr)) : W.rangeAt g 0 cs.toList := by
  intro j v hv
  simp only [World.cell?, h, Nat.zero_add]
  simpa using hv
theorem there_block {W : World} {g : Nat} {cs : Array Value} {t : TypeId} (h : W.heap[g]? = some (.cells cs t (0, 0))) {n : Nat} (hn : n = cs.size) : W.there g 0 n := by
  subst hn
  intro j hj
  simp only [World.cell?, World.frozen?, h, Nat.zero_add]
  simp [hj]
theorem rec_thaw {W : World} {B : Nat} {v0 v1 v2 v3 v4 v5 v6 v7 v8 v9 v10 : Value} (h : W.heap[B]? = some (.cells #[v0, v1, v2, v3, v4, v5, v6, v7, v8, v9, v10] 26 (0, 0))) : W.frozen? ⟨B, 0, none⟩ = false ∧ W.frozen? ⟨B, 1, none⟩ = false ∧ W.frozen? ⟨B, 2, none⟩ = false ∧ W.frozen? ⟨B, 3, none⟩ = false ∧ W.frozen? ⟨B, 4, none⟩ = false ∧ W.frozen? ⟨B, 5, none⟩ = false ∧ W.frozen? ⟨B, 6, none⟩ = false ∧ W.frozen? ⟨B, 7, none⟩ = false ∧ W.frozen? ⟨B, 8, none⟩ = false ∧ W.frozen? ⟨B, 9, none⟩ = false ∧ W.frozen? ⟨B, 10, none⟩ = false := by
  simp [World.frozen?, h]
section
variable {P : Program}
/-- a load of a whole row in a region that draws its order -/
theorem wpStill_load_row {ops : Array Oper} {rest : List Oper} {o : Oper} {a : Act} {w : World} {Q : Act → Prop} (hgd : o.guard = none) (ty : TypeId) (x : Operand) (ho : o.op = .load ty x)
    (g : Nat) (hx : a.eval x = .pointer (some ⟨g, 0, none⟩)) (t : TypeId) (cs : Array Value) (fr : Nat × Nat) (d : TypeDesc) (hg : w.heap[g]? = some (.cells cs t fr))
    (hu : P.underlying ty = some d) (hd : (match d with | .struct _ | .array _ _ => true | _ => false) = true) (hi : (P.info? ty).map (·.size) = some cs.size)
    (h : wpStill P ops w Q rest (a.put o.dst (.agg cs))) : wpStill P ops w Q (o :: rest) a := by
  refine wpStill_step (fun K hK => ?_)
  rw [if_pos (by simp [Region.wanted, hgd])]
  unfold Oper.still execOp
  simp only [ho, hx, Instr.loadAt, Instr.sureAddr, Sem.run_bind, Sem.run_pure, Result.andThen_ok, run_loadVar_row w g t ty cs fr d hg hu hd hi, Oper.stillUpon]
  exact ⟨trivial, hK _ h⟩
end
/-- the memory of Start: the record, the result -/
structure RSt1 (w : World) (r : RecR) (W : World) : Prop where
  c0 : W.heap[w.heap.size]? = some (.cells (recCells r) 26 (0, 0))
  c1 : W.heap[w.heap.size + 1]? = some (.cells zeroRec 26 (0, 0))
  below : Below w.heap.size w W
section
variable {w : World} {r r' : RecR} {W W' : World}
theorem RSt1.start (w : World) (r : RecR) : RSt1 w r ((w.alloc (.cells (recCells r) 26)).alloc (.cells zeroRec 26)) := by
  refine ⟨?_, ?_, ((Below.refl _ _).alloc (Nat.le_refl _) _).alloc (by simp) _⟩
  · rw [heap_at, if_neg (by simp), heap_at, if_pos rfl]
  · rw [heap_at, if_pos (by simp)]
theorem RSt1.later (h : RSt1 w r W) (hb : Below W.heap.size W W') : RSt1 w r W' :=
  ⟨(hb.block _ (blk_ltQ h.c0)).trans h.c0, (hb.block _ (blk_ltQ h.c1)).trans h.c1, bel_then h.below hb⟩
theorem RSt1.drew (h : RSt1 w r W) : RSt1 w r W.drew := h.later (Below.refl _ _).drew
theorem RSt1.set (h : RSt1 w r W) {i : Nat} {v : Value} (e : (recCells r).setIfInBounds i v = recCells r') : RSt1 w r' (W.setCell ⟨w.heap.size, i, none⟩ v) := by
  rw [setCell_eq_setRow W _ i _ _ _ v h.c0, e]
  exact ⟨setRow_heap W _ _ _ _ _ h.c0, (setRow_other W _ _ _ (by omega)).trans h.c1, bel_row h.below (Nat.le_refl _) _⟩
theorem put_zero (r : RecR) : putAt zeroRec 0 (recCells r).toList = recCells r := by kernel_rfl
/-- what is returned is laid -/
theorem RSt1.give (h : RSt1 w r W) : (W.setRow (w.heap.size + 1) (recCells r)).heap[w.heap.size + 1]? = some (.cells (recCells r) 26 (0, 0)) ∧ Below w.heap.size w (W.setRow (w.heap.size + 1) (recCells r)) :=
  ⟨setRow_heap W _ _ _ _ _ h.c1, bel_row h.below (by omega) _⟩
theorem RSt1.gives (h : RSt1 w r W) : (W.setCells (w.heap.size + 1) 0 (recCells r).toList).heap[w.heap.size + 1]? = some (.cells (recCells r) 26 (0, 0)) ∧ Below w.heap.size w (W.setCells (w.heap.size + 1) 0 (recCells r).toList) :=
  ⟨(setCells_at _ _ _ _ h.c1).trans (by rw [put_zero]), setCells_bel (by omega) _ _ _ h.below⟩
theorem RSt1.nil_ (h : RSt1 w r W) : (W.setRow (w.heap.size + 1) zeroRec).heap[w.heap.size + 1]? = some (.cells zeroRec 26 (0, 0)) ∧ Below w.heap.size w (W.setRow (w.heap.size + 1) zeroRec) :=
  ⟨setRow_heap W _ _ _ _ _ h.c1, bel_row h.below (by omega) _⟩
theorem RSt1.cells (h : RSt1 w r W) : W.cell? ⟨w.heap.size, 0, none⟩ = some (.int .i64 r.gen) ∧ W.cell? ⟨w.heap.size, 1, none⟩ = some (.int .i64 r.act) ∧ W.cell? ⟨w.heap.size, 2, none⟩ = some (.bool r.trying) ∧ W.cell? ⟨w.heap.size, 3, none⟩ = some (.int .i64 r.tries) ∧ W.cell? ⟨w.heap.size, 4, none⟩ = some (.int .i64 r.floor) ∧ W.cell? ⟨w.heap.size, 5, none⟩ = some (.int .i64 r.i0.ver) ∧ W.cell? ⟨w.heap.size, 8, none⟩ = some (.int .i64 r.i1.ver) ∧ (∀ i, W.frozen? ⟨w.heap.size, i, none⟩ = false) := by
  refine ⟨?_, ?_, ?_, ?_, ?_, ?_, ?_, fun i => ?_⟩
  all_goals simp [World.cell?, World.frozen?, h.c0, recCells]
theorem size_rec (r : RecR) : (Try.prog.info? 26).map (·.size) = some (recCells r).size := by kernel_rfl
theorem size_recL (r : RecR) : (Try.prog.info? 26).map (·.size) = some (recCells r).toList.length := by kernel_rfl
theorem one_rec (r : RecR) : (recCells r).all (·.oneCell') = true := by kernel_rfl
theorem one_recL (r : RecR) : ∀ v ∈ (recCells r).toList, v.oneCell' = true := by
  intro v hv
  exact List.all_eq_true.1 (by kernel_rfl : (recCells r).toList.all (·.oneCell') = true) v hv
theorem size_zero : (Try.prog.info? 26).map (·.size) = some zeroRec.size := by kernel_rfl
theorem one_zero : zeroRec.all (·.oneCell') = true := by kernel_rfl
end
end Go.Proofs.Ytmpmaljkmfgagac
