/-
  The memory of a law on records: blocks that the call has made, each with its cells.
-/
import Derived.Test.YtmpmaljkmfgagacRecWSt
import Derived.Deep.Quiet
import Derived.BigQuiet
namespace Go.Proofs.Ytmpmaljkmfgagac
open Go.RowKit

/-- blocks with their cells -/
structure LS (w : World) (L : List (Nat × Array Value × TypeId)) (W : World) : Prop where
  has : ∀ q ∈ L, W.heap[q.1]? = some (.cells q.2.1 q.2.2 (0, 0))
  below : Below w.heap.size w W
section
variable {w W W' : World} {L : List (Nat × Array Value × TypeId)}
theorem LS.start (w : World) : LS w [] w := ⟨(fun _ h => by cases h), Below.refl _ _⟩
theorem LS.later (h : LS w L W) (hb : Below W.heap.size W W') : LS w L W' := ⟨fun q hq => (hb.block _ (blk_ltQ (h.has q hq))).trans (h.has q hq), bel_then h.below hb⟩
theorem LS.drew (h : LS w L W) : LS w L W.drew := h.later (Below.refl _ _).drew
theorem LS.alloc (h : LS w L W) {p : Nat} (hp : W.heap.size = p) (c : Array Value) (t : TypeId) : LS w ((p, c, t) :: L) (W.alloc (.cells c t)) := by
  have hb : Below W.heap.size W (W.alloc (.cells c t)) := (Below.refl _ _).alloc (Nat.le_refl _) _
  refine ⟨fun q hq => ?_, bel_then h.below hb⟩
  rcases List.mem_cons.1 hq with rfl | hq
  · rw [heap_at, if_pos hp.symm]
  · exact (h.later hb).has q hq
theorem LS.get (h : LS w L W) (i : Nat) {q : Nat × Array Value × TypeId} (hq : L[i]? = some q) : W.heap[q.1]? = some (.cells q.2.1 q.2.2 (0, 0)) := h.has q (List.mem_of_getElem? hq)
end
theorem cell_at {W : World} {p k : Nat} {c : Array Value} {t : TypeId} {v : Value} (h : W.heap[p]? = some (.cells c t (0, 0))) (hv : c[k]? = some v) : W.cell? ⟨p, k, none⟩ = some v := by
  simp only [World.cell?, h]
  simpa using hv
section
variable {P : Program} {C : World → Prop} {a : Act} {o : Oper} {K : Act → Prop}
/-- a load of a whole row in a quiet region -/
theorem quiet_row (ty : TypeId) (x : Operand) (ho : o.op = .load ty x) (g : Nat) (hx : a.eval x = .pointer (some ⟨g, 0, none⟩)) (t : TypeId) (cs : Array Value) (fr : Nat × Nat) (d : TypeDesc) (hg : ∀ W, C W → W.heap[g]? = some (.cells cs t fr))
    (hu : P.underlying ty = some d) (hd : (match d with | .struct _ | .array _ _ => true | _ => false) = true) (hi : (P.info? ty).map (·.size) = some cs.size) (h : K (a.put o.dst (.agg cs))) : o.quiet P a C K := by
  refine ⟨.agg cs, fun W hW => ?_, h⟩
  unfold Oper.quietAt execOp
  simp only [ho, hx, Instr.loadAt, Instr.sureAddr, Sem.run_bind, Sem.run_pure, Result.andThen_ok, run_loadVar_row W g t ty cs fr d (hg W hW) hu hd hi, Oper.quietUpon]
  exact ⟨trivial, trivial⟩
/-- a load of so many cells in the midst of a row, in a quiet region -/
theorem quiet_part (ty : TypeId) (x : Operand) (ho : o.op = .load ty x) (g k : Nat) (hx : a.eval x = .pointer (some ⟨g, k, none⟩)) (B : Array Value) (t : TypeId) (fr : Nat × Nat) (hg : ∀ W, C W → W.heap[g]? = some (.cells B t fr)) (cs : Array Value) (hcs : B.extract k (k + cs.size) = cs) (d : TypeDesc)
    (hu : P.underlying ty = some d) (hd : d.isRow = true) (hi : (P.info? ty).map (·.size) = some cs.size) (h : K (a.put o.dst (.agg cs))) : o.quiet P a C K := by
  refine ⟨.agg cs, fun W hW => ?_, h⟩
  have hr := World.rangeAt_of_block (hg W hW) k cs.size
  rw [hcs] at hr
  unfold Oper.quietAt execOp
  simp only [ho, hx, Instr.loadAt, Instr.sureAddr, Sem.run_bind, Sem.run_pure, Result.andThen_ok, run_loadVar_mid W g k ty cs.toList d hr hu hd (by simpa using hi), Oper.quietUpon]
  exact ⟨trivial, by simp⟩
end
theorem like_rec (r : RecR) : (#[.int .i64 0, .int .i64 0, .bool false, .int .i64 0, .int .i64 0, .int .i64 0, .int .i64 0, .int .i64 0, .int .i64 0, .int .i64 0, .int .i64 0] : Array Value).size = (recCells r).size := by kernel_rfl
theorem like_copsL (l : CopsR) : (#[.bool false, .int .i64 0, .int .i64 0, .bool false, .int .i64 0, .int .i64 0, .int .i64 0, .int .i64 0, .int .i64 0, .int .i64 0, .int .i64 0, .int .i64 0, .bool false, .int .i64 0, .int .i64 0, .bool false, .int .i64 0, .int .i64 0, .int .i64 0, .int .i64 0, .int .i64 0, .int .i64 0, .int .i64 0, .int .i64 0] : Array Value).size = (copsCells l).size := by kernel_rfl
end Go.Proofs.Ytmpmaljkmfgagac
