/-
  A patch that is handed over as a value; how an argument is opened to it.
-/
import Derived.Test.YtmpmaljkmfgagabOps
import Derived.WideShapes
namespace Go.Proofs.Ytmpmaljkmfgagab
open Go.RowKit

/-- a patch -/
structure PatR where
  from_ : Int
  to_ : Int
  old : Int
  new : Int
  size : Int
  ops : List OpR
instance : Inhabited PatR := ⟨⟨0, 0, 0, 0, 0, []⟩⟩
/-- a value that reads as a patch -/
def PV (w : World) (v : Value) (p : PatR) : Prop :=
  ∃ a n c, v = .agg #[.int .i64 p.from_, .int .i64 p.to_, .int .i64 p.old, .int .i64 p.new, .int .i64 p.size, .slice a n c] ∧ OS w a n c p.ops ∧ I64 p.from_ ∧ I64 p.to_ ∧ I64 p.old ∧ I64 p.new ∧ I64 p.size
theorem PV.later {w w' : World} {v : Value} {p : PatR} (h : PV w v p) (hb : Below w.heap.size w w') : PV w' v p := by
  obtain ⟨a, n, c, h1, h2, h3⟩ := h
  exact ⟨a, n, c, h1, h2.later hb, h3⟩
/-- the patch that is none -/
def noPat : PatR := ⟨0, 0, 0, 0, 0, []⟩

section
variable {H : Type} {enc : TypeId × Value → H} {w : World} {sp : Nat → Bool} {held : Bool}
set_option maxRecDepth 100000 in
theorem open_pv {r : Reach} {b0 : Nat} {v : Value} {d : DataW H} {ps : List MemPlace} (hv : Value.okWide Try.prog w r b0 41 v) (h : DataW.Trod enc Try.prog w 0 sp held 41 v d ps) : ∃ p, PV w v p := by
  have hC : Try.prog.cellsOf 41 = 6 := by kernel_rfl
  have c3 : Try.prog.cellsOf 3 = 1 := by kernel_rfl
  have cs : Try.prog.cellsOf 23 = 1 := by kernel_rfl
  obtain ⟨⟨l⟩, rfl, hsz⟩ := WideShapes.okWide_struct Try.underlying41 hv
  obtain ⟨fuel, hf⟩ := h
  obtain ⟨xs, n, _, _, _, hlen, hg⟩ := DataW.trod_struct Try.underlying41 hf
  match l, hsz.trans hC with
  | [u0, u1, u2, u3, u4, u5], _ =>
    match xs, hlen with
    | [y0, y1, y2, y3, y4, y5], _ =>
      have t0 : DataW.trod enc Try.prog w 0 sp held n 3 (([u0, u1, u2, u3, u4, u5].drop 0).take (Try.prog.cellsOf 3)) = some y0 := hg 0 _ rfl
      have t1 : DataW.trod enc Try.prog w 0 sp held n 3 (([u0, u1, u2, u3, u4, u5].drop 1).take (Try.prog.cellsOf 3)) = some y1 := hg 1 _ rfl
      have t2 : DataW.trod enc Try.prog w 0 sp held n 3 (([u0, u1, u2, u3, u4, u5].drop 2).take (Try.prog.cellsOf 3)) = some y2 := hg 2 _ rfl
      have t3 : DataW.trod enc Try.prog w 0 sp held n 3 (([u0, u1, u2, u3, u4, u5].drop 3).take (Try.prog.cellsOf 3)) = some y3 := hg 3 _ rfl
      have t4 : DataW.trod enc Try.prog w 0 sp held n 3 (([u0, u1, u2, u3, u4, u5].drop 4).take (Try.prog.cellsOf 3)) = some y4 := hg 4 _ rfl
      have t5 : DataW.trod enc Try.prog w 0 sp held n 23 (([u0, u1, u2, u3, u4, u5].drop 5).take (Try.prog.cellsOf 23)) = some y5 := hg 5 _ rfl
      rw [c3] at t0 t1 t2 t3 t4
      rw [cs] at t5
      simp only [List.drop_zero, List.drop_succ_cons, List.take_succ_cons, List.take_zero] at t0 t1 t2 t3 t4 t5
      obtain ⟨n0, e0, _, w0⟩ := DataW.trod_int Try.underlying3 t0
      obtain ⟨n1, e1, _, w1⟩ := DataW.trod_int Try.underlying3 t1
      obtain ⟨n2, e2, _, w2⟩ := DataW.trod_int Try.underlying3 t2
      obtain ⟨n3, e3, _, w3⟩ := DataW.trod_int Try.underlying3 t3
      obtain ⟨n4, e4, _, w4⟩ := DataW.trod_int Try.underlying3 t4
      simp only [List.cons.injEq, and_true] at e0 e1 e2 e3 e4
      subst e0 e1 e2 e3 e4
      obtain ⟨a, m, c, ops, rfl, ho⟩ := open_os t5
      exact ⟨⟨n0, n1, n2, n3, n4, ops⟩, a, m, c, rfl, ho, I64.of_wf w0, I64.of_wf w1, I64.of_wf w2, I64.of_wf w3, I64.of_wf w4⟩
end
end Go.Proofs.Ytmpmaljkmfgagab
