/-
  Records and copies as values; what their numbers are.
-/
import Derived.Test.YtmpmaljkmfgagacRecMath
namespace Go.Proofs.Ytmpmaljkmfgagac
open Go.RowKit

theorem bel_then {w w1 w2 : World} (h : Below w.heap.size w w1) (h2 : Below w1.heap.size w1 w2) : Below w.heap.size w w2 := h.trans (h2.mono h.size)
/-- what is in a slot, as a value -/
def infV (i : InfR) : Value := .agg #[.int .i64 i.ver, .int .i64 i.size, .int .i64 i.sum]
/-- a record, as a value -/
def recV (r : RecR) : Value := .agg #[.int .i64 r.gen, .int .i64 r.act, .bool r.trying, .int .i64 r.tries, .int .i64 r.floor, .int .i64 r.i0.ver, .int .i64 r.i0.size, .int .i64 r.i0.sum, .int .i64 r.i1.ver, .int .i64 r.i1.size, .int .i64 r.i1.sum]
/-- a copy, as a value -/
def copV (c : CopR) : Value := .agg #[.bool c.ok, .int .i64 c.r.gen, .int .i64 c.r.act, .bool c.r.trying, .int .i64 c.r.tries, .int .i64 c.r.floor, .int .i64 c.r.i0.ver, .int .i64 c.r.i0.size, .int .i64 c.r.i0.sum, .int .i64 c.r.i1.ver, .int .i64 c.r.i1.size, .int .i64 c.r.i1.sum]
/-- the cells of both copies -/
def copsCells (l : CopsR) : Array Value := #[.bool l.c0.ok, .int .i64 l.c0.r.gen, .int .i64 l.c0.r.act, .bool l.c0.r.trying, .int .i64 l.c0.r.tries, .int .i64 l.c0.r.floor, .int .i64 l.c0.r.i0.ver, .int .i64 l.c0.r.i0.size, .int .i64 l.c0.r.i0.sum, .int .i64 l.c0.r.i1.ver, .int .i64 l.c0.r.i1.size, .int .i64 l.c0.r.i1.sum,
  .bool l.c1.ok, .int .i64 l.c1.r.gen, .int .i64 l.c1.r.act, .bool l.c1.r.trying, .int .i64 l.c1.r.tries, .int .i64 l.c1.r.floor, .int .i64 l.c1.r.i0.ver, .int .i64 l.c1.r.i0.size, .int .i64 l.c1.r.i0.sum, .int .i64 l.c1.r.i1.ver, .int .i64 l.c1.r.i1.size, .int .i64 l.c1.r.i1.sum]
/-- both copies, as a value -/
def copsV (l : CopsR) : Value := .agg (copsCells l)
/-- numbers that an int can be -/
def InfW (i : InfR) : Prop := I64 i.ver ∧ I64 i.size ∧ I64 i.sum
def RecW (r : RecR) : Prop := I64 r.gen ∧ I64 r.act ∧ I64 r.tries ∧ I64 r.floor ∧ InfW r.i0 ∧ InfW r.i1
def CopsW (l : CopsR) : Prop := RecW l.c0.r ∧ RecW l.c1.r
theorem noRec_w : RecW RecM.noRec := by unfold RecW InfW I64 RecM.noRec RecM.noInf; simp
/-- whoever is right has numbers that an int can be -/
theorem RecW.of_ok {r : RecR} (h : RecM.check r = 0) : RecW r := by
  have h1 := RecM.check_nums h
  obtain ⟨-, h2, h3, -⟩ := RecM.check_zero.1 h
  have h4 := RecM.inf_nums h2
  have h5 := RecM.inf_nums h3
  unfold RecW InfW I64
  omega
end Go.Proofs.Ytmpmaljkmfgagac
