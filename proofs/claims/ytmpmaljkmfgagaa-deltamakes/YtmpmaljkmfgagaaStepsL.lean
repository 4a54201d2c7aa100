/-
  The steps of the closed facts; a literal of steps.
-/
import Derived.Test.YtmpmaljkmfgagaaOpsOwn
import Derived.Test.YtmpmaljkmfgagaaLit
namespace Go.Proofs.Ytmpmaljkmfgagaa
open Go.RowKit

/-- the steps of the closed facts -/
def stepsL : List OpR := [⟨0, 0, [120]⟩, ⟨4, 4, []⟩, ⟨0, 4, []⟩]

theorem block_cell (w : World) (cs : Array Value) (t : Nat) (fz : Nat × Nat) (j : Nat) : (w.alloc (.cells cs t fz)).cell? ⟨w.heap.size, j, none⟩ = cs[j]? := by
  simp only [World.cell?, heap_at, if_pos]
  simp
/-- a literal of steps -/
theorem lit_os (W : World) (vs : List OpV) (l : List OpR) (n : Nat) (hv : vs.length = n) (hl : l.length = n) (hn : n ≤ 1000)
    (hr : ∀ i, i < n → ∃ a m c, vs.getD i default = ⟨(l.getD i default).at_, (l.getD i default).len, .slice a m c⟩ ∧ BS W a m c (l.getD i default).data ∧ I64 (l.getD i default).at_ ∧ I64 (l.getD i default).len) :
    OS (W.alloc (.cells (cellsV vs).toArray 56)) (some ⟨W.heap.size, 0, none⟩) n n l := by
  have hb : Below W.heap.size W (W.alloc (.cells (cellsV vs).toArray 56)) := (Below.refl _ _).alloc (Nat.le_refl _) _
  refine ⟨hl, Nat.le_refl _, by omega, fun _ => ⟨_, 0, rfl, fun i hi => ?_⟩, fun h => by cases h⟩
  obtain ⟨a, m, c, he, hbs, h1, h2⟩ := hr i hi
  obtain ⟨g0, g1, g2⟩ := cellsV_get vs i (by omega)
  rw [he] at g0 g1 g2
  refine ⟨a, m, c, ?_, ?_, ?_, hbs.later hb, h1, h2⟩
  · rw [block_cell, Nat.zero_add]; simpa using g0
  · rw [block_cell, Nat.zero_add]; simpa using g1
  · rw [block_cell, Nat.zero_add]; simpa using g2
end Go.Proofs.Ytmpmaljkmfgagaa
