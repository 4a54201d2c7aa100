/-
  Contracts of package sum and of the reference's sums.
-/
import Derived.Test.YtmpmaljkmfgagaaSumP
import Derived.Test.YtmpmaljkmfgagaaSumOnP
import Derived.Test.YtmpmaljkmfgagaaSumR
namespace Go.Proofs.Ytmpmaljkmfgagaa
open Go.RowKit
open SumM

theorem two_bs (w : World) (b : Nat) (x y : Int) (h0 : w.cell? ⟨b, 0, none⟩ = some (.int .u8 x)) (h1 : w.cell? ⟨b, 1, none⟩ = some (.int .u8 y)) (hx : 0 ≤ x ∧ x ≤ 255) (hy : 0 ≤ y ∧ y ≤ 255) :
    BS w (some ⟨b, 0, none⟩) 2 2 [x, y] := by
  refine ⟨rfl, by omega, by omega, by simp [hx, hy], fun _ => ⟨b, 0, rfl, ?_⟩, fun h => by cases h⟩
  intro i hi
  match i, hi with
  | 0, _ => simpa using h0
  | 1, _ => simpa using h1
end Go.Proofs.Ytmpmaljkmfgagaa
