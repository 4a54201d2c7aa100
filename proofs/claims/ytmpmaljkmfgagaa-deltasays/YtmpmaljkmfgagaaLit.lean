/-
  A literal of bytes that was put as a text.
-/
import Derived.Test.YtmpmaljkmfgagaaRow
import Derived.Lib.SlBytesConst
namespace Go.Proofs.Ytmpmaljkmfgagaa
open Go.RowKit

/-- a literal that was put as a text: its row bears a mark -/
theorem lit_bs_marked (w : World) (zs : List Int) (n : Nat) (fz : Nat × Nat) (hn : zs.length = n) (hm : n ≤ 1000) (hz : ∀ x ∈ zs, 0 ≤ x ∧ x ≤ 255) :
    BS (w.alloc (.cells (zs.map (Value.int .u8)).toArray 5 fz)) (some ⟨w.heap.size, 0, none⟩) n n zs := by
  refine ⟨hn, Nat.le_refl _, by omega, hz, fun _ => ⟨w.heap.size, 0, rfl, fun i hi => ?_⟩, fun h => by cases h⟩
  have hi' : i < zs.length := by omega
  rw [Nat.zero_add]
  simp only [World.cell?, heap_at, if_pos]
  simp [List.getElem?_eq_getElem hi']
theorem lit_bs (w : World) (zs : List Int) (n : Nat) (hn : zs.length = n) (hm : n ≤ 1000) (hz : ∀ x ∈ zs, 0 ≤ x ∧ x ≤ 255) :
    BS (w.alloc (.cells (zs.map (Value.int .u8)).toArray 5)) (some ⟨w.heap.size, 0, none⟩) n n zs := by
  refine ⟨hn, Nat.le_refl _, by omega, hz, fun _ => ⟨w.heap.size, 0, rfl, fun i hi => ?_⟩, fun h => by cases h⟩
  have hi' : i < zs.length := by omega
  rw [Nat.zero_add]
  simp only [World.cell?, heap_at, if_pos]
  simp [List.getElem?_eq_getElem hi']

end Go.Proofs.Ytmpmaljkmfgagaa
