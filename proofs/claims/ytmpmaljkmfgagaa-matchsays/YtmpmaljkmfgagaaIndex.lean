/-
  bytes.Index at any two slices of bytes, by the shelf's contract; the cell of the library's own variable.
-/
import Derived.Test.YtmpmaljkmfgagaaCutB
import Derived.Ground.NamesProg
import Derived.Shelf.Lay
import Derived.Shelf.Bytes.SlIndexWhole
namespace Go.Proofs
open Go.Shelf
shelf_lay LaysM.n185 Nm 185 at Try as Try.laysM185
end Go.Proofs
namespace Go.Proofs.Ytmpmaljkmfgagaa
open Go.RowKit Go.Shelf

/-- the cell of internal/bytealg.MaxLen holds some number -/
def MaxCell (w : World) : Prop := ∃ m, w.cell? ⟨Try.laysM185_ren.g 1, 0, none⟩ = some (.int .i64 m)
theorem MaxCell.of_shaped {w : World} (h : w.ShapedOpen Try.prog) : MaxCell w := Try.laysM185.s1_3 w h
theorem MaxCell.later {w w' : World} (h : MaxCell w) (hb : Below w.heap.size w w') : MaxCell w' := by
  obtain ⟨m, hm⟩ := h
  exact ⟨m, cell_later hb hm⟩
theorem ren_index : Try.laysM185_ren.f 185 = 35 := rfl

theorem index_any (a a' : Option Addr) (n c n' c' : Nat) (x y : List Int) (w : World) (hx : BS w a n c x) (hy : BS w a' n' c' y) (hn : n ≤ 64) (hm : MaxCell w) :
    Calls Try.prog 35 #[.slice a n c, .slice a' n' c'] w fun e w' => e = .returned (.int .i64 (Lib.index (Lib.bytesOf x) (Lib.bytesOf y))) ∧ DrewN w w' := by
  rw [← ren_index]
  obtain ⟨m, hm⟩ := hm
  have hk : n' ≤ 9223372036854775807 := by have := hy.le; have := hy.max; omega
  rcases Nat.eq_zero_or_pos n' with h0 | h0
  · subst h0
    obtain rfl : y = [] := List.eq_nil_of_length_eq_zero hy.len
    refine (Any.bytes_Index_none { Try.laysM185 with } a a' n c c' w).mono ?_
    rintro e w' ⟨rfl, rfl⟩
    exact ⟨by rw [show Lib.index (Lib.bytesOf x) (Lib.bytesOf []) = 0 from Lib.index_empty _], 0, rfl⟩
  · obtain ⟨b2, o2, rfl, hc2⟩ := hy.cells h0
    cases a with
    | none =>
      have hc := hx.none_ rfl
      have hle := hx.le
      obtain rfl : c = 0 := hc
      obtain rfl : n = 0 := by omega
      obtain rfl : x = [] := List.eq_nil_of_length_eq_zero hx.len
      refine (Any.bytes_Index_nil { Try.laysM185 with } (some ⟨b2, o2, none⟩) n' c' w hk (fun _ => ⟨b2, o2, _, rfl, by simpa using hc2 0 h0⟩)).mono ?_
      rintro e w' ⟨rfl, rfl⟩
      refine ⟨?_, 0, rfl⟩
      rw [if_neg (by omega)]
      cases y with
      | nil => have := hy.len; simp at this; omega
      | cons v t => rfl
    | some a1 =>
      exact Any.bytes_Index_at { Try.laysM185 with } a1 _ n c n' c' x y m w hx.len hy.len hx.lt256 hy.lt256 hx.cellsAt hy.cellsAt hx.le (by omega) hk hm
end Go.Proofs.Ytmpmaljkmfgagaa
