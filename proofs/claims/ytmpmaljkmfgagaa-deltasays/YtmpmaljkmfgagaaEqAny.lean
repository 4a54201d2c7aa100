/-
  bytes.Equal of any two slices of bytes: whether they read alike.
-/
import Derived.Test.YtmpmaljkmfgagaaEqBytes
import Derived.Test.YtmpmaljkmfgagaaMatchMath
import Derived.Test.YtmpmaljkmfgagaaCutB
import Derived.Ground.NamesProg
import Derived.Shelf.Lay
namespace Go.Proofs
open Go.Shelf
shelf_lay Lays.nb115 Nm 115 at Try as Try.laysEq
end Go.Proofs
namespace Go.Proofs.Ytmpmaljkmfgagaa
open Go.RowKit

theorem bytesOf_inj {x y : List Int} (hx : ∀ v ∈ x, 0 ≤ v ∧ v ≤ 255) (hy : ∀ v ∈ y, 0 ≤ v ∧ v ≤ 255) (h : Lib.bytesOf x = Lib.bytesOf y) : x = y := by
  have h1 := (MatchM.bytesOf_prefix x y hx hy).1 (by rw [h]; exact List.prefix_rfl)
  have h2 := congrArg List.length h
  rw [MatchM.bytesOf_length, MatchM.bytesOf_length] at h2
  exact h1.eq_of_length h2

theorem ren_equal : Try.laysEq_ren.f 115 = 27 := rfl
theorem BS.bytesIn {w : World} {a : Option Addr} {n c : Nat} {l : List Int} (h : BS w a n c l) : Lib.BytesIn w a n l := by
  cases a with
  | none =>
    have h1 := h.none_ rfl
    have h2 := h.le
    obtain rfl : n = 0 := by omega
    exact Lib.BytesIn.nil w _ _
  | some x => exact Lib.BytesIn.of_cells h.cellsAt

theorem eqBytes_any (a a' : Option Addr) (n c n' c' : Nat) (x y : List Int) (w : World) (h1 : BS w a n c x) (h2 : BS w a' n' c' y) :
    Calls Try.prog 27 #[.slice a n c, .slice a' n' c'] w fun e w' => e = .returned (.bool (decide (x = y))) ∧ w = w' := by
  rw [← ren_equal]
  refine (Any.bytes_Equal_all { Try.laysEq with } a a' n c n' c' x y w h1.len h2.len h1.bytesIn h2.bytesIn).mono ?_
  rintro e w' ⟨rfl, rfl⟩
  refine ⟨?_, rfl⟩
  by_cases hxy : x = y
  · subst hxy
    simp
  · have : (Lib.bytesOf x == Lib.bytesOf y) = false := by
      rw [beq_eq_false_iff_ne]
      exact fun h => hxy (bytesOf_inj h1.bytes h2.bytes h)
    rw [this, decide_eq_false hxy]
end Go.Proofs.Ytmpmaljkmfgagaa
