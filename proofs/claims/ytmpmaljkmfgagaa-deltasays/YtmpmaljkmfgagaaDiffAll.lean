/-
  Diff at any two images, errors too, for the program and for the reference.
-/
import Derived.Test.YtmpmaljkmfgagaaDeltaDiff
import Derived.Test.YtmpmaljkmfgagaaDiffed
namespace Go.Proofs.Ytmpmaljkmfgagaa
open Go.RowKit

def GivesDE (old b : List Int) (w : World) (e : Ending) (w' : World) : Prop :=
  ∃ out err a n c, DiffIs old b out err ∧ e = .returned (.tuple #[.slice a n c, .int .i64 err]) ∧ OS w' a n c out ∧ Below w.heap.size w w'

theorem diff_all (a a' : Option Addr) (n c n' c' : Nat) (x y : List Int) (w : World) (hx : BS w a n c x) (hy : BS w a' n' c' y) :
    Calls Try.prog 36 #[.slice a n c, .slice a' n' c'] w (GivesDE x y w) := by
  have e1 := hx.len
  have e2 := hy.len
  by_cases h : 64 < n ∨ 64 < n'
  · refine (diff_many a a' n c n' c' w h).mono ?_
    rintro e w' ⟨rfl, hb⟩
    exact ⟨[], 1, none, 0, 0, .inl ⟨by rw [e1, e2]; exact h, rfl, rfl⟩, rfl, OS.nil_ _, hb⟩
  · refine (diff_any a a' n c n' c' x y w hx hy (by omega) (by omega)).mono ?_
    rintro e w' ⟨out, a1, n1, c1, h1, rfl, h2, h3, h4⟩
    exact ⟨out, 0, a1, n1, c1, .inr ⟨by rw [e1, e2]; exact h, h1, rfl⟩, rfl, h2, h4⟩
theorem diffed_all (a a' : Option Addr) (n c n' c' : Nat) (x y : List Int) (w : World) (hx : BS w a n c x) (hy : BS w a' n' c' y) (hM : MaxCell w) :
    Calls Try.prog 38 #[.slice a n c, .slice a' n' c'] w (GivesDE x y w) := by
  have e1 := hx.len
  have e2 := hy.len
  by_cases h : 64 < n ∨ 64 < n'
  · refine (diffed_many a a' n c n' c' w h).mono ?_
    rintro e w' ⟨rfl, rfl⟩
    exact ⟨[], 1, none, 0, 0, .inl ⟨by rw [e1, e2]; exact h, rfl, rfl⟩, rfl, OS.nil_ _, Below.refl _ _⟩
  · refine (diffed_any a a' n c n' c' x y w hx hy (by omega) (by omega) hM).mono ?_
    rintro e w' ⟨out, a1, n1, c1, h1, rfl, h2, h3, h4⟩
    exact ⟨out, 0, a1, n1, c1, .inr ⟨by rw [e1, e2]; exact h, h1, rfl⟩, rfl, h2, h4⟩
end Go.Proofs.Ytmpmaljkmfgagaa
