/-
  bytes.Contains at any two slices of bytes, by the shelf's contract.
-/
import Derived.Test.YtmpmaljkmfgagaaIndex
namespace Go.Proofs
open Go.Shelf
shelf_lay LaysM.n186 Nm 186 at Try as Try.laysM186
end Go.Proofs
namespace Go.Proofs.Ytmpmaljkmfgagaa
open Go.RowKit Go.Shelf

theorem ren_contains : Try.laysM186_ren.f 186 = 34 := rfl
theorem ren_same : Try.laysM186_ren.g 1 = Try.laysM185_ren.g 1 := rfl
theorem contains_any (a a' : Option Addr) (n c n' c' : Nat) (x y : List Int) (w : World) (hx : BS w a n c x) (hy : BS w a' n' c' y) (hn : n ≤ 64) (h0 : 0 < n') (hm : MaxCell w) :
    Calls Try.prog 34 #[.slice a n c, .slice a' n' c'] w fun e w' => e = .returned (.bool (Lib.contains (Lib.bytesOf x) (Lib.bytesOf y))) ∧ DrewN w w' := by
  rw [← ren_contains]
  obtain ⟨m, hm⟩ := hm
  rw [← ren_same] at hm
  have hk : n' ≤ 9223372036854775807 := by have := hy.le; have := hy.max; omega
  obtain ⟨b2, o2, rfl, hc2⟩ := hy.cells h0
  cases a with
  | none =>
    have hc := hx.none_ rfl
    have hle := hx.le
    obtain rfl : c = 0 := hc
    obtain rfl : n = 0 := by omega
    obtain rfl : x = [] := List.eq_nil_of_length_eq_zero hx.len
    refine (Any.bytes_Contains_nil { Try.laysM186 with } (some ⟨b2, o2, none⟩) n' c' w hk (fun _ => ⟨b2, o2, _, rfl, by simpa using hc2 0 h0⟩)).mono ?_
    rintro e w' ⟨rfl, rfl⟩
    refine ⟨?_, 0, rfl⟩
    rw [decide_eq_false (by omega)]
    cases y with
    | nil => have := hy.len; simp at this; omega
    | cons v t => rfl
  | some a1 =>
    exact Any.bytes_Contains_at { Try.laysM186 with } a1 _ n c n' c' x y m w hx.len hy.len hx.lt256 hy.lt256 hx.cellsAt hy.cellsAt hx.le (by omega) hk hm
end Go.Proofs.Ytmpmaljkmfgagaa
