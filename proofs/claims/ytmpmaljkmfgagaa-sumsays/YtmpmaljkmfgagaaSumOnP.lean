/-
  Contracts of sum.On.
-/
import Derived.Test.YtmpmaljkmfgagaaSumP
namespace Go.Proofs.Ytmpmaljkmfgagaa
open Go.RowKit
open SumM

theorem on_in (s : Int) (a : Option Addr) (n c : Nat) (l : List Int) (w : World) (hs0 : 0 ≤ s) (hs1 : s ≤ 65520) (hr : BS w a n c l) :
    Calls Try.prog 16 #[.int .i64 s, .slice a n c] w fun e w' => e = .returned (.tuple #[.int .i64 (addL s l), .int .i64 0]) ∧ w = w' := by
  have h1 : ¬ s < 0 := by omega
  have h2 : ¬ 65521 ≤ s := by omega
  go_enter Try.func16, Try.ntmps16
  go_wp2_with (go_at_call 48; refine (add_any s a n c l _ hs0 hs1 hr).mono ?_; rintro e w' ⟨rfl, rfl⟩)
  go_ret2
  exact ⟨rfl, rfl⟩

theorem on_out (s : Int) (a : Option Addr) (n c : Nat) (w : World) (h : s < 0 ∨ 65520 < s) :
    Calls Try.prog 16 #[.int .i64 s, .slice a n c] w fun e w' => e = .returned (.tuple #[.int .i64 0, .int .i64 2]) ∧ w = w' := by
  rcases h with h | h
  · go_enter Try.func16, Try.ntmps16
    go_wp2
    go_ret2
    exact ⟨rfl, rfl⟩
  · have h1 : ¬ s < 0 := by omega
    have h2 : 65521 ≤ s := by omega
    go_enter Try.func16, Try.ntmps16
    go_wp2
    go_ret2
    exact ⟨rfl, rfl⟩
end Go.Proofs.Ytmpmaljkmfgagaa
