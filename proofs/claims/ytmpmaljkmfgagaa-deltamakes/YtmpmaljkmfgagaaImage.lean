/-
  The statements' image: the first 64 bytes.
-/
import Derived.Test.YtmpmaljkmfgagaaCutB
namespace Go.Proofs.Ytmpmaljkmfgagaa
open Go.RowKit

theorem image_any (a : Option Addr) (n c : Nat) (l : List Int) (w : World) (h : BS w a n c l) :
    Calls Try.prog 33 #[.slice a n c] w fun e w' => e = .returned (.slice a (min n 64) c) ∧ w = w' := by
  have h1 := h.le
  have h2 := h.max
  clear h
  by_cases hn : n ≤ 64
  · have hcut : ∀ W, (Instr.slice 27 (.slice a n c) none (some (.int .i64 (n : Int))) none).run Try.prog W = .ok (.slice a n c) W := fun W => run_cut_h a n c W n h1
    have e1 : min n 64 = n := by omega
    have e2 : min (n : Int) 64 = n := by omega
    rw [e1]
    go_enter Try.func33, Try.ntmps33
    go_wp2
    go_ret
    exact ⟨rfl, rfl⟩
  · have hcut : ∀ W, (Instr.slice 27 (.slice a n c) none (some (.int .i64 64)) none).run Try.prog W = .ok (.slice a 64 c) W := fun W => run_cut_h a n c W 64 (by omega)
    have e1 : min n 64 = 64 := by omega
    have e2 : min (n : Int) 64 = 64 := by omega
    rw [e1]
    go_enter Try.func33, Try.ntmps33
    go_wp2
    go_ret
    exact ⟨rfl, rfl⟩
end Go.Proofs.Ytmpmaljkmfgagaa
