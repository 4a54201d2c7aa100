/-
  bytes.Equal of two slices that read alike returns true and only reads.
-/
import Derived.Test.YtmpmaljkmfgagaaRow
import Derived.Shelf.Bytes.SlEqualAll
namespace Go.Proofs.Ytmpmaljkmfgagaa
open Go.RowKit

theorem BS.string {w : World} {a : Option Addr} {n c : Nat} {l : List Int} (h : BS w a n c l) : (convert 27 9 (.slice a n c)).run Try.prog w = .ok (.string (strOfNums l)) w := by
  rcases Nat.eq_zero_or_pos n with hn | hn
  · subst hn
    obtain rfl : l = [] := List.eq_nil_of_length_eq_zero h.len
    exact run_convert_bytes_zero w 27 5 Try.underlying27 Try.underlying5 a c 9 Try.underlying9
  · obtain ⟨b, o, rfl, hc⟩ := h.cells hn
    exact run_convert_bytes_arg (P := Try.prog) w 27 5 Try.underlying27 Try.underlying5 b o n c l h.len (fun i hi => by simpa using hc i (by have := h.len; omega)) 9 Try.underlying9

set_option maxHeartbeats 400000 in
theorem eqBytes_same (a a' : Option Addr) (n c n' c' : Nat) (l : List Int) (w : World) (h1 : BS w a n c l) (h2 : BS w a' n' c' l) :
    Calls Try.prog 27 #[.slice a n c, .slice a' n' c'] w fun e w' => e = .returned (.bool true) ∧ w = w' := by
  have s1 := h1.string
  have s2 := h2.string
  clear h1 h2
  generalize strOfNums l = s at s1 s2
  go_enter Try.func27, Try.ntmps27
  go_wp2
  go_ret
  exact ⟨by simp, rfl⟩
end Go.Proofs.Ytmpmaljkmfgagaa
