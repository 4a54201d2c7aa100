/-
  slices.Clone of bytes.
-/
import Derived.Test.YtmpmaljkmfgagaaCat
namespace Go.Proofs.Ytmpmaljkmfgagaa
open Go.RowKit

set_option maxHeartbeats 400000 in
theorem clone_any (a : Option Addr) (n c : Nat) (l : List Int) (w : World) (hs : BS w a n c l) (hn : n ≤ 140737488355328) :
    Calls Try.prog 22 #[.slice a n c] w (GivesB w l) := by
  have hq := fun (A : Option Addr) (n c : Nat) (w : World) => Lib.run_eql_slice_nil (P := Try.prog) w 27 5 A n c 0 0 Try.underlying27
  cases a with
  | none =>
    have hc := hs.none_ rfl
    subst hc
    obtain rfl : n = 0 := by have := hs.le; omega
    obtain rfl : l = [] := List.eq_nil_of_length_eq_zero hs.len
    go_enter Try.func22, Try.ntmps22
    go_wp2
    go_ret
    exact ⟨none, 0, 0, rfl, World.ownsRow_nil _ _ _ _, Below.refl _ _⟩
  | some ad =>
    have hown := World.ownsRow_lit (base := w.heap.size) (e := 5) (size := 1) w #[] 0 (Nat.le_refl _) (by unfold maxLen; omega) rfl
    have hb1 := (Below.refl w.heap.size w).alloc (Nat.le_refl _) (.cells #[] 5)
    obtain ⟨a', c', w', hrun, hown', hg⟩ := app_run (l := []) hown (hs.later hb1) (by omega) (by simp)
    have hb' := hb1.grown hg (by simp) (fun g hg => (hown.lt g hg).1)
    have HO := Lib.hid hown'
    clear hown' hown
    go_enter Try.func22, Try.ntmps22
    go_wp2_with (at_builtin; refine Lib.wpList_append_run _ rfl _ _ _ _ rfl _ _ rfl rfl _ _ hrun ?_)
    go_ret
    exact ⟨a', n, c', rfl, by simpa using HO.out, hb'⟩
end Go.Proofs.Ytmpmaljkmfgagaa
