/-
  Cuts of slices of ints, each as one equation for the walk; what a cut reads as.
-/
import Derived.Test.YtmpmaljkmfgagabCutB
import Derived.Test.YtmpmaljkmfgagabInts
namespace Go.Proofs.Ytmpmaljkmfgagab
open Go.RowKit

theorem size_run_int (w : World) : (Go.sizeOf 3).run Try.prog w = .ok 1 w := by
  obtain ⟨i0, hi, hz0, hz1, hz2⟩ := info_parts Try.info_int
  simp [Go.sizeOf, typeInfo, hi, hz1]
section
variable (a : Option Addr) (n c : Nat) (W : World)
theorem run_cutN_l (k : Nat) (hk : k ≤ n) : (Instr.slice 53 (.slice a n c) (some (.int .i64 (k : Int))) none none).run Try.prog W = .ok (.slice (cutA a c k) (n - k) (c - k)) W := by
  have ht : Try.prog.underlying 53 = some (.slice (Try.prog.elem 53)) := by simp [Program.elem, Try.underlying53]
  have he : Try.prog.elem 53 = 3 := by simp [Program.elem, Try.underlying53]
  rw [run_slice_l W 53 _ _ _ ht .i64 _ (by omega) (by omega), he, size_run_int]
  simp [Result.andThen, sliced, cutA]
theorem run_cutN_h (h : Nat) (hh : h ≤ c) : (Instr.slice 53 (.slice a n c) none (some (.int .i64 (h : Int))) none).run Try.prog W = .ok (.slice a h c) W := by
  have ht : Try.prog.underlying 53 = some (.slice (Try.prog.elem 53)) := by simp [Program.elem, Try.underlying53]
  have he : Try.prog.elem 53 = 3 := by simp [Program.elem, Try.underlying53]
  rw [run_slice_h W 53 _ _ _ ht .i64 _ (by omega) (by omega), he, size_run_int]
  cases a <;> simp [Result.andThen, sliced, Addr.add]
end
section
variable {w : World} {a : Option Addr} {n c : Nat} {l : List Int}
theorem NS.cut (h : NS w a n c l) (k : Nat) (hk : k ≤ n) : NS w (cutA a c k) (n - k) (c - k) (l.drop k) := by
  have h1 := h.len
  have h2 := h.le
  have h3 := h.max
  refine ⟨by simp; omega, by omega, by omega, fun hp => ?_, ?_⟩
  · obtain ⟨b, off, rfl, hc⟩ := h.cells (by omega)
    refine ⟨b, off + k, by unfold cutA; rw [if_neg (by omega), Option.map_some, addr_add], fun i hi => ?_⟩
    rw [Nat.add_assoc, hc (k + i) (by omega)]
    simp [List.getD_eq_getElem?_getD, List.getElem?_drop]
  · intro he
    have : a = none := by
      unfold cutA at he
      split at he
      · exact he
      · simpa using he
    have := h.none_ this
    omega
theorem NS.head (h : NS w a n c l) (k : Nat) (hk : k ≤ n) : NS w a k c (l.take k) := by
  have h1 := h.len
  have h2 := h.le
  refine ⟨by simp; omega, by omega, h.max, fun hp => ?_, h.none_⟩
  obtain ⟨b, off, rfl, hc⟩ := h.cells (by omega)
  exact ⟨b, off, rfl, fun i hi => by rw [hc i (by omega)]; simp [List.getD_eq_getElem?_getD, List.getElem?_take_of_lt hi]⟩
end
end Go.Proofs.Ytmpmaljkmfgagab
