/-
  Cuts of slices of steps.
-/
import Derived.Test.YtmpmaljkmfgagaaOps
namespace Go.Proofs.Ytmpmaljkmfgagaa
open Go.RowKit

/-- where a slice of steps lies that was cut at k -/
def cutO (a : Option Addr) (c k : Nat) : Option Addr := if c = k then a else a.map (·.add (k * 3))

theorem Try.info_op3 : (Try.prog.info? 56).map (fun i => i.size) = some 3 := by kernel_rfl
theorem size_run_op (w : World) : (Go.sizeOf 56).run Try.prog w = .ok 3 w := by
  have h := Try.info_op3
  cases hi : Try.prog.info? 56 with
  | none => rw [hi] at h; cases h
  | some i0 =>
    rw [hi] at h
    simp at h
    simp [Go.sizeOf, typeInfo, hi, h]
section
variable (a : Option Addr) (n c : Nat) (W : World)
theorem run_cutO_l (k : Nat) (hk : k ≤ n) : (Instr.slice 48 (.slice a n c) (some (.int .i64 (k : Int))) none none).run Try.prog W = .ok (.slice (cutO a c k) (n - k) (c - k)) W := by
  have ht : Try.prog.underlying 48 = some (.slice (Try.prog.elem 48)) := by simp [Program.elem, Try.underlying48]
  have he : Try.prog.elem 48 = 56 := by simp [Program.elem, Try.underlying48]
  rw [run_slice_l W 48 _ _ _ ht .i64 _ (by omega) (by omega), he, size_run_op]
  simp [Result.andThen, sliced, cutO]
theorem run_cutO_h (h : Nat) (hh : h ≤ c) : (Instr.slice 48 (.slice a n c) none (some (.int .i64 (h : Int))) none).run Try.prog W = .ok (.slice a h c) W := by
  have ht : Try.prog.underlying 48 = some (.slice (Try.prog.elem 48)) := by simp [Program.elem, Try.underlying48]
  have he : Try.prog.elem 48 = 56 := by simp [Program.elem, Try.underlying48]
  rw [run_slice_h W 48 _ _ _ ht .i64 _ (by omega) (by omega), he, size_run_op]
  cases a <;> simp [Result.andThen, sliced, Addr.add]
end
section
variable {w : World} {a : Option Addr} {n c : Nat} {l : List OpR}
theorem OS.head (h : OS w a n c l) (k : Nat) (hk : k ≤ n) : OS w a k c (l.take k) := by
  have h1 := h.len
  have h2 := h.le
  refine ⟨by simp; omega, by omega, h.max, fun hp => ?_, h.none_⟩
  obtain ⟨b, off, rfl, hc⟩ := h.cells (by omega)
  refine ⟨b, off, rfl, fun i hi => ?_⟩
  have := hc i (by omega)
  rwa [show (l.take k).getD i default = l.getD i default by simp [List.getD_eq_getElem?_getD, List.getElem?_take_of_lt hi]]
theorem OS.cut (h : OS w a n c l) (k : Nat) (hk : k ≤ n) : OS w (cutO a c k) (n - k) (c - k) (l.drop k) := by
  have h1 := h.len
  have h2 := h.le
  have h3 := h.max
  refine ⟨by simp; omega, by omega, by omega, fun hp => ?_, ?_⟩
  · obtain ⟨b, off, rfl, hc⟩ := h.cells (by omega)
    refine ⟨b, off + k * 3, by unfold cutO; rw [if_neg (by omega), Option.map_some, addr_add], fun i hi => ?_⟩
    have := hc (k + i) (by omega)
    rwa [show (l.drop k).getD i default = l.getD (k + i) default by simp [List.getD_eq_getElem?_getD, List.getElem?_drop], show off + k * 3 + i * 3 = off + (k + i) * 3 by omega]
  · intro he
    have : a = none := by
      unfold cutO at he
      split at he
      · exact he
      · simpa using he
    have := h.none_ this
    omega
end
end Go.Proofs.Ytmpmaljkmfgagaa
