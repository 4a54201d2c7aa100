/-
  Cuts of slices of bytes, each as one equation for the walk; what a cut reads as. A row of the call's own over calls that make memory.
-/
import Derived.Test.YtmpmaljkmfgagaaBytes
import Derived.Laws.Slices
namespace Go.Proofs.Ytmpmaljkmfgagaa
open Go.RowKit

/-- where a slice lies that was cut at k -/
def cutA (a : Option Addr) (c k : Nat) : Option Addr := if c = k then a else a.map (·.add k)

theorem size_run_u8 (w : World) : (Go.sizeOf 5).run Try.prog w = .ok 1 w := by
  obtain ⟨i0, hi, hz0, hz1, hz2⟩ := info_parts Try.info_u8
  simp [Go.sizeOf, typeInfo, hi, hz1]

section
variable (a : Option Addr) (n c : Nat) (W : World)
theorem run_cut_l (k : Nat) (hk : k ≤ n) : (Instr.slice 27 (.slice a n c) (some (.int .i64 (k : Int))) none none).run Try.prog W = .ok (.slice (cutA a c k) (n - k) (c - k)) W := by
  have ht : Try.prog.underlying 27 = some (.slice (Try.prog.elem 27)) := by simp [Program.elem, Try.underlying27]
  have he : Try.prog.elem 27 = 5 := by simp [Program.elem, Try.underlying27]
  rw [run_slice_l W 27 _ _ _ ht .i64 _ (by omega) (by omega), he, size_run_u8]
  simp [Result.andThen, sliced, cutA]
theorem run_cut_lh (k h : Nat) (hk : k ≤ h) (hh : h ≤ c) : (Instr.slice 27 (.slice a n c) (some (.int .i64 (k : Int))) (some (.int .i64 (h : Int))) none).run Try.prog W = .ok (.slice (cutA a c k) (h - k) (c - k)) W := by
  have ht : Try.prog.underlying 27 = some (.slice (Try.prog.elem 27)) := by simp [Program.elem, Try.underlying27]
  have he : Try.prog.elem 27 = 5 := by simp [Program.elem, Try.underlying27]
  rw [run_slice_lh W 27 _ _ _ ht .i64 .i64 _ _ (by omega) (by omega) (by omega), he, size_run_u8]
  simp [Result.andThen, sliced, cutA]
theorem run_cut_h (h : Nat) (hh : h ≤ c) : (Instr.slice 27 (.slice a n c) none (some (.int .i64 (h : Int))) none).run Try.prog W = .ok (.slice a h c) W := by
  have ht : Try.prog.underlying 27 = some (.slice (Try.prog.elem 27)) := by simp [Program.elem, Try.underlying27]
  have he : Try.prog.elem 27 = 5 := by simp [Program.elem, Try.underlying27]
  rw [run_slice_h W 27 _ _ _ ht .i64 _ (by omega) (by omega), he, size_run_u8]
  cases a <;> simp [Result.andThen, sliced, Addr.add]
end

section
variable {w : World} {a : Option Addr} {n c : Nat} {l : List Int}
theorem BS.cut (h : BS w a n c l) (k : Nat) (hk : k ≤ n) : BS w (cutA a c k) (n - k) (c - k) (l.drop k) := by
  have h1 := h.len
  have h2 := h.le
  have h3 := h.max
  refine ⟨by simp; omega, by omega, by omega, fun x hx => h.bytes x (List.mem_of_mem_drop hx), fun hp => ?_, ?_⟩
  · obtain ⟨b, off, rfl, hc⟩ := h.cells (by omega)
    refine ⟨b, off + k, by unfold cutA; rw [if_neg (by omega), Option.map_some, addr_add], fun i hi => ?_⟩
    rw [Nat.add_assoc, hc (k + i) (by omega), List.getElem?_drop]
  · intro he
    have : a = none := by
      unfold cutA at he
      split at he
      · exact he
      · simpa using he
    have := h.none_ this
    omega
theorem BS.head (h : BS w a n c l) (k : Nat) (hk : k ≤ n) : BS w a k c (l.take k) := by
  have h1 := h.len
  have h2 := h.le
  refine ⟨by simp; omega, by omega, h.max, fun x hx => h.bytes x (List.mem_of_mem_take hx), fun hp => ?_, h.none_⟩
  obtain ⟨b, off, rfl, hc⟩ := h.cells (by omega)
  exact ⟨b, off, rfl, fun i hi => by rw [hc i (by omega), List.getElem?_take_of_lt hi]⟩
theorem BS.mid (h : BS w a n c l) (k m : Nat) (hk : k ≤ m) (hm : m ≤ n) : BS w (cutA a c k) (m - k) (c - k) ((l.drop k).take (m - k)) :=
  (h.cut k (by omega)).head (m - k) (by omega)
end

/-- a row of the call's own stays over a call that makes memory -/
theorem own_later {w w' : World} {base e n : Nat} {v : Value} {xs : List Value} (h : w.ownsRow base e 1 v n xs) (hb : Below w.heap.size w w') : w'.ownsRow base e 1 v n xs := by
  refine ⟨h.1, ?_⟩
  rcases h.2 with h2 | ⟨g, cap, cur, h2, h3, h4, h5⟩
  · exact .inl h2
  · refine .inr ⟨g, cap, cur, h2, h3, ?_, h5⟩
    rw [hb.block g ?_]
    · exact h4
    · rcases Nat.lt_or_ge g w.heap.size with hlt | hge
      · exact hlt
      · rw [Array.getElem?_eq_none hge] at h4; cases h4
theorem own_slice {w : World} {base e n : Nat} {v : Value} {xs : List Value} (h : w.ownsRow base e 1 v n xs) : ∃ a c, v = .slice a n c := by
  rcases h.2 with ⟨h1, h2⟩ | ⟨g, cap, cur, h1, _⟩
  · exact ⟨none, 0, by rw [h1, h2]⟩
  · exact ⟨_, _, h1⟩
/-- a call that only makes memory, behind one that has turned nothing old -/
theorem below_then {w w1 w2 : World} (h : Below w.heap.size w w1) (h2 : Below w1.heap.size w1 w2) : Below w.heap.size w w2 := h.trans (h2.mono h.size)
theorem BS.cellsAt {w : World} {x : Addr} {n c : Nat} {l : List Int} (h : BS w (some x) n c l) : ∀ i, i < n → w.cell? (x.add i) = some (.int .u8 (l.getD i 0)) := by
  intro i hi
  obtain ⟨b, off, e, hc⟩ := h.cells (by omega)
  cases e
  rw [addr_add, hc i hi, List.getD_eq_getElem?_getD]
theorem BS.lt256 {w : World} {a : Option Addr} {n c : Nat} {l : List Int} (h : BS w a n c l) : ∀ x ∈ l, 0 ≤ x ∧ x < 256 := fun x hx => by
  have := h.bytes x hx
  omega
end Go.Proofs.Ytmpmaljkmfgagaa
