/-
  What a walk is told of a slice of integers, and small facts on it.
-/
import Derived.Test.YtbhkpfbkjhlbhaaRows
import Derived.WalkKit
import Derived.ProofKit
import Derived.OpenShut
import Derived.ChangeOld
import Derived.Below
import Derived.Lib.Hide
import Derived.WalkLawsBesides
import Derived.WalkSpells
namespace Go.Proofs.Ytbhkpfbkjhlbhaa
open Go.RowKit

/-- a slice of integers that came in: nil, or a row of 'cap' cells, the numbers 'zs', the first 'len' its elements -/
def IsRow (k : IntKind) (w : World) (a : Option Addr) (len cap : Nat) (zs : List Int) : Prop :=
  (a = none ∧ len = 0 ∧ cap = 0 ∧ zs = []) ∨
  ∃ x, a = some x ∧ len ≤ cap ∧ cap ≤ maxLen ∧ zs.length = cap ∧ (∀ i, i < zs.length → w.cell? (x.add i) = some (.int k (zs.getD i 0))) ∧ ∀ n ∈ zs, (Lit.int k n).wf = true

theorem IsRow.len_le {k w a len cap zs} (h : IsRow k w a len cap zs) : len ≤ zs.length ∧ zs.length = cap ∧ cap ≤ 9223372036854775807 := by
  rcases h with ⟨_, rfl, rfl, rfl⟩ | ⟨x, _, hl, hm, hz, _, _⟩
  · simp
  · unfold maxLen at hm; omega
theorem IsRow.cells {k w a len cap zs} (h : IsRow k w a len cap zs) (hp : 0 < len) : ∃ b off, a = some ⟨b, off, none⟩ ∧ ∀ i, i < zs.length → w.cell? ⟨b, off + i, none⟩ = some (.int k (zs[i]?.getD 0)) := by
  rcases h with ⟨_, rfl, rfl, rfl⟩ | ⟨x, rfl, hl, hm, hz, hc, _⟩
  · omega
  · obtain ⟨b, off, spot⟩ := x
    have h0 := hc 0 (by omega)
    have hspot : spot = none := by simpa [Addr.add] using World.cell?_spot h0
    subst hspot
    refine ⟨b, off, rfl, fun i hi => ?_⟩
    have h := hc i hi
    by_cases e : i = 0
    · subst e; simpa [Addr.add] using h
    · simpa [Addr.add, e] using h
theorem IsRow.byte {w a len cap zs} (h : IsRow .u8 w a len cap zs) (i : Nat) : 0 ≤ zs[i]?.getD 0 ∧ zs[i]?.getD 0 ≤ 255 := by
  rcases h with ⟨_, rfl, rfl, rfl⟩ | ⟨x, rfl, hl, hm, hz, hc, hw⟩
  · simp
  · exact range_u8 hw i
theorem IsRow.later {k w w' a len cap zs} (h : IsRow k w a len cap zs) (hb : Below w.heap.size w w') : IsRow k w' a len cap zs := by
  rcases h with h | ⟨x, rfl, hl, hm, hz, hc, hw⟩
  · exact .inl h
  · exact .inr ⟨x, rfl, hl, hm, hz, fun i hi => cell_later hb (hc i hi), hw⟩
theorem heap_at (w : World) (o : Obj) (k : Nat) : (w.alloc o).heap[k]? = if k = w.heap.size then some o else w.heap[k]? := by
  show (w.heap.push o)[k]? = _
  rw [Array.getElem?_push]
/-- a block known whole is a row -/
theorem lit_row (k : IntKind) (w : World) (b t : Nat) (cs : Array Value) (fz : Nat × Nat) (zs : List Int) (n : Nat) (h : w.heap[b]? = some (.cells cs t fz)) (hcs : cs = (zs.map (Value.int k)).toArray) (hn : zs.length = n) (hm : n ≤ maxLen) (hw : ∀ n ∈ zs, (Lit.int k n).wf = true) :
    IsRow k w (some ⟨b, 0, none⟩) n n zs := by
  refine .inr ⟨_, rfl, Nat.le_refl _, hm, hn, ?_, hw⟩
  intro i hi
  subst hcs
  have e : (Addr.add ⟨b, 0, none⟩ i) = ⟨b, i, none⟩ := by
    by_cases e : i = 0
    · subst e; simp [Addr.add]
    · simp [Addr.add, e]
  rw [e]
  simp [World.cell?, h, List.getElem?_eq_getElem hi]
end Go.Proofs.Ytbhkpfbkjhlbhaa
