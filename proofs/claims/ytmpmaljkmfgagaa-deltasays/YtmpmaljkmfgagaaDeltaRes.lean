/-
  What the four functions on steps return, in words that serve the reference and the program alike.
-/
import Derived.Test.YtmpmaljkmfgagaaDiffSt
import Derived.Test.YtmpmaljkmfgagaaApplyMath
namespace Go.Proofs.Ytmpmaljkmfgagaa
open Go.RowKit

theorem ret_chk {a b : Int} (h : a = b) : Ending.returned (.int .i64 a) = .returned (.int .i64 b) := by rw [h]

/-- the rounds of CheckOps -/
def ChkRel (l : List OpR) (old size : Int) (w : World) (made i : Value) (wr : World) : Prop :=
  ∃ (m k : Nat), made = .int .i64 m ∧ i = .int .i64 k ∧ k ≤ l.length ∧ (m : Int) ≤ size ∧ DeltaM.chk old size (l.drop k) m = DeltaM.chk old size l 0 ∧ Below w.heap.size w wr

theorem drop_op (l : List OpR) (k : Nat) (h : k < l.length) : l.drop k = l.getD k default :: l.drop (k + 1) := by
  rw [List.drop_eq_getElem_cons h]; simp [List.getD_eq_getElem?_getD, List.getElem?_eq_getElem h]

/-- the rounds of SameOps -/
def SameRel (x y : List OpR) (w : World) (i : Value) (wr : World) : Prop :=
  ∃ k : Nat, i = .int .i64 k ∧ k ≤ x.length ∧ x.take k = y.take k ∧ Below w.heap.size w wr

theorem take_more {x y : List OpR} {k : Nat} (h : x.take k = y.take k) (hx : k < x.length) (hy : k < y.length) (he : x.getD k default = y.getD k default) : x.take (k + 1) = y.take (k + 1) := by
  rw [List.take_add_one, List.take_add_one, h]
  simp only [List.getD_eq_getElem?_getD, List.getElem?_eq_getElem hx, List.getElem?_eq_getElem hy, Option.getD_some] at he
  simp [List.getElem?_eq_getElem hx, List.getElem?_eq_getElem hy, he]
theorem ne_of_at {x y : List OpR} {k : Nat} (h : x.getD k default ≠ y.getD k default) : decide (x = y) = false := by
  rw [decide_eq_false]
  rintro rfl
  exact h rfl
theorem ret_bool {a b : Bool} (h : a = b) : Ending.returned (.bool a) = .returned (.bool b) := by rw [h]

/-- what Diffed returns -/
def GivesD (old b : List Int) (w : World) (e : Ending) (w' : World) : Prop :=
  ∃ out a n c, DeltaM.Dif old b [] out ∧ e = .returned (.tuple #[.slice a n c, .int .i64 0]) ∧ OS w' a n c out ∧ (out.length ≤ 200 ∧ OSN w' w.heap.size a n c out) ∧ Below w.heap.size w w'

theorem flushL_len (pl : List Int) : (DeltaM.flushL pl).length ≤ 1 := by unfold DeltaM.flushL; split <;> simp
theorem drop_byte (l : List Int) (k : Nat) (h : k < l.length) : l.drop k = l[k]?.getD 0 :: l.drop (k + 1) := by
  rw [List.drop_eq_getElem_cons h]; simp [List.getElem?_eq_getElem h]

/-- what Applied returns -/
def GivesA (old : List Int) (l : List OpR) (s : Int) (w : World) (e : Ending) (w' : World) : Prop :=
  ∃ a n c, e = .returned (.tuple #[.slice a n c, .int .i64 (DeltaM.check l old.length s)]) ∧ BS w' a n c (DeltaM.applied old l s) ∧ Below w.heap.size w w'

theorem OS.bytes {w : World} {a : Option Addr} {n c : Nat} {l : List OpR} (h : OS w a n c l) : ∀ o ∈ l, ∀ v ∈ o.data, 0 ≤ v ∧ v ≤ 255 := by
  intro o ho v hv
  obtain ⟨i, hi, rfl⟩ := List.mem_iff_getElem.1 ho
  have hlen := h.len
  obtain ⟨b, off, _, hc⟩ := h.cells (by omega)
  obtain ⟨_, _, _, _, _, _, hb, _⟩ := hc i (by omega)
  rw [List.getD_eq_getElem?_getD, List.getElem?_eq_getElem hi, Option.getD_some] at hb
  exact hb.bytes v hv

theorem tup_a {v : Value} {a b : Int} (h : a = b) : Ending.returned (.tuple #[v, .int .i64 a]) = .returned (.tuple #[v, .int .i64 b]) := by rw [h]
/-- the document's Diff: the steps, and the error -/
def DiffIs (old b : List Int) (out : List OpR) (err : Int) : Prop :=
  ((64 < old.length ∨ 64 < b.length) ∧ out = [] ∧ err = 1) ∨ (¬ (64 < old.length ∨ 64 < b.length) ∧ DeltaM.Dif old b [] out ∧ err = 0)
theorem DiffIs.det {old b : List Int} {o o' : List OpR} {e e' : Int} (h : DiffIs old b o e) (h' : DiffIs old b o' e') : o = o' ∧ e = e' := by
  rcases h with ⟨h1, rfl, rfl⟩ | ⟨h1, h2, rfl⟩ <;> rcases h' with ⟨q1, rfl, rfl⟩ | ⟨q1, q2, rfl⟩
  · exact ⟨rfl, rfl⟩
  · exact absurd h1 q1
  · exact absurd q1 h1
  · exact ⟨h2.det q2, rfl⟩
end Go.Proofs.Ytmpmaljkmfgagaa
