/-
  What a walk is told of a slice of integers, and small facts on it.
-/
import Derived.Test.YtmpmaljkmfgagaaRows
import Derived.WalkKit
import Derived.ProofKit
import Derived.OpenShut
import Derived.ChangeOld
import Derived.Below
import Derived.Lib.Hide
import Derived.WalkLawsBesides
import Derived.WalkSpells
import Derived.Laws.OwnMore
import Derived.OwnWalk
import Derived.Deep.DeepAppendRoom
import Derived.Lib.AppendZerosOnto
import Derived.Deep.QuietTactic
import Derived.BigQuiet
import Derived.Deep.RegionWith
namespace Go.Proofs.Ytmpmaljkmfgagaa
open Go.RowKit

/-- a slice of integers that came in: nil, or a row of 'cap' cells, the numbers 'zs', the first 'len' its elements -/
def IsRow (k : IntKind) (w : World) (a : Option Addr) (len cap : Nat) (zs : List Int) : Prop :=
  (a = none ∧ len = 0 ∧ cap = 0 ∧ zs = []) ∨
  ∃ x, a = some x ∧ len ≤ cap ∧ cap ≤ maxLen ∧ zs.length = cap ∧ (∀ i, i < zs.length → w.cell? (x.add i) = some (.int k (zs.getD i 0))) ∧ ∀ n ∈ zs, (Lit.int k n).wf = true

theorem IsRow.len_le {k w a len cap zs} (h : IsRow k w a len cap zs) : len ≤ zs.length ∧ zs.length = cap ∧ cap ≤ 9223372036854775807 := by
  rcases h with ⟨_, rfl, rfl, rfl⟩ | ⟨x, _, hl, hm, hz, _, _⟩
  · simp
  · unfold maxLen at hm; omega
theorem IsRow.cells {k w a len cap zs} (h : IsRow k w a len cap zs) (hp : 0 < len) : ∃ b off, a = some ⟨b, off, none⟩ ∧ ∀ i, i < zs.length → w.cell? ⟨b, off + i, none⟩ = some (.int k (zs[i]?.getD 0)) := by
  rcases h with ⟨_, rfl, rfl, rfl⟩ | ⟨x, rfl, hl, hm, hz, hc, _⟩
  · omega
  · obtain ⟨b, off, spot⟩ := x
    have h0 := hc 0 (by omega)
    have hspot : spot = none := by simpa [Addr.add] using World.cell?_spot h0
    subst hspot
    refine ⟨b, off, rfl, fun i hi => ?_⟩
    have h := hc i hi
    by_cases e : i = 0
    · subst e; simpa [Addr.add] using h
    · simpa [Addr.add, e] using h
theorem IsRow.byte {w a len cap zs} (h : IsRow .u8 w a len cap zs) (i : Nat) : 0 ≤ zs[i]?.getD 0 ∧ zs[i]?.getD 0 ≤ 255 := by
  rcases h with ⟨_, rfl, rfl, rfl⟩ | ⟨x, rfl, hl, hm, hz, hc, hw⟩
  · simp
  · exact range_u8 hw i
theorem IsRow.later {k w w' a len cap zs} (h : IsRow k w a len cap zs) (hb : Below w.heap.size w w') : IsRow k w' a len cap zs := by
  rcases h with h | ⟨x, rfl, hl, hm, hz, hc, hw⟩
  · exact .inl h
  · exact .inr ⟨x, rfl, hl, hm, hz, fun i hi => cell_later hb (hc i hi), hw⟩
theorem heap_at (w : World) (o : Obj) (k : Nat) : (w.alloc o).heap[k]? = if k = w.heap.size then some o else w.heap[k]? := by
  show (w.heap.push o)[k]? = _
  rw [Array.getElem?_push]
/-- a block known whole is a row -/
theorem lit_row (k : IntKind) (w : World) (b t : Nat) (cs : Array Value) (fz : Nat × Nat) (zs : List Int) (n : Nat) (h : w.heap[b]? = some (.cells cs t fz)) (hcs : cs = (zs.map (Value.int k)).toArray) (hn : zs.length = n) (hm : n ≤ maxLen) (hw : ∀ n ∈ zs, (Lit.int k n).wf = true) :
    IsRow k w (some ⟨b, 0, none⟩) n n zs := by
  refine .inr ⟨_, rfl, Nat.le_refl _, hm, hn, ?_, hw⟩
  intro i hi
  subst hcs
  have e : (Addr.add ⟨b, 0, none⟩ i) = ⟨b, i, none⟩ := by
    by_cases e : i = 0
    · subst e; simp [Addr.add]
    · simp [Addr.add, e]
  rw [e]
  simp [World.cell?, h, List.getElem?_eq_getElem hi]

/-- a slice of bytes that reads as a list: nil or not, wherever it lies -/
structure BS (w : World) (a : Option Addr) (n c : Nat) (l : List Int) : Prop where
  len : l.length = n
  le : n ≤ c
  max : c ≤ 9223372036854775807
  bytes : ∀ x ∈ l, 0 ≤ x ∧ x ≤ 255
  cells : 0 < n → ∃ b off, a = some ⟨b, off, none⟩ ∧ ∀ i, i < n → w.cell? ⟨b, off + i, none⟩ = some (.int .u8 (l[i]?.getD 0))
  none_ : a = none → c = 0

theorem IsRow.bs {w a len cap zs} (h : IsRow .u8 w a len cap zs) : BS w a len cap (zs.take len) := by
  have hl := h.len_le
  refine ⟨by simp; omega, by omega, by omega, ?_, ?_, ?_⟩
  · intro x hx
    obtain ⟨i, hi, rfl⟩ := List.mem_iff_getElem.1 (List.mem_of_mem_take hx)
    have := h.byte i
    simpa [List.getElem?_eq_getElem hi] using this
  · intro hp
    obtain ⟨b, off, rfl, hc⟩ := h.cells hp
    refine ⟨b, off, rfl, fun i hi => ?_⟩
    rw [hc i (by omega), List.getElem?_take_of_lt hi]
  · rintro rfl
    rcases h with ⟨_, _, hc, _⟩ | ⟨x, hx, _⟩
    · exact hc
    · cases hx
section
variable {w w' : World} {a : Option Addr} {n c : Nat} {l : List Int}
theorem BS.byte (h : BS w a n c l) (i : Nat) : 0 ≤ l[i]?.getD 0 ∧ l[i]?.getD 0 ≤ 255 := by
  by_cases hi : i < l.length
  · simpa [List.getElem?_eq_getElem hi] using h.bytes _ (List.getElem_mem hi)
  · simp [List.getElem?_eq_none (Nat.le_of_not_lt hi)]
theorem BS.later (h : BS w a n c l) (hb : Below w.heap.size w w') : BS w' a n c l :=
  ⟨h.len, h.le, h.max, h.bytes, fun hp => by
    obtain ⟨b, off, e, hc⟩ := h.cells hp
    exact ⟨b, off, e, fun i hi => cell_later hb (hc i hi)⟩, h.none_⟩
theorem BS.keep (h : BS w a n c l) (hk : ∀ p v, w.cell? p = some v → w'.cell? p = some v) : BS w' a n c l :=
  ⟨h.len, h.le, h.max, h.bytes, fun hp => by
    obtain ⟨b, off, e, hc⟩ := h.cells hp
    exact ⟨b, off, e, fun i hi => hk _ _ (hc i hi)⟩, h.none_⟩
theorem BS.drewN (h : BS w a n c l) (m : Nat) : BS (w.drewN m) a n c l := h.keep (fun _ _ h => h)
theorem BS.nil_ (w : World) : BS w none 0 0 [] := ⟨rfl, by omega, by omega, by simp, fun h => absurd h (by omega), fun _ => rfl⟩
theorem BS.of_own {B e : Nat} (h : w.ownsRow B e 1 (.slice a n c) n (l.map (Value.int .u8))) (hl : ∀ x ∈ l, 0 ≤ x ∧ x ≤ 255) : BS w a n c l := by
  have h1 := h.1
  simp at h1
  rcases h.2 with ⟨hv, hn⟩ | ⟨g, cap, cur, hv, _, _, hnc, hcm, _, _⟩
  · simp at hv
    obtain ⟨rfl, rfl, rfl⟩ := hv
    exact ⟨h1, by omega, by omega, hl, fun h => absurd h (by omega), fun _ => rfl⟩
  · simp at hv
    obtain ⟨rfl, rfl⟩ := hv
    refine ⟨h1, hnc, by unfold maxLen at hcm; omega, hl, fun hp => ⟨g, 0, rfl, fun i hi => ?_⟩, fun h => by cases h⟩
    have := h.cellAt i (by omega)
    simp [List.getElem?_eq_getElem (show i < l.length by omega)] at this
    simpa [List.getElem?_eq_getElem (show i < l.length by omega)] using this
end
/-- a callee that only reads, in a region that draws its order -/
theorem quiet_eq {P : Program} {f : FuncId} {args : Array Value} {w : World} {n : Nat} {v : Value} (h : Calls P f args (w.drewN n) fun e w' => e = .returned v ∧ w.drewN n = w') :
    Calls P f args (w.drewN n) fun e w'' => e = .returned v ∧ ∃ m, w'' = w.drewN m := h.mono fun _ _ ⟨he, hm⟩ => ⟨he, n, hm.symm⟩
/-- a call that returns new bytes -/
def GivesB (w : World) (l : List Int) (e : Ending) (w' : World) : Prop :=
  ∃ a n c, e = .returned (.slice a n c) ∧ w'.ownsRow w.heap.size 5 1 (.slice a n c) n (l.map (Value.int .u8)) ∧ Below w.heap.size w w'
/-- a call that returns bytes that it has made -/
def GivesS (w : World) (l : List Int) (e : Ending) (w' : World) : Prop :=
  ∃ a n c, e = .returned (.slice a n c) ∧ BS w' a n c l ∧ Below w.heap.size w w'
/-- a call that has drawn from the tape alone -/
def DrewN (w w' : World) : Prop := ∃ n, w' = w.drewN n
theorem DrewN.more (w : World) (a b : Nat) : DrewN w ((w.drewN a).drewN b) := ⟨a + b, World.drewN_drewN _ _ _⟩
theorem DrewN.below {w w' : World} (h : DrewN w w') : Below w.heap.size w w' := by
  obtain ⟨n, rfl⟩ := h
  exact below_drewN (Below.refl _ _) n
theorem oneCell_u8 (l : List Int) : ∀ u ∈ l.map (Value.int .u8), u.oneCell' = true := by
  intro u hu
  obtain ⟨x, _, rfl⟩ := List.mem_map.1 hu
  rfl
theorem ret_int {k : IntKind} {a b : Int} (h : a = b) : Ending.returned (.int k a) = .returned (.int k b) := by rw [h]
end Go.Proofs.Ytmpmaljkmfgagaa
