/-
  What the functions on patches return, in words that serve the reference and the program alike; the memory of a patch.
-/
import Derived.Test.YtmpmaljkmfgagabPatMath
import Derived.Test.YtmpmaljkmfgagabDeltaRes
import Derived.Test.YtmpmaljkmfgagabSumMath
namespace Go.Proofs.Ytmpmaljkmfgagab
open Go.RowKit

/-- the document's Make, of the steps and the error that Diff gives -/
def madeOf (fr to : Int) (old b : List Int) (ops : List OpR) (err : Int) : PatR × Int :=
  if err ≠ 0 then (noPat, err)
  else if PatM.check ⟨fr, to, SumM.addL 1 old, SumM.addL 1 b, b.length, ops⟩ ≠ 0 then (noPat, PatM.check ⟨fr, to, SumM.addL 1 old, SumM.addL 1 b, b.length, ops⟩)
  else (⟨fr, to, SumM.addL 1 old, SumM.addL 1 b, b.length, ops⟩, 0)
/-- the document's Make: the patch, and the error -/
def MadeIs (fr to : Int) (x y : List Int) (r : PatR × Int) : Prop := ∃ ops err, DiffIs x y ops err ∧ r = madeOf fr to x y ops err
theorem MadeIs.det {fr to : Int} {x y : List Int} {r r' : PatR × Int} (h : MadeIs fr to x y r) (h' : MadeIs fr to x y r') : r = r' := by
  obtain ⟨o, e, h1, rfl⟩ := h
  obtain ⟨o', e', h2, rfl⟩ := h'
  obtain ⟨rfl, rfl⟩ := h1.det h2
  rfl
theorem MadeIs.many {fr to : Int} {x y : List Int} (h : 64 < x.length ∨ 64 < y.length) : MadeIs fr to x y (noPat, 1) := ⟨[], 1, .inl ⟨h, rfl, rfl⟩, by simp [madeOf]⟩
theorem MadeIs.any {fr to : Int} {x y : List Int} {ops : List OpR} (h : ¬ (64 < x.length ∨ 64 < y.length)) (hd : DeltaM.Dif x y [] ops) : MadeIs fr to x y (madeOf fr to x y ops 0) := ⟨ops, 0, .inr ⟨h, hd, rfl⟩, rfl⟩
/-- what Make returns -/
def GivesP (r : PatR × Int) (w : World) (e : Ending) (w' : World) : Prop :=
  ∃ v, e = .returned (.tuple #[v, .int .i64 r.2]) ∧ PV w' v r.1 ∧ Below w.heap.size w w'
/-- what a function returns that makes a patch: it reads so in every later world that has the same new blocks, as long as 'S' holds -/
def GivesPN (S : World → Prop) (r : PatR × Int) (w : World) (e : Ending) (w' : World) : Prop :=
  ∃ v, e = .returned (.tuple #[v, .int .i64 r.2]) ∧ Below w.heap.size w w' ∧ ∀ W' : World, w'.heap.size ≤ W'.heap.size → (∀ k, w.heap.size ≤ k → k < w'.heap.size → W'.heap[k]? = w'.heap[k]?) → S W' → PV W' v r.1
theorem GivesPN.plain {S : World → Prop} {r : PatR × Int} {w : World} {e : Ending} {w' : World} (h : GivesPN S r w e w') (hS : S w') : GivesP r w e w' := by
  obtain ⟨v, h1, h2, h3⟩ := h
  exact ⟨v, h1, h3 w' (Nat.le_refl _) (fun _ _ _ => rfl) hS, h2⟩
theorem noPat_pv (w : World) : PV w (.agg #[.int .i64 0, .int .i64 0, .int .i64 0, .int .i64 0, .int .i64 0, .slice none 0 0]) noPat :=
  ⟨none, 0, 0, rfl, OS.nil_ w, by unfold I64; decide, by unfold I64; decide, by unfold I64; decide, by unfold I64; decide, by unfold I64; decide⟩
/-- the document's Do -/
def doneOf (p : PatR) (old : List Int) : List Int × Int :=
  if PatM.check p ≠ 0 then ([], PatM.check p)
  else if 64 < old.length then ([], 1)
  else if SumM.addL 1 old ≠ p.old then ([], 6)
  else if DeltaM.check p.ops old.length p.size ≠ 0 then ([], DeltaM.check p.ops old.length p.size)
  else if SumM.addL 1 (DeltaM.applied old p.ops p.size) ≠ p.new then ([], 6)
  else (DeltaM.applied old p.ops p.size, 0)
/-- a call that returns bytes and an error -/
def GivesBE (r : List Int × Int) (w : World) (e : Ending) (w' : World) : Prop :=
  ∃ a n c, e = .returned (.tuple #[.slice a n c, .int .i64 r.2]) ∧ BS w' a n c r.1 ∧ Below w.heap.size w w'

/-- a block of a patch -/
theorem pat_cells {W : World} {B : Nat} {v0 v1 v2 v3 v4 v5 : Value} (h : W.heap[B]? = some (.cells #[v0, v1, v2, v3, v4, v5] 41 (0, 0))) :
    W.cell? ⟨B, 0, none⟩ = some v0 ∧ W.cell? ⟨B, 1, none⟩ = some v1 ∧ W.cell? ⟨B, 2, none⟩ = some v2 ∧ W.cell? ⟨B, 3, none⟩ = some v3 ∧ W.cell? ⟨B, 4, none⟩ = some v4 ∧ W.cell? ⟨B, 5, none⟩ = some v5 ∧
      W.frozen? ⟨B, 0, none⟩ = false ∧ W.frozen? ⟨B, 1, none⟩ = false ∧ W.frozen? ⟨B, 2, none⟩ = false ∧ W.frozen? ⟨B, 3, none⟩ = false ∧ W.frozen? ⟨B, 4, none⟩ = false ∧ W.frozen? ⟨B, 5, none⟩ = false := by
  simp [World.cell?, World.frozen?, h]

/-- a whole patch stored into a block of one -/
theorem set_six {W : World} {B : Nat} {v0 v1 v2 v3 v4 v5 : Value} (h : W.heap[B]? = some (.cells #[v0, v1, v2, v3, v4, v5] 41 (0, 0))) (u0 u1 u2 u3 u4 u5 : Value) :
    ∃ W6, (((((W.setCell ⟨B, 0, none⟩ u0).setCell ⟨B, 1, none⟩ u1).setCell ⟨B, 2, none⟩ u2).setCell ⟨B, 3, none⟩ u3).setCell ⟨B, 4, none⟩ u4).setCell ⟨B, 5, none⟩ u5 = W6 ∧
      W6.cell? ⟨B, 0, none⟩ = some u0 ∧ W6.cell? ⟨B, 1, none⟩ = some u1 ∧ W6.cell? ⟨B, 2, none⟩ = some u2 ∧ W6.cell? ⟨B, 3, none⟩ = some u3 ∧ W6.cell? ⟨B, 4, none⟩ = some u4 ∧ W6.cell? ⟨B, 5, none⟩ = some u5 ∧
      (∀ k, k ≠ B → W6.heap[k]? = W.heap[k]?) ∧ W6.heap.size = W.heap.size := by
  refine ⟨_, rfl, ?_, ?_, ?_, ?_, ?_, ?_, fun k hk => ?_, by simp only [size_set]⟩
  iterate 6 (simp [World.cell?, World.setCell, Array.getElem?_modify, h])
  rw [Below.heap_setCell _ _ _ k hk, Below.heap_setCell _ _ _ k hk, Below.heap_setCell _ _ _ k hk, Below.heap_setCell _ _ _ k hk, Below.heap_setCell _ _ _ k hk, Below.heap_setCell _ _ _ k hk]
end Go.Proofs.Ytmpmaljkmfgagab
