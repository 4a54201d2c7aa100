/-
  What route.bestFrom keeps in memory: an array of paths, the versions of each in a row of its own.
-/
import Derived.Test.YtmpmaljkmfgagabRExt
import Derived.Test.YtmpmaljkmfgagabRBett
import Derived.Test.YtmpmaljkmfgagabRouteC
import Derived.Laws.Rows
namespace Go.Proofs.Ytmpmaljkmfgagab
open Go.RowKit

/-- a path in the array: where its versions lie, its cost -/
structure PC where
  a : Option Addr
  n : Nat
  c : Nat
  k : Int
instance : Inhabited PC := ⟨⟨none, 0, 0, 0⟩⟩
def cellsP : List PC → List Value
  | [] => []
  | p :: t => .slice p.a p.n p.c :: .int .i64 p.k :: cellsP t
theorem cellsP_length : ∀ x, (cellsP x).length = x.length * 2
  | [] => rfl
  | _ :: t => by simp [cellsP, cellsP_length t]; omega
theorem cellsP_get : ∀ (x : List PC) (i : Nat), i < x.length → (cellsP x)[i * 2]? = some (.slice (x.getD i default).a (x.getD i default).n (x.getD i default).c) ∧ (cellsP x)[i * 2 + 1]? = some (.int .i64 (x.getD i default).k)
  | [], i, h => by simp at h
  | o :: t, 0, _ => by simp [cellsP]
  | o :: t, i + 1, h => by
    have := cellsP_get t i (by simpa using h)
    simp only [cellsP, List.getD_cons_succ, show (i + 1) * 2 = i * 2 + 1 + 1 by omega, List.getElem?_cons_succ]
    exact this
theorem cellsP_set : ∀ (L : List PC) (i : Nat) (p : PC), ((cellsP L).set (i * 2) (.slice p.a p.n p.c)).set (i * 2 + 1) (.int .i64 p.k) = cellsP (L.set i p)
  | [], i, p => by simp [cellsP]
  | o :: t, 0, p => by simp [cellsP]
  | o :: t, i + 1, p => by
    have := cellsP_set t i p
    simp only [cellsP, List.set_cons_succ, show (i + 1) * 2 = i * 2 + 1 + 1 by omega]
    rw [this]
theorem cellsP_one : ∀ (L : List PC), ∀ u ∈ cellsP L, u.oneCell' = true
  | [], u, h => by simp [cellsP] at h
  | e :: t, u, h => by
    simp only [cellsP, List.mem_cons] at h
    rcases h with rfl | rfl | h
    · rfl
    · rfl
    · exact cellsP_one t u h
/-- the versions of each path lie in rows beyond 'lo' -/
structure PathsAt (W : World) (lo : Nat) (L : List PC) (A : List RouteM.Pth) : Prop where
  len : L.length = 31
  lenA : A.length = 31
  row : ∀ i, i < 31 → NS W (L.getD i default).a (L.getD i default).n (L.getD i default).c (A.getD i RouteM.noPth).vs ∧ (L.getD i default).k = (A.getD i RouteM.noPth).cost ∧ ∀ p, (L.getD i default).a = some p → lo ≤ p.block
section
variable {W W' : World} {lo : Nat} {L : List PC} {A : List RouteM.Pth}
theorem NS.blocks {w w' : World} {a : Option Addr} {n c : Nat} {l : List Int} (h : NS w a n c l) (hb : 0 < n → ∀ p, a = some p → w'.heap[p.block]? = w.heap[p.block]?) : NS w' a n c l :=
  ⟨h.len, h.le, h.max, fun hp => by
    obtain ⟨b, off, e, hc⟩ := h.cells hp
    exact ⟨b, off, e, fun i hi => (World.cell?_of_block (w := w) (a := ⟨b, off + i, none⟩) (hb hp ⟨b, off, none⟩ e)).trans (hc i hi)⟩, h.none_⟩
theorem NS.lt {w : World} {a : Option Addr} {n c : Nat} {l : List Int} (h : NS w a n c l) (hn : 0 < n) {p : Addr} (hp : a = some p) : p.block < w.heap.size := by
  obtain ⟨b, off, e, hc⟩ := h.cells hn
  have := hc 0 hn
  rw [e] at hp
  cases hp
  rcases Nat.lt_or_ge b w.heap.size with hlt | hge
  · exact hlt
  · simp [World.cell?, Array.getElem?_eq_none hge] at this
theorem PathsAt.later (h : PathsAt W lo L A) (hb : Below W.heap.size W W') : PathsAt W' lo L A :=
  ⟨h.len, h.lenA, fun i hi => ⟨(h.row i hi).1.later hb, (h.row i hi).2⟩⟩
/-- an elder block is written to -/
theorem PathsAt.other (h : PathsAt W lo L A) (hb : ∀ k, lo ≤ k → W'.heap[k]? = W.heap[k]?) : PathsAt W' lo L A :=
  ⟨h.len, h.lenA, fun i hi => ⟨(h.row i hi).1.blocks fun _ p hp => hb _ ((h.row i hi).2.2 p hp), (h.row i hi).2⟩⟩
theorem PathsAt.set (h : PathsAt W lo L A) (i : Nat) (hi : i < 31) {a : Option Addr} {n c : Nat} {p : RouteM.Pth} (hs : NS W a n c p.vs) (hp : ∀ q, a = some q → lo ≤ q.block) : PathsAt W lo (L.set i ⟨a, n, c, p.cost⟩) (A.set i p) := by
  refine ⟨by simpa using h.len, by simpa using h.lenA, fun j hj => ?_⟩
  have h1 := h.len
  have h2 := h.lenA
  by_cases hij : i = j
  · subst hij
    have e1 : (L.set i ⟨a, n, c, p.cost⟩).getD i default = ⟨a, n, c, p.cost⟩ := by simp [List.getD_eq_getElem?_getD, show i < L.length by omega]
    have e2 : (A.set i p).getD i RouteM.noPth = p := by simp [List.getD_eq_getElem?_getD, show i < A.length by omega]
    rw [e1, e2]
    exact ⟨hs, rfl, hp⟩
  · have e1 : (L.set i ⟨a, n, c, p.cost⟩).getD j default = L.getD j default := by simp [List.getD_eq_getElem?_getD, hij]
    have e2 : (A.set i p).getD j RouteM.noPth = A.getD j RouteM.noPth := by simp [List.getD_eq_getElem?_getD, hij]
    rw [e1, e2]
    exact h.row j hj
theorem PathsAt.zero (W : World) (lo : Nat) : PathsAt W lo (List.replicate 31 default) (List.replicate 31 RouteM.noPth) := by
  refine ⟨by simp, by simp, fun i hi => ?_⟩
  have e1 : (List.replicate 31 (default : PC)).getD i default = default := by rw [List.getD_eq_getElem?_getD, List.getElem?_replicate, if_pos hi]; rfl
  have e2 : (List.replicate 31 RouteM.noPth).getD i RouteM.noPth = RouteM.noPth := by rw [List.getD_eq_getElem?_getD, List.getElem?_replicate, if_pos hi]; rfl
  rw [e1, e2]
  exact ⟨NS.nil_ W, rfl, fun p hp => by cases hp⟩
end
/-- the memory of bestFrom: the block of the result, the array, the paths -/
structure FndSt (w : World) (B : Nat) (L : List PC) (A : List RouteM.Pth) (W : World) : Prop where
  c0 : W.heap[B]? = some (.cells (cellsP (List.replicate 31 default)).toArray 103 (0, 0))
  c1 : W.heap[B + 1]? = some (.cells (cellsP L).toArray 103 (0, 0))
  p : PathsAt W (B + 2) L A
  below : Below w.heap.size w W
  le : w.heap.size = B
section
variable {w : World} {B : Nat} {L : List PC} {A : List RouteM.Pth} {W W' : World}
theorem FndSt.later (h : FndSt w B L A W) (hb : Below W.heap.size W W') : FndSt w B L A W' :=
  ⟨(hb.block _ (blk_ltR h.c0)).trans h.c0, (hb.block _ (blk_ltR h.c1)).trans h.c1, h.p.later hb, below_then h.below hb, h.le⟩
theorem FndSt.cells (h : FndSt w B L A W) (i : Nat) (hi : i < 31) : W.cell? ⟨B + 1, i * 2, none⟩ = some (.slice (L.getD i default).a (L.getD i default).n (L.getD i default).c) ∧ W.cell? ⟨B + 1, i * 2 + 1, none⟩ = some (.int .i64 (L.getD i default).k) ∧ W.frozen? ⟨B + 1, i * 2, none⟩ = false ∧ W.frozen? ⟨B + 1, i * 2 + 1, none⟩ = false := by
  obtain ⟨g0, g1⟩ := cellsP_get L i (by rw [h.p.len]; exact hi)
  refine ⟨?_, ?_, ?_, ?_⟩
  · rw [cell_of_row W _ _ _ _ _ h.c1]; simpa using g0
  · rw [cell_of_row W _ _ _ _ _ h.c1]; simpa using g1
  · simp [World.frozen?, h.c1]
  · simp [World.frozen?, h.c1]
theorem FndSt.at_ (h : FndSt w B L A W) (i : Nat) (hi : i < 31) {a : Option Addr} {n c : Nat} {k : Int} (hL : L.getD i default = ⟨a, n, c, k⟩) : W.cell? ⟨B + 1, i * 2, none⟩ = some (.slice a n c) ∧ W.cell? ⟨B + 1, i * 2 + 1, none⟩ = some (.int .i64 k) ∧ W.frozen? ⟨B + 1, i * 2, none⟩ = false ∧ W.frozen? ⟨B + 1, i * 2 + 1, none⟩ = false := by
  have := h.cells i hi
  rw [hL] at this
  exact this
theorem cells_set2 {W : World} {B t : Nat} {l : List Value} (h : W.heap[B]? = some (.cells l.toArray t (0, 0))) (i j : Nat) (u v : Value) : ((W.setCell ⟨B, i, none⟩ u).setCell ⟨B, j, none⟩ v).heap[B]? = some (.cells ((l.set i u).set j v).toArray t (0, 0)) := by
  simp [World.setCell, Array.getElem?_modify, h]
theorem cells_set1 {W : World} {B t : Nat} {l : List Value} (h : W.heap[B]? = some (.cells l.toArray t (0, 0))) (i : Nat) (u : Value) : (W.setCell ⟨B, i, none⟩ u).heap[B]? = some (.cells (l.set i u).toArray t (0, 0)) := by
  simp [World.setCell, Array.getElem?_modify, h]
/-- a path is stored -/
theorem FndSt.set (h : FndSt w B L A W) (i : Nat) (hi : i < 31) {a : Option Addr} {n c : Nat} {p : RouteM.Pth} (hs : NS W a n c p.vs) (hp : ∀ q, a = some q → B + 2 ≤ q.block) :
    FndSt w B (L.set i ⟨a, n, c, p.cost⟩) (A.set i p) ((W.setCell ⟨B + 1, i * 2, none⟩ (.slice a n c)).setCell ⟨B + 1, i * 2 + 1, none⟩ (.int .i64 p.cost)) := by
  have hle := h.le
  have hoth : ∀ k, k ≠ B + 1 → ((W.setCell ⟨B + 1, i * 2, none⟩ (.slice a n c)).setCell ⟨B + 1, i * 2 + 1, none⟩ (.int .i64 p.cost)).heap[k]? = W.heap[k]? := fun k hk => (Below.heap_setCell _ _ _ k hk).trans (Below.heap_setCell _ _ _ k hk)
  refine ⟨(hoth B (by omega)).trans h.c0, ?_, (h.p.set i hi hs hp).other fun k hk => hoth k (by omega), (h.below.setCell (by show w.heap.size ≤ B + 1; omega) _).setCell (by show w.heap.size ≤ B + 1; omega) _, hle⟩
  rw [cells_set2 h.c1, ← cellsP_set L i ⟨a, n, c, p.cost⟩]
/-- the result is stored -/
theorem FndSt.done (h : FndSt w B L A W) : (W.setRow B (cellsP L).toArray).heap[B]? = some (.cells (cellsP L).toArray 103 (0, 0)) ∧ PathsAt (W.setRow B (cellsP L).toArray) w.heap.size L A ∧ Below w.heap.size w (W.setRow B (cellsP L).toArray) := by
  have hle := h.le
  have hoth : ∀ k, k ≠ B → (W.setRow B (cellsP L).toArray).heap[k]? = W.heap[k]? := fun k hk => by
    simp only [World.setRow]
    rw [Array.getElem?_modify, if_neg (fun e => hk e.symm)]
  have hb : Below w.heap.size w (W.setRow B (cellsP L).toArray) := ⟨h.below.os, h.below.tape, h.below.output, by simpa [World.setRow] using h.below.size, fun k hk => (hoth k (by omega)).trans (h.below.block k hk)⟩
  refine ⟨setRow_heap W B _ _ _ _ h.c0, ?_, hb⟩
  have := h.p.other (W' := W.setRow B (cellsP L).toArray) fun k hk => hoth k (by omega)
  exact ⟨this.len, this.lenA, fun i hi => ⟨(this.row i hi).1, (this.row i hi).2.1, fun p hp => by have := (this.row i hi).2.2 p hp; omega⟩⟩
end
end Go.Proofs.Ytmpmaljkmfgagab
