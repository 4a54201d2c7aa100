/-
  Contract of route.bestFrom: the best path from a version to each one.
-/
import Derived.Test.YtmpmaljkmfgagabRFromSt
import Derived.Deep.DeepCutAuto
namespace Go.Proofs.Ytmpmaljkmfgagab
open Go.RowKit

/-- what bestFrom returns: an array of paths, the best ones -/
def GivesF (l : List RouteM.EdR) (fr : Int) (w : World) (e : Ending) (w' : World) : Prop :=
  ∃ L A t, RouteM.Snd l fr t A ∧ RouteM.Cmp l fr 29 A ∧ e = .returned (.agg (cellsP L).toArray) ∧ PathsAt w' w.heap.size L A ∧ Below w.heap.size w w'
/-- the rounds -/
def RndRel (l : List RouteM.EdR) (fr : Int) (w : World) (B : Nat) (i : Value) (wr : World) : Prop :=
  ∃ (r t : Nat) (L : List PC) (A : List RouteM.Pth), i = .int .i64 r ∧ r ≤ 29 ∧ t ≤ 60 * r ∧ RouteM.Snd l fr t A ∧ RouteM.Cmp l fr r A ∧ FndSt w B L A wr
def EdgRelF (l : List RouteM.EdR) (fr : Int) (w : World) (B : Nat) (r : Nat) (i : Value) (wr : World) : Prop :=
  ∃ (k t : Nat) (L : List PC) (A : List RouteM.Pth), i = .int .i64 k ∧ k ≤ l.length ∧ t ≤ 60 * r + k ∧ RouteM.Snd l fr t A ∧ RouteM.Hlf l fr r k A ∧ FndSt w B L A wr
/-- behind extended: the new path in a block, the edge in another one -/
structure XCut (w : World) (B D : Nat) (F T : Nat) (K : Int) (L : List PC) (A : List RouteM.Pth) (q : RouteM.Pth) (P : Nat) (a : Option Addr) (n c : Nat) (W : World) : Prop where
  x : W.heap[P]? = some (.cells #[.slice a n c, .int .i64 q.cost] 101 (0, 0))
  s : NS W a n c q.vs
  far : ∀ p, a = some p → B + 2 ≤ p.block
  e : W.heap[D]? = some (.cells #[.int .i64 (F : Int), .int .i64 (T : Int), .int .i64 K] 63 (0, 0))
  r : FndSt w B L A W
theorem XCut.later {w : World} {B D F T : Nat} {K : Int} {L : List PC} {A : List RouteM.Pth} {q : RouteM.Pth} {P : Nat} {a : Option Addr} {n c : Nat} {W W' : World} (h : XCut w B D F T K L A q P a n c W) (hb : Below W.heap.size W W') : XCut w B D F T K L A q P a n c W' :=
  ⟨(hb.block _ (blk_ltR h.x)).trans h.x, h.s.later hb, h.far, (hb.block _ (blk_ltR h.e)).trans h.e, h.r.later hb⟩
def XCutRel (w : World) (B D : Nat) (F T : Nat) (K : Int) (L : List PC) (A : List RouteM.Pth) (q : RouteM.Pth) (s8 : Value) (W : World) : Prop :=
  ∃ P a n c, s8 = .pointer (some ⟨P, 0, none⟩) ∧ XCut w B D F T K L A q P a n c W
section
variable {w : World} {B D F T : Nat} {K : Int} {L : List PC} {A : List RouteM.Pth} {q : RouteM.Pth} {a : Option Addr} {n c : Nat} {W : World}
/-- the path is new: its block is made behind the call .. -/
theorem XCut.of_alloc (hr : FndSt w B L A W) (he : W.heap[D]? = some (.cells #[.int .i64 (F : Int), .int .i64 (T : Int), .int .i64 K] 63 (0, 0))) (hs : NS W a n c q.vs) (hf : ∀ p, a = some p → B + 2 ≤ p.block) :
    XCut w B D F T K L A q W.heap.size a n c (W.alloc (.cells #[.slice a n c, .int .i64 q.cost] 101)) := by
  have hb : Below W.heap.size W (W.alloc (.cells #[.slice a n c, .int .i64 q.cost] 101)) := (Below.refl _ _).alloc (Nat.le_refl _) _
  exact ⟨by rw [heap_at, if_pos rfl], hs.later hb, hf, (hb.block _ (blk_ltR he)).trans he, hr.later hb⟩
/-- .. or ahead of it -/
theorem XCut.of_set {P : Nat} (hr : FndSt w B L A W) (he : W.heap[D]? = some (.cells #[.int .i64 (F : Int), .int .i64 (T : Int), .int .i64 K] 63 (0, 0))) (hs : NS W a n c q.vs) (hP : W.heap[P]? = some (.cells #[.slice none 0 0, .int .i64 0] 101 (0, 0))) (hf : ∀ p, a = some p → P < p.block) (hDP : D < P) (hBP : B + 1 < P) (hrow : ∀ i, i < 31 → 0 < (L.getD i default).n → ∀ p, (L.getD i default).a = some p → p.block < P) :
    XCut w B D F T K L A q P a n c ((W.setCell ⟨P, 0, none⟩ (.slice a n c)).setCell ⟨P, 1, none⟩ (.int .i64 q.cost)) := by
  have hoth : ∀ k, k ≠ P → ((W.setCell ⟨P, 0, none⟩ (.slice a n c)).setCell ⟨P, 1, none⟩ (.int .i64 q.cost)).heap[k]? = W.heap[k]? := fun k hk => (Below.heap_setCell _ _ _ k hk).trans (Below.heap_setCell _ _ _ k hk)
  have hle := hr.le
  refine ⟨?_, hs.blocks fun _ p hp => hoth _ (by have := hf p hp; omega), fun p hp => by have := hf p hp; omega, (hoth D (by omega)).trans he, ⟨(hoth B (by omega)).trans hr.c0, (hoth (B + 1) (by omega)).trans hr.c1, ⟨hr.p.len, hr.p.lenA, fun i hi => ⟨(hr.p.row i hi).1.blocks fun hn p hp => hoth _ (by have := hrow i hi hn p hp; omega), (hr.p.row i hi).2⟩⟩, (hr.below.setCell (by show w.heap.size ≤ P; omega) _).setCell (by show w.heap.size ≤ P; omega) _, hle⟩⟩
  have := cells_set2 (l := [.slice none 0 0, .int .i64 0]) hP 0 1 (.slice a n c) (.int .i64 q.cost)
  simpa using this
end
theorem zeros62 : [.slice none 0 0, .int .i64 0, .slice none 0 0, .int .i64 0, .slice none 0 0, .int .i64 0, .slice none 0 0, .int .i64 0, .slice none 0 0, .int .i64 0, .slice none 0 0, .int .i64 0, .slice none 0 0, .int .i64 0, .slice none 0 0, .int .i64 0, .slice none 0 0, .int .i64 0, .slice none 0 0, .int .i64 0, .slice none 0 0, .int .i64 0, .slice none 0 0, .int .i64 0, .slice none 0 0, .int .i64 0, .slice none 0 0, .int .i64 0, .slice none 0 0, .int .i64 0, .slice none 0 0, .int .i64 0, .slice none 0 0, .int .i64 0, .slice none 0 0, .int .i64 0, .slice none 0 0, .int .i64 0, .slice none 0 0, .int .i64 0, .slice none 0 0, .int .i64 0, .slice none 0 0, .int .i64 0, .slice none 0 0, .int .i64 0, .slice none 0 0, .int .i64 0, .slice none 0 0, .int .i64 0, .slice none 0 0, .int .i64 0, .slice none 0 0, .int .i64 0, .slice none 0 0, .int .i64 0, .slice none 0 0, .int .i64 0, .slice none 0 0, .int .i64 0, .slice none 0 0, .int .i64 0] = cellsP (List.replicate 31 default) := rfl
theorem cellsP_set0 : ∀ (L : List PC) (i : Nat) (a : Option Addr) (n c : Nat), i < L.length → (cellsP L).set (i * 2) (.slice a n c) = cellsP (L.set i ⟨a, n, c, (L.getD i default).k⟩)
  | [], i, a, n, c, h => by simp at h
  | o :: t, 0, a, n, c, _ => by simp [cellsP]
  | o :: t, i + 1, a, n, c, h => by
    have := cellsP_set0 t i a n c (by simpa using h)
    simp only [cellsP, List.set_cons_succ, show (i + 1) * 2 = i * 2 + 1 + 1 by omega, List.getD_cons_succ]
    rw [this]
theorem FndSt.start (w : World) (B fr : Nat) (hf : fr ≤ 30) (hB : w.heap.size = B) :
    FndSt w B ((List.replicate 31 default).set fr ⟨some ⟨B + 1 + 1, 0, none⟩, 1, 1, 0⟩) ((List.replicate 31 RouteM.noPth).set fr ⟨[(fr : Int)], 0⟩) (((w.alloc (.cells #[.slice none 0 0, .int .i64 0, .slice none 0 0, .int .i64 0, .slice none 0 0, .int .i64 0, .slice none 0 0, .int .i64 0, .slice none 0 0, .int .i64 0, .slice none 0 0, .int .i64 0, .slice none 0 0, .int .i64 0, .slice none 0 0, .int .i64 0, .slice none 0 0, .int .i64 0, .slice none 0 0, .int .i64 0, .slice none 0 0, .int .i64 0, .slice none 0 0, .int .i64 0, .slice none 0 0, .int .i64 0, .slice none 0 0, .int .i64 0, .slice none 0 0, .int .i64 0, .slice none 0 0, .int .i64 0, .slice none 0 0, .int .i64 0, .slice none 0 0, .int .i64 0, .slice none 0 0, .int .i64 0, .slice none 0 0, .int .i64 0, .slice none 0 0, .int .i64 0, .slice none 0 0, .int .i64 0, .slice none 0 0, .int .i64 0, .slice none 0 0, .int .i64 0, .slice none 0 0, .int .i64 0, .slice none 0 0, .int .i64 0, .slice none 0 0, .int .i64 0, .slice none 0 0, .int .i64 0, .slice none 0 0, .int .i64 0, .slice none 0 0, .int .i64 0, .slice none 0 0, .int .i64 0] 103)).alloc (.cells ([.slice none 0 0, .int .i64 0, .slice none 0 0, .int .i64 0, .slice none 0 0, .int .i64 0, .slice none 0 0, .int .i64 0, .slice none 0 0, .int .i64 0, .slice none 0 0, .int .i64 0, .slice none 0 0, .int .i64 0, .slice none 0 0, .int .i64 0, .slice none 0 0, .int .i64 0, .slice none 0 0, .int .i64 0, .slice none 0 0, .int .i64 0, .slice none 0 0, .int .i64 0, .slice none 0 0, .int .i64 0, .slice none 0 0, .int .i64 0, .slice none 0 0, .int .i64 0, .slice none 0 0, .int .i64 0, .slice none 0 0, .int .i64 0, .slice none 0 0, .int .i64 0, .slice none 0 0, .int .i64 0, .slice none 0 0, .int .i64 0, .slice none 0 0, .int .i64 0, .slice none 0 0, .int .i64 0, .slice none 0 0, .int .i64 0, .slice none 0 0, .int .i64 0, .slice none 0 0, .int .i64 0, .slice none 0 0, .int .i64 0, .slice none 0 0, .int .i64 0, .slice none 0 0, .int .i64 0, .slice none 0 0, .int .i64 0, .slice none 0 0, .int .i64 0, .slice none 0 0, .int .i64 0].set (fr * 2) (.slice (some ⟨B + 1 + 1, 0, none⟩) 1 1)).toArray 103)).alloc (.cells #[.int .i64 (fr : Int)] 3)) := by
  have e1 : (List.replicate 31 (default : PC)).getD fr default = default := by rw [List.getD_eq_getElem?_getD, List.getElem?_replicate, if_pos (by omega)]; rfl
  have e2 := cellsP_set0 (List.replicate 31 default) fr (some ⟨B + 1 + 1, 0, none⟩) 1 1 (by simp; omega)
  rw [e1] at e2
  have hz : ∀ o1 o2 : Obj, ((w.alloc o1).alloc o2).heap.size = B + 1 + 1 := fun o1 o2 => by simp [hB]
  have hz1 : ∀ o1 : Obj, (w.alloc o1).heap.size = B + 1 := fun o1 => by simp [hB]
  have hns : NS (((w.alloc (.cells #[.slice none 0 0, .int .i64 0, .slice none 0 0, .int .i64 0, .slice none 0 0, .int .i64 0, .slice none 0 0, .int .i64 0, .slice none 0 0, .int .i64 0, .slice none 0 0, .int .i64 0, .slice none 0 0, .int .i64 0, .slice none 0 0, .int .i64 0, .slice none 0 0, .int .i64 0, .slice none 0 0, .int .i64 0, .slice none 0 0, .int .i64 0, .slice none 0 0, .int .i64 0, .slice none 0 0, .int .i64 0, .slice none 0 0, .int .i64 0, .slice none 0 0, .int .i64 0, .slice none 0 0, .int .i64 0, .slice none 0 0, .int .i64 0, .slice none 0 0, .int .i64 0, .slice none 0 0, .int .i64 0, .slice none 0 0, .int .i64 0, .slice none 0 0, .int .i64 0, .slice none 0 0, .int .i64 0, .slice none 0 0, .int .i64 0, .slice none 0 0, .int .i64 0, .slice none 0 0, .int .i64 0, .slice none 0 0, .int .i64 0, .slice none 0 0, .int .i64 0, .slice none 0 0, .int .i64 0, .slice none 0 0, .int .i64 0, .slice none 0 0, .int .i64 0, .slice none 0 0, .int .i64 0] 103)).alloc (.cells ([.slice none 0 0, .int .i64 0, .slice none 0 0, .int .i64 0, .slice none 0 0, .int .i64 0, .slice none 0 0, .int .i64 0, .slice none 0 0, .int .i64 0, .slice none 0 0, .int .i64 0, .slice none 0 0, .int .i64 0, .slice none 0 0, .int .i64 0, .slice none 0 0, .int .i64 0, .slice none 0 0, .int .i64 0, .slice none 0 0, .int .i64 0, .slice none 0 0, .int .i64 0, .slice none 0 0, .int .i64 0, .slice none 0 0, .int .i64 0, .slice none 0 0, .int .i64 0, .slice none 0 0, .int .i64 0, .slice none 0 0, .int .i64 0, .slice none 0 0, .int .i64 0, .slice none 0 0, .int .i64 0, .slice none 0 0, .int .i64 0, .slice none 0 0, .int .i64 0, .slice none 0 0, .int .i64 0, .slice none 0 0, .int .i64 0, .slice none 0 0, .int .i64 0, .slice none 0 0, .int .i64 0, .slice none 0 0, .int .i64 0, .slice none 0 0, .int .i64 0, .slice none 0 0, .int .i64 0, .slice none 0 0, .int .i64 0, .slice none 0 0, .int .i64 0, .slice none 0 0, .int .i64 0].set (fr * 2) (.slice (some ⟨B + 1 + 1, 0, none⟩) 1 1)).toArray 103)).alloc (.cells #[.int .i64 (fr : Int)] 3)) (some ⟨B + 1 + 1, 0, none⟩) 1 1 [(fr : Int)] := by
    refine ⟨rfl, Nat.le_refl _, by omega, fun _ => ⟨B + 1 + 1, 0, rfl, fun i hi => ?_⟩, fun h => by cases h⟩
    obtain rfl : i = 0 := by omega
    simp only [World.cell?, heap_at, hz]
    simp
  refine ⟨?_, ?_, (PathsAt.zero _ _).set fr (by omega) (p := ⟨[(fr : Int)], 0⟩) hns (fun q hq => by cases hq; exact Nat.le_refl _), (((Below.refl _ _).alloc (Nat.le_refl _) _).alloc (by simp) _).alloc (by simp; omega) _, hB⟩
  · rw [heap_at, if_neg (by rw [hz]; omega), heap_at, if_neg (by rw [hz1]; omega), heap_at, if_pos hB.symm]
    rfl
  · rw [heap_at, if_neg (by rw [hz]; omega), heap_at, if_pos (by rw [hz1]), zeros62, e2]
    rfl
theorem start_cells (w : World) (B fr : Nat) (hf : fr ≤ 30) (hB : w.heap.size = B) : (((w.alloc (.cells #[.slice none 0 0, .int .i64 0, .slice none 0 0, .int .i64 0, .slice none 0 0, .int .i64 0, .slice none 0 0, .int .i64 0, .slice none 0 0, .int .i64 0, .slice none 0 0, .int .i64 0, .slice none 0 0, .int .i64 0, .slice none 0 0, .int .i64 0, .slice none 0 0, .int .i64 0, .slice none 0 0, .int .i64 0, .slice none 0 0, .int .i64 0, .slice none 0 0, .int .i64 0, .slice none 0 0, .int .i64 0, .slice none 0 0, .int .i64 0, .slice none 0 0, .int .i64 0, .slice none 0 0, .int .i64 0, .slice none 0 0, .int .i64 0, .slice none 0 0, .int .i64 0, .slice none 0 0, .int .i64 0, .slice none 0 0, .int .i64 0, .slice none 0 0, .int .i64 0, .slice none 0 0, .int .i64 0, .slice none 0 0, .int .i64 0, .slice none 0 0, .int .i64 0, .slice none 0 0, .int .i64 0, .slice none 0 0, .int .i64 0, .slice none 0 0, .int .i64 0, .slice none 0 0, .int .i64 0, .slice none 0 0, .int .i64 0, .slice none 0 0, .int .i64 0, .slice none 0 0, .int .i64 0] 103)).alloc (.cells #[.slice none 0 0, .int .i64 0, .slice none 0 0, .int .i64 0, .slice none 0 0, .int .i64 0, .slice none 0 0, .int .i64 0, .slice none 0 0, .int .i64 0, .slice none 0 0, .int .i64 0, .slice none 0 0, .int .i64 0, .slice none 0 0, .int .i64 0, .slice none 0 0, .int .i64 0, .slice none 0 0, .int .i64 0, .slice none 0 0, .int .i64 0, .slice none 0 0, .int .i64 0, .slice none 0 0, .int .i64 0, .slice none 0 0, .int .i64 0, .slice none 0 0, .int .i64 0, .slice none 0 0, .int .i64 0, .slice none 0 0, .int .i64 0, .slice none 0 0, .int .i64 0, .slice none 0 0, .int .i64 0, .slice none 0 0, .int .i64 0, .slice none 0 0, .int .i64 0, .slice none 0 0, .int .i64 0, .slice none 0 0, .int .i64 0, .slice none 0 0, .int .i64 0, .slice none 0 0, .int .i64 0, .slice none 0 0, .int .i64 0, .slice none 0 0, .int .i64 0, .slice none 0 0, .int .i64 0, .slice none 0 0, .int .i64 0, .slice none 0 0, .int .i64 0, .slice none 0 0, .int .i64 0] 103)).alloc (.cells #[.int .i64 (fr : Int)] 3)).cell? ⟨B + 1, fr * 2, none⟩ = some (.slice none 0 0) ∧ (((w.alloc (.cells #[.slice none 0 0, .int .i64 0, .slice none 0 0, .int .i64 0, .slice none 0 0, .int .i64 0, .slice none 0 0, .int .i64 0, .slice none 0 0, .int .i64 0, .slice none 0 0, .int .i64 0, .slice none 0 0, .int .i64 0, .slice none 0 0, .int .i64 0, .slice none 0 0, .int .i64 0, .slice none 0 0, .int .i64 0, .slice none 0 0, .int .i64 0, .slice none 0 0, .int .i64 0, .slice none 0 0, .int .i64 0, .slice none 0 0, .int .i64 0, .slice none 0 0, .int .i64 0, .slice none 0 0, .int .i64 0, .slice none 0 0, .int .i64 0, .slice none 0 0, .int .i64 0, .slice none 0 0, .int .i64 0, .slice none 0 0, .int .i64 0, .slice none 0 0, .int .i64 0, .slice none 0 0, .int .i64 0, .slice none 0 0, .int .i64 0, .slice none 0 0, .int .i64 0, .slice none 0 0, .int .i64 0, .slice none 0 0, .int .i64 0, .slice none 0 0, .int .i64 0, .slice none 0 0, .int .i64 0, .slice none 0 0, .int .i64 0, .slice none 0 0, .int .i64 0, .slice none 0 0, .int .i64 0] 103)).alloc (.cells #[.slice none 0 0, .int .i64 0, .slice none 0 0, .int .i64 0, .slice none 0 0, .int .i64 0, .slice none 0 0, .int .i64 0, .slice none 0 0, .int .i64 0, .slice none 0 0, .int .i64 0, .slice none 0 0, .int .i64 0, .slice none 0 0, .int .i64 0, .slice none 0 0, .int .i64 0, .slice none 0 0, .int .i64 0, .slice none 0 0, .int .i64 0, .slice none 0 0, .int .i64 0, .slice none 0 0, .int .i64 0, .slice none 0 0, .int .i64 0, .slice none 0 0, .int .i64 0, .slice none 0 0, .int .i64 0, .slice none 0 0, .int .i64 0, .slice none 0 0, .int .i64 0, .slice none 0 0, .int .i64 0, .slice none 0 0, .int .i64 0, .slice none 0 0, .int .i64 0, .slice none 0 0, .int .i64 0, .slice none 0 0, .int .i64 0, .slice none 0 0, .int .i64 0, .slice none 0 0, .int .i64 0, .slice none 0 0, .int .i64 0, .slice none 0 0, .int .i64 0, .slice none 0 0, .int .i64 0, .slice none 0 0, .int .i64 0, .slice none 0 0, .int .i64 0, .slice none 0 0, .int .i64 0] 103)).alloc (.cells #[.int .i64 (fr : Int)] 3)).frozen? ⟨B + 1, fr * 2, none⟩ = false := by
  have hz : ∀ o1 o2 : Obj, ((w.alloc o1).alloc o2).heap.size = B + 1 + 1 := fun o1 o2 => by simp [hB]
  have hz1 : ∀ o1 : Obj, (w.alloc o1).heap.size = B + 1 := fun o1 => by simp [hB]
  have h : (((w.alloc (.cells #[.slice none 0 0, .int .i64 0, .slice none 0 0, .int .i64 0, .slice none 0 0, .int .i64 0, .slice none 0 0, .int .i64 0, .slice none 0 0, .int .i64 0, .slice none 0 0, .int .i64 0, .slice none 0 0, .int .i64 0, .slice none 0 0, .int .i64 0, .slice none 0 0, .int .i64 0, .slice none 0 0, .int .i64 0, .slice none 0 0, .int .i64 0, .slice none 0 0, .int .i64 0, .slice none 0 0, .int .i64 0, .slice none 0 0, .int .i64 0, .slice none 0 0, .int .i64 0, .slice none 0 0, .int .i64 0, .slice none 0 0, .int .i64 0, .slice none 0 0, .int .i64 0, .slice none 0 0, .int .i64 0, .slice none 0 0, .int .i64 0, .slice none 0 0, .int .i64 0, .slice none 0 0, .int .i64 0, .slice none 0 0, .int .i64 0, .slice none 0 0, .int .i64 0, .slice none 0 0, .int .i64 0, .slice none 0 0, .int .i64 0, .slice none 0 0, .int .i64 0, .slice none 0 0, .int .i64 0, .slice none 0 0, .int .i64 0, .slice none 0 0, .int .i64 0, .slice none 0 0, .int .i64 0] 103)).alloc (.cells #[.slice none 0 0, .int .i64 0, .slice none 0 0, .int .i64 0, .slice none 0 0, .int .i64 0, .slice none 0 0, .int .i64 0, .slice none 0 0, .int .i64 0, .slice none 0 0, .int .i64 0, .slice none 0 0, .int .i64 0, .slice none 0 0, .int .i64 0, .slice none 0 0, .int .i64 0, .slice none 0 0, .int .i64 0, .slice none 0 0, .int .i64 0, .slice none 0 0, .int .i64 0, .slice none 0 0, .int .i64 0, .slice none 0 0, .int .i64 0, .slice none 0 0, .int .i64 0, .slice none 0 0, .int .i64 0, .slice none 0 0, .int .i64 0, .slice none 0 0, .int .i64 0, .slice none 0 0, .int .i64 0, .slice none 0 0, .int .i64 0, .slice none 0 0, .int .i64 0, .slice none 0 0, .int .i64 0, .slice none 0 0, .int .i64 0, .slice none 0 0, .int .i64 0, .slice none 0 0, .int .i64 0, .slice none 0 0, .int .i64 0, .slice none 0 0, .int .i64 0, .slice none 0 0, .int .i64 0, .slice none 0 0, .int .i64 0, .slice none 0 0, .int .i64 0, .slice none 0 0, .int .i64 0] 103)).alloc (.cells #[.int .i64 (fr : Int)] 3)).heap[B + 1]? = some (.cells (cellsP (List.replicate 31 default)).toArray 103 (0, 0)) := by
    rw [heap_at, if_neg (by rw [hz]; omega), heap_at, if_pos (by rw [hz1])]
    rfl
  obtain ⟨g0, -⟩ := cellsP_get (List.replicate 31 default) fr (by simp; omega)
  have e1 : (List.replicate 31 (default : PC)).getD fr default = default := by rw [List.getD_eq_getElem?_getD, List.getElem?_replicate, if_pos (by omega)]; rfl
  rw [e1] at g0
  refine ⟨?_, ?_⟩
  · rw [cell_of_row _ _ _ _ _ _ h, List.getElem?_toArray]
    exact g0
  · simp only [World.frozen?, h]
    simp
theorem Try.info_paths : (Try.prog.info? 103).map (·.size) = some 62 := by kernel_rfl
theorem info_pathsL {W : World} {lo : Nat} {L : List PC} {A : List RouteM.Pth} (h : PathsAt W lo L A) : (Try.prog.info? 103).map (·.size) = some (cellsP L).toArray.size := by
  rw [Try.info_paths]
  simp [cellsP_length, h.len]
theorem cellsP_all (L : List PC) : (cellsP L).toArray.all (·.oneCell') = true := by
  rw [Array.all_eq_true_iff_forall_mem]
  intro x hx
  exact cellsP_one L x (by simpa using hx)

set_option maxRecDepth 100000 in
set_option maxHeartbeats 2000000 in
theorem bestFrom_any (a : Option Addr) (n c : Nat) (l : List RouteM.EdR) (fr : Nat) (w : World) (hl : ES w a n c l) (hn : n ≤ 60) (hok : RouteM.okAll l) (hf : 1 ≤ fr ∧ fr ≤ 30) :
    Calls Try.prog 86 #[.slice a n c, .int .i64 fr] w (GivesF l fr w) := by
  obtain ⟨B, hB⟩ : ∃ B, w.heap.size = B := ⟨_, rfl⟩
  have HST := Lib.hid (FndSt.start w B fr hf.2 hB)
  obtain ⟨k0, k1⟩ := start_cells w B fr hf.2 hB
  have HL := Lib.hid hl
  have HLn := Lib.hid hl.len
  have HOK := Lib.hid hok
  have HF : Hid (1 ≤ (fr : Int) ∧ (fr : Int) ≤ 30) := by show _ ∧ _; omega
  have hd1 : decide (fr < 31) = true := by simp; omega
  have hd2 : fr < 31 := by omega
  have hd3 : (fr : Int) < 31 := by omega
  have HS0 := Lib.hid (RouteM.Snd.start l HF.out)
  have HC0 := Lib.hid (RouteM.Cmp.start l HF.out)
  rw [Int.toNat_natCast] at HS0 HC0
  clear hl hok
  go_enter Try.func86, Try.ntmps86
  go_wp2_with fail
  generalize ((w.alloc (.cells #[.slice none 0 0, .int .i64 0, .slice none 0 0, .int .i64 0, .slice none 0 0, .int .i64 0, .slice none 0 0, .int .i64 0, .slice none 0 0, .int .i64 0, .slice none 0 0, .int .i64 0, .slice none 0 0, .int .i64 0, .slice none 0 0, .int .i64 0, .slice none 0 0, .int .i64 0, .slice none 0 0, .int .i64 0, .slice none 0 0, .int .i64 0, .slice none 0 0, .int .i64 0, .slice none 0 0, .int .i64 0, .slice none 0 0, .int .i64 0, .slice none 0 0, .int .i64 0, .slice none 0 0, .int .i64 0, .slice none 0 0, .int .i64 0, .slice none 0 0, .int .i64 0, .slice none 0 0, .int .i64 0, .slice none 0 0, .int .i64 0, .slice none 0 0, .int .i64 0, .slice none 0 0, .int .i64 0, .slice none 0 0, .int .i64 0, .slice none 0 0, .int .i64 0, .slice none 0 0, .int .i64 0, .slice none 0 0, .int .i64 0, .slice none 0 0, .int .i64 0, .slice none 0 0, .int .i64 0, .slice none 0 0, .int .i64 0, .slice none 0 0, .int .i64 0, .slice none 0 0, .int .i64 0] 103)).alloc (.cells ([.slice none 0 0, .int .i64 0, .slice none 0 0, .int .i64 0, .slice none 0 0, .int .i64 0, .slice none 0 0, .int .i64 0, .slice none 0 0, .int .i64 0, .slice none 0 0, .int .i64 0, .slice none 0 0, .int .i64 0, .slice none 0 0, .int .i64 0, .slice none 0 0, .int .i64 0, .slice none 0 0, .int .i64 0, .slice none 0 0, .int .i64 0, .slice none 0 0, .int .i64 0, .slice none 0 0, .int .i64 0, .slice none 0 0, .int .i64 0, .slice none 0 0, .int .i64 0, .slice none 0 0, .int .i64 0, .slice none 0 0, .int .i64 0, .slice none 0 0, .int .i64 0, .slice none 0 0, .int .i64 0, .slice none 0 0, .int .i64 0, .slice none 0 0, .int .i64 0, .slice none 0 0, .int .i64 0, .slice none 0 0, .int .i64 0, .slice none 0 0, .int .i64 0, .slice none 0 0, .int .i64 0, .slice none 0 0, .int .i64 0, .slice none 0 0, .int .i64 0, .slice none 0 0, .int .i64 0, .slice none 0 0, .int .i64 0, .slice none 0 0, .int .i64 0, .slice none 0 0, .int .i64 0].set (fr * 2) (.slice (some ⟨B + 1 + 1, 0, none⟩) 1 1)).toArray 103)).alloc (.cells #[.int .i64 (fr : Int)] 3) = W0 at HST ⊢
  clear k0 k1
  go_loopw [14] (fun i wr => RndRel l fr w B i wr) (fun i _ => 29 - (intOf i).toNat)
  case atStart => exact ⟨0, 0, _, _, rfl, by omega, by omega, HS0.out, HC0.out, HST.out⟩
  case round =>
    clear HST HS0 HC0
    obtain ⟨r, t, L, A, rfl, hr, ht, hS, hC, hR⟩ := hrel
    have HS := Lib.hid hS
    have HC := Lib.hid hC
    have HR := Lib.hid hR
    clear hS hC hR
    by_cases hr29 : r < 29
    · have hr29i : (r : Int) < 29 := by omega
      go_wp2_with fail
      go_loopw [18] (fun i wr => EdgRelF l fr w B r i wr) (fun i _ => n - (intOf i).toNat)
      case atStart => exact ⟨0, t, L, A, rfl, Nat.zero_le _, by omega, HS.out, .start HC.out, HR.out⟩
      case round =>
        clear HS HC HR ht A t L
        obtain ⟨k, t, L, A, rfl, hk, ht, hS, hH, hR⟩ := hrel
        rw [HLn.out] at hk
        have HS := Lib.hid hS
        have HH := Lib.hid hH
        clear hS hH
        by_cases hkn : k < n
        · obtain ⟨b, off, rfl, hcs⟩ := (HL.out.later hR.below).cells (by omega)
          obtain ⟨q0, q1, q2, -⟩ := hcs k hkn
          have hkl : k < l.length := by rw [HLn.out]; exact hkn
          have hmem : l.getD k default ∈ l := by rw [List.getD_eq_getElem?_getD, List.getElem?_eq_getElem hkl]; exact List.getElem_mem hkl
          have HNx := Lib.hid (HH.out.next HOK.out HF.out HS.out hkl)
          have HNi := Lib.hid (HS.out.rlx HOK.out hmem)
          have nums := RouteM.ok_nums HOK.out hmem
          clear hmem hcs
          generalize l.getD k default = o at q0 q1 q2 HNx HNi nums
          obtain ⟨F0, T0, K⟩ := o
          simp only at q0 q1 q2 nums
          obtain ⟨F, rfl⟩ : ∃ F : Nat, F0 = F := ⟨F0.toNat, by omega⟩
          obtain ⟨T, rfl⟩ : ∃ T : Nat, T0 = T := ⟨T0.toNat, by omega⟩
          have hF31 : F < 31 := by omega
          have hT31 : T < 31 := by omega
          have bF := HS.out.bound HOK.out (v := F) (by omega)
          have HPF : Hid (RouteM.pat A F = A.getD F RouteM.noPth) := by show _ = _; simp [RouteM.pat]
          have HPT : Hid (RouteM.pat A T = A.getD T RouteM.noPth) := by show _ = _; simp [RouteM.pat]
          rw [HPF.out] at bF
          obtain ⟨s1, s2, s3⟩ := hR.p.row F hF31
          obtain ⟨s4, s5, s6⟩ := hR.p.row T hT31
          have HRx : Hid (RouteM.rlx A ⟨F, T, K⟩ = if RouteM.bett (RouteM.ext (A.getD F RouteM.noPth) ⟨F, T, K⟩) (A.getD T RouteM.noPth) = true then A.set T (RouteM.ext (A.getD F RouteM.noPth) ⟨F, T, K⟩) else A) := by
            show _ = _
            unfold RouteM.rlx
            rw [HPF.out]
            simp only [HPT.out, Int.toNat_natCast]
          generalize hPF : A.getD F RouteM.noPth = pF at s1 s2 bF HRx
          generalize hAT : A.getD T RouteM.noPth = pT at s4 s5 HRx
          have HAT := Lib.hid hAT
          clear hAT
          generalize hLF : L.getD F default = PF at s1 s2
          obtain ⟨aF, nF, cF, kF⟩ := PF
          simp only at s1 s2
          subst s2
          generalize hLT : L.getD T default = PT at s4 s5
          obtain ⟨aT, nT, cT, kT⟩ := PT
          simp only at s4 s5
          subst s5
          have hnF : nF ≤ 100000 := by have := s1.len; omega
          have hcF : 0 ≤ pF.cost ∧ pF.cost ≤ 1000000000 := by omega
          have HX := Lib.hid (fun W h => extended_any aF nF cF pF ⟨F, T, K⟩ W h hnF hcF (by simp only; omega))
          obtain ⟨q, hq⟩ : ∃ q, RouteM.ext pF ⟨F, T, K⟩ = q := ⟨_, rfl⟩
          rw [hq] at HX HRx
          simp only at HX
          obtain ⟨bt, hbt⟩ : ∃ bt, RouteM.bett q pT = bt := ⟨_, rfl⟩
          have HBt := Lib.hid (fun a2 n2 c2 W h1 h2 => isBetter_any a2 aT n2 c2 nT cT q pT W h1 h2)
          rw [hbt] at HBt HRx
          obtain ⟨D, hD⟩ : ∃ D, wr.heap.size = D := ⟨_, rfl⟩
          have hbl : Below wr.heap.size wr (wr.alloc (.cells #[.int .i64 (F : Int), .int .i64 (T : Int), .int .i64 K] 63)) := (Below.refl _ _).alloc (Nat.le_refl _) _
          have hD1 : (wr.alloc (.cells #[.int .i64 (F : Int), .int .i64 (T : Int), .int .i64 K] 63)).heap[D]? = some (.cells #[.int .i64 (F : Int), .int .i64 (T : Int), .int .i64 K] 63 (0, 0)) := by rw [heap_at, if_pos hD.symm]
          have hR2 := hR.later hbl
          have hsF := s1.later hbl
          have hsT := s4.later hbl
          obtain ⟨f0, f1, -, -⟩ := hR2.at_ F hF31 hLF
          obtain ⟨d0, d1, d2⟩ := edge_cells hD1
          have hBD : B + 1 < D := by have := blk_ltR hR.c1; omega
          have hz2 : (wr.alloc (.cells #[.int .i64 (F : Int), .int .i64 (T : Int), .int .i64 K] 63)).heap.size = D + 1 := by simp [hD]
          have HLF := Lib.hid hLF
          have HLT := Lib.hid hLT
          clear hbl hR hq hbt hLF hLT hPF s1 s3 s4 s6 hcF
          have i1 : decide (F < 31) = true := by simp; omega
          have i2 : (F : Int) < 31 := by omega
          have i3 : decide (T < 31) = true := by simp; omega
          have i4 : (T : Int) < 31 := by omega
          go_wp2_with fail
          generalize wr.alloc (.cells #[.int .i64 (F : Int), .int .i64 (T : Int), .int .i64 K] 63) = W2 at hD1 hR2 hsF hsT f0 f1 d0 d1 d2 hz2 ⊢
          have H2 := Lib.hid hR2
          have HD1 := Lib.hid hD1
          have HZ2 := Lib.hid hz2
          have HsT := Lib.hid hsT
          have N1 : Hid (NS W2.drew aF nF cF pF.vs) := hsF.later (Below.refl _ _).drew
          have hb2 : Below W2.heap.size W2 (W2.alloc (.cells #[.slice none 0 0, .int .i64 0] 101)).drew := ((Below.refl _ _).alloc (Nat.le_refl _) _).drew
          have N2 : Hid (NS (W2.alloc (.cells #[.slice none 0 0, .int .i64 0] 101)).drew aF nF cF pF.vs) := hsF.later hb2
          have R2 := Lib.hid (hR2.later hb2)
          have E2 : Hid ((W2.alloc (.cells #[.slice none 0 0, .int .i64 0] 101)).drew.heap[D]? = some (.cells #[.int .i64 (F : Int), .int .i64 (T : Int), .int .i64 K] 63 (0, 0))) := (hb2.block D (by omega)).trans hD1
          have Z2 : Hid ((W2.alloc (.cells #[.slice none 0 0, .int .i64 0] 101)).drew.heap[D + 1]? = some (.cells #[.slice none 0 0, .int .i64 0] 101 (0, 0))) := by
            show (W2.alloc (.cells #[.slice none 0 0, .int .i64 0] 101)).heap[D + 1]? = _
            rw [heap_at, if_pos hz2.symm]
          have Y2 : Hid ((W2.alloc (.cells #[.slice none 0 0, .int .i64 0] 101)).drew.heap.size = D + 2) := by
            show (W2.alloc (.cells #[.slice none 0 0, .int .i64 0] 101)).heap.size = D + 2
            simp [hz2]
          have HRow : Hid (∀ i, i < 31 → 0 < (L.getD i default).n → ∀ p, (L.getD i default).a = some p → p.block < D + 1) := by
            show ∀ i, _
            intro i hi hn p hp
            have := (hR2.p.row i hi).1.lt hn hp
            omega
          obtain ⟨o0, o1, o2⟩ := edge_cells E2.out
          obtain ⟨o3, o4, -, -⟩ := R2.out.at_ F hF31 HLF.out
          clear hb2 hR2 hD1 hsT q0 q1 q2
          go_cut [8] (fun s8 wx => XCutRel w B D F T K L A q s8 wx)
          case first =>
            go_region_held3 (fun W => W.cell? ⟨D, 0, none⟩ = some (.int .i64 (F : Int)) ∧ W.cell? ⟨D, 1, none⟩ = some (.int .i64 (T : Int)) ∧ W.cell? ⟨D, 2, none⟩ = some (.int .i64 K) ∧ W.cell? ⟨B + 1, F * 2, none⟩ = some (.slice aF nF cF) ∧ W.cell? ⟨B + 1, F * 2 + 1, none⟩ = some (.int .i64 pF.cost))
              (first | exact ⟨d0, d1, d2, f0, f1⟩ | exact ⟨o0, o1, o2, o3, o4⟩ | exact ⟨p0, p1, p2, p3, p4⟩ | exact ⟨r0, r1, r2, r3, r4⟩ | go_keep) (first
              | (go_at_call 114; (with_reducible refine (HX.out _ N1.out).mono ?_); rintro e W3 ⟨a2, n2, c2, rfl, hs2, hn2, hb2⟩
                 have hR3 := (H2.out.later (Below.refl _ _).drew).later hb2
                 have hz3 : D + 1 ≤ W2.drew.heap.size := by show D + 1 ≤ W2.heap.size; rw [HZ2.out]; exact Nat.le_refl _
                 have hE3 := (hb2.block D (by omega)).trans HD1.out
                 obtain ⟨p0, p1, p2⟩ := edge_cells hE3
                 obtain ⟨p3, p4, -, -⟩ := hR3.at_ F hF31 HLF.out
                 have HXA := Lib.hid (XCut.of_alloc (q := q) hR3 hE3 hs2 (fun p hp => by have := hn2 p hp; omega))
                 obtain ⟨r0, r1, r2⟩ := edge_cells HXA.out.e
                 obtain ⟨r3, r4, -, -⟩ := HXA.out.r.at_ F hF31 HLF.out
                 clear hR3 hz3 hE3 hs2 hn2 hb2)
              | (go_at_call 114; (with_reducible refine (HX.out _ N2.out).mono ?_); rintro e W3 ⟨a2, n2, c2, rfl, hs2, hn2, hb2⟩
                 have hR3 := R2.out.later hb2
                 have hE3 := (hb2.block D (blk_ltR E2.out)).trans E2.out
                 have hZ3 := (hb2.block (D + 1) (blk_ltR Z2.out)).trans Z2.out
                 obtain ⟨p0, p1, p2⟩ := edge_cells hE3
                 obtain ⟨p3, p4, -, -⟩ := hR3.at_ F hF31 HLF.out
                 obtain ⟨y0, y1, y2, y3⟩ := path_cells hZ3
                 have HXA := Lib.hid (XCut.of_set (q := q) hR3 hE3 hs2 hZ3 (fun p hp => by have := hn2 p hp; rw [Y2.out] at this; omega) (by omega) (by omega) HRow.out)
                 obtain ⟨r0, r1, r2⟩ := edge_cells HXA.out.e
                 obtain ⟨r3, r4, -, -⟩ := HXA.out.r.at_ F hF31 HLF.out
                 clear hR3 hE3 hZ3 hs2 hn2 hb2))
            all_goals
              go_wp2_with fail
              go_meet
              exact ⟨_, a2, n2, c2, rfl, HXA.out⟩
          case rest =>
            obtain ⟨P, a2, n2, c2, rfl, hx⟩ := hcut
            have HXC := Lib.hid hx
            clear hx d0 d1 d2 f0 f1 o0 o1 o2 o3 o4 HX N1 N2 R2 E2 Z2 Y2 HRow H2 HD1 HZ2 hz2 hsF HsT
            obtain ⟨x0, x1, -, -⟩ := path_cells HXC.out.x
            obtain ⟨d0, d1, d2⟩ := edge_cells HXC.out.e
            obtain ⟨f0, f1, f2, f3⟩ := HXC.out.r.at_ T hT31 HLT.out
            have HNT : Hid (NS wc aT nT cT pT.vs) := by
              show NS _ _ _ _ _
              have := (HXC.out.r.p.row T hT31).1
              rw [HLT.out, HAT.out] at this
              exact this
            go_wp2_with fail
            go_region_held3 (fun W => W.cell? ⟨P, 0, none⟩ = some (.slice a2 n2 c2) ∧ W.cell? ⟨P, 1, none⟩ = some (.int .i64 q.cost) ∧ W.cell? ⟨D, 1, none⟩ = some (.int .i64 (T : Int)) ∧ W.cell? ⟨B + 1, T * 2, none⟩ = some (.slice aT nT cT) ∧ W.cell? ⟨B + 1, T * 2 + 1, none⟩ = some (.int .i64 pT.cost))
              (first | exact ⟨x0, x1, d1, f0, f1⟩ | exact ⟨y0, y1, y2, y3, y4⟩ | go_keep) (first
              | (go_at_call 115; refine (HBt.out _ _ _ _ (HXC.out.s.later (Below.refl _ _).drew) (HNT.out.later (Below.refl _ _).drew)).mono ?_; rintro e W5 ⟨rfl, hb5⟩
                 have HX5 := Lib.hid ((HXC.out.later (Below.refl _ _).drew).later hb5)
                 obtain ⟨y0, y1, -, -⟩ := path_cells HX5.out.x
                 obtain ⟨-, y2, -⟩ := edge_cells HX5.out.e
                 obtain ⟨y3, y4, y5, y6⟩ := HX5.out.r.at_ T hT31 HLT.out
                 clear hb5))
            clear HXC x0 x1 d0 d1 d2 f0 f1 f2 f3 HNT HBt
            cases bt with
            | true =>
              have HRe : Hid (RouteM.rlx A ⟨F, T, K⟩ = A.set T q) := by show _ = _; rw [HRx.out, if_pos rfl]
              rw [HRe.out] at HNx HNi
              have HSet := Lib.hid (HX5.out.r.set T hT31 HX5.out.s HX5.out.far)
              go_wp2_with fail
              go_roundw
              case rel => exact ⟨k + 1, t + 1, _, _, by go_num, by rw [HLn.out]; omega, by omega, HNi.out, HNx.out, HSet.out⟩
              case measure => simp [intOf]; omega
            | false =>
              have HRe : Hid (RouteM.rlx A ⟨F, T, K⟩ = A) := by show _ = _; rw [HRx.out, if_neg (by simp)]
              rw [HRe.out] at HNx HNi
              go_wp2_with fail
              go_roundw
              case rel => exact ⟨k + 1, t + 1, _, _, by go_num, by rw [HLn.out]; omega, by omega, HNi.out, HNx.out, HX5.out.r⟩
              case measure => simp [intOf]; omega
        · have HCN : Hid (RouteM.Cmp l fr (r + 1) A) := by
            show RouteM.Cmp _ _ _ _
            refine RouteM.Hlf.done ?_
            have hkl : k = l.length := by rw [HLn.out]; omega
            rw [← hkl]
            exact HH.out
          go_wp2_with fail
          go_roundw
          case rel => exact ⟨r + 1, t, L, A, by go_num, by omega, by omega, HS.out, HCN.out, hR⟩
          case measure => simp [intOf]; omega
    · obtain rfl : r = 29 := by omega
      have hc0 := HR.out.c0
      have hc1 := HR.out.c1
      have hi := info_pathsL HR.out.p
      have ho : (cellsP (List.replicate 31 default)).toArray.size = (cellsP L).toArray.size := by simp [cellsP_length, HR.out.p.len]
      have ha := cellsP_all L
      obtain ⟨hg, hp, hb⟩ := HR.out.done
      have HG := Lib.hid hg
      have HP := Lib.hid hp
      have HBB := Lib.hid hb
      clear hg hp hb
      go_wp2_with (first
        | (refine wpList_load_row rfl 103 (.tmp 5) rfl (B + 1) rfl 103 (cellsP L).toArray (0, 0) _ hc1 Try.underlying103 rfl hi ?_)
        | (refine wpList_store_row rfl 103 (.tmp 4) (.tmp 40) rfl B (cellsP L).toArray rfl rfl 103 _ hc0 hi ho ha ?_))
      refine bodyPost_ret (results_cell_row rfl _ _ B 103 _ (0, 0) _ rfl HG.out Try.underlying103 rfl hi) rfl ?_
      exact ⟨L, A, t, HS.out, HC.out, rfl, HP.out, HBB.out⟩
end Go.Proofs.Ytmpmaljkmfgagab
