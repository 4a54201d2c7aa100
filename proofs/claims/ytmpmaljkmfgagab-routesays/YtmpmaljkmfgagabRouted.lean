/-
  The closed fact of the ways' statements: three ways.
-/
import Derived.Test.YtmpmaljkmfgagabRouteC
import Derived.Test.YtmpmaljkmfgagabEqNS
namespace Go.Proofs.Ytmpmaljkmfgagab
open Go.RowKit

namespace RouteM
def edL : List EdR := [⟨1, 2, 3⟩, ⟨2, 4, 3⟩, ⟨1, 3, 2⟩, ⟨3, 4, 4⟩, ⟨1, 4, 7⟩]
theorem Way.inv {l : List EdR} {a b c : Int} {p : List Int} (h : Way l b a p c) : (a = b ∧ p = [b] ∧ c = 0) ∨ ∃ e ∈ l, e.fr = a ∧ ∃ t c', p = a :: t ∧ c = e.cost + c' ∧ Way l b e.to_ t c' := by
  cases h with
  | one => exact .inl ⟨rfl, rfl, rfl⟩
  | step e t c he h => exact .inr ⟨e, he, rfl, t, c, rfl, rfl, h⟩
theorem edL_mem {e : EdR} (h : e ∈ edL) : e = ⟨1, 2, 3⟩ ∨ e = ⟨2, 4, 3⟩ ∨ e = ⟨1, 3, 2⟩ ∨ e = ⟨3, 4, 4⟩ ∨ e = ⟨1, 4, 7⟩ := by simpa [edL] using h
theorem edL_check : check edL = 0 := by decide
theorem edL_ok : okAll edL := (check_ok edL_check).2
theorem from4 {b c : Int} {p : List Int} (h : Way edL b 4 p c) : 4 = b ∧ p = [b] ∧ c = 0 := by
  rcases h.inv with h | ⟨e, he, hf, -⟩
  · exact h
  · rcases edL_mem he with rfl | rfl | rfl | rfl | rfl <;> simp at hf
theorem from2 {c : Int} {p : List Int} (h : Way edL 4 2 p c) : p = [2, 4] ∧ c = 3 := by
  rcases h.inv with ⟨h, _⟩ | ⟨e, he, hf, t, c', rfl, rfl, hw⟩
  · omega
  · rcases edL_mem he with rfl | rfl | rfl | rfl | rfl <;> simp at hf
    obtain ⟨-, rfl, rfl⟩ := from4 hw
    exact ⟨rfl, rfl⟩
theorem from3 {c : Int} {p : List Int} (h : Way edL 4 3 p c) : p = [3, 4] ∧ c = 4 := by
  rcases h.inv with ⟨h, _⟩ | ⟨e, he, hf, t, c', rfl, rfl, hw⟩
  · omega
  · rcases edL_mem he with rfl | rfl | rfl | rfl | rfl <;> simp at hf
    obtain ⟨-, rfl, rfl⟩ := from4 hw
    exact ⟨rfl, rfl⟩
theorem best14 : Best edL 1 4 [1, 2, 4] 6 := by
  refine ⟨.step ⟨1, 2, 3⟩ _ _ (by simp [edL]) (.step ⟨2, 4, 3⟩ _ _ (by simp [edL]) .one), fun p c h => ?_⟩
  rcases h.inv with ⟨h, _⟩ | ⟨e, he, hf, t, c', rfl, rfl, hw⟩
  · omega
  · rcases edL_mem he with rfl | rfl | rfl | rfl | rfl <;> simp at hf
    · obtain ⟨rfl, rfl⟩ := from2 hw
      exact .inr ⟨rfl, .inr ⟨rfl, lexLe_refl _⟩⟩
    · obtain ⟨rfl, rfl⟩ := from3 hw
      exact .inr ⟨rfl, .inr ⟨rfl, .inr ⟨rfl, .inl (by omega)⟩⟩⟩
    · obtain ⟨-, rfl, rfl⟩ := from4 hw
      exact .inl (by simp)
theorem none41 : NoWay edL 4 1 := fun p c h => by
  have := (from4 h).1
  omega
end RouteM
def cellsE : List RouteM.EdR → List Value
  | [] => []
  | e :: t => .int .i64 e.fr :: .int .i64 e.to_ :: .int .i64 e.cost :: cellsE t
theorem cellsE_get : ∀ (x : List RouteM.EdR) (i : Nat), i < x.length → (cellsE x)[i * 3]? = some (.int .i64 (x.getD i default).fr) ∧ (cellsE x)[i * 3 + 1]? = some (.int .i64 (x.getD i default).to_) ∧ (cellsE x)[i * 3 + 2]? = some (.int .i64 (x.getD i default).cost)
  | [], i, h => by simp at h
  | o :: t, 0, _ => by simp [cellsE]
  | o :: t, i + 1, h => by
    have := cellsE_get t i (by simpa using h)
    simp only [cellsE, List.getD_cons_succ, show (i + 1) * 3 = i * 3 + 1 + 1 + 1 by omega, List.getElem?_cons_succ]
    exact this
theorem lit_es (W : World) (l : List RouteM.EdR) (n : Nat) (hl : l.length = n) (hn : n ≤ 1000) (h64 : ∀ e ∈ l, I64 e.fr ∧ I64 e.to_ ∧ I64 e.cost) : ES (W.alloc (.cells (cellsE l).toArray 63)) (some ⟨W.heap.size, 0, none⟩) n n l := by
  refine ⟨hl, Nat.le_refl _, by omega, fun _ => ⟨_, 0, rfl, fun i hi => ?_⟩, fun h => by cases h⟩
  obtain ⟨g0, g1, g2⟩ := cellsE_get l i (by omega)
  have hm : l.getD i default ∈ l := by rw [List.getD_eq_getElem?_getD, List.getElem?_eq_getElem (by omega)]; exact List.getElem_mem _
  have cell : ∀ j, (W.alloc (.cells (cellsE l).toArray 63)).cell? ⟨W.heap.size, j, none⟩ = (cellsE l)[j]? := by
    intro j
    simp only [World.cell?, heap_at, if_pos]
    simp
  refine ⟨?_, ?_, ?_, h64 _ hm⟩
  · rw [cell, Nat.zero_add]; exact g0
  · rw [cell, Nat.zero_add]; exact g1
  · rw [cell, Nat.zero_add]; exact g2
theorem lit_ns (W : World) (zs : List Int) (n : Nat) (hn : zs.length = n) (hm : n ≤ 1000) : NS (W.alloc (.cells (zs.map (Value.int .i64)).toArray 3)) (some ⟨W.heap.size, 0, none⟩) n n zs := by
  refine ⟨hn, Nat.le_refl _, by omega, fun _ => ⟨W.heap.size, 0, rfl, fun i hi => ?_⟩, fun h => by cases h⟩
  have hi' : i < zs.length := by omega
  rw [Nat.zero_add]
  simp only [World.cell?, heap_at, if_pos]
  simp [List.getD_eq_getElem?_getD, List.getElem?_eq_getElem hi']

set_option maxRecDepth 100000 in
set_option maxHeartbeats 1000000 in
theorem routed_any (HBst : BestRC) (w : World) :
    Calls Try.prog 38 #[] w fun e w' => e = .returned (.bool true) ∧ Below w.heap.size w w' := by
  have l1 := lit_es w RouteM.edL 5 rfl (by omega) (by intro e he; rcases RouteM.edL_mem he with rfl | rfl | rfl | rfl | rfl <;> (unfold I64; simp))
  have b1 : Below w.heap.size w (w.alloc (.cells (cellsE RouteM.edL).toArray 63)) := (Below.refl _ _).alloc (Nat.le_refl _) _
  replace HBst := Lib.hid HBst
  go_enter Try.func38, Try.ntmps38
  go_wp2_with fail
  refine (HBst.out _ _ _ RouteM.edL 1 4 _ l1).mono ?_
  rintro e W1 ⟨p1, N1, e1, a1, n1, c1, h1, rfl, s1, c1b⟩
  obtain ⟨rfl, rfl, rfl⟩ := h1.best RouteM.edL_check (by unfold RouteM.inV; omega) RouteM.best14
  replace l1 := l1.later c1b
  replace b1 := below_then b1 c1b
  clear h1 c1b
  go_wp2_with fail
  refine (HBst.out _ _ _ RouteM.edL 2 2 _ l1).mono ?_
  rintro e W2 ⟨p2, N2, e2, a2, n2, c2, h2, rfl, s2, c2b⟩
  obtain ⟨rfl, rfl, rfl⟩ := h2.best RouteM.edL_check (by unfold RouteM.inV; omega) (RouteM.best_end RouteM.edL_ok)
  replace l1 := l1.later c2b
  replace s1 := s1.later c2b
  replace b1 := below_then b1 c2b
  clear h2 c2b
  go_wp2_with fail
  refine (HBst.out _ _ _ RouteM.edL 4 1 _ l1).mono ?_
  rintro e W3 ⟨p3, N3, e3, a3, n3, c3, h3, rfl, -, c3b⟩
  obtain ⟨rfl, rfl, rfl⟩ := h3.none RouteM.edL_check (by unfold RouteM.inV; omega) RouteM.none41
  replace s1 := s1.later c3b
  replace s2 := s2.later c3b
  replace b1 := below_then b1 c3b
  clear h3 c3b l1
  have l2 := lit_ns W3 [1, 2, 4] 3 rfl (by omega)
  have hb4 : Below W3.heap.size W3 (W3.alloc (.cells (([1, 2, 4] : List Int).map (Value.int .i64)).toArray 3)) := (Below.refl _ _).alloc (Nat.le_refl _) _
  replace s1 := s1.later hb4
  replace s2 := s2.later hb4
  replace b1 := below_then b1 hb4
  clear hb4
  go_wp2_with fail
  refine (eqInts_any _ _ _ _ _ _ _ _ _ s1 l2).mono ?_
  rintro e W4 ⟨rfl, hd4⟩
  rw [decide_eq_true (rfl : ([1, 2, 4] : List Int) = [1, 2, 4])]
  replace s2 := s2.later hd4.below
  replace b1 := below_then b1 hd4.below
  clear hd4 s1 l2
  have l3 := lit_ns W4 [2] 1 rfl (by omega)
  have hb5 : Below W4.heap.size W4 (W4.alloc (.cells (([2] : List Int).map (Value.int .i64)).toArray 3)) := (Below.refl _ _).alloc (Nat.le_refl _) _
  replace s2 := s2.later hb5
  replace b1 := below_then b1 hb5
  clear hb5
  go_wp2_with fail
  refine (eqInts_any _ _ _ _ _ _ _ _ _ s2 l3).mono ?_
  rintro e W5 ⟨rfl, hd5⟩
  rw [decide_eq_true (rfl : ([2] : List Int) = [2])]
  replace b1 := below_then b1 hd5.below
  go_wp2_with fail
  go_ret
  exact ⟨rfl, b1⟩
end Go.Proofs.Ytmpmaljkmfgagab
