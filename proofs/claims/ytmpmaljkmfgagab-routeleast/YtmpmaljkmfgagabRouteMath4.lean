/-
  Plain data: least edges along a way, one after the other.
-/
import Derived.Test.YtmpmaljkmfgagabRouteMath3
namespace Go.Proofs.Ytmpmaljkmfgagab.RouteM

theorem sumLeast_take (l : List EdR) : ∀ (p : List Int) (I : Nat), 1 ≤ I → I < p.length → sumLeast l (p.take (I + 1)) = sumLeast l (p.take I) + least (p.getD (I - 1) 0) (p.getD I 0) l 0
  | [], I, _, h => by simp at h
  | [x], I, h1, h => by simp at h; omega
  | x :: y :: t, 0, h1, _ => by omega
  | x :: y :: t, 1, _, _ => by simp [sumLeast]
  | x :: y :: t, I + 2, _, h => by
    have ih := sumLeast_take l (y :: t) (I + 1) (by omega) (by simpa using h)
    simp only [List.take_succ_cons, sumLeast, Nat.add_sub_cancel, List.getD_cons_succ] at ih ⊢
    rw [show I + 2 - 1 = I + 1 by omega, List.getD_cons_succ]
    omega
theorem split_at {p : List Int} {K : Nat} (h : K < p.length) : p = p.take K ++ p.getD K 0 :: p.drop (K + 1) := by
  rw [List.getD_eq_getElem?_getD, List.getElem?_eq_getElem h, Option.getD_some, ← List.drop_eq_getElem_cons h, List.take_append_drop]
theorem drop_at {p : List Int} {K : Nat} (h : K < p.length) : p.drop K = p.getD K 0 :: p.drop (K + 1) := by
  rw [List.getD_eq_getElem?_getD, List.getElem?_eq_getElem h, Option.getD_some, ← List.drop_eq_getElem_cons h]
theorem take_at {p : List Int} {K : Nat} (h : K < p.length) : p.take (K + 1) = p.take K ++ [p.getD K 0] := by
  rw [List.take_add_one, List.getD_eq_getElem?_getD, List.getElem?_eq_getElem h]
  rfl
theorem along {l : List EdR} (hl : okAll l) {a b c : Int} {p : List Int} (h : Way l b a p c) {I : Nat} (h1 : 1 ≤ I) (h2 : I < p.length) : 0 < least (p.getD (I - 1) 0) (p.getD I 0) l 0 := by
  have e1 := split_at (p := p) (K := I - 1) (by omega)
  have e2 : p.drop (I - 1 + 1) = p.getD I 0 :: p.drop (I + 1) := by
    rw [show I - 1 + 1 = I by omega, List.drop_eq_getElem_cons h2]
    simp [List.getD_eq_getElem?_getD, List.getElem?_eq_getElem h2]
  rw [e2] at e1
  rw [e1] at h
  exact h.some hl
theorem least_le {u v : Int} {l : List EdR} (hl : okAll l) : 0 ≤ least u v l 0 ∧ least u v l 0 ≤ 1000 := by
  obtain ⟨h1, h2, -, -⟩ := least_prop u v l 0 hl (Int.le_refl _)
  refine ⟨h2, ?_⟩
  rcases h1 with h1 | ⟨e, he, _, _, h4⟩
  · omega
  · have := ok_nums hl he
    omega
theorem least_hit {u v m : Int} {e : EdR} {t : List EdR} (h : e.fr = u ∧ e.to_ = v ∧ (m = 0 ∨ e.cost < m)) : least u v (e :: t) m = least u v t e.cost := by
  conv => lhs; unfold least
  rw [if_pos h]
theorem least_miss {u v m : Int} {e : EdR} {t : List EdR} (h : ¬ (e.fr = u ∧ e.to_ = v ∧ (m = 0 ∨ e.cost < m))) : least u v (e :: t) m = least u v t m := by
  conv => lhs; unfold least
  rw [if_neg h]
theorem first_is {l : List EdR} {a b c : Int} {p : List Int} (h : Way l b a p c) : p.getD 0 0 = a := by
  obtain ⟨t, rfl⟩ := h.head
  rfl
theorem last_is {l : List EdR} {a b c : Int} {p : List Int} {n : Nat} (h : Way l b a p c) (hn : p.length = n + 1) : p.getD n 0 = b := by
  have := h.last
  rw [List.getLast?_eq_getElem?, hn, Nat.add_sub_cancel] at this
  rw [List.getD_eq_getElem?_getD, this]
  rfl
theorem drop_ed (l : List EdR) (k : Nat) (h : k < l.length) : l.drop k = l.getD k default :: l.drop (k + 1) := by
  rw [List.drop_eq_getElem_cons h]; simp [List.getD_eq_getElem?_getD, List.getElem?_eq_getElem h]
end Go.Proofs.Ytmpmaljkmfgagab.RouteM
