/-
  Plain lists: steps in two parts.
-/
import Derived.Test.YtmpmaljkmfgagaaApplyMath
namespace Go.Proofs.Ytmpmaljkmfgagaa.DeltaM

theorem total_append : ∀ x y, total (x ++ y) = total x + total y
  | [], y => by simp [total]
  | o :: t, y => by simp [total, total_append t y]; omega
theorem total_parts (l : List OpR) (k : Nat) : total (l.take k) + total (l.drop k) = total l := by rw [← total_append, List.take_append_drop]
theorem good_take {old : Int} {l : List OpR} (h : Good old l) (k : Nat) : Good old (l.take k) := fun o ho => h o (List.mem_of_mem_take ho)
theorem good_drop {old : Int} {l : List OpR} (h : Good old l) (k : Nat) : Good old (l.drop k) := fun o ho => h o (List.mem_of_mem_drop ho)
theorem check_take {l : List OpR} {old s : Int} (h : check l old s = 0) (k : Nat) : check (l.take k) old (total (l.take k)) = 0 := by
  obtain ⟨h1, h2, h3, h4, h5, h6, h7⟩ := check_zero h
  have a := total_nonneg (good_drop h6 k)
  have b := total_parts l k
  exact check_pass (by simp; omega) ⟨h2, h3⟩ (by omega) (good_take h6 k) rfl
theorem check_drop {l : List OpR} {old s : Int} (h : check l old s = 0) (k : Nat) : check (l.drop k) old (s - total (l.take k)) = 0 := by
  obtain ⟨h1, h2, h3, h4, h5, h6, h7⟩ := check_zero h
  have a := total_nonneg (good_take h6 k)
  have b := total_parts l k
  exact check_pass (by simp; omega) ⟨h2, h3⟩ (by omega) (good_drop h6 k) (by omega)
theorem makes_parts (old : List Int) (l : List OpR) (k : Nat) : makes old (l.take k) ++ makes old (l.drop k) = makes old l := by rw [← makes_append, List.take_append_drop]
theorem total_snoc (l : List OpR) (k : Nat) (h : k < l.length) : total (l.take (k + 1)) = total (l.take k) + size (l.getD k default) := by
  rw [List.take_add_one, total_append, List.getElem?_eq_getElem h]
  simp [total, List.getD_eq_getElem?_getD, List.getElem?_eq_getElem h]
end Go.Proofs.Ytmpmaljkmfgagaa.DeltaM
