/-
  Plain lists: how many sources there are, and what they are; the document's Of.
-/
import Derived.Test.YtmpmaljkmfgagaaCompMath
namespace Go.Proofs.Ytmpmaljkmfgagaa.CompM
open DeltaM

theorem srcs1_append : ∀ x y, srcs1 (x ++ y) = srcs1 x ++ srcs1 y
  | [], _ => rfl
  | o :: t, y => by simp [srcs1, srcs1_append t y]
theorem srcs2_append (m : List (Int × Int)) : ∀ x y, srcs2 m (x ++ y) = srcs2 m x ++ srcs2 m y
  | [], _ => rfl
  | o :: t, y => by simp [srcs2, srcs2_append m t y]
theorem srcs1_length {old : Int} : ∀ {l : List OpR}, DeltaM.Good old l → ((srcs1 l).length : Int) = total l
  | [], _ => rfl
  | o :: t, h => by
    have h1 := good_len (h o (by simp)).2
    have h2 := srcs1_length (old := old) (l := t) (fun o' ho => h o' (by simp [ho]))
    unfold srcs1 total size
    simp only [List.length_append, List.length_map, List.length_range]
    omega
theorem srcs2_length {m : List (Int × Int)} : ∀ {l : List OpR}, DeltaM.Good m.length l → ((srcs2 m l).length : Int) = total l
  | [], _ => rfl
  | o :: t, h => by
    have h1 := good_len (h o (by simp)).2
    have h2 := srcs2_length (m := m) (l := t) (fun o' ho => h o' (by simp [ho]))
    unfold srcs2 total size
    simp only [List.length_append, List.length_map, List.length_take, List.length_drop]
    omega
theorem srcs1_src {old : Int} (ho : old ≤ 64) : ∀ {l : List OpR}, DeltaM.Good old l → (∀ o ∈ l, ∀ v ∈ o.data, 0 ≤ v ∧ v ≤ 255) → ∀ s ∈ srcs1 l, IsSrc s
  | [], _, _, s, hs => by simp [srcs1] at hs
  | o :: t, h, hb, s, hs => by
    have h1 := good_len (h o (by simp)).2
    unfold srcs1 at hs
    rcases List.mem_append.1 hs with hs | hs
    · obtain ⟨k, hk, rfl⟩ := List.mem_map.1 hs
      have := List.mem_range.1 hk
      refine ⟨?_, Int.le_refl _, by simp⟩
      simp only
      omega
    · rcases List.mem_append.1 hs with hs | hs
      · obtain ⟨v, hv, rfl⟩ := List.mem_map.1 hs
        have := hb o (by simp) v hv
        exact ⟨by simp, this.1, this.2⟩
      · exact srcs1_src ho (fun o' ho' => h o' (by simp [ho'])) (fun o' ho' => hb o' (by simp [ho'])) s hs
theorem srcs2_src {m : List (Int × Int)} (hm : ∀ s ∈ m, IsSrc s) : ∀ {l : List OpR}, (∀ o ∈ l, ∀ v ∈ o.data, 0 ≤ v ∧ v ≤ 255) → ∀ s ∈ srcs2 m l, IsSrc s
  | [], _, s, hs => by simp [srcs2] at hs
  | o :: t, hb, s, hs => by
    unfold srcs2 at hs
    rcases List.mem_append.1 hs with hs | hs
    · obtain ⟨v, hv, rfl⟩ := List.mem_map.1 hs
      have := hb o (by simp) v hv
      exact ⟨by simp, this.1, this.2⟩
    · rcases List.mem_append.1 hs with hs | hs
      · exact hm s (List.mem_of_mem_drop (List.mem_of_mem_take hs))
      · exact srcs2_src hm (fun o' ho' => hb o' (by simp [ho'])) s hs
/-- the document's Of: the steps and the error -/
def composed (first second : List OpR) (old mid s : Int) : List OpR × Int :=
  if check first old mid ≠ 0 then ([], check first old mid)
  else if check second mid s ≠ 0 then ([], check second mid s)
  else if check (joined first second) old s ≠ 0 then ([], check (joined first second) old s)
  else (joined first second, 0)
section
variable {first second : List OpR} {old mid s E : Int}
theorem composed_1 (h : check first old mid = E) (hne : E ≠ 0) : composed first second old mid s = ([], E) := by
  unfold composed
  rw [h, if_pos hne]
theorem composed_2 (h1 : check first old mid = 0) (h : check second mid s = E) (hne : E ≠ 0) : composed first second old mid s = ([], E) := by
  unfold composed
  rw [h1, if_neg (by simp), h, if_pos hne]
theorem composed_3 (h1 : check first old mid = 0) (h2 : check second mid s = 0) (h : check (joined first second) old s = E) (hne : E ≠ 0) : composed first second old mid s = ([], E) := by
  unfold composed
  rw [h1, if_neg (by simp), h2, if_neg (by simp), h, if_pos hne]
theorem composed_0 (h1 : check first old mid = 0) (h2 : check second mid s = 0) (h : check (joined first second) old s = 0) : composed first second old mid s = (joined first second, 0) := by
  unfold composed
  rw [h1, if_neg (by simp), h2, if_neg (by simp), h, if_neg (by simp)]
theorem composed_ok (h : (composed first second old mid s).2 = 0) : check first old mid = 0 ∧ check second mid s = 0 ∧ check (joined first second) old s = 0 ∧ (composed first second old mid s).1 = joined first second := by
  by_cases h1 : check first old mid = 0
  · by_cases h2 : check second mid s = 0
    · by_cases h3 : check (joined first second) old s = 0
      · exact ⟨h1, h2, h3, by rw [composed_0 h1 h2 h3]⟩
      · rw [composed_3 h1 h2 rfl h3] at h; exact absurd h h3
    · rw [composed_2 h1 rfl h2] at h; exact absurd h h2
  · rw [composed_1 rfl h1] at h; exact absurd h h1
end
end Go.Proofs.Ytmpmaljkmfgagaa.CompM
