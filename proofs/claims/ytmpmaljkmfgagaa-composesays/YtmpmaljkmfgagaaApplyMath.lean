/-
  Plain lists: what a list of steps that passes the check makes.
-/
import Derived.Test.YtmpmaljkmfgagaaDeltaMath
namespace Go.Proofs.Ytmpmaljkmfgagaa.DeltaM

/-- the bytes that a step takes of the old image -/
def part (old : List Int) (o : OpR) : List Int := (old.drop o.at_.toNat).take o.len.toNat
/-- what the steps make -/
def makes (old : List Int) : List OpR → List Int
  | [] => []
  | o :: t => o.data ++ (part old o ++ makes old t)
theorem makes_append (old : List Int) : ∀ x y, makes old (x ++ y) = makes old x ++ makes old y
  | [], _ => rfl
  | o :: t, y => by simp [makes, makes_append old t y]
/-- all steps are in their form and within the old image -/
def Good (old : Int) (l : List OpR) : Prop := ∀ o ∈ l, ¬ badForm o ∧ ¬ badRange old o
def total : List OpR → Int
  | [] => 0
  | o :: t => size o + total t
theorem chk_zero {old s : Int} : ∀ {l : List OpR} {made : Int}, chk old s l made = 0 → made ≤ s → Good old l ∧ made + total l = s
  | [], made, h, hm => by
    unfold chk at h
    split at h
    · omega
    · exact ⟨fun o ho => by simp at ho, by unfold total; omega⟩
  | o :: t, made, h, hm => by
    by_cases h1 : badForm o
    · rw [chk_form h1] at h; omega
    · by_cases h2 : badRange old o
      · rw [chk_range h1 h2] at h; omega
      · by_cases h3 : s < made + size o
        · rw [chk_many h1 h2 h3] at h; omega
        · rw [chk_on h1 h2 h3] at h
          obtain ⟨g, e⟩ := chk_zero h (by omega)
          refine ⟨fun o' ho => ?_, by unfold total; omega⟩
          rcases List.mem_cons.1 ho with rfl | ho
          · exact ⟨h1, h2⟩
          · exact g o' ho
theorem good_len {old : Int} {o : OpR} (h : ¬ badRange old o) : 0 ≤ o.len ∧ 0 ≤ o.at_ ∧ o.at_ + o.len ≤ old := by unfold badRange at h; omega
theorem total_nonneg {old : Int} : ∀ {l : List OpR}, Good old l → 0 ≤ total l
  | [], _ => Int.le_refl _
  | o :: t, h => by
    have h1 := good_len (h o (by simp)).2
    have h2 := total_nonneg (l := t) (fun o' ho => h o' (by simp [ho]))
    unfold total size
    omega
/-- the other way: what is good and makes so many passes -/
theorem chk_pass {old s : Int} : ∀ {l : List OpR} {made : Int}, Good old l → made + total l = s → chk old s l made = 0
  | [], made, h, hm => by unfold total at hm; unfold chk; rw [if_neg (by omega)]
  | o :: t, made, h, hm => by
    have h1 := h o (by simp)
    have ht : Good old t := fun o' ho => h o' (by simp [ho])
    have h2 := total_nonneg ht
    unfold total at hm
    rw [chk_on h1.1 h1.2 (by omega)]
    exact chk_pass ht (by omega)
theorem check_zero {l : List OpR} {old s : Int} (h : check l old s = 0) : l.length ≤ 40 ∧ 0 ≤ old ∧ old ≤ 64 ∧ 0 ≤ s ∧ s ≤ 64 ∧ Good old l ∧ total l = s := by
  unfold check at h
  split at h
  · omega
  · obtain ⟨g, e⟩ := chk_zero h (by omega)
    refine ⟨by omega, by omega, by omega, by omega, by omega, g, by omega⟩
theorem check_pass {l : List OpR} {old s : Int} (h40 : l.length ≤ 40) (h1 : 0 ≤ old ∧ old ≤ 64) (h2 : s ≤ 64) (hg : Good old l) (ht : total l = s) : check l old s = 0 := by
  have := total_nonneg hg
  unfold check
  rw [if_neg (by omega)]
  exact chk_pass hg (by omega)
theorem part_length {old : List Int} {o : OpR} (h : ¬ badRange old.length o) : ((part old o).length : Int) = o.len := by
  have := good_len h
  unfold part
  rw [List.length_take, List.length_drop]
  omega
theorem makes_length {old : List Int} : ∀ {l : List OpR}, Good old.length l → ((makes old l).length : Int) = total l
  | [], _ => rfl
  | o :: t, h => by
    have h1 := part_length (h o (by simp)).2
    have h2 := makes_length (old := old) (l := t) (fun o' ho => h o' (by simp [ho]))
    unfold makes total size
    simp only [List.length_append]
    omega
/-- the document's Apply -/
def applied (old : List Int) (l : List OpR) (s : Int) : List Int := if check l old.length s = 0 then makes old l else []
theorem makes_bytes {old : List Int} (ho : ∀ v ∈ old, 0 ≤ v ∧ v ≤ 255) : ∀ {l : List OpR}, (∀ o ∈ l, ∀ v ∈ o.data, 0 ≤ v ∧ v ≤ 255) → ∀ v ∈ makes old l, 0 ≤ v ∧ v ≤ 255
  | [], _, v, hv => by simp [makes] at hv
  | o :: t, h, v, hv => by
    unfold makes at hv
    rcases List.mem_append.1 hv with hv | hv
    · exact h o (by simp) v hv
    · rcases List.mem_append.1 hv with hv | hv
      · exact ho v (List.mem_of_mem_drop (List.mem_of_mem_take hv))
      · exact makes_bytes ho (fun o' ho' => h o' (by simp [ho'])) v hv
end Go.Proofs.Ytmpmaljkmfgagaa.DeltaM
