/-
  Plain lists: what a list of steps must be, and what it makes.
-/
import Derived.Test.YtmpmaljkmfgagaaOps
namespace Go.Proofs.Ytmpmaljkmfgagaa.DeltaM

/-- how many bytes a step makes -/
def size (o : OpR) : Int := o.len + o.data.length
/-- a step that is not in its form -/
def badForm (o : OpR) : Prop := (o.len = 0 ∧ (o.at_ ≠ 0 ∨ ¬ (1 ≤ (o.data.length : Int) ∧ (o.data.length : Int) ≤ 64))) ∨ (o.len ≠ 0 ∧ (o.data.length : Int) ≠ 0)
/-- a step that takes what is not there -/
def badRange (old : Int) (o : OpR) : Prop := o.len < 0 ∨ o.at_ < 0 ∨ old < o.at_ + o.len
instance (o : OpR) : Decidable (badForm o) := by unfold badForm; infer_instance
instance (old : Int) (o : OpR) : Decidable (badRange old o) := by unfold badRange; infer_instance
/-- the check from a step on, so many bytes made -/
def chk (old size_ : Int) : List OpR → Int → Int
  | [], made => if made < size_ then 3 else 0
  | o :: t, made => if badForm o then 3 else if badRange old o then 2 else if size_ < made + size o then 1 else chk old size_ t (made + size o)
/-- the document's Check -/
def check (l : List OpR) (old size_ : Int) : Int :=
  if 40 < l.length ∨ ¬ (0 ≤ old ∧ old ≤ 64) ∨ ¬ (0 ≤ size_ ∧ size_ ≤ 64) then 1 else chk old size_ l 0

theorem chk_form {old s made : Int} {o : OpR} {t : List OpR} (h : badForm o) : chk old s (o :: t) made = 3 := by simp [chk, h]
theorem chk_range {old s made : Int} {o : OpR} {t : List OpR} (h : ¬ badForm o) (h2 : badRange old o) : chk old s (o :: t) made = 2 := by simp [chk, h, h2]
theorem chk_many {old s made : Int} {o : OpR} {t : List OpR} (h : ¬ badForm o) (h2 : ¬ badRange old o) (h3 : s < made + size o) : chk old s (o :: t) made = 1 := by simp [chk, h, h2, h3]
theorem chk_on {old s made : Int} {o : OpR} {t : List OpR} (h : ¬ badForm o) (h2 : ¬ badRange old o) (h3 : ¬ s < made + size o) : chk old s (o :: t) made = chk old s t (made + size o) := by simp [chk, h, h2, h3]
end Go.Proofs.Ytmpmaljkmfgagaa.DeltaM
