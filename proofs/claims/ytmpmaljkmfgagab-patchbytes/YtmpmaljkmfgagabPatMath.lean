/-
  Plain data: what a patch must be.
-/
import Derived.Test.YtmpmaljkmfgagabPat
import Derived.Test.YtmpmaljkmfgagabApplyMath
namespace Go.Proofs.Ytmpmaljkmfgagab
open Go.RowKit

namespace PatM
/-- versions and sums that may not be -/
def badHead (p : PatR) : Prop := ¬ (1 ≤ p.from_ ∧ p.from_ ≤ 30) ∨ ¬ (1 ≤ p.to_ ∧ p.to_ ≤ 30) ∨ ¬ (0 ≤ p.old ∧ p.old ≤ 65535) ∨ ¬ (0 ≤ p.new ∧ p.new ≤ 65535)
instance (p : PatR) : Decidable (badHead p) := by unfold badHead; infer_instance
/-- the document's Check of a patch -/
def check (p : PatR) : Int := if badHead p then 2 else DeltaM.check p.ops 64 p.size
theorem eq_iff (a b : PatR) : a = b ↔ a.from_ = b.from_ ∧ a.to_ = b.to_ ∧ a.old = b.old ∧ a.new = b.new ∧ a.size = b.size ∧ a.ops = b.ops := by
  obtain ⟨a1, a2, a3, a4, a5, a6⟩ := a
  obtain ⟨b1, b2, b3, b4, b5, b6⟩ := b
  simp
instance : DecidableEq PatR := fun a b => decidable_of_iff _ (eq_iff a b).symm
end PatM
end Go.Proofs.Ytmpmaljkmfgagab
