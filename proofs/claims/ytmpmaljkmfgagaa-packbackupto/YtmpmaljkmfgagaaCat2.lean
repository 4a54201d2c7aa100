/-
  slices.Concat of two slices of bytes.
-/
import Derived.Test.YtmpmaljkmfgagaaCat
import Derived.Test.YtmpmaljkmfgagaaCutB
namespace Go.Proofs.Ytmpmaljkmfgagaa
open Go.RowKit

theorem GivesB.bs {w w' : World} {l : List Int} {e : Ending} (h : GivesB w l e w') (hl : ∀ x ∈ l, 0 ≤ x ∧ x ≤ 255) : GivesS w l e w' := by
  obtain ⟨a, n, c, he, ho, hb⟩ := h
  exact ⟨a, n, c, he, BS.of_own ho hl, hb⟩

/-- slices.Concat of two slices of bytes, the list of them just laid -/
theorem concat_two (a1 a2 : Option Addr) (n1 c1 n2 c2 : Nat) (l1 l2 : List Int) (w : World) (s1 : BS w a1 n1 c1 l1) (s2 : BS w a2 n2 c2 l2) (hn : n1 + n2 ≤ 281474976710656) :
    Calls Try.prog 21 #[.slice (some ⟨w.heap.size, 0, none⟩) 2 2] (w.alloc (.cells #[.slice a1 n1 c1, .slice a2 n2 c2] 27)) (GivesS w (l1 ++ l2)) := by
  have hb : Below w.heap.size w (w.alloc (.cells #[.slice a1 n1 c1, .slice a2 n2 c2] 27)) := (Below.refl _ _).alloc (Nat.le_refl _) _
  refine (concat_any w.heap.size 2 [l1, l2] _ (two_parts _ _ a1 a2 n1 c1 n2 c2 l1 l2 (by simp) (by simp) (s1.later hb) (s2.later hb)) rfl (by omega) (by simp; rw [s1.len, s2.len]; omega)).mono ?_
  intro e w' h
  have hby : ∀ x ∈ [l1, l2].flatten, 0 ≤ x ∧ x ≤ 255 := by
    intro x hx
    simp at hx
    exact hx.elim (s1.bytes x) (s2.bytes x)
  obtain ⟨a, n, c, he, hs, hb2⟩ := h.bs hby
  exact ⟨a, n, c, he, by simpa using hs, below_then hb hb2⟩
end Go.Proofs.Ytmpmaljkmfgagaa
