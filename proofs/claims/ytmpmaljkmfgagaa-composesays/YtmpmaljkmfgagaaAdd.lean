/-
  Contract of compose.add: one more step, combined with the last one where that is possible.
-/
import Derived.Test.YtmpmaljkmfgagaaAddIns
import Derived.Test.YtmpmaljkmfgagaaAddGo
import Derived.Test.YtmpmaljkmfgagaaAddNew
namespace Go.Proofs.Ytmpmaljkmfgagaa
open Go.RowKit

theorem add_any {w0 : World} {ex : Option Nat} {vo : Value} {lb : Option Nat} {r : List OpR} {W : World} (h : JSt w0 ex vo lb r W) (A L : Int) (D : List Int) {a : Option Addr} {n c : Nat} (hd : BS w0 a n c D) (ho : CompM.OneStep ⟨A, L, D⟩)
    (hb : CompM.Bd 64 r) (hA : A ≤ 64) (hL : L ≤ 64) (hn : n ≤ 64) :
    Calls Try.prog 68 #[vo, .agg #[.int .i64 A, .int .i64 L, .slice a n c]] W (GivesAdd w0 ex r ⟨A, L, D⟩ W) := by
  have hA0 : 0 ≤ A := by rcases ho with q | q <;> simp only at q <;> omega
  have hL0 : 0 ≤ L := by rcases ho with q | q <;> simp only at q <;> omega
  cases r with
  | nil =>
    obtain ⟨va, vc, rfl, -⟩ := h.slice
    exact add_none h A L D hd (by unfold I64; omega) (by unfold I64; omega) hn
  | cons x t =>
    obtain ⟨g, cap, v, rfl, _⟩ := h.lastAt
    obtain ⟨XA, XL, XD⟩ := x
    by_cases h1 : XL = 0 ∧ L = 0
    · refine add_ins h rfl A L D hd hb hA0 hA hL0 hL hn h1.1 h1.2 ?_
      rcases ho with ⟨_, _, q⟩ | ⟨q, _⟩
      · simp only at q
        rcases Nat.eq_zero_or_pos n with hz | hz
        · have hdl := hd.len
          rw [hz] at hdl
          exact absurd (List.eq_nil_of_length_eq_zero hdl) q
        · exact hz
      · simp only at q
        omega
    · by_cases h2 : XL ≠ 0 ∧ L ≠ 0 ∧ XA + XL = A
      · exact add_go h rfl A L D hd hb hA0 hA hL0 hL hn h2.1 h2.2.1 h2.2.2
      · exact add_new h rfl A L D hd hb hA0 hA hL0 hL hn h1 h2
end Go.Proofs.Ytmpmaljkmfgagaa
