/-
  A slice of ints that reads as a list; append onto a row of the call's own.
-/
import Derived.Test.YtmpmaljkmfgagabBytes
import Derived.Deep.AppendLies
namespace Go.Proofs.Ytmpmaljkmfgagab
open Go.RowKit

theorem Try.info_int : (Try.prog.info? 3).map (fun i => (i.zero, i.size, i.bytes)) = some (some (.int .i64 0), 1, 8) := by kernel_rfl

/-- a slice of ints that reads as a list: nil or not, wherever it lies -/
structure NS (w : World) (a : Option Addr) (n c : Nat) (l : List Int) : Prop where
  len : l.length = n
  le : n ≤ c
  max : c ≤ 9223372036854775807
  cells : 0 < n → ∃ b off, a = some ⟨b, off, none⟩ ∧ ∀ i, i < n → w.cell? ⟨b, off + i, none⟩ = some (.int .i64 (l.getD i 0))
  none_ : a = none → c = 0
section
variable {w w' : World} {a : Option Addr} {n c : Nat} {l : List Int}
theorem NS.keep (h : NS w a n c l) (hk : ∀ p v, w.cell? p = some v → w'.cell? p = some v) : NS w' a n c l :=
  ⟨h.len, h.le, h.max, fun hp => by
    obtain ⟨b, off, e, hc⟩ := h.cells hp
    exact ⟨b, off, e, fun i hi => hk _ _ (hc i hi)⟩, h.none_⟩
theorem NS.later (h : NS w a n c l) (hb : Below w.heap.size w w') : NS w' a n c l := h.keep (fun _ _ hc => cell_later hb hc)
theorem NS.drewN (h : NS w a n c l) (m : Nat) : NS (w.drewN m) a n c l := h.keep (fun _ _ h => h)
theorem NS.nil_ (w : World) : NS w none 0 0 [] := ⟨rfl, by omega, by omega, fun h => absurd h (by omega), fun _ => rfl⟩
theorem NS.of_own {B e : Nat} (h : w.ownsRow B e 1 (.slice a n c) n (l.map (Value.int .i64))) : NS w a n c l := by
  have h1 := h.1
  simp at h1
  rcases h.2 with ⟨hv, hn⟩ | ⟨g, cap, cur, hv, _, _, hnc, hcm, _, _⟩
  · simp at hv
    obtain ⟨rfl, rfl, rfl⟩ := hv
    exact ⟨h1, by omega, by omega, fun h => absurd h (by omega), fun _ => rfl⟩
  · simp at hv
    obtain ⟨rfl, rfl⟩ := hv
    refine ⟨h1, hnc, by unfold maxLen at hcm; omega, fun hp => ⟨g, 0, rfl, fun i hi => ?_⟩, fun h => by cases h⟩
    have := h.cellAt i (by omega)
    simp [List.getElem?_eq_getElem (show i < l.length by omega)] at this
    simpa [List.getD_eq_getElem?_getD, List.getElem?_eq_getElem (show i < l.length by omega)] using this
end
/-- one more int behind a row of the call's own -/
theorem app_int {w : World} {base : Nat} {v : Value} {n : Nat} {l : List Int} (hown : w.ownsRow base 3 1 v n (l.map (Value.int .i64))) {B : Nat} {x : Int} (hB : w.heap[B]? = some (.cells #[.int .i64 x] 3 (0, 0))) (hb : n ≤ 100000) (hbase : base ≤ w.heap.size) :
    ∃ a' c' w', (Builtin.append_ #[53, 53] 53 #[v, .slice (some ⟨B, 0, none⟩) 1 1]).run Try.prog w = .ok (.slice a' (n + 1) c') w' ∧
      w'.ownsRow base 3 1 (.slice a' (n + 1) c') (n + 1) ((l ++ [x]).map (Value.int .i64)) ∧ w.grownBy w' v.ownBlock := by
  obtain ⟨i0, hi, hz0, hz1, hz2⟩ := info_parts Try.info_int
  have hnews := World.news_of_block hB
  obtain ⟨v', w', hr, ho, hg, _⟩ := run_append_own (P := Try.prog) w base 53 53 3 i0 _ 1 8 Try.underlying53 hi hz0 hz1 hz2 rfl (by decide) v n _ hown ⟨B, 0, none⟩ 1 1 ([x].map (Value.int .i64))
    rfl (by simpa using hnews) (by intro u hu; simp at hu; subst hu; rfl) (by unfold maxLen; omega) (by omega) hbase
  obtain ⟨a', c', rfl⟩ : ∃ a' c', v' = .slice a' (n + 1) c' := by
    rcases ho.2 with ⟨h1, h2⟩ | ⟨g, cap, cur, h1, _⟩
    · exact ⟨none, 0, by rw [h1, h2]⟩
    · exact ⟨_, _, h1⟩
  exact ⟨a', c', w', hr, by simpa using ho, hg⟩
end Go.Proofs.Ytmpmaljkmfgagab
