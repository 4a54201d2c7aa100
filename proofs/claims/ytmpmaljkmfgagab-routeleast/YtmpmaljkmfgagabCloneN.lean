/-
  slices.Clone of ints: a row of its own that reads the same.
-/
import Derived.Test.YtmpmaljkmfgagabInts
import Derived.Laws.OwnMore
namespace Go.Proofs.Ytmpmaljkmfgagab
open Go.RowKit

theorem NS.news {w : World} {ad : Addr} {m c : Nat} {l : List Int} (h : NS w (some ad) m c l) : ∀ j u, (l.map (Value.int .i64))[j]? = some u → w.cell? (ad.add j) = some u := by
  intro j u hu
  have hj : j < l.length := by
    rcases Nat.lt_or_ge j l.length with h1 | h1
    · exact h1
    · rw [List.getElem?_eq_none (by simpa using h1)] at hu; cases hu
  obtain ⟨b, off, e, hc⟩ := h.cells (by have := h.len; omega)
  injection e with e
  subst e
  rw [addr_add, hc j (by have := h.len; omega)]
  simp [List.getD_eq_getElem?_getD, List.getElem?_eq_getElem hj] at hu ⊢
  exact hu
theorem oneCell_i64 (l : List Int) : ∀ u ∈ l.map (Value.int .i64), u.oneCell' = true := by
  intro u hu
  obtain ⟨x, _, rfl⟩ := List.mem_map.1 hu
  rfl

set_option maxHeartbeats 400000 in
theorem cloneN_any (a : Option Addr) (n c : Nat) (l : List Int) (w : World) (hs : NS w a n c l) (hn : n ≤ 100000) :
    Calls Try.prog 126 #[.slice a n c] w fun e w' => ∃ a' c', e = .returned (.slice a' n c') ∧ w'.ownsRow w.heap.size 3 1 (.slice a' n c') n (l.map (Value.int .i64)) ∧ Below w.heap.size w w' := by
  have hq := fun (A : Option Addr) (n c : Nat) (w : World) => Lib.run_eql_slice_nil (P := Try.prog) w 53 3 A n c 0 0 Try.underlying53
  cases a with
  | none =>
    have hc := hs.none_ rfl
    subst hc
    obtain rfl : n = 0 := by have := hs.le; omega
    obtain rfl : l = [] := List.eq_nil_of_length_eq_zero hs.len
    go_enter Try.func126, Try.ntmps126
    go_wp2
    go_ret
    exact ⟨none, 0, rfl, World.ownsRow_nil _ _ _ _, Below.refl _ _⟩
  | some ad =>
    obtain ⟨i0, hi, hz0, hz1, hz2⟩ := info_parts Try.info_int
    have hown := World.ownsRow_lit (base := w.heap.size) (e := 3) (size := 1) w #[] 0 (Nat.le_refl _) (by unfold maxLen; omega) rfl
    have hb1 := (Below.refl w.heap.size w).alloc (Nat.le_refl _) (.cells #[] 3)
    obtain ⟨v', w', hr, ho, hg, _⟩ := run_append_own (P := Try.prog) (w.alloc (.cells #[] 3)) w.heap.size 53 53 3 i0 _ 1 8 Try.underlying53 hi hz0 hz1 hz2 rfl (by decide) _ 0 _ hown ad n c (l.map (Value.int .i64))
      (by simpa using hs.len) (hs.later hb1).news (oneCell_i64 l) (by unfold maxLen; omega) (by omega) (by simp)
    obtain ⟨a', c', rfl⟩ : ∃ a' c', v' = .slice a' (0 + n) c' := by
      rcases ho.2 with ⟨h1, h2⟩ | ⟨g, cap, cur, h1, _⟩
      · exact ⟨none, 0, by rw [h1, h2]⟩
      · exact ⟨_, _, h1⟩
    rw [Nat.zero_add] at hr ho
    have hb' := hb1.grown hg (by simp) (fun g hg => (hown.lt g hg).1)
    have HO := Lib.hid ho
    clear ho hown hz0 hz1 hz2 hi
    go_enter Try.func126, Try.ntmps126
    go_wp2_with (at_builtin; refine Lib.wpList_append_run _ rfl _ _ _ _ rfl _ _ rfl rfl _ _ hr ?_)
    go_ret
    exact ⟨a', c', rfl, by simpa using HO.out, hb'⟩
end Go.Proofs.Ytmpmaljkmfgagab
