/-
  slices.Clone of edges: a row of its own that reads the same.
-/
import Derived.Test.YtmpmaljkmfgagabRouted
import Derived.Laws.OwnMore
namespace Go.Proofs.Ytmpmaljkmfgagab
open Go.RowKit

theorem Try.info_edge : (Try.prog.info? 63).map (fun i => (i.zero, i.size, i.bytes)) = some (some (.agg #[.int .i64 0, .int .i64 0, .int .i64 0]), 3, 24) := by kernel_rfl
theorem cellsE_length : ∀ x, (cellsE x).length = x.length * 3
  | [] => rfl
  | o :: t => by simp [cellsE, cellsE_length t]; omega
theorem ES.news {w : World} {ad : Addr} {n c : Nat} {l : List RouteM.EdR} (h : ES w (some ad) n c l) : ∀ j u, (cellsE l)[j]? = some u → w.cell? (ad.add j) = some u := by
  intro j u hu
  have hlen := h.len
  have hj : j < l.length * 3 := by
    rcases Nat.lt_or_ge j (l.length * 3) with q | q
    · exact q
    · rw [List.getElem?_eq_none (by rw [cellsE_length]; exact q)] at hu; cases hu
  obtain ⟨b, off, e, hc⟩ := h.cells (by omega)
  injection e with e
  subst e
  rw [addr_add]
  obtain ⟨q0, q1, q2, -⟩ := hc (j / 3) (by omega)
  obtain ⟨g0, g1, g2⟩ := cellsE_get l (j / 3) (by omega)
  rcases (by omega : j = j / 3 * 3 ∨ j = j / 3 * 3 + 1 ∨ j = j / 3 * 3 + 2) with hr | hr | hr
  · rw [hr] at hu ⊢
    rw [g0] at hu
    rw [← hu]
    exact q0
  · rw [hr] at hu ⊢
    rw [g1] at hu
    rw [← hu]
    exact q1
  · rw [hr] at hu ⊢
    rw [g2] at hu
    rw [← hu]
    exact q2
theorem oneCell_edges : ∀ (l : List RouteM.EdR), ∀ u ∈ cellsE l, u.oneCell' = true
  | [], u, h => by simp [cellsE] at h
  | e :: t, u, h => by
    simp only [cellsE, List.mem_cons] at h
    rcases h with rfl | rfl | rfl | h
    · rfl
    · rfl
    · rfl
    · exact oneCell_edges t u h

set_option maxHeartbeats 400000 in
theorem cloneE_any (a : Option Addr) (n c : Nat) (l : List RouteM.EdR) (w : World) (hs : ES w a n c l) (hn : n ≤ 60) :
    Calls Try.prog 43 #[.slice a n c] w fun e w' => ∃ a' c', e = .returned (.slice a' n c') ∧ w'.ownsRow w.heap.size 63 3 (.slice a' n c') n (cellsE l) ∧ Below w.heap.size w w' := by
  have hq := fun (A : Option Addr) (n c : Nat) (w : World) => Lib.run_eql_slice_nil (P := Try.prog) w 52 63 A n c 0 0 Try.underlying52
  cases a with
  | none =>
    have hc := hs.none_ rfl
    subst hc
    obtain rfl : n = 0 := by have := hs.le; omega
    obtain rfl : l = [] := List.eq_nil_of_length_eq_zero hs.len
    go_enter Try.func43, Try.ntmps43
    go_wp2
    go_ret
    exact ⟨none, 0, rfl, World.ownsRow_nil _ _ _ _, Below.refl _ _⟩
  | some ad =>
    obtain ⟨i0, hi, hz0, hz1, hz2⟩ := info_parts Try.info_edge
    have hown := World.ownsRow_lit (base := w.heap.size) (e := 63) (size := 3) w #[] 0 (Nat.le_refl _) (by unfold maxLen; omega) rfl
    have hb1 := (Below.refl w.heap.size w).alloc (Nat.le_refl _) (.cells #[] 63)
    obtain ⟨v', w', hr, ho, hg, _⟩ := run_append_own (P := Try.prog) (w.alloc (.cells #[] 63)) w.heap.size 52 52 63 i0 _ 3 24 Try.underlying52 hi hz0 hz1 hz2 rfl (by decide) _ 0 _ hown ad n c (cellsE l)
      (by rw [cellsE_length, hs.len]) (hs.later hb1).news (oneCell_edges l) (by unfold maxLen; omega) (by omega) (by simp)
    obtain ⟨a', c', rfl⟩ : ∃ a' c', v' = .slice a' (0 + n) c' := by
      rcases ho.2 with ⟨h1, h2⟩ | ⟨g, cap, cur, h1, _⟩
      · exact ⟨none, 0, by rw [h1, h2]⟩
      · exact ⟨_, _, h1⟩
    rw [Nat.zero_add] at hr ho
    have hb' := hb1.grown hg (by simp) (fun g hg => (hown.lt g hg).1)
    have HO := Lib.hid ho
    clear ho hown hz0 hz1 hz2 hi
    go_enter Try.func43, Try.ntmps43
    go_wp2_with (at_builtin; refine Lib.wpList_append_run _ rfl _ _ _ _ rfl _ _ rfl rfl _ _ hr ?_)
    go_ret
    exact ⟨a', c', rfl, by simpa using HO.out, hb'⟩
end Go.Proofs.Ytmpmaljkmfgagab
