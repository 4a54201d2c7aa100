/-
  slices.Equal of any two slices of ints: whether they read alike.
-/
import Derived.Test.YtmpmaljkmfgagabInts
namespace Go.Proofs.Ytmpmaljkmfgagab
open Go.RowKit

theorem ret_b {a b : Bool} (h : a = b) : Ending.returned (.bool a) = .returned (.bool b) := by rw [h]
theorem take_one {x y : List Int} {k : Nat} (h : x.take k = y.take k) (hx : k < x.length) (hy : k < y.length) (he : x.getD k 0 = y.getD k 0) : x.take (k + 1) = y.take (k + 1) := by
  rw [List.take_add_one, List.take_add_one, h]
  simp only [List.getD_eq_getElem?_getD, List.getElem?_eq_getElem hx, List.getElem?_eq_getElem hy, Option.getD_some] at he
  simp [List.getElem?_eq_getElem hx, List.getElem?_eq_getElem hy, he]

set_option maxHeartbeats 400000 in
theorem eqInts_any (a a' : Option Addr) (n c n' c' : Nat) (x y : List Int) (w : World) (h1 : NS w a n c x) (h2 : NS w a' n' c' y) :
    Calls Try.prog 41 #[.slice a n c, .slice a' n' c'] w fun e w' => e = .returned (.bool (decide (x = y))) ∧ DrewN w w' := by
  have hlen : n ≤ 9223372036854775807 := by have := h1.le; have := h1.max; omega
  have hlen' : n' ≤ 9223372036854775807 := by have := h2.le; have := h2.max; omega
  have HX := Lib.hid h1
  have HY := Lib.hid h2
  have HLX := Lib.hid h1.len
  have HLY := Lib.hid h2.len
  clear h1 h2
  by_cases hnn : n = n'
  · subst hnn
    have hne : ((n : Int) != (n : Int)) = false := by simp
    go_enter Try.func41, Try.ntmps41
    go_wp2
    go_loopw [13] (fun i wr => ∃ k : Nat, k ≤ n ∧ i = .int .i64 k ∧ Hid (x.take k = y.take k) ∧ DrewN w wr) (fun i _ => n - (intOf i).toNat)
    case atStart => exact ⟨0, Nat.zero_le _, rfl, rfl, 0, rfl⟩
    case round =>
      obtain ⟨k, hk, rfl, HT, nq, rfl⟩ := hrel
      by_cases hlt : k < n
      · obtain ⟨b, off, rfl, hc⟩ := HX.out.cells (by omega)
        obtain ⟨b', off', rfl, hc'⟩ := HY.out.cells (by omega)
        have hck := hc k (by omega)
        have hck' := hc' k (by omega)
        have HM : Hid (x.getD k 0 = y.getD k 0 → x.take (k + 1) = y.take (k + 1)) := by
          show _ → _
          exact take_one HT.out (by rw [HLX.out]; exact hlt) (by rw [HLY.out]; exact hlt)
        have HN : Hid (x.getD k 0 ≠ y.getD k 0 → decide (x = y) = false) := by
          show _ → _
          intro h
          rw [decide_eq_false]
          rintro rfl
          exact h rfl
        generalize x.getD k 0 = u at hck HM HN
        generalize y.getD k 0 = v at hck' HM HN
        clear hc hc'
        by_cases huv : u = v
        · subst huv
          have HM2 : Hid (x.take (k + 1) = y.take (k + 1)) := HM.out rfl
          clear HM
          have hb : (u != u) = false := by simp
          go_wp2
          go_quiet (fail)
          go_wp2
          go_roundw
          case rel => exact ⟨k + 1, by omega, by go_num, HM2, _, rfl⟩
          case measure => simp [intOf]; omega
        · have hb : (u != v) = true := by simp [huv]
          go_wp2
          go_quiet (fail)
          go_wp2
          go_ret
          exact ⟨ret_b (HN.out huv).symm, DrewN.more _ _ _⟩
      · have e3 : Hid (x = y) := by
          show x = y
          have := HT.out
          rwa [List.take_of_length_le (by rw [HLX.out]; omega), List.take_of_length_le (by rw [HLY.out]; omega)] at this
        go_wp2
        go_ret
        exact ⟨ret_b (by rw [decide_eq_true e3.out]), _, rfl⟩
  · have he : decide (x = y) = false := by
      rw [decide_eq_false]
      rintro rfl
      exact hnn (HLX.out.symm.trans HLY.out)
    have hb : ((n : Int) != n') = true := by simp; omega
    rw [he]
    go_enter Try.func41, Try.ntmps41
    go_wp2
    go_ret
    exact ⟨rfl, 0, rfl⟩
end Go.Proofs.Ytmpmaljkmfgagab
