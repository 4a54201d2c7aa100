/-
  cmp.Compare of two ints, slices.Compare of two slices of ints: as the lists are.
-/
import Derived.Test.YtmpmaljkmfgagabInts
import Derived.Test.YtmpmaljkmfgagabRouteMath5
namespace Go.Proofs.Ytmpmaljkmfgagab
open Go.RowKit

theorem isNaNInt_any (x : Int) (w : World) : Calls Try.prog 141 #[.int .i64 x] w fun e w' => e = .returned (.bool false) ∧ w = w' := by
  have h : (x != x) = false := by simp
  go_enter Try.func141, Try.ntmps141
  go_wp2
  go_ret
  exact ⟨rfl, rfl⟩
/-- what cmp.Compare says -/
def cmpI (x y : Int) : Int := if x < y then -1 else if y < x then 1 else 0
set_option maxHeartbeats 400000 in
theorem cmpInt_any (x y : Int) (w : World) : Calls Try.prog 135 #[.int .i64 x, .int .i64 y] w fun e w' => e = .returned (.int .i64 (cmpI x y)) ∧ w = w' := by
  by_cases h1 : x < y
  · have HC : Hid (cmpI x y = -1) := by show _ = _; unfold cmpI; rw [if_pos h1]
    go_enter Try.func135, Try.ntmps135
    go_wp2_with fail
    refine (isNaNInt_any x _).mono ?_
    rintro e w' ⟨rfl, rfl⟩
    go_wp2_with fail
    refine (isNaNInt_any y _).mono ?_
    rintro e w' ⟨rfl, rfl⟩
    go_wp2_with fail
    go_ret
    exact ⟨ret_int HC.out.symm, rfl⟩
  · by_cases h2 : y < x
    · have HC : Hid (cmpI x y = 1) := by show _ = _; unfold cmpI; rw [if_neg h1, if_pos h2]
      go_enter Try.func135, Try.ntmps135
      go_wp2_with fail
      refine (isNaNInt_any x _).mono ?_
      rintro e w' ⟨rfl, rfl⟩
      go_wp2_with fail
      refine (isNaNInt_any y _).mono ?_
      rintro e w' ⟨rfl, rfl⟩
      go_wp2_with fail
      go_ret
      exact ⟨ret_int HC.out.symm, rfl⟩
    · have HC : Hid (cmpI x y = 0) := by show _ = _; unfold cmpI; rw [if_neg h1, if_neg h2]
      go_enter Try.func135, Try.ntmps135
      go_wp2_with fail
      refine (isNaNInt_any x _).mono ?_
      rintro e w' ⟨rfl, rfl⟩
      go_wp2_with fail
      refine (isNaNInt_any y _).mono ?_
      rintro e w' ⟨rfl, rfl⟩
      go_wp2_with fail
      go_ret
      exact ⟨ret_int HC.out.symm, rfl⟩
theorem cmpL_step {x y : List Int} {k : Nat} (hx : k < x.length) (hy : k < y.length) : RouteM.cmpL (x.drop k) (y.drop k) = if cmpI (x.getD k 0) (y.getD k 0) = 0 then RouteM.cmpL (x.drop (k + 1)) (y.drop (k + 1)) else cmpI (x.getD k 0) (y.getD k 0) := by
  rw [List.drop_eq_getElem_cons hx, List.drop_eq_getElem_cons hy]
  simp only [List.getD_eq_getElem?_getD, List.getElem?_eq_getElem hx, List.getElem?_eq_getElem hy, Option.getD_some, RouteM.cmpL, cmpI]
  split
  · simp
  · split
    · simp
    · simp

set_option maxHeartbeats 1000000 in
theorem cmpInts_any (a a' : Option Addr) (n c n' c' : Nat) (x y : List Int) (w : World) (h1 : NS w a n c x) (h2 : NS w a' n' c' y) :
    Calls Try.prog 127 #[.slice a n c, .slice a' n' c'] w fun e w' => e = .returned (.int .i64 (RouteM.cmpL x y)) ∧ DrewN w w' := by
  have hlen : n ≤ 9223372036854775807 := by have := h1.le; have := h1.max; omega
  have hlen' : n' ≤ 9223372036854775807 := by have := h2.le; have := h2.max; omega
  have HX := Lib.hid h1
  have HY := Lib.hid h2
  have HLX := Lib.hid h1.len
  have HLY := Lib.hid h2.len
  clear h1 h2
  go_enter Try.func127, Try.ntmps127
  go_wp2_with fail
  go_loopw [11] (fun i wr => ∃ k : Nat, k ≤ n ∧ i = .int .i64 k ∧ Hid (RouteM.cmpL (x.drop k) (y.drop k) = RouteM.cmpL x y) ∧ k ≤ n' ∧ DrewN w wr) (fun i _ => n - (intOf i).toNat)
  case atStart => exact ⟨0, Nat.zero_le _, rfl, rfl, Nat.zero_le _, 0, rfl⟩
  case round =>
    obtain ⟨k, hk, rfl, HT, hk', nq, rfl⟩ := hrel
    by_cases hlt : k < n
    · obtain ⟨b, off, rfl, hc⟩ := HX.out.cells (by omega)
      have hck := hc k (by omega)
      by_cases hlt' : k < n'
      · obtain ⟨b', off', rfl, hc'⟩ := HY.out.cells (by omega)
        have hck' := hc' k (by omega)
        have HM : Hid (RouteM.cmpL x y = if cmpI (x.getD k 0) (y.getD k 0) = 0 then RouteM.cmpL (x.drop (k + 1)) (y.drop (k + 1)) else cmpI (x.getD k 0) (y.getD k 0)) := by
          show _ = _
          rw [← HT.out]
          exact cmpL_step (by rw [HLX.out]; exact hlt) (by rw [HLY.out]; exact hlt')
        generalize x.getD k 0 = u at hck HM
        generalize y.getD k 0 = v at hck' HM
        obtain ⟨D, hD⟩ : ∃ D, cmpI u v = D := ⟨_, rfl⟩
        have HC : Hid (∀ W : World, Calls Try.prog 135 #[.int .i64 u, .int .i64 v] W fun e w' => e = .returned (.int .i64 D) ∧ W = w') := by
          show ∀ W : World, _
          intro W
          rw [← hD]
          exact cmpInt_any u v W
        rw [hD] at HM
        clear hc hc' hD
        go_wp2_with fail
        refine (HC.out _).mono ?_
        rintro e w' ⟨rfl, rfl⟩
        by_cases hD0 : D = 0
        · subst hD0
          have HM2 : Hid (RouteM.cmpL (x.drop (k + 1)) (y.drop (k + 1)) = RouteM.cmpL x y) := by show _ = _; rw [HM.out, if_pos rfl]
          go_wp2_with fail
          go_roundw
          case rel => exact ⟨k + 1, by omega, by go_num, HM2, by omega, _, rfl⟩
          case measure => simp [intOf]; omega
        · have hb : (D != 0) = true := by simp [hD0]
          have HM2 : Hid (D = RouteM.cmpL x y) := by show _ = _; rw [HM.out, if_neg hD0]
          go_wp2_with fail
          go_ret
          exact ⟨ret_int HM2.out, _, rfl⟩
      · have HM2 : Hid (1 = RouteM.cmpL x y) := by
          show _ = _
          rw [← HT.out, (List.drop_eq_nil_of_le (by rw [HLY.out]; omega) : y.drop k = []), List.drop_eq_getElem_cons (by rw [HLX.out]; exact hlt)]
          rfl
        go_wp2_with fail
        go_ret
        exact ⟨ret_int HM2.out, _, rfl⟩
    · have hkn : k = n := by omega
      by_cases hlt' : n < n'
      · have HM2 : Hid (-1 = RouteM.cmpL x y) := by
          show _ = _
          rw [← HT.out, (List.drop_eq_nil_of_le (by rw [HLX.out]; omega) : x.drop k = []), List.drop_eq_getElem_cons (by rw [HLY.out]; omega)]
          rfl
        go_wp2_with fail
        go_ret
        exact ⟨ret_int HM2.out, _, rfl⟩
      · have HM2 : Hid (0 = RouteM.cmpL x y) := by
          show _ = _
          rw [← HT.out, (List.drop_eq_nil_of_le (by rw [HLX.out]; omega) : x.drop k = []), (List.drop_eq_nil_of_le (by rw [HLY.out]; omega) : y.drop k = [])]
          rfl
        go_wp2_with fail
        go_ret
        exact ⟨ret_int HM2.out, _, rfl⟩
end Go.Proofs.Ytmpmaljkmfgagab
