/-
  Contracts of route.isVersion and route.Check: they return what the document says.
-/
import Derived.Test.YtmpmaljkmfgagabRouteC
namespace Go.Proofs.Ytmpmaljkmfgagab
open Go.RowKit

theorem isVersionR_any (x : Int) (w : World) :
    Calls Try.prog 85 #[.int .i64 x] w fun e w' => e = .returned (.bool (decide (1 ≤ x ∧ x ≤ 30))) ∧ w = w' := by
  by_cases h : 1 ≤ x
  · go_enter Try.func85, Try.ntmps85
    go_wp2
    go_ret
    exact ⟨by simp [h], rfl⟩
  · go_enter Try.func85, Try.ntmps85
    go_wp2
    go_ret
    exact ⟨by simp; omega, rfl⟩
theorem ret_e {a b : Int} (h : a = b) : Ending.returned (.int .i64 a) = .returned (.int .i64 b) := by rw [h]
theorem drop_edge (l : List RouteM.EdR) (k : Nat) (h : k < l.length) : l.drop k = l.getD k default :: l.drop (k + 1) := by
  rw [List.drop_eq_getElem_cons h]; simp [List.getD_eq_getElem?_getD, List.getElem?_eq_getElem h]
/-- the rounds of Check -/
def RChRel (l : List RouteM.EdR) (w : World) (i : Value) (wr : World) : Prop :=
  ∃ k : Nat, i = .int .i64 k ∧ k ≤ l.length ∧ RouteM.chk (l.drop k) = RouteM.chk l ∧ Below w.heap.size w wr

set_option maxRecDepth 100000 in
set_option maxHeartbeats 1000000 in
theorem checkR_ok : CheckRC := by
  intro a n c l w hl
  have hlen : n ≤ 9223372036854775807 := by have := hl.le; have := hl.max; omega
  have HL := Lib.hid hl
  have HLn := Lib.hid hl.len
  clear hl
  by_cases h60 : 60 < n
  · have he : RouteM.check l = 1 := by unfold RouteM.check; rw [if_pos (by rw [HLn.out]; exact h60)]
    rw [he]
    go_enter Try.func39, Try.ntmps39
    go_wp2_with fail
    go_ret
    exact ⟨rfl, Below.refl _ _⟩
  · have he : RouteM.check l = RouteM.chk l := by unfold RouteM.check; rw [if_neg (by rw [HLn.out]; exact h60)]
    rw [he]
    clear he
    go_enter Try.func39, Try.ntmps39
    go_wp2_with fail
    go_loopw [10] (fun i wr => RChRel l w i wr) (fun i _ => n - (intOf i).toNat)
    case atStart => exact ⟨0, rfl, Nat.zero_le _, rfl, Below.refl _ _⟩
    case round =>
      obtain ⟨k, rfl, hk, hc, hB⟩ := hrel
      rw [HLn.out] at hk
      have HC := Lib.hid hc
      clear hc
      by_cases hlt : k < n
      · obtain ⟨b, off, rfl, hcs⟩ := (HL.out.later hB).cells (by omega)
        obtain ⟨q0, q1, q2, -⟩ := hcs k hlt
        have HD := Lib.hid (drop_edge l k (by rw [HLn.out]; exact hlt))
        generalize l.getD k default = o at q0 q1 q2 HD
        obtain ⟨F, T, K⟩ := o
        simp only at q0 q1 q2
        have hB1 := hB.alloc hB.size (.cells #[.int .i64 F, .int .i64 T, .int .i64 K] 63)
        have HB1 := Lib.hid hB1
        have bad : RouteM.badEdge ⟨F, T, K⟩ → 2 = RouteM.chk l := fun h => by rw [← HC.out, HD.out, RouteM.chk, if_pos h]
        have good : ¬ RouteM.badEdge ⟨F, T, K⟩ → RouteM.chk (l.drop (k + 1)) = RouteM.chk l := fun h => by rw [← HC.out, HD.out, RouteM.chk, if_neg h]
        have HBad := Lib.hid bad
        have HGood := Lib.hid good
        clear bad good hcs hB1
        by_cases h1 : 1 ≤ F ∧ F ≤ 30
        · have d1 : decide (1 ≤ F ∧ F ≤ 30) = true := decide_eq_true h1
          by_cases h2 : 1 ≤ T ∧ T ≤ 30
          · have d2 : decide (1 ≤ T ∧ T ≤ 30) = true := decide_eq_true h2
            by_cases h3 : K < 1
            · have HN : Hid (RouteM.badEdge ⟨F, T, K⟩) := by show RouteM.badEdge _; unfold RouteM.badEdge; simp only; omega
              clear h1 h2
              go_wp2_with fail
              refine (isVersionR_any F _).mono ?_
              rintro e w' ⟨rfl, rfl⟩
              rw [d1]
              go_wp2_with fail
              refine (isVersionR_any T _).mono ?_
              rintro e w' ⟨rfl, rfl⟩
              rw [d2]
              go_wp2_with fail
              go_ret
              exact ⟨ret_e (HBad.out HN.out), HB1.out⟩
            · by_cases h4 : 1000 < K
              · have HN : Hid (RouteM.badEdge ⟨F, T, K⟩) := by show RouteM.badEdge _; unfold RouteM.badEdge; simp only; omega
                clear h1 h2
                go_wp2_with fail
                refine (isVersionR_any F _).mono ?_
                rintro e w' ⟨rfl, rfl⟩
                rw [d1]
                go_wp2_with fail
                refine (isVersionR_any T _).mono ?_
                rintro e w' ⟨rfl, rfl⟩
                rw [d2]
                go_wp2_with fail
                go_ret
                exact ⟨ret_e (HBad.out HN.out), HB1.out⟩
              · have HN : Hid (¬ RouteM.badEdge ⟨F, T, K⟩) := by show ¬ _; unfold RouteM.badEdge; simp only; omega
                clear h1 h2
                go_wp2_with fail
                refine (isVersionR_any F _).mono ?_
                rintro e w' ⟨rfl, rfl⟩
                rw [d1]
                go_wp2_with fail
                refine (isVersionR_any T _).mono ?_
                rintro e w' ⟨rfl, rfl⟩
                rw [d2]
                go_wp2_with fail
                go_roundw
                case rel => exact ⟨k + 1, by go_num, by rw [HLn.out]; omega, HGood.out HN.out, HB1.out⟩
                case measure => simp [intOf]; omega
          · have d2 : decide (1 ≤ T ∧ T ≤ 30) = false := decide_eq_false h2
            have HN : Hid (RouteM.badEdge ⟨F, T, K⟩) := by show RouteM.badEdge _; unfold RouteM.badEdge; simp only; omega
            clear h1 h2
            go_wp2_with fail
            refine (isVersionR_any F _).mono ?_
            rintro e w' ⟨rfl, rfl⟩
            rw [d1]
            go_wp2_with fail
            refine (isVersionR_any T _).mono ?_
            rintro e w' ⟨rfl, rfl⟩
            rw [d2]
            go_wp2_with fail
            go_ret
            exact ⟨ret_e (HBad.out HN.out), HB1.out⟩
        · have d1 : decide (1 ≤ F ∧ F ≤ 30) = false := decide_eq_false h1
          have HN : Hid (RouteM.badEdge ⟨F, T, K⟩) := by show RouteM.badEdge _; unfold RouteM.badEdge; simp only; omega
          clear h1
          go_wp2_with fail
          refine (isVersionR_any F _).mono ?_
          rintro e w' ⟨rfl, rfl⟩
          rw [d1]
          go_wp2_with fail
          go_ret
          exact ⟨ret_e (HBad.out HN.out), HB1.out⟩
      · have HE := Lib.hid (List.drop_eq_nil_of_le (by rw [HLn.out]; omega) : l.drop k = [])
        go_wp2_with fail
        go_ret
        exact ⟨ret_e (by rw [← HC.out, HE.out]; rfl), hB⟩
end Go.Proofs.Ytmpmaljkmfgagab
