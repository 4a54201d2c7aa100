/-
  Contracts of patch.Check and of what it calls: it returns what the document says.
-/
import Derived.Test.YtmpmaljkmfgagabPatchC
import Derived.Test.YtmpmaljkmfgagabDeltaCheck
namespace Go.Proofs.Ytmpmaljkmfgagab
open Go.RowKit

theorem isVersion_any (x : Int) (w : World) :
    Calls Try.prog 75 #[.int .i64 x] w fun e w' => e = .returned (.bool (decide (1 ≤ x ∧ x ≤ 30))) ∧ w = w' := by
  by_cases h : 1 ≤ x
  · go_enter Try.func75, Try.ntmps75
    go_wp2
    go_ret
    exact ⟨by simp [h], rfl⟩
  · go_enter Try.func75, Try.ntmps75
    go_wp2
    go_ret
    exact ⟨by simp; omega, rfl⟩
theorem isSum_any (x : Int) (w : World) :
    Calls Try.prog 76 #[.int .i64 x] w fun e w' => e = .returned (.bool (decide (0 ≤ x ∧ x ≤ 65535))) ∧ w = w' := by
  by_cases h : 0 ≤ x
  · go_enter Try.func76, Try.ntmps76
    go_wp2
    go_ret
    exact ⟨by simp [h], rfl⟩
  · go_enter Try.func76, Try.ntmps76
    go_wp2
    go_ret
    exact ⟨by simp; omega, rfl⟩

set_option maxRecDepth 100000 in
set_option maxHeartbeats 1000000 in
theorem checkP_any (v : Value) (p : PatR) (w : World) (hp : PV w v p) :
    Calls Try.prog 28 #[v] w fun e w' => e = .returned (.int .i64 (PatM.check p)) ∧ Below w.heap.size w w' := by
  obtain ⟨a, n, c, rfl, ho, -⟩ := hp
  obtain ⟨f, t, o, nw, s, ops⟩ := p
  simp only at ho ⊢
  have hb : Below w.heap.size w (w.alloc (.cells #[.int .i64 f, .int .i64 t, .int .i64 o, .int .i64 nw, .int .i64 s, .slice a n c] 41)) := (Below.refl _ _).alloc (Nat.le_refl _) _
  by_cases h1 : 1 ≤ f ∧ f ≤ 30
  · have d1 : decide (1 ≤ f ∧ f ≤ 30) = true := decide_eq_true h1
    by_cases h2 : 1 ≤ t ∧ t ≤ 30
    · have d2 : decide (1 ≤ t ∧ t ≤ 30) = true := decide_eq_true h2
      by_cases h3 : 0 ≤ o ∧ o ≤ 65535
      · have d3 : decide (0 ≤ o ∧ o ≤ 65535) = true := decide_eq_true h3
        by_cases h4 : 0 ≤ nw ∧ nw ≤ 65535
        · have d4 : decide (0 ≤ nw ∧ nw ≤ 65535) = true := decide_eq_true h4
          have HE : Hid (PatM.check ⟨f, t, o, nw, s, ops⟩ = DeltaM.check ops 64 s) := by
            show _ = _
            unfold PatM.check
            rw [if_neg (by unfold PatM.badHead; simp only; omega)]
          have HO := Lib.hid (ho.later hb)
          have HB := Lib.hid hb
          clear h1 h2 h3 h4 ho hb
          go_enter Try.func28, Try.ntmps28
          go_wp2_with fail
          refine (isVersion_any f _).mono ?_
          rintro e w' ⟨rfl, rfl⟩
          rw [d1]
          go_wp2_with fail
          refine (isVersion_any t _).mono ?_
          rintro e w' ⟨rfl, rfl⟩
          rw [d2]
          go_wp2_with fail
          refine (isSum_any o _).mono ?_
          rintro e w' ⟨rfl, rfl⟩
          rw [d3]
          go_wp2_with fail
          refine (isSum_any nw _).mono ?_
          rintro e w' ⟨rfl, rfl⟩
          rw [d4]
          go_wp2_with fail
          refine (check_any a n c ops 64 s _ HO.out).mono ?_
          rintro e w' ⟨rfl, hb2⟩
          have hb3 := below_then HB.out hb2
          go_wp2_with fail
          go_ret
          exact ⟨ret_chk HE.out.symm, hb3⟩
        · have d4 : decide (0 ≤ nw ∧ nw ≤ 65535) = false := decide_eq_false h4
          have HE : Hid (PatM.check ⟨f, t, o, nw, s, ops⟩ = 2) := by
            show _ = _
            unfold PatM.check
            rw [if_pos (by unfold PatM.badHead; simp only; omega)]
          clear h1 h2 h3 h4 ho
          go_enter Try.func28, Try.ntmps28
          go_wp2_with fail
          refine (isVersion_any f _).mono ?_
          rintro e w' ⟨rfl, rfl⟩
          rw [d1]
          go_wp2_with fail
          refine (isVersion_any t _).mono ?_
          rintro e w' ⟨rfl, rfl⟩
          rw [d2]
          go_wp2_with fail
          refine (isSum_any o _).mono ?_
          rintro e w' ⟨rfl, rfl⟩
          rw [d3]
          go_wp2_with fail
          refine (isSum_any nw _).mono ?_
          rintro e w' ⟨rfl, rfl⟩
          rw [d4]
          go_wp2_with fail
          go_ret
          exact ⟨ret_chk HE.out.symm, hb⟩
      · have d3 : decide (0 ≤ o ∧ o ≤ 65535) = false := decide_eq_false h3
        have HE : Hid (PatM.check ⟨f, t, o, nw, s, ops⟩ = 2) := by
          show _ = _
          unfold PatM.check
          rw [if_pos (by unfold PatM.badHead; simp only; omega)]
        clear h1 h2 h3 ho
        go_enter Try.func28, Try.ntmps28
        go_wp2_with fail
        refine (isVersion_any f _).mono ?_
        rintro e w' ⟨rfl, rfl⟩
        rw [d1]
        go_wp2_with fail
        refine (isVersion_any t _).mono ?_
        rintro e w' ⟨rfl, rfl⟩
        rw [d2]
        go_wp2_with fail
        refine (isSum_any o _).mono ?_
        rintro e w' ⟨rfl, rfl⟩
        rw [d3]
        go_wp2_with fail
        go_ret
        exact ⟨ret_chk HE.out.symm, hb⟩
    · have d2 : decide (1 ≤ t ∧ t ≤ 30) = false := decide_eq_false h2
      have HE : Hid (PatM.check ⟨f, t, o, nw, s, ops⟩ = 2) := by
        show _ = _
        unfold PatM.check
        rw [if_pos (by unfold PatM.badHead; simp only; omega)]
      clear h1 h2 ho
      go_enter Try.func28, Try.ntmps28
      go_wp2_with fail
      refine (isVersion_any f _).mono ?_
      rintro e w' ⟨rfl, rfl⟩
      rw [d1]
      go_wp2_with fail
      refine (isVersion_any t _).mono ?_
      rintro e w' ⟨rfl, rfl⟩
      rw [d2]
      go_wp2_with fail
      go_ret
      exact ⟨ret_chk HE.out.symm, hb⟩
  · have d1 : decide (1 ≤ f ∧ f ≤ 30) = false := decide_eq_false h1
    have HE : Hid (PatM.check ⟨f, t, o, nw, s, ops⟩ = 2) := by
      show _ = _
      unfold PatM.check
      rw [if_pos (by unfold PatM.badHead; simp only; omega)]
    clear h1 ho
    go_enter Try.func28, Try.ntmps28
    go_wp2_with fail
    refine (isVersion_any f _).mono ?_
    rintro e w' ⟨rfl, rfl⟩
    rw [d1]
    go_wp2_with fail
    go_ret
    exact ⟨ret_chk HE.out.symm, hb⟩
theorem checkP_ok : CheckPC := fun v p w hp => checkP_any v p w hp
end Go.Proofs.Ytmpmaljkmfgagab
