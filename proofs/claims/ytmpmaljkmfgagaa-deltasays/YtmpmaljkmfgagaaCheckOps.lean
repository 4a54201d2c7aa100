/-
  Contract of the reference's CheckOps: it returns what the document says.
-/
import Derived.Test.YtmpmaljkmfgagaaDeltaRes
import Derived.Test.YtmpmaljkmfgagaaInRef
namespace Go.Proofs.Ytmpmaljkmfgagaa
open Go.RowKit

set_option maxRecDepth 100000 in
set_option maxHeartbeats 1000000 in
theorem checkOps_any (a : Option Addr) (n c : Nat) (l : List OpR) (old size : Int) (w : World) (hl : OS w a n c l) :
    Calls Try.prog 42 #[.slice a n c, .int .i64 old, .int .i64 size] w fun e w' => e = .returned (.int .i64 (DeltaM.check l old size)) ∧ Below w.heap.size w w' := by
  have hlen : n ≤ 9223372036854775807 := by have := hl.le; have := hl.max; omega
  by_cases h40 : 40 < n
  · have he : DeltaM.check l old size = 1 := by unfold DeltaM.check; rw [if_pos (.inl (by rw [hl.len]; exact h40))]
    rw [he]
    clear hl
    go_enter Try.func42, Try.ntmps42
    go_wp2_with fail
    go_ret
    exact ⟨rfl, Below.refl _ _⟩
  · by_cases hold : 0 ≤ old ∧ old ≤ 64
    · by_cases hsz : 0 ≤ size ∧ size ≤ 64
      · have he : DeltaM.check l old size = DeltaM.chk old size l 0 := by unfold DeltaM.check; rw [if_neg (by rw [hl.len]; omega)]
        rw [he]
        have HL := Lib.hid hl
        have HLn := Lib.hid hl.len
        obtain ⟨o1, o2⟩ := hold
        obtain ⟨s1, s2⟩ := hsz
        have d1 : decide (0 ≤ old ∧ old ≤ 64) = true := by simp; omega
        have d2 : decide (0 ≤ size ∧ size ≤ 64) = true := by simp; omega
        clear hl he
        go_enter Try.func42, Try.ntmps42
        go_wp2_with fail
        refine (in_any old 0 64 _).mono ?_
        rintro e w' ⟨rfl, rfl⟩
        rw [d1]
        go_wp2_with fail
        refine (in_any size 0 64 _).mono ?_
        rintro e w' ⟨rfl, rfl⟩
        rw [d2]
        go_wp2_with fail
        go_loopw [7, 26] (fun made i wr => ChkRel l old size w made i wr) (fun _ i _ => n - (intOf i).toNat)
        case atStart => exact ⟨0, 0, rfl, rfl, Nat.zero_le _, s1, rfl, Below.refl _ _⟩
        case round =>
          obtain ⟨m, k, rfl, rfl, hk, hm, hc, hB⟩ := hrel
          rw [HLn.out] at hk
          have HC := Lib.hid hc
          clear hc
          by_cases hlt : k < n
          · obtain ⟨b, off, rfl, hcs⟩ := (HL.out.later hB).cells (by omega)
            obtain ⟨va, vn, vc, q0, q1, q2, q3, q4, q5⟩ := hcs k hlt
            have HD := Lib.hid (drop_op l k (by rw [HLn.out]; exact hlt))
            generalize l.getD k default = o at q0 q1 q2 q3 q4 q5 HD
            obtain ⟨A, L, D⟩ := o
            have HDL := Lib.hid q3.len
            clear hcs q3
            have hB1 := hB.alloc hB.size (.cells #[.int .i64 A, .int .i64 L, .slice va vn vc] 56)
            simp only at q0 q1 q2 q4 q5
            have hA64 := Lib.hid q4
            have hL64 := Lib.hid q5
            clear q4 q5
            obtain ⟨V, hV⟩ : ∃ V : Int, (vn : Int) = V := ⟨_, rfl⟩
            have HV : Hid ((D.length : Int) = vn) := by show (D.length : Int) = vn; have := HDL.out; simp only at this; omega
            have fin : ∀ r : Int, DeltaM.chk old size (⟨A, L, D⟩ :: l.drop (k + 1)) m = r → r = DeltaM.chk old size l 0 := by
              intro r h
              rw [← h, ← HC.out, HD.out]
            have HF := Lib.hid fin
            have on : ¬ DeltaM.badForm ⟨A, L, D⟩ → ¬ DeltaM.badRange old ⟨A, L, D⟩ → ∀ M : Nat, (m : Int) + (L + vn) = M → (M : Int) ≤ size → ChkRel l old size w (.int .i64 M) (.int .i64 (k + 1 : Nat)) (wr.alloc (.cells #[.int .i64 A, .int .i64 L, .slice va vn vc] 56)) := by
              intro h1 h2 M hM hM2
              have e : DeltaM.size ⟨A, L, D⟩ = L + vn := by unfold DeltaM.size; simp only; rw [HV.out]
              have e2 : (m : Int) + DeltaM.size ⟨A, L, D⟩ = M := by rw [e]; exact hM
              refine ⟨M, k + 1, rfl, rfl, by rw [HLn.out]; omega, hM2, ?_, hB1⟩
              rw [← HC.out, HD.out, DeltaM.chk_on h1 h2 (by rw [e2]; omega), e2]
            have HON := Lib.hid on
            have HSZ : Hid (DeltaM.size ⟨A, L, D⟩ = L + vn) := by show DeltaM.size ⟨A, L, D⟩ = L + vn; unfold DeltaM.size; simp only; rw [HV.out]
            clear fin on hV HDL
            by_cases hL : L = 0
            · subst hL
              by_cases hA : A = 0
              · subst hA
                by_cases hin : 1 ≤ (vn : Int) ∧ (vn : Int) ≤ 64
                · have HNF : Hid (¬ DeltaM.badForm ⟨0, 0, D⟩) := by show ¬ _; unfold DeltaM.badForm; simp only; rw [HV.out]; omega
                  have HNR : Hid (¬ DeltaM.badRange old ⟨0, 0, D⟩) := by show ¬ _; unfold DeltaM.badRange; simp only; omega
                  have din : decide (1 ≤ (vn : Int) ∧ (vn : Int) ≤ 64) = true := by simp only [decide_eq_true_eq]; exact hin
                  obtain ⟨M, hM⟩ : ∃ M : Nat, (m : Int) + vn = M := ⟨m + vn, by omega⟩
                  have hno : ¬ old < 0 := by omega
                  obtain ⟨hin1, hin2⟩ := hin
                  by_cases hmany : size < (M : Int)
                  · go_wp2_with fail
                    refine (in_any vn 1 64 _).mono ?_
                    rintro e w' ⟨rfl, rfl⟩
                    rw [din]
                    go_wp2_with fail
                    go_ret
                    exact ⟨ret_chk (HF.out 1 (DeltaM.chk_many HNF.out HNR.out (by rw [HSZ.out]; omega))), hB1⟩
                  · go_wp2_with fail
                    refine (in_any vn 1 64 _).mono ?_
                    rintro e w' ⟨rfl, rfl⟩
                    rw [din]
                    go_wp2_with fail
                    go_roundw
                    case rel => exact HON.out HNF.out HNR.out M (by omega) (by omega)
                    case measure => simp [intOf]; omega
                · have HBF : Hid (DeltaM.badForm ⟨0, 0, D⟩) := by show DeltaM.badForm _; exact .inl ⟨rfl, .inr (by simp only; rw [HV.out]; exact hin)⟩
                  have din : decide (1 ≤ (vn : Int) ∧ (vn : Int) ≤ 64) = false := by simp only [decide_eq_false_iff_not]; exact hin
                  clear hin
                  go_wp2_with fail
                  refine (in_any vn 1 64 _).mono ?_
                  rintro e w' ⟨rfl, rfl⟩
                  rw [din]
                  go_wp2_with fail
                  go_ret
                  exact ⟨ret_chk (HF.out 3 (DeltaM.chk_form HBF.out)), hB1⟩
              · have HBF : Hid (DeltaM.badForm ⟨A, 0, D⟩) := by show DeltaM.badForm _; exact .inl ⟨rfl, .inl hA⟩
                have hAb : (A != 0) = true := by simp [hA]
                go_wp2_with fail
                go_ret
                exact ⟨ret_chk (HF.out 3 (DeltaM.chk_form HBF.out)), hB1⟩
            · have hLb : (L == 0) = false := by simp [hL]
              have hLn : (L != 0) = true := by simp [hL]
              by_cases hv : vn = 0
              · subst hv
                have HNF : Hid (¬ DeltaM.badForm ⟨A, L, D⟩) := by show ¬ _; unfold DeltaM.badForm; simp only; rw [HV.out]; omega
                by_cases hr1 : L < 0
                · have HBR : Hid (DeltaM.badRange old ⟨A, L, D⟩) := by show DeltaM.badRange _ _; unfold DeltaM.badRange; simp only; omega
                  go_wp2_with fail
                  go_ret
                  exact ⟨ret_chk (HF.out 2 (DeltaM.chk_range HNF.out HBR.out)), hB1⟩
                · by_cases hr2 : A < 0
                  · have HBR : Hid (DeltaM.badRange old ⟨A, L, D⟩) := by show DeltaM.badRange _ _; unfold DeltaM.badRange; simp only; omega
                    go_wp2_with fail
                    go_ret
                    exact ⟨ret_chk (HF.out 2 (DeltaM.chk_range HNF.out HBR.out)), hB1⟩
                  · by_cases hr3 : 64 < L
                    · have HBR : Hid (DeltaM.badRange old ⟨A, L, D⟩) := by show DeltaM.badRange _ _; unfold DeltaM.badRange; simp only; omega
                      go_wp2_with fail
                      go_ret
                      exact ⟨ret_chk (HF.out 2 (DeltaM.chk_range HNF.out HBR.out)), hB1⟩
                    · by_cases hr4 : 64 < A
                      · have HBR : Hid (DeltaM.badRange old ⟨A, L, D⟩) := by show DeltaM.badRange _ _; unfold DeltaM.badRange; simp only; omega
                        go_wp2_with fail
                        go_ret
                        exact ⟨ret_chk (HF.out 2 (DeltaM.chk_range HNF.out HBR.out)), hB1⟩
                      · obtain ⟨S, hS⟩ : ∃ S : Int, A + L = S := ⟨_, rfl⟩
                        by_cases hr5 : old < S
                        · have HBR : Hid (DeltaM.badRange old ⟨A, L, D⟩) := by show DeltaM.badRange _ _; unfold DeltaM.badRange; simp only; omega
                          go_wp2_with fail
                          go_ret
                          exact ⟨ret_chk (HF.out 2 (DeltaM.chk_range HNF.out HBR.out)), hB1⟩
                        · have HNR : Hid (¬ DeltaM.badRange old ⟨A, L, D⟩) := by show ¬ _; unfold DeltaM.badRange; simp only; omega
                          obtain ⟨M, hM⟩ : ∃ M : Nat, (m : Int) + L = M := ⟨m + L.toNat, by omega⟩
                          by_cases hmany : size < (M : Int)
                          · go_wp2_with fail
                            go_ret
                            exact ⟨ret_chk (HF.out 1 (DeltaM.chk_many HNF.out HNR.out (by rw [HSZ.out]; omega))), hB1⟩
                          · go_wp2_with fail
                            go_roundw
                            case rel => exact HON.out HNF.out HNR.out M (by omega) (by omega)
                            case measure => simp [intOf]; omega
              · have HBF : Hid (DeltaM.badForm ⟨A, L, D⟩) := by show DeltaM.badForm _; unfold DeltaM.badForm; simp only; rw [HV.out]; omega
                have hvb : ((vn : Int) != 0) = true := by simp; omega
                go_wp2_with fail
                go_ret
                exact ⟨ret_chk (HF.out 3 (DeltaM.chk_form HBF.out)), hB1⟩
          · have hkl : l.drop k = [] := List.drop_eq_nil_of_le (by rw [HLn.out]; omega)
            have HE := Lib.hid hkl
            clear hkl
            by_cases hf : (m : Int) < size
            · go_wp2_with fail
              go_ret
              exact ⟨ret_chk (by rw [← HC.out, HE.out]; simp [DeltaM.chk, hf]), hB⟩
            · go_wp2_with fail
              go_ret
              exact ⟨ret_chk (by rw [← HC.out, HE.out]; simp [DeltaM.chk, hf]), hB⟩
      · have he : DeltaM.check l old size = 1 := by unfold DeltaM.check; rw [if_pos (.inr (.inr hsz))]
        rw [he]
        have d1 : decide (0 ≤ old ∧ old ≤ 64) = true := by simp only [decide_eq_true_eq]; exact hold
        have d2 : decide (0 ≤ size ∧ size ≤ 64) = false := by simp only [decide_eq_false_iff_not]; exact hsz
        clear hl he hold hsz
        go_enter Try.func42, Try.ntmps42
        go_wp2_with fail
        refine (in_any old 0 64 _).mono ?_
        rintro e w' ⟨rfl, rfl⟩
        rw [d1]
        go_wp2_with fail
        refine (in_any size 0 64 _).mono ?_
        rintro e w' ⟨rfl, rfl⟩
        rw [d2]
        go_wp2_with fail
        go_ret
        exact ⟨rfl, Below.refl _ _⟩
    · have he : DeltaM.check l old size = 1 := by unfold DeltaM.check; rw [if_pos (.inr (.inl hold))]
      rw [he]
      have d1 : decide (0 ≤ old ∧ old ≤ 64) = false := by simp only [decide_eq_false_iff_not]; exact hold
      clear hl he hold
      go_enter Try.func42, Try.ntmps42
      go_wp2_with fail
      refine (in_any old 0 64 _).mono ?_
      rintro e w' ⟨rfl, rfl⟩
      rw [d1]
      go_wp2_with fail
      go_ret
      exact ⟨rfl, Below.refl _ _⟩
end Go.Proofs.Ytmpmaljkmfgagaa
