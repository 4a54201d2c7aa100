/-
  Contracts of delta.Check and of what it calls: it returns what the document says.
-/
import Derived.Test.YtmpmaljkmfgagaaDeltaRes
namespace Go.Proofs.Ytmpmaljkmfgagaa
open Go.RowKit

/-- what is wrong with one step -/
def DeltaM.stepErr (old : Int) (o : OpR) : Int := if DeltaM.badForm o then 3 else if DeltaM.badRange old o then 2 else 0

theorem DeltaM.good_num {old : Int} {o : OpR} (h : ¬ DeltaM.badForm o) (h2 : ¬ DeltaM.badRange old o) : 0 ≤ o.len ∧ (o.data.length : Int) ≤ 64 ∧ o.len ≤ old := by
  unfold DeltaM.badForm at h
  unfold DeltaM.badRange at h2
  omega

theorem imageSize_any (x : Int) (w : World) :
    Calls Try.prog 63 #[.int .i64 x] w fun e w' => e = .returned (.bool (decide (0 ≤ x ∧ x ≤ 64))) ∧ w = w' := by
  by_cases h : 0 ≤ x
  · go_enter Try.func63, Try.ntmps63
    go_wp2
    go_ret
    exact ⟨by simp [h], rfl⟩
  · go_enter Try.func63, Try.ntmps63
    go_wp2
    go_ret
    exact ⟨by simp; omega, rfl⟩

set_option maxRecDepth 100000 in
set_option maxHeartbeats 1000000 in
theorem checkStep_any (A L : Int) (va : Option Addr) (vn vc : Nat) (D : List Int) (old : Int) (w : World) (hD : D.length = vn) (hA : I64 A) (hL : I64 L) (h0 : 0 ≤ old) (h1 : old ≤ 64) :
    Calls Try.prog 64 #[.agg #[.int .i64 A, .int .i64 L, .slice va vn vc], .int .i64 old] w fun e w' => e = .returned (.int .i64 (DeltaM.stepErr old ⟨A, L, D⟩)) ∧ Below w.heap.size w w' := by
  have hB1 := (Below.refl w.heap.size w).alloc (Nat.le_refl _) (.cells #[.int .i64 A, .int .i64 L, .slice va vn vc] 56)
  have HB := Lib.hid hB1
  have HV : Hid ((D.length : Int) = vn) := by show (D.length : Int) = vn; omega
  have form : DeltaM.badForm ⟨A, L, D⟩ → 3 = DeltaM.stepErr old ⟨A, L, D⟩ := fun h => by unfold DeltaM.stepErr; rw [if_pos h]
  have range : ¬ DeltaM.badForm ⟨A, L, D⟩ → DeltaM.badRange old ⟨A, L, D⟩ → 2 = DeltaM.stepErr old ⟨A, L, D⟩ := fun h h2 => by unfold DeltaM.stepErr; rw [if_neg h, if_pos h2]
  have fine : ¬ DeltaM.badForm ⟨A, L, D⟩ → ¬ DeltaM.badRange old ⟨A, L, D⟩ → 0 = DeltaM.stepErr old ⟨A, L, D⟩ := fun h h2 => by unfold DeltaM.stepErr; rw [if_neg h, if_neg h2]
  have HF := Lib.hid form
  have HR := Lib.hid range
  have HN := Lib.hid fine
  clear form range fine hB1 hD
  unfold I64 at hA hL
  obtain ⟨a1, a2⟩ := hA
  obtain ⟨l1, l2⟩ := hL
  by_cases hL0 : L = 0
  · subst hL0
    by_cases hA0 : A = 0
    · subst hA0
      by_cases hv0 : vn = 0
      · subst hv0
        have HBF : Hid (DeltaM.badForm ⟨0, 0, D⟩) := by show DeltaM.badForm _; exact .inl ⟨rfl, .inr (by simp only; rw [HV.out]; omega)⟩
        go_enter Try.func64, Try.ntmps64
        go_wp2
        go_ret
        exact ⟨ret_chk (HF.out HBF.out), HB.out⟩
      · have hvb : ((vn : Int) == 0) = false := by simp; omega
        by_cases hv64 : 64 < (vn : Int)
        · have HBF : Hid (DeltaM.badForm ⟨0, 0, D⟩) := by show DeltaM.badForm _; exact .inl ⟨rfl, .inr (by simp only; rw [HV.out]; omega)⟩
          go_enter Try.func64, Try.ntmps64
          go_wp2
          go_ret
          exact ⟨ret_chk (HF.out HBF.out), HB.out⟩
        · have HNF : Hid (¬ DeltaM.badForm ⟨0, 0, D⟩) := by show ¬ _; unfold DeltaM.badForm; simp only; rw [HV.out]; omega
          have HNR : Hid (¬ DeltaM.badRange old ⟨0, 0, D⟩) := by show ¬ _; unfold DeltaM.badRange; simp only; omega
          have hno : ¬ old < 0 := by omega
          go_enter Try.func64, Try.ntmps64
          go_wp2
          go_ret
          exact ⟨ret_chk (HN.out HNF.out HNR.out), HB.out⟩
    · have HBF : Hid (DeltaM.badForm ⟨A, 0, D⟩) := by show DeltaM.badForm _; exact .inl ⟨rfl, .inl hA0⟩
      have hAb : (A != 0) = true := by simp [hA0]
      go_enter Try.func64, Try.ntmps64
      go_wp2
      go_ret
      exact ⟨ret_chk (HF.out HBF.out), HB.out⟩
  · have hLb : (L == 0) = false := by simp [hL0]
    have hLn : (L != 0) = true := by simp [hL0]
    by_cases hv : vn = 0
    · subst hv
      have HNF : Hid (¬ DeltaM.badForm ⟨A, L, D⟩) := by show ¬ _; unfold DeltaM.badForm; simp only; rw [HV.out]; omega
      by_cases hr1 : L < 0
      · have HBR : Hid (DeltaM.badRange old ⟨A, L, D⟩) := by show DeltaM.badRange _ _; unfold DeltaM.badRange; simp only; omega
        go_enter Try.func64, Try.ntmps64
        go_wp2
        go_ret
        exact ⟨ret_chk (HR.out HNF.out HBR.out), HB.out⟩
      · by_cases hr2 : A < 0
        · have HBR : Hid (DeltaM.badRange old ⟨A, L, D⟩) := by show DeltaM.badRange _ _; unfold DeltaM.badRange; simp only; omega
          go_enter Try.func64, Try.ntmps64
          go_wp2
          go_ret
          exact ⟨ret_chk (HR.out HNF.out HBR.out), HB.out⟩
        · obtain ⟨S, hS⟩ : ∃ S : Int, old - A = S := ⟨_, rfl⟩
          by_cases hr5 : S < L
          · have HBR : Hid (DeltaM.badRange old ⟨A, L, D⟩) := by show DeltaM.badRange _ _; unfold DeltaM.badRange; simp only; omega
            go_enter Try.func64, Try.ntmps64
            go_wp2
            go_ret
            exact ⟨ret_chk (HR.out HNF.out HBR.out), HB.out⟩
          · have HNR : Hid (¬ DeltaM.badRange old ⟨A, L, D⟩) := by show ¬ _; unfold DeltaM.badRange; simp only; omega
            go_enter Try.func64, Try.ntmps64
            go_wp2
            go_ret
            exact ⟨ret_chk (HN.out HNF.out HNR.out), HB.out⟩
    · have HBF : Hid (DeltaM.badForm ⟨A, L, D⟩) := by show DeltaM.badForm _; unfold DeltaM.badForm; simp only; rw [HV.out]; omega
      have hvb : ((vn : Int) != 0) = true := by simp; omega
      go_enter Try.func64, Try.ntmps64
      go_wp2
      go_ret
      exact ⟨ret_chk (HF.out HBF.out), HB.out⟩

theorem step_block (W : World) (v0 v1 v2 : Value) : (W.alloc (.cells #[v0, v1, v2] 56)).heap[W.heap.size]? = some (.cells #[v0, v1, v2] 56 (0, 0)) := by rw [heap_at, if_pos rfl]
theorem step_cells {W : World} {B : Nat} {v0 v1 v2 : Value} (h : W.heap[B]? = some (.cells #[v0, v1, v2] 56 (0, 0))) : W.cell? ⟨B, 0, none⟩ = some v0 ∧ W.cell? ⟨B, 1, none⟩ = some v1 ∧ W.cell? ⟨B, 2, none⟩ = some v2 := by
  simp [World.cell?, h]

set_option maxRecDepth 100000 in
set_option maxHeartbeats 1000000 in
theorem check_any (a : Option Addr) (n c : Nat) (l : List OpR) (old size : Int) (w : World) (hl : OS w a n c l) :
    Calls Try.prog 41 #[.slice a n c, .int .i64 old, .int .i64 size] w fun e w' => e = .returned (.int .i64 (DeltaM.check l old size)) ∧ Below w.heap.size w w' := by
  have hlen : n ≤ 9223372036854775807 := by have := hl.le; have := hl.max; omega
  by_cases h40 : 40 < n
  · have he : DeltaM.check l old size = 1 := by unfold DeltaM.check; rw [if_pos (.inl (by rw [hl.len]; exact h40))]
    rw [he]
    clear hl
    go_enter Try.func41, Try.ntmps41
    go_wp2_with fail
    go_ret
    exact ⟨rfl, Below.refl _ _⟩
  · by_cases hold : 0 ≤ old ∧ old ≤ 64
    · by_cases hsz : 0 ≤ size ∧ size ≤ 64
      · have he : DeltaM.check l old size = DeltaM.chk old size l 0 := by unfold DeltaM.check; rw [if_neg (by rw [hl.len]; omega)]
        rw [he]
        have HL := Lib.hid hl
        have HLn := Lib.hid hl.len
        obtain ⟨o1, o2⟩ := hold
        obtain ⟨s1, s2⟩ := hsz
        have d1 : decide (0 ≤ old ∧ old ≤ 64) = true := by simp; omega
        have d2 : decide (0 ≤ size ∧ size ≤ 64) = true := by simp; omega
        clear hl he
        go_enter Try.func41, Try.ntmps41
        go_wp2_with fail
        refine (imageSize_any old _).mono ?_
        rintro e w' ⟨rfl, rfl⟩
        rw [d1]
        go_wp2_with fail
        refine (imageSize_any size _).mono ?_
        rintro e w' ⟨rfl, rfl⟩
        rw [d2]
        go_wp2_with fail
        go_loopw [7, 26] (fun made i wr => ChkRel l old size w made i wr) (fun _ i _ => n - (intOf i).toNat)
        case atStart => exact ⟨0, 0, rfl, rfl, Nat.zero_le _, s1, rfl, Below.refl _ _⟩
        case round =>
          obtain ⟨m, k, rfl, rfl, hk, hm, hc, hB⟩ := hrel
          rw [HLn.out] at hk
          have HC := Lib.hid hc
          clear hc
          by_cases hlt : k < n
          · obtain ⟨b, off, rfl, hcs⟩ := (HL.out.later hB).cells (by omega)
            obtain ⟨va, vn, vc, q0, q1, q2, q3, q4, q5⟩ := hcs k hlt
            have HD := Lib.hid (drop_op l k (by rw [HLn.out]; exact hlt))
            generalize l.getD k default = o at q0 q1 q2 q3 q4 q5 HD
            obtain ⟨A, L, D⟩ := o
            have HDL := Lib.hid q3.len
            clear hcs q3
            have hB1 := hB.alloc hB.size (.cells #[.int .i64 A, .int .i64 L, .slice va vn vc] 56)
            simp only at q0 q1 q2 q4 q5
            have hA64 := Lib.hid q4
            have hL64 := Lib.hid q5
            clear q4 q5
            have HV : Hid ((D.length : Int) = vn) := by show (D.length : Int) = vn; have := HDL.out; simp only at this; omega
            have HF : Hid (∀ r : Int, DeltaM.chk old size (⟨A, L, D⟩ :: l.drop (k + 1)) m = r → r = DeltaM.chk old size l 0) := by
              show ∀ r : Int, _ → _
              intro r h
              rw [← h, ← HC.out, HD.out]
            have HSZ : Hid (DeltaM.size ⟨A, L, D⟩ = L + vn) := by show DeltaM.size ⟨A, L, D⟩ = L + vn; unfold DeltaM.size; simp only; rw [HV.out]
            have hblk := step_block wr (.int .i64 A) (.int .i64 L) (.slice va vn vc)
            have HB1 := Lib.hid hB1
            have HBLK := Lib.hid hblk
            clear hblk hB1
            go_wp2_with fail
            refine (checkStep_any A L va vn vc D old _ HDL.out hA64.out hL64.out o1 o2).mono ?_
            rintro e W2 ⟨rfl, hb2⟩
            have hB2 := below_then HB1.out hb2
            have hc2 := step_cells ((hb2.block _ (by simp)).trans HBLK.out)
            obtain ⟨-, r1, r2⟩ := hc2
            have HB2 := Lib.hid hB2
            clear hB2 hb2 HB1 HBLK q0 q1 q2
            by_cases hf : DeltaM.badForm ⟨A, L, D⟩
            · have he : DeltaM.stepErr old ⟨A, L, D⟩ = 3 := by unfold DeltaM.stepErr; rw [if_pos hf]
              rw [he]
              have HBF := Lib.hid hf
              clear hf he
              go_wp2_with fail
              go_ret
              exact ⟨ret_chk (HF.out 3 (DeltaM.chk_form HBF.out)), HB2.out⟩
            · by_cases hr : DeltaM.badRange old ⟨A, L, D⟩
              · have he : DeltaM.stepErr old ⟨A, L, D⟩ = 2 := by unfold DeltaM.stepErr; rw [if_neg hf, if_pos hr]
                rw [he]
                have HNF := Lib.hid hf
                have HBR := Lib.hid hr
                clear hf hr he
                go_wp2_with fail
                go_ret
                exact ⟨ret_chk (HF.out 2 (DeltaM.chk_range HNF.out HBR.out)), HB2.out⟩
              · have he : DeltaM.stepErr old ⟨A, L, D⟩ = 0 := by unfold DeltaM.stepErr; rw [if_neg hf, if_neg hr]
                rw [he]
                have hg := DeltaM.good_num hf hr
                simp only at hg
                rw [HV.out] at hg
                obtain ⟨g1, g2, g3⟩ := hg
                have HNF := Lib.hid hf
                have HNR := Lib.hid hr
                clear hf hr he
                obtain ⟨M, hM⟩ : ∃ M : Nat, (m : Int) + (L + vn) = M := ⟨m + (L + vn).toNat, by omega⟩
                obtain ⟨S, hS⟩ : ∃ S : Int, L + (vn : Int) = S := ⟨_, rfl⟩
                rw [hS] at hM
                by_cases hmany : size < (M : Int)
                · go_wp2_with fail
                  go_ret
                  exact ⟨ret_chk (HF.out 1 (DeltaM.chk_many HNF.out HNR.out (by rw [HSZ.out]; omega))), HB2.out⟩
                · go_wp2_with fail
                  go_roundw
                  case rel =>
                    refine ⟨M, k + 1, rfl, rfl, by rw [HLn.out]; omega, by omega, ?_, HB2.out⟩
                    have e2 : (m : Int) + DeltaM.size ⟨A, L, D⟩ = M := by rw [HSZ.out]; omega
                    rw [← HC.out, HD.out, DeltaM.chk_on HNF.out HNR.out (by rw [e2]; omega), e2]
                  case measure => simp [intOf]; omega
          · have hkl : l.drop k = [] := List.drop_eq_nil_of_le (by rw [HLn.out]; omega)
            have HE := Lib.hid hkl
            clear hkl
            by_cases hf : (m : Int) < size
            · go_wp2_with fail
              go_ret
              exact ⟨ret_chk (by rw [← HC.out, HE.out]; simp [DeltaM.chk, hf]), hB⟩
            · go_wp2_with fail
              go_ret
              exact ⟨ret_chk (by rw [← HC.out, HE.out]; simp [DeltaM.chk, hf]), hB⟩
      · have he : DeltaM.check l old size = 1 := by unfold DeltaM.check; rw [if_pos (.inr (.inr hsz))]
        rw [he]
        have d1 : decide (0 ≤ old ∧ old ≤ 64) = true := by simp only [decide_eq_true_eq]; exact hold
        have d2 : decide (0 ≤ size ∧ size ≤ 64) = false := by simp only [decide_eq_false_iff_not]; exact hsz
        clear hl he hold hsz
        go_enter Try.func41, Try.ntmps41
        go_wp2_with fail
        refine (imageSize_any old _).mono ?_
        rintro e w' ⟨rfl, rfl⟩
        rw [d1]
        go_wp2_with fail
        refine (imageSize_any size _).mono ?_
        rintro e w' ⟨rfl, rfl⟩
        rw [d2]
        go_wp2_with fail
        go_ret
        exact ⟨rfl, Below.refl _ _⟩
    · have he : DeltaM.check l old size = 1 := by unfold DeltaM.check; rw [if_pos (.inr (.inl hold))]
      rw [he]
      have d1 : decide (0 ≤ old ∧ old ≤ 64) = false := by simp only [decide_eq_false_iff_not]; exact hold
      clear hl he hold
      go_enter Try.func41, Try.ntmps41
      go_wp2_with fail
      refine (imageSize_any old _).mono ?_
      rintro e w' ⟨rfl, rfl⟩
      rw [d1]
      go_wp2_with fail
      go_ret
      exact ⟨rfl, Below.refl _ _⟩
end Go.Proofs.Ytmpmaljkmfgagaa
