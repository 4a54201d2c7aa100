/-
  The contract of the reference's closure in Composed: one byte more.
-/
import Derived.Test.YtmpmaljkmfgagaaCompSt
import Derived.Test.YtmpmaljkmfgagaaStep
namespace Go.Proofs.Ytmpmaljkmfgagaa
open Go.RowKit

/-- a call that makes one byte more -/
def OneTo (w0 : World) (B0 : Nat) (vo : Value) (lb : Option Nat) (r : List OpR) (s : Int × Int) (W : World) (e : Ending) (W' : World) : Prop :=
  e = .returned (.tuple #[]) ∧ ∃ vo' lb', CSt w0 B0 vo' lb' (CompM.pushR r s) W' ∧ Fr W B0 vo lb W' vo' lb'

theorem lit_one (W : World) (x : Int) (hx : 0 ≤ x ∧ x ≤ 255) : BS (W.alloc (.cells #[.int .u8 x] 5)) (some ⟨W.heap.size, 0, none⟩) 1 1 [x] := by
  refine ⟨rfl, Nat.le_refl _, by omega, by simpa using hx, fun _ => ⟨W.heap.size, 0, rfl, fun i hi => ?_⟩, fun h => by cases h⟩
  obtain rfl : i = 0 := by omega
  simp only [World.cell?, Nat.add_zero, heap_at, if_pos]
  simp
theorem Fr.from_later {W W1 W' : World} {B0 : Nat} {vo vo' : Value} {lb lb' : Option Nat} (hb : Below W.heap.size W W1) (h : Fr W1 B0 vo lb W' vo' lb') : Fr W B0 vo lb W' vo' lb' := fun k k1 k2 k3 k4 => by
  obtain ⟨q1, q2⟩ := h k (Nat.lt_of_lt_of_le k1 hb.size) k2 k3 k4
  exact ⟨q1.trans (hb.block k k1), q2⟩

set_option maxRecDepth 100000 in
set_option maxHeartbeats 2000000 in
theorem one_any {w0 : World} {B0 : Nat} {vo : Value} {lb : Option Nat} {r : List OpR} {W : World} (at_ x : Int) (h : CSt w0 B0 vo lb r W) (hx : 0 ≤ x ∧ x ≤ 255) (hat : at_ ≤ 1000) (hbd : CompM.Bd 1000 r) :
    Calls Try.prog 70 #[.int .i64 at_, .int .u8 x, .pointer (some ⟨B0, 0, none⟩)] W (OneTo w0 B0 vo lb r (at_, x) W) := by
  have hlen := hbd.1
  have k0 := cell_blk h.c0
  cases r with
  | nil =>
    obtain ⟨rfl, rfl⟩ : vo = .slice none 0 0 ∧ lb = none := h.o
    by_cases hneg : at_ < 0
    · obtain ⟨g, cap, W5, hrun, k5, f5, HS⟩ := h.pushD x hx (by simp)
      have HP : Hid (CompM.pushR [] (at_, x) = [⟨0, 0, [x]⟩]) := by show _ = _; simp [CompM.pushR, hneg]
      clear h
      go_enter Try.func70, Try.ntmps70
      go_wp2_with (at_builtin; refine Lib.wpList_append_run _ rfl _ _ _ _ rfl _ _ rfl rfl _ _ hrun ?_)
      go_end0
      exact ⟨rfl, _, _, by rw [HP.out]; exact HS.out.1, HS.out.2⟩
    · have HP : Hid (CompM.pushR [] (at_, x) = [⟨at_, 1, []⟩]) := by show _ = _; simp [CompM.pushR, hneg]
      have HH := Lib.hid h
      clear h
      go_enter Try.func70, Try.ntmps70
      go_wp2
      go_quiet (fail)
      have hbw : Below W.heap.size W (W.drewN nq) := below_drewN (Below.refl _ _) nq
      have hs := HH.out.later hbw
      have HBW := Lib.hid hbw
      clear hbw k0 HH
      generalize W.drewN nq = W1 at hs HBW ⊢
      have k0 := cell_blk hs.c0
      obtain ⟨g, cap, W5, hrun, k5, f5, HS⟩ := hs.pushC at_ (by unfold I64; omega) (by simp)
      clear hs
      go_wp2_with (at_builtin; refine Lib.wpList_append_run _ rfl _ _ _ _ rfl _ _ rfl rfl _ _ hrun ?_)
      go_end0
      exact ⟨rfl, _, _, by rw [HP.out]; exact HS.out.1, HS.out.2.from_later HBW.out⟩
  | cons last t =>
    obtain ⟨b1, b2, b3, b4, b5, -⟩ := hbd.2 last (by simp)
    obtain ⟨g, cap, v, rfl, hg0, hgl, q0, q1, q2, qf, qv⟩ := h.lastAt
    obtain ⟨A, L, D⟩ := last
    simp only at b1 b2 b3 b4 b5 q0 q1
    simp only [List.length_cons] at hlen
    have HH := Lib.hid h
    have HN : Hid (t.length = t.length) := rfl
    obtain ⟨N, hN⟩ : ∃ N, t.length = N := ⟨_, rfl⟩
    have HNN := Lib.hid hN
    have f2 := qf (N * 3 + 2)
    have f1 := qf (N * 3 + 1)
    rw [hN] at k0 q0 q1 q2 hlen
    clear h qf hN HN hbd
    have hN1 : ((N + 1 : Nat) : Int) - 1 = N := by omega
    have hN2 : (N : Int) < (N : Int) + 1 := by omega
    have hN3 : (0 : Int) ≤ N := by omega
    by_cases hneg : at_ < 0
    · by_cases hL0 : L = 0
      · subst hL0
        have HP : Hid (CompM.pushR (⟨A, 0, D⟩ :: t) (at_, x) = ⟨A, 0, D ++ [x]⟩ :: t) := by show _ = _; simp [CompM.pushR, hneg]
        have hBa : Below W.heap.size W (W.alloc (.cells #[.int .u8 x] 5)) := (Below.refl _ _).alloc (Nat.le_refl _) _
        have hBd : Below W.heap.size W (W.alloc (.cells #[.int .u8 x] 5)).drew := hBa.drew
        have q2' : (W.alloc (.cells #[.int .u8 x] 5)).drew.cell? ⟨g, t.length * 3 + 2, none⟩ = some v := by rw [HNN.out]; exact cell_later hBd q2
        obtain ⟨g5, cap5, W5, hrun, k5, c5, f5, HS⟩ := (HH.out.later hBd).moreD hg0 q2' ((lit_one W x hx).later (Below.refl _ _).drew) b5
        have HBd := Lib.hid hBd
        rw [HNN.out] at k5 c5 f5 HS
        have z0 := lt_blk HH.out.c0
        clear q2' hBa hBd HH
        go_enter Try.func70, Try.ntmps70
        go_wp2_with fail
        go_region_law (refine step_append_run rfl (.tmp 35) (.tmp 37) 27 27 rfl v (.slice (some ⟨W.heap.size, 0, none⟩) 1 1) (by simp [Act.eval]) (by simp [Act.eval]) _ _ hrun ?_)
        all_goals
          go_wp2
          go_end0
          obtain rfl := HNN.out
          exact ⟨rfl, _, _, by rw [HP.out]; exact HS.out.1, HS.out.2.from_later HBd.out⟩
      · have HP : Hid (CompM.pushR (⟨A, L, D⟩ :: t) (at_, x) = ⟨0, 0, [x]⟩ :: ⟨A, L, D⟩ :: t) := by show _ = _; simp [CompM.pushR, hneg, hL0]
        have hLb : (L == 0) = false := by simp [hL0]
        obtain ⟨g6, cap6, W6, hrun, k6, f6, HS⟩ := HH.out.pushD x hx (by simp only [List.length_cons]; rw [HNN.out]; omega)
        simp only [List.length_cons] at hrun HS
        rw [HNN.out] at hrun HS k6
        clear HH
        go_enter Try.func70, Try.ntmps70
        go_wp2_with (at_builtin; refine Lib.wpList_append_run _ rfl _ _ _ _ rfl _ _ rfl rfl _ _ hrun ?_)
        go_end0
        obtain rfl := HNN.out
        exact ⟨rfl, _, _, by rw [HP.out]; exact HS.out.1, HS.out.2⟩
    · by_cases hgo : 0 < L ∧ A + L = at_
      · obtain ⟨hLp, hsum⟩ := hgo
        have HP : Hid (CompM.pushR (⟨A, L, D⟩ :: t) (at_, x) = ⟨A, L + 1, D⟩ :: t) := by show _ = _; simp [CompM.pushR, hneg, hLp, hsum]
        have hse : (at_ == at_) = true := by simp
        go_enter Try.func70, Try.ntmps70
        go_wp2
        go_quiet (fail)
        have hbw : Below W.heap.size W (W.drewN nq) := below_drewN (Below.refl _ _) nq
        have hs := HH.out.later hbw
        have hc1 : (W.drewN nq).cell? ⟨g, N * 3 + 1, none⟩ = some (.int .i64 L) := q1
        have hf1 : (W.drewN nq).frozen? ⟨g, N * 3 + 1, none⟩ = false := f1
        have HBW := Lib.hid hbw
        clear hbw k0 HH q0 q1 q2 f1 f2
        generalize W.drewN nq = W1 at hs HBW hc1 hf1 ⊢
        have k0 := cell_blk hs.c0
        rw [HNN.out] at k0
        have HM := Lib.hid (hs.moreC hg0 (L + 1) (by unfold I64; omega))
        clear hs
        obtain ⟨L1, hL1⟩ : ∃ L1 : Int, L + 1 = L1 := ⟨_, rfl⟩
        go_wp2
        go_end0
        obtain rfl := HNN.out
        obtain rfl := hL1
        exact ⟨rfl, _, _, by rw [HP.out]; exact HM.out.1, HM.out.2.from_later HBW.out⟩
      · have HP : Hid (CompM.pushR (⟨A, L, D⟩ :: t) (at_, x) = ⟨at_, 1, []⟩ :: ⟨A, L, D⟩ :: t) := by show _ = _; simp only [CompM.pushR]; rw [if_neg hneg, if_neg hgo]
        by_cases hLp : 0 < L
        · obtain ⟨S, hS⟩ : ∃ S, A + L = S := ⟨_, rfl⟩
          have hne : (S == at_) = false := by
            rw [beq_eq_false_iff_ne]
            rintro rfl
            exact hgo ⟨hLp, hS⟩
          clear hgo
          go_enter Try.func70, Try.ntmps70
          go_wp2
          go_quiet (fail)
          have hbw : Below W.heap.size W (W.drewN nq) := below_drewN (Below.refl _ _) nq
          have hs := HH.out.later hbw
          have HBW := Lib.hid hbw
          clear hbw k0 HH q0 q1 q2 f1 f2
          generalize W.drewN nq = W1 at hs HBW ⊢
          have k0 := cell_blk hs.c0
          rw [HNN.out] at k0
          obtain ⟨g6, cap6, W6, hrun, k6, f6, HS⟩ := hs.pushC at_ (by unfold I64; omega) (by simp only [List.length_cons]; rw [HNN.out]; omega)
          simp only [List.length_cons] at hrun HS
          rw [HNN.out] at hrun HS k6
          clear hs
          go_wp2_with (at_builtin; refine Lib.wpList_append_run _ rfl _ _ _ _ rfl _ _ rfl rfl _ _ hrun ?_)
          go_end0
          obtain rfl := HNN.out
          exact ⟨rfl, _, _, by rw [HP.out]; exact HS.out.1, HS.out.2.from_later HBW.out⟩
        · have hd : decide (0 < L) = false := by simp only [decide_eq_false_iff_not]; exact hLp
          clear hgo
          go_enter Try.func70, Try.ntmps70
          go_wp2
          go_quiet (fail)
          have hbw : Below W.heap.size W (W.drewN nq) := below_drewN (Below.refl _ _) nq
          have hs := HH.out.later hbw
          have HBW := Lib.hid hbw
          clear hbw k0 HH q0 q1 q2 f1 f2
          generalize W.drewN nq = W1 at hs HBW ⊢
          have k0 := cell_blk hs.c0
          rw [HNN.out] at k0
          obtain ⟨g6, cap6, W6, hrun, k6, f6, HS⟩ := hs.pushC at_ (by unfold I64; omega) (by simp only [List.length_cons]; rw [HNN.out]; omega)
          simp only [List.length_cons] at hrun HS
          rw [HNN.out] at hrun HS k6
          clear hs
          go_wp2_with (at_builtin; refine Lib.wpList_append_run _ rfl _ _ _ _ rfl _ _ rfl rfl _ _ hrun ?_)
          go_end0
          obtain rfl := HNN.out
          exact ⟨rfl, _, _, by rw [HP.out]; exact HS.out.1, HS.out.2.from_later HBW.out⟩
end Go.Proofs.Ytmpmaljkmfgagaa
