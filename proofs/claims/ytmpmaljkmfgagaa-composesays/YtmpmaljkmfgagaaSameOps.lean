/-
  Contract of the reference's SameOps: whether two lists of steps are the same.
-/
import Derived.Test.YtmpmaljkmfgagaaDeltaRes
import Derived.Test.YtmpmaljkmfgagaaEqAny
namespace Go.Proofs.Ytmpmaljkmfgagaa
open Go.RowKit

set_option maxRecDepth 100000 in
set_option maxHeartbeats 1000000 in
theorem sameOps_any (a a' : Option Addr) (n c n' c' : Nat) (x y : List OpR) (w : World) (hx : OS w a n c x) (hy : OS w a' n' c' y) :
    Calls Try.prog 44 #[.slice a n c, .slice a' n' c'] w fun e w' => e = .returned (.bool (decide (x = y))) ∧ Below w.heap.size w w' := by
  have hlen : n ≤ 9223372036854775807 := by have := hx.le; have := hx.max; omega
  have hlen' : n' ≤ 9223372036854775807 := by have := hy.le; have := hy.max; omega
  have HX := Lib.hid hx
  have HY := Lib.hid hy
  have HLX := Lib.hid hx.len
  have HLY := Lib.hid hy.len
  clear hx hy
  by_cases hnn : n = n'
  · subst hnn
    have hb : ((n : Int) != n) = false := by simp
    go_enter Try.func44, Try.ntmps44
    go_wp2_with fail
    go_loopw [14] (fun i wr => SameRel x y w i wr) (fun i _ => n - (intOf i).toNat)
    case atStart => exact ⟨0, rfl, Nat.zero_le _, rfl, Below.refl _ _⟩
    case round =>
      obtain ⟨k, rfl, hk, ht, hB⟩ := hrel
      rw [HLX.out] at hk
      have HT := Lib.hid ht
      clear ht
      by_cases hlt : k < n
      · obtain ⟨b, off, rfl, hcs⟩ := (HX.out.later hB).cells (by omega)
        obtain ⟨b', off', rfl, hcs'⟩ := (HY.out.later hB).cells (by omega)
        obtain ⟨va, vn, vc, q0, q1, q2, q3, -, -⟩ := hcs k hlt
        have hB1 := hB.alloc hB.size (.cells #[.int .i64 (x.getD k default).at_, .int .i64 (x.getD k default).len, .slice va vn vc] 56)
        have hbx : Below wr.heap.size wr (wr.alloc (.cells #[.int .i64 (x.getD k default).at_, .int .i64 (x.getD k default).len, .slice va vn vc] 56)) := (Below.refl _ _).alloc (Nat.le_refl _) _
        obtain ⟨va', vn', vc', p0, p1, p2, p3, -, -⟩ := (hcs' k hlt).keep (fun _ _ hc => cell_later hbx hc)
        replace q3 := q3.later hbx
        have HN := Lib.hid (fun h => ne_of_at (x := x) (y := y) (k := k) h)
        have HM : Hid (x.getD k default = y.getD k default → x.take (k + 1) = y.take (k + 1)) := by
          show _ → _
          exact take_more HT.out (by rw [HLX.out]; exact hlt) (by rw [HLY.out]; exact hlt)
        clear hcs hcs' hbx
        generalize x.getD k default = o at *
        generalize y.getD k default = o' at *
        obtain ⟨A, L, D⟩ := o
        obtain ⟨A', L', D'⟩ := o'
        simp only at q0 q1 q2 q3 p0 p1 p2 p3 hB1
        by_cases hA : A = A'
        · subst hA
          by_cases hL : L = L'
          · subst hL
            have heq := eqBytes_any va va' vn vc vn' vc' D D'
            have HEQ := Lib.hid heq
            have HQ := Lib.hid q3
            have HP := Lib.hid p3
            clear heq q3 p3
            have ba : (A != A) = false := by simp
            have bl : (L != L) = false := by simp
            by_cases hD : D = D'
            · have dd : decide (D = D') = true := by rw [decide_eq_true_eq]; exact hD
              rw [dd] at HEQ
              go_wp2
              go_quiet (exact quiet_eq (HEQ.out _ (HQ.out.drewN _) (HP.out.drewN _)))
              go_wp2
              go_roundw
              case rel => exact ⟨k + 1, by go_num, by rw [HLX.out]; omega, HM.out (by rw [hD]), below_drewN hB1 _⟩
              case measure => simp [intOf]; omega
            · have dd : decide (D = D') = false := by rw [decide_eq_false_iff_not]; exact hD
              rw [dd] at HEQ
              go_wp2
              go_quiet (exact quiet_eq (HEQ.out _ (HQ.out.drewN _) (HP.out.drewN _)))
              go_wp2
              go_ret
              exact ⟨ret_bool (HN.out (by simp [hD])).symm, below_drewN hB1 _⟩
          · have ba : (A != A) = false := by simp
            have bl : (L != L') = true := by simp [hL]
            go_wp2
            go_quiet (fail)
            go_wp2
            go_ret
            exact ⟨ret_bool (HN.out (by simp [hL])).symm, below_drewN hB1 _⟩
        · have ba : (A != A') = true := by simp [hA]
          go_wp2
          go_quiet (fail)
          go_wp2
          go_ret
          exact ⟨ret_bool (HN.out (by simp [hA])).symm, below_drewN hB1 _⟩
      · have hkn : k = n := by omega
        go_wp2
        go_ret
        have e1 : x.take k = x := List.take_of_length_le (by rw [HLX.out]; omega)
        have e2 : y.take k = y := List.take_of_length_le (by rw [HLY.out]; omega)
        have e3 := HT.out
        rw [e1, e2] at e3
        exact ⟨ret_bool (by rw [e3]; simp), hB⟩
  · have he : decide (x = y) = false := by
      rw [decide_eq_false]
      rintro rfl
      exact hnn (HLX.out.symm.trans HLY.out)
    have hb : ((n : Int) != n') = true := by simp; omega
    rw [he]
    go_enter Try.func44, Try.ntmps44
    go_wp2_with fail
    go_ret
    exact ⟨rfl, Below.refl _ _⟩
end Go.Proofs.Ytmpmaljkmfgagaa
