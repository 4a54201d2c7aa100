/-
  Contracts of delta.Same, of its closure and of slices.EqualFunc at steps: whether two lists of steps are the same.
-/
import Derived.Test.YtmpmaljkmfgagaaDeltaRes
import Derived.Test.YtmpmaljkmfgagaaEqAny
namespace Go.Proofs.Ytmpmaljkmfgagaa
open Go.RowKit

set_option maxRecDepth 100000 in
set_option maxHeartbeats 1000000 in
/-- whether two steps are the same -/
theorem sameStep_any (A L A' L' : Int) (va va' : Option Addr) (vn vc vn' vc' : Nat) (D D' : List Int) (w : World) (h : BS w va vn vc D) (h' : BS w va' vn' vc' D') :
    Calls Try.prog 67 #[.agg #[.int .i64 A, .int .i64 L, .slice va vn vc], .agg #[.int .i64 A', .int .i64 L', .slice va' vn' vc']] w fun e w' => e = .returned (.bool (decide ((⟨A, L, D⟩ : OpR) = ⟨A', L', D'⟩))) ∧ Below w.heap.size w w' := by
  have hB1 := (Below.refl w.heap.size w).alloc (Nat.le_refl _) (.cells #[.int .i64 A, .int .i64 L, .slice va vn vc] 56)
  have hB2 := hB1.alloc (by simp) (.cells #[.int .i64 A', .int .i64 L', .slice va' vn' vc'] 56)
  have HQ := Lib.hid (h.later hB2)
  have HP := Lib.hid (h'.later hB2)
  have HB := Lib.hid hB2
  clear hB1 hB2 h h'
  by_cases hA : A = A'
  · subst hA
    by_cases hL : L = L'
    · subst hL
      have ba : (A == A) = true := by simp
      have bl : (L == L) = true := by simp
      have HEQ := Lib.hid (eqBytes_any va va' vn vc vn' vc' D D')
      go_enter Try.func67, Try.ntmps67
      go_wp2_with fail
      refine (HEQ.out _ HQ.out HP.out).mono ?_
      rintro e w' ⟨rfl, rfl⟩
      go_wp2_with fail
      go_ret
      exact ⟨ret_bool (by simp), HB.out⟩
    · have ba : (A == A) = true := by simp
      have bl : (L == L') = false := by simp [hL]
      go_enter Try.func67, Try.ntmps67
      go_wp2_with fail
      go_ret
      exact ⟨ret_bool (by simp [hL]), HB.out⟩
  · have ba : (A == A') = false := by simp [hA]
    go_enter Try.func67, Try.ntmps67
    go_wp2_with fail
    go_ret
    exact ⟨ret_bool (by simp [hA]), HB.out⟩

set_option maxRecDepth 100000 in
set_option maxHeartbeats 1000000 in
theorem equalSteps_any (a a' : Option Addr) (n c n' c' : Nat) (x y : List OpR) (w : World) (hx : OS w a n c x) (hy : OS w a' n' c' y) :
    Calls Try.prog 66 #[.slice a n c, .slice a' n' c', .func (.func 67) #[] #[]] w fun e w' => e = .returned (.bool (decide (x = y))) ∧ Below w.heap.size w w' := by
  have hlen : n ≤ 9223372036854775807 := by have := hx.le; have := hx.max; omega
  have hlen' : n' ≤ 9223372036854775807 := by have := hy.le; have := hy.max; omega
  have HX := Lib.hid hx
  have HY := Lib.hid hy
  have HLX := Lib.hid hx.len
  have HLY := Lib.hid hy.len
  clear hx hy
  by_cases hnn : n = n'
  · subst hnn
    have hb : ((n : Int) != n) = false := by simp
    go_enter Try.func66, Try.ntmps66
    go_wp2_with fail
    go_loopw [17] (fun i wr => SameRel x y w i wr) (fun i _ => n - (intOf i).toNat)
    case atStart => exact ⟨0, rfl, Nat.zero_le _, rfl, Below.refl _ _⟩
    case round =>
      obtain ⟨k, rfl, hk, ht, hB⟩ := hrel
      rw [HLX.out] at hk
      have HT := Lib.hid ht
      clear ht
      by_cases hlt : k < n
      · obtain ⟨b, off, rfl, hcs⟩ := (HX.out.later hB).cells (by omega)
        obtain ⟨b', off', rfl, hcs'⟩ := (HY.out.later hB).cells (by omega)
        obtain ⟨va, vn, vc, q0, q1, q2, q3, -, -⟩ := hcs k hlt
        have hB1 := hB.alloc hB.size (.cells #[.int .i64 (x.getD k default).at_, .int .i64 (x.getD k default).len, .slice va vn vc] 56)
        have hbx : Below wr.heap.size wr (wr.alloc (.cells #[.int .i64 (x.getD k default).at_, .int .i64 (x.getD k default).len, .slice va vn vc] 56)) := (Below.refl _ _).alloc (Nat.le_refl _) _
        obtain ⟨va', vn', vc', p0, p1, p2, p3, -, -⟩ := (hcs' k hlt).keep (fun _ _ hc => cell_later hbx hc)
        replace q3 := q3.later hbx
        have hB2 := hB1.alloc hB1.size (.cells #[.int .i64 (y.getD k default).at_, .int .i64 (y.getD k default).len, .slice va' vn' vc'] 56)
        have hby := (Below.refl _ (wr.alloc (.cells #[.int .i64 (x.getD k default).at_, .int .i64 (x.getD k default).len, .slice va vn vc] 56))).alloc (Nat.le_refl _) (.cells #[.int .i64 (y.getD k default).at_, .int .i64 (y.getD k default).len, .slice va' vn' vc'] 56)
        have HN := Lib.hid (fun h => ne_of_at (x := x) (y := y) (k := k) h)
        have HM : Hid (x.getD k default = y.getD k default → x.take (k + 1) = y.take (k + 1)) := by
          show _ → _
          exact take_more HT.out (by rw [HLX.out]; exact hlt) (by rw [HLY.out]; exact hlt)
        have HQ := Lib.hid (q3.later hby)
        have HP := Lib.hid (p3.later hby)
        clear hcs hcs' hbx hby q3 p3
        generalize x.getD k default = o at *
        generalize y.getD k default = o' at *
        obtain ⟨A, L, D⟩ := o
        obtain ⟨A', L', D'⟩ := o'
        simp only at q0 q1 q2 p0 p1 p2 hB1 hB2
        have HB2 := Lib.hid hB2
        clear hB1 hB2
        go_wp2_with fail
        refine (sameStep_any A L A' L' va va' vn vc vn' vc' D D' _ HQ.out HP.out).mono ?_
        rintro e W2 ⟨rfl, hb2⟩
        have HB3 := Lib.hid (below_then HB2.out hb2)
        clear hb2 HB2 HQ HP
        by_cases he : (⟨A, L, D⟩ : OpR) = ⟨A', L', D'⟩
        · rw [decide_eq_true he]
          have HE := Lib.hid he
          clear he
          go_wp2_with fail
          go_roundw
          case rel => exact ⟨k + 1, by go_num, by rw [HLX.out]; omega, HM.out HE.out, HB3.out⟩
          case measure => simp [intOf]; omega
        · rw [decide_eq_false he]
          have HE := Lib.hid he
          clear he
          go_wp2_with fail
          go_ret
          exact ⟨ret_bool (HN.out HE.out).symm, HB3.out⟩
      · have hkn : k = n := by omega
        go_wp2_with fail
        go_ret
        have e1 : x.take k = x := List.take_of_length_le (by rw [HLX.out]; omega)
        have e2 : y.take k = y := List.take_of_length_le (by rw [HLY.out]; omega)
        have e3 := HT.out
        rw [e1, e2] at e3
        exact ⟨ret_bool (by rw [e3]; simp), hB⟩
  · have he : decide (x = y) = false := by
      rw [decide_eq_false]
      rintro rfl
      exact hnn (HLX.out.symm.trans HLY.out)
    have hb : ((n : Int) != n') = true := by simp; omega
    rw [he]
    go_enter Try.func66, Try.ntmps66
    go_wp2_with fail
    go_ret
    exact ⟨rfl, Below.refl _ _⟩

theorem same_any (a a' : Option Addr) (n c n' c' : Nat) (x y : List OpR) (w : World) (hx : OS w a n c x) (hy : OS w a' n' c' y) :
    Calls Try.prog 43 #[.slice a n c, .slice a' n' c'] w fun e w' => e = .returned (.bool (decide (x = y))) ∧ Below w.heap.size w w' := by
  go_enter Try.func43, Try.ntmps43
  go_wp2_with fail
  refine (equalSteps_any a a' n c n' c' x y _ hx hy).mono ?_
  rintro e w' ⟨rfl, hb⟩
  go_wp2_with fail
  go_ret
  exact ⟨rfl, hb⟩
end Go.Proofs.Ytmpmaljkmfgagaa
