/-
  Contracts of the reference's SameChunks, of its closure and of slices.EqualFunc at chunks.
-/
import Derived.Test.YtmpmaljkmfgagabSameChL
namespace Go.Proofs.Ytmpmaljkmfgagab
open Go.RowKit

set_option maxRecDepth 100000 in
set_option maxHeartbeats 1000000 in
/-- whether two chunks are the same -/
theorem sameCh_any (v v' : Value) (x y : ChR) (w : World) (h : CV w v x) (h' : CV w v' y) :
    Calls Try.prog 102 #[v, v'] w fun e w' => e = .returned (.bool (decide (x = y))) ∧ Below w.heap.size w w' := by
  obtain ⟨va, vn, vc, rfl, hd, -⟩ := h
  obtain ⟨va', vn', vc', rfl, hd', -⟩ := h'
  obtain ⟨A, B, C, E, D⟩ := x
  obtain ⟨A', B', C', E', D'⟩ := y
  simp only at hd hd' ⊢
  have hB1 := (Below.refl w.heap.size w).alloc (Nat.le_refl _) (.cells #[.int .i64 A, .int .i64 B, .int .i64 C, .int .i64 E, .slice va vn vc] 69)
  have hB2 := hB1.alloc (by simp) (.cells #[.int .i64 A', .int .i64 B', .int .i64 C', .int .i64 E', .slice va' vn' vc'] 69)
  have HQ := Lib.hid (hd.later hB2)
  have HP := Lib.hid (hd'.later hB2)
  have HB := Lib.hid hB2
  have HEQ := Lib.hid (eqBytes_any va va' vn vc vn' vc' D D')
  clear hB1 hB2 hd hd'
  by_cases h1 : A = A'
  · subst h1
    have t1 : (A == A) = true := by simp
    by_cases h2 : B = B'
    · subst h2
      have t2 : (B == B) = true := by simp
      by_cases h3 : C = C'
      · subst h3
        have t3 : (C == C) = true := by simp
        by_cases h4 : E = E'
        · subst h4
          have t4 : (E == E) = true := by simp
          go_enter Try.func102, Try.ntmps102
          go_wp2_with fail
          refine (HEQ.out _ HQ.out HP.out).mono ?_
          rintro e w' ⟨rfl, rfl⟩
          go_wp2_with fail
          go_ret
          exact ⟨ret_bool (by simp), HB.out⟩
        · have t4 : (E == E') = false := by simp [h4]
          go_enter Try.func102, Try.ntmps102
          go_wp2_with fail
          go_ret
          exact ⟨ret_bool (by simp [h4]), HB.out⟩
      · have t3 : (C == C') = false := by simp [h3]
        go_enter Try.func102, Try.ntmps102
        go_wp2_with fail
        go_ret
        exact ⟨ret_bool (by simp [h3]), HB.out⟩
    · have t2 : (B == B') = false := by simp [h2]
      go_enter Try.func102, Try.ntmps102
      go_wp2_with fail
      go_ret
      exact ⟨ret_bool (by simp [h2]), HB.out⟩
  · have t1 : (A == A') = false := by simp [h1]
    go_enter Try.func102, Try.ntmps102
    go_wp2_with fail
    go_ret
    exact ⟨ret_bool (by simp [h1]), HB.out⟩

set_option maxRecDepth 100000 in
set_option maxHeartbeats 1000000 in
theorem equalChs_any (a a' : Option Addr) (n c n' c' : Nat) (x y : List ChR) (w : World) (hx : CS w a n c x) (hy : CS w a' n' c' y) :
    Calls Try.prog 100 #[.slice a n c, .slice a' n' c', .func (.func 102) #[] #[]] w fun e w' => e = .returned (.bool (decide (x = y))) ∧ Below w.heap.size w w' := by
  have hlen : n ≤ 9223372036854775807 := by have := hx.le; have := hx.max; omega
  have hlen' : n' ≤ 9223372036854775807 := by have := hy.le; have := hy.max; omega
  have HX := Lib.hid hx
  have HY := Lib.hid hy
  have HLX := Lib.hid hx.len
  have HLY := Lib.hid hy.len
  clear hx hy
  by_cases hnn : n = n'
  · subst hnn
    have hb : ((n : Int) != n) = false := by simp
    go_enter Try.func100, Try.ntmps100
    go_wp2_with fail
    go_loopw [17] (fun i wr => SameRelC x y w i wr) (fun i _ => n - (intOf i).toNat)
    case atStart => exact ⟨0, rfl, Nat.zero_le _, rfl, Below.refl _ _⟩
    case round =>
      obtain ⟨k, rfl, hk, ht, hB⟩ := hrel
      rw [HLX.out] at hk
      have HT := Lib.hid ht
      have HB := Lib.hid hB
      clear ht hB
      by_cases hlt : k < n
      · obtain ⟨b, off, rfl, hcs⟩ := (HX.out.later HB.out).cells (by omega)
        obtain ⟨b', off', rfl, hcs'⟩ := (HY.out.later HB.out).cells (by omega)
        have HN := Lib.hid (fun h => ne_of_atC (x := x) (y := y) (k := k) h)
        have HM : Hid (x.getD k default = y.getD k default → x.take (k + 1) = y.take (k + 1)) := by
          show _ → _
          exact take_moreC HT.out (by rw [HLX.out]; exact hlt) (by rw [HLY.out]; exact hlt)
        have hqx := hcs k hlt
        have hqy := hcs' k hlt
        generalize x.getD k default = o at HN HM hqx
        generalize y.getD k default = o' at HN HM hqy
        obtain ⟨va, vn, vc, q0, q1, q2, q3, q4, q5, qI⟩ := hqx
        obtain ⟨A, B, C, E, D⟩ := o
        simp only at q0 q1 q2 q3 q4 q5
        have hbx : Below wr.heap.size wr (wr.alloc (.cells #[.int .i64 A, .int .i64 B, .int .i64 C, .int .i64 E, .slice va vn vc] 69)) := (Below.refl _ _).alloc (Nat.le_refl _) _
        obtain ⟨va', vn', vc', p0, p1, p2, p3, p4, p5, pI⟩ := hqy.keep (fun _ _ hc => cell_later hbx hc)
        obtain ⟨A', B', C', E', D'⟩ := o'
        simp only at p0 p1 p2 p3 p4 p5
        have hby := (Below.refl _ (wr.alloc (.cells #[.int .i64 A, .int .i64 B, .int .i64 C, .int .i64 E, .slice va vn vc] 69))).alloc (Nat.le_refl _) (.cells #[.int .i64 A', .int .i64 B', .int .i64 C', .int .i64 E', .slice va' vn' vc'] 69)
        have HQ := Lib.hid ((q5.later hbx).later hby)
        have HP := Lib.hid (p5.later hby)
        have HB2 := Lib.hid (below_then HB.out (below_then hbx hby))
        have HQI := Lib.hid qI
        have HPI := Lib.hid pI
        clear hcs hcs' hbx hby q5 p5 qI pI hqy
        go_wp2_with fail
        refine (sameCh_any _ _ ⟨A, B, C, E, D⟩ ⟨A', B', C', E', D'⟩ _ ⟨va, vn, vc, rfl, HQ.out, HQI.out⟩ ⟨va', vn', vc', rfl, HP.out, HPI.out⟩).mono ?_
        rintro e W2 ⟨rfl, hb2⟩
        have HB3 := Lib.hid (below_then HB2.out hb2)
        clear hb2 HB2 HQ HP
        by_cases he : (⟨A, B, C, E, D⟩ : ChR) = ⟨A', B', C', E', D'⟩
        · rw [decide_eq_true he]
          have HE := Lib.hid he
          clear he
          go_wp2_with fail
          go_roundw
          case rel => exact ⟨k + 1, by go_num, by rw [HLX.out]; omega, HM.out HE.out, HB3.out⟩
          case measure => simp [intOf]; omega
        · rw [decide_eq_false he]
          have HE := Lib.hid he
          clear he
          go_wp2_with fail
          go_ret
          exact ⟨ret_bool (HN.out HE.out).symm, HB3.out⟩
      · have hkn : k = n := by omega
        go_wp2_with fail
        go_ret
        have e1 : x.take k = x := List.take_of_length_le (by rw [HLX.out]; omega)
        have e2 : y.take k = y := List.take_of_length_le (by rw [HLY.out]; omega)
        have e3 := HT.out
        rw [e1, e2] at e3
        exact ⟨ret_bool (by rw [e3]; simp), HB.out⟩
  · have he : decide (x = y) = false := by
      rw [decide_eq_false]
      rintro rfl
      exact hnn (HLX.out.symm.trans HLY.out)
    have hb : ((n : Int) != n') = true := by simp; omega
    rw [he]
    go_enter Try.func100, Try.ntmps100
    go_wp2_with fail
    go_ret
    exact ⟨rfl, Below.refl _ _⟩

theorem sameChs_any (a a' : Option Addr) (n c n' c' : Nat) (x y : List ChR) (w : World) (hx : CS w a n c x) (hy : CS w a' n' c' y) :
    Calls Try.prog 57 #[.slice a n c, .slice a' n' c'] w fun e w' => e = .returned (.bool (decide (x = y))) ∧ Below w.heap.size w w' := by
  go_enter Try.func57, Try.ntmps57
  go_wp2_with fail
  refine (equalChs_any a a' n c n' c' x y _ hx hy).mono ?_
  rintro e w' ⟨rfl, hb⟩
  go_wp2_with fail
  go_ret
  exact ⟨rfl, hb⟩
end Go.Proofs.Ytmpmaljkmfgagab
