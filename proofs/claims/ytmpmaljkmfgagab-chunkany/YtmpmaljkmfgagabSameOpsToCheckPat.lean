/-
  Texts put into one: SameOps, CheckPat.
-/
import Derived.Test.YtmpmaljkmfgagabRowToOpenN
import Derived.Test.YtmpmaljkmfgagabEqBytesToEqAny
import Derived.Test.YtmpmaljkmfgagabInRefToCheckOps
/-
  Contract of the reference's SameOps: whether two lists of steps are the same.
-/
namespace Go.Proofs.Ytmpmaljkmfgagab
open Go.RowKit

set_option maxRecDepth 100000 in
set_option maxHeartbeats 1000000 in
theorem sameOps_any (a a' : Option Addr) (n c n' c' : Nat) (x y : List OpR) (w : World) (hx : OS w a n c x) (hy : OS w a' n' c' y) :
    Calls Try.prog 79 #[.slice a n c, .slice a' n' c'] w fun e w' => e = .returned (.bool (decide (x = y))) ∧ Below w.heap.size w w' := by
  have hlen : n ≤ 9223372036854775807 := by have := hx.le; have := hx.max; omega
  have hlen' : n' ≤ 9223372036854775807 := by have := hy.le; have := hy.max; omega
  have HX := Lib.hid hx
  have HY := Lib.hid hy
  have HLX := Lib.hid hx.len
  have HLY := Lib.hid hy.len
  clear hx hy
  by_cases hnn : n = n'
  · subst hnn
    have hb : ((n : Int) != n) = false := by simp
    go_enter Try.func79, Try.ntmps79
    go_wp2_with fail
    go_loopw [14] (fun i wr => SameRel x y w i wr) (fun i _ => n - (intOf i).toNat)
    case atStart => exact ⟨0, rfl, Nat.zero_le _, rfl, Below.refl _ _⟩
    case round =>
      obtain ⟨k, rfl, hk, ht, hB⟩ := hrel
      rw [HLX.out] at hk
      have HT := Lib.hid ht
      clear ht
      by_cases hlt : k < n
      · obtain ⟨b, off, rfl, hcs⟩ := (HX.out.later hB).cells (by omega)
        obtain ⟨b', off', rfl, hcs'⟩ := (HY.out.later hB).cells (by omega)
        obtain ⟨va, vn, vc, q0, q1, q2, q3, -, -⟩ := hcs k hlt
        have hB1 := hB.alloc hB.size (.cells #[.int .i64 (x.getD k default).at_, .int .i64 (x.getD k default).len, .slice va vn vc] 36)
        have hbx : Below wr.heap.size wr (wr.alloc (.cells #[.int .i64 (x.getD k default).at_, .int .i64 (x.getD k default).len, .slice va vn vc] 36)) := (Below.refl _ _).alloc (Nat.le_refl _) _
        obtain ⟨va', vn', vc', p0, p1, p2, p3, -, -⟩ := (hcs' k hlt).keep (fun _ _ hc => cell_later hbx hc)
        replace q3 := q3.later hbx
        have HN := Lib.hid (fun h => ne_of_at (x := x) (y := y) (k := k) h)
        have HM : Hid (x.getD k default = y.getD k default → x.take (k + 1) = y.take (k + 1)) := by
          show _ → _
          exact take_more HT.out (by rw [HLX.out]; exact hlt) (by rw [HLY.out]; exact hlt)
        clear hcs hcs' hbx
        generalize x.getD k default = o at *
        generalize y.getD k default = o' at *
        obtain ⟨A, L, D⟩ := o
        obtain ⟨A', L', D'⟩ := o'
        simp only at q0 q1 q2 q3 p0 p1 p2 p3 hB1
        by_cases hA : A = A'
        · subst hA
          by_cases hL : L = L'
          · subst hL
            have heq := eqBytes_any va va' vn vc vn' vc' D D'
            have HEQ := Lib.hid heq
            have HQ := Lib.hid q3
            have HP := Lib.hid p3
            clear heq q3 p3
            have ba : (A != A) = false := by simp
            have bl : (L != L) = false := by simp
            by_cases hD : D = D'
            · have dd : decide (D = D') = true := by rw [decide_eq_true_eq]; exact hD
              rw [dd] at HEQ
              go_wp2
              go_quiet (exact quiet_eq (HEQ.out _ (HQ.out.drewN _) (HP.out.drewN _)))
              go_wp2
              go_roundw
              case rel => exact ⟨k + 1, by go_num, by rw [HLX.out]; omega, HM.out (by rw [hD]), below_drewN hB1 _⟩
              case measure => simp [intOf]; omega
            · have dd : decide (D = D') = false := by rw [decide_eq_false_iff_not]; exact hD
              rw [dd] at HEQ
              go_wp2
              go_quiet (exact quiet_eq (HEQ.out _ (HQ.out.drewN _) (HP.out.drewN _)))
              go_wp2
              go_ret
              exact ⟨ret_bool (HN.out (by simp [hD])).symm, below_drewN hB1 _⟩
          · have ba : (A != A) = false := by simp
            have bl : (L != L') = true := by simp [hL]
            go_wp2
            go_quiet (fail)
            go_wp2
            go_ret
            exact ⟨ret_bool (HN.out (by simp [hL])).symm, below_drewN hB1 _⟩
        · have ba : (A != A') = true := by simp [hA]
          go_wp2
          go_quiet (fail)
          go_wp2
          go_ret
          exact ⟨ret_bool (HN.out (by simp [hA])).symm, below_drewN hB1 _⟩
      · have hkn : k = n := by omega
        go_wp2
        go_ret
        have e1 : x.take k = x := List.take_of_length_le (by rw [HLX.out]; omega)
        have e2 : y.take k = y := List.take_of_length_le (by rw [HLY.out]; omega)
        have e3 := HT.out
        rw [e1, e2] at e3
        exact ⟨ret_bool (by rw [e3]; simp), hB⟩
  · have he : decide (x = y) = false := by
      rw [decide_eq_false]
      rintro rfl
      exact hnn (HLX.out.symm.trans HLY.out)
    have hb : ((n : Int) != n') = true := by simp; omega
    rw [he]
    go_enter Try.func79, Try.ntmps79
    go_wp2_with fail
    go_ret
    exact ⟨rfl, Below.refl _ _⟩
end Go.Proofs.Ytmpmaljkmfgagab
/-
  Contracts of the reference's CheckPatch and SamePatch.
-/
namespace Go.Proofs.Ytmpmaljkmfgagab
open Go.RowKit

set_option maxRecDepth 100000 in
set_option maxHeartbeats 1000000 in
theorem checkPat_any (v : Value) (p : PatR) (w : World) (hp : PV w v p) :
    Calls Try.prog 29 #[v] w fun e w' => e = .returned (.int .i64 (PatM.check p)) ∧ Below w.heap.size w w' := by
  obtain ⟨a, n, c, rfl, ho, -⟩ := hp
  obtain ⟨f, t, o, nw, s, ops⟩ := p
  simp only at ho ⊢
  have hb : Below w.heap.size w (w.alloc (.cells #[.int .i64 f, .int .i64 t, .int .i64 o, .int .i64 nw, .int .i64 s, .slice a n c] 41)) := (Below.refl _ _).alloc (Nat.le_refl _) _
  by_cases h1 : 1 ≤ f ∧ f ≤ 30
  · have d1 : decide (1 ≤ f ∧ f ≤ 30) = true := decide_eq_true h1
    by_cases h2 : 1 ≤ t ∧ t ≤ 30
    · have d2 : decide (1 ≤ t ∧ t ≤ 30) = true := decide_eq_true h2
      by_cases h3 : 0 ≤ o ∧ o ≤ 65535
      · have d3 : decide (0 ≤ o ∧ o ≤ 65535) = true := decide_eq_true h3
        by_cases h4 : 0 ≤ nw ∧ nw ≤ 65535
        · have d4 : decide (0 ≤ nw ∧ nw ≤ 65535) = true := decide_eq_true h4
          have HE : Hid (PatM.check ⟨f, t, o, nw, s, ops⟩ = DeltaM.check ops 64 s) := by
            show _ = _
            unfold PatM.check
            rw [if_neg (by unfold PatM.badHead; simp only; omega)]
          have HO := Lib.hid (ho.later hb)
          have HB := Lib.hid hb
          clear h1 h2 h3 h4 ho hb
          go_enter Try.func29, Try.ntmps29
          go_wp2_with fail
          refine (in_any f 1 30 _).mono ?_
          rintro e w' ⟨rfl, rfl⟩
          rw [d1]
          go_wp2_with fail
          refine (in_any t 1 30 _).mono ?_
          rintro e w' ⟨rfl, rfl⟩
          rw [d2]
          go_wp2_with fail
          refine (in_any o 0 65535 _).mono ?_
          rintro e w' ⟨rfl, rfl⟩
          rw [d3]
          go_wp2_with fail
          refine (in_any nw 0 65535 _).mono ?_
          rintro e w' ⟨rfl, rfl⟩
          rw [d4]
          go_wp2_with fail
          refine (checkOps_any a n c ops 64 s _ HO.out).mono ?_
          rintro e w' ⟨rfl, hb2⟩
          have hb3 := below_then HB.out hb2
          go_wp2_with fail
          go_ret
          exact ⟨ret_chk HE.out.symm, hb3⟩
        · have d4 : decide (0 ≤ nw ∧ nw ≤ 65535) = false := decide_eq_false h4
          have HE : Hid (PatM.check ⟨f, t, o, nw, s, ops⟩ = 2) := by
            show _ = _
            unfold PatM.check
            rw [if_pos (by unfold PatM.badHead; simp only; omega)]
          clear h1 h2 h3 h4 ho
          go_enter Try.func29, Try.ntmps29
          go_wp2_with fail
          refine (in_any f 1 30 _).mono ?_
          rintro e w' ⟨rfl, rfl⟩
          rw [d1]
          go_wp2_with fail
          refine (in_any t 1 30 _).mono ?_
          rintro e w' ⟨rfl, rfl⟩
          rw [d2]
          go_wp2_with fail
          refine (in_any o 0 65535 _).mono ?_
          rintro e w' ⟨rfl, rfl⟩
          rw [d3]
          go_wp2_with fail
          refine (in_any nw 0 65535 _).mono ?_
          rintro e w' ⟨rfl, rfl⟩
          rw [d4]
          go_wp2_with fail
          go_ret
          exact ⟨ret_chk HE.out.symm, hb⟩
      · have d3 : decide (0 ≤ o ∧ o ≤ 65535) = false := decide_eq_false h3
        have HE : Hid (PatM.check ⟨f, t, o, nw, s, ops⟩ = 2) := by
          show _ = _
          unfold PatM.check
          rw [if_pos (by unfold PatM.badHead; simp only; omega)]
        clear h1 h2 h3 ho
        go_enter Try.func29, Try.ntmps29
        go_wp2_with fail
        refine (in_any f 1 30 _).mono ?_
        rintro e w' ⟨rfl, rfl⟩
        rw [d1]
        go_wp2_with fail
        refine (in_any t 1 30 _).mono ?_
        rintro e w' ⟨rfl, rfl⟩
        rw [d2]
        go_wp2_with fail
        refine (in_any o 0 65535 _).mono ?_
        rintro e w' ⟨rfl, rfl⟩
        rw [d3]
        go_wp2_with fail
        go_ret
        exact ⟨ret_chk HE.out.symm, hb⟩
    · have d2 : decide (1 ≤ t ∧ t ≤ 30) = false := decide_eq_false h2
      have HE : Hid (PatM.check ⟨f, t, o, nw, s, ops⟩ = 2) := by
        show _ = _
        unfold PatM.check
        rw [if_pos (by unfold PatM.badHead; simp only; omega)]
      clear h1 h2 ho
      go_enter Try.func29, Try.ntmps29
      go_wp2_with fail
      refine (in_any f 1 30 _).mono ?_
      rintro e w' ⟨rfl, rfl⟩
      rw [d1]
      go_wp2_with fail
      refine (in_any t 1 30 _).mono ?_
      rintro e w' ⟨rfl, rfl⟩
      rw [d2]
      go_wp2_with fail
      go_ret
      exact ⟨ret_chk HE.out.symm, hb⟩
  · have d1 : decide (1 ≤ f ∧ f ≤ 30) = false := decide_eq_false h1
    have HE : Hid (PatM.check ⟨f, t, o, nw, s, ops⟩ = 2) := by
      show _ = _
      unfold PatM.check
      rw [if_pos (by unfold PatM.badHead; simp only; omega)]
    clear h1 ho
    go_enter Try.func29, Try.ntmps29
    go_wp2_with fail
    refine (in_any f 1 30 _).mono ?_
    rintro e w' ⟨rfl, rfl⟩
    rw [d1]
    go_wp2_with fail
    go_ret
    exact ⟨ret_chk HE.out.symm, hb⟩

theorem ret_dec {a b : PatR} (h : a ≠ b) : Ending.returned (.bool false) = .returned (.bool (decide (a = b))) := by rw [decide_eq_false h]

set_option maxRecDepth 100000 in
set_option maxHeartbeats 1000000 in
theorem samePat_any (v v' : Value) (p q : PatR) (w : World) (hp : PV w v p) (hq : PV w v' q) :
    Calls Try.prog 31 #[v, v'] w fun e w' => e = .returned (.bool (decide (p = q))) ∧ Below w.heap.size w w' := by
  obtain ⟨a, n, c, rfl, ho, -⟩ := hp
  obtain ⟨a', n', c', rfl, ho', -⟩ := hq
  obtain ⟨f, t, o, nw, s, ops⟩ := p
  obtain ⟨f', t', o', nw', s', ops'⟩ := q
  simp only at ho ho' ⊢
  have hb1 : Below w.heap.size w (w.alloc (.cells #[.int .i64 f, .int .i64 t, .int .i64 o, .int .i64 nw, .int .i64 s, .slice a n c] 41)) := (Below.refl _ _).alloc (Nat.le_refl _) _
  have hb := hb1.alloc hb1.size (.cells #[.int .i64 f', .int .i64 t', .int .i64 o', .int .i64 nw', .int .i64 s', .slice a' n' c'] 41)
  have HO := Lib.hid (ho.later hb)
  have HO' := Lib.hid (ho'.later hb)
  clear ho ho' hb1
  by_cases h1 : f = f'
  · subst h1
    have b1 : (f == f) = true := by simp
    by_cases h2 : t = t'
    · subst h2
      have b2 : (t == t) = true := by simp
      by_cases h3 : o = o'
      · subst h3
        have b3 : (o == o) = true := by simp
        by_cases h4 : nw = nw'
        · subst h4
          have b4 : (nw == nw) = true := by simp
          by_cases h5 : s = s'
          · subst h5
            have b5 : (s == s) = true := by simp
            have HB := Lib.hid hb
            clear hb
            rw [show decide ((⟨f, t, o, nw, s, ops⟩ : PatR) = ⟨f, t, o, nw, s, ops'⟩) = decide (ops = ops') by simp]
            go_enter Try.func31, Try.ntmps31
            go_wp2_with fail
            refine (sameOps_any a a' n c n' c' ops ops' _ HO.out HO'.out).mono ?_
            rintro e w' ⟨rfl, hb2⟩
            have hb3 := below_then HB.out hb2
            go_wp2_with fail
            go_ret
            exact ⟨by simp, hb3⟩
          · have b5 : (s == s') = false := by simp [h5]
            go_enter Try.func31, Try.ntmps31
            go_wp2_with fail
            go_ret
            exact ⟨ret_dec (by simp [h5]), hb⟩
        · have b4 : (nw == nw') = false := by simp [h4]
          go_enter Try.func31, Try.ntmps31
          go_wp2_with fail
          go_ret
          exact ⟨ret_dec (by simp [h4]), hb⟩
      · have b3 : (o == o') = false := by simp [h3]
        go_enter Try.func31, Try.ntmps31
        go_wp2_with fail
        go_ret
        exact ⟨ret_dec (by simp [h3]), hb⟩
    · have b2 : (t == t') = false := by simp [h2]
      go_enter Try.func31, Try.ntmps31
      go_wp2_with fail
      go_ret
      exact ⟨ret_dec (by simp [h2]), hb⟩
  · have b1 : (f == f') = false := by simp [h1]
    go_enter Try.func31, Try.ntmps31
    go_wp2_with fail
    go_ret
    exact ⟨ret_dec (by simp [h1]), hb⟩
end Go.Proofs.Ytmpmaljkmfgagab
