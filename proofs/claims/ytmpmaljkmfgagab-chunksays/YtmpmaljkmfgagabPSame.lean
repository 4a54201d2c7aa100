/-
  Contract of patch.Same: it says whether two patches are alike.
-/
import Derived.Test.YtmpmaljkmfgagabPatchC
import Derived.Test.YtmpmaljkmfgagabDeltaSame
namespace Go.Proofs.Ytmpmaljkmfgagab
open Go.RowKit

theorem ret_decP {a b : PatR} (h : a ≠ b) : Ending.returned (.bool false) = .returned (.bool (decide (a = b))) := by rw [decide_eq_false h]

set_option maxRecDepth 100000 in
set_option maxHeartbeats 1000000 in
theorem sameP_any (v v' : Value) (p q : PatR) (w : World) (hp : PV w v p) (hq : PV w v' q) :
    Calls Try.prog 30 #[v, v'] w fun e w' => e = .returned (.bool (decide (p = q))) ∧ Below w.heap.size w w' := by
  obtain ⟨a, n, c, rfl, ho, -⟩ := hp
  obtain ⟨a', n', c', rfl, ho', -⟩ := hq
  obtain ⟨f, t, o, nw, s, ops⟩ := p
  obtain ⟨f', t', o', nw', s', ops'⟩ := q
  simp only at ho ho' ⊢
  have hb1 : Below w.heap.size w (w.alloc (.cells #[.int .i64 f, .int .i64 t, .int .i64 o, .int .i64 nw, .int .i64 s, .slice a n c] 41)) := (Below.refl _ _).alloc (Nat.le_refl _) _
  have hb := hb1.alloc hb1.size (.cells #[.int .i64 f', .int .i64 t', .int .i64 o', .int .i64 nw', .int .i64 s', .slice a' n' c'] 41)
  have HO := Lib.hid (ho.later hb)
  have HO' := Lib.hid (ho'.later hb)
  clear ho ho' hb1
  by_cases h1 : f = f'
  · subst h1
    have b1 : (f == f) = true := by simp
    by_cases h2 : t = t'
    · subst h2
      have b2 : (t == t) = true := by simp
      by_cases h3 : o = o'
      · subst h3
        have b3 : (o == o) = true := by simp
        by_cases h4 : nw = nw'
        · subst h4
          have b4 : (nw == nw) = true := by simp
          by_cases h5 : s = s'
          · subst h5
            have b5 : (s == s) = true := by simp
            have HB := Lib.hid hb
            clear hb
            rw [show decide ((⟨f, t, o, nw, s, ops⟩ : PatR) = ⟨f, t, o, nw, s, ops'⟩) = decide (ops = ops') by simp]
            go_enter Try.func30, Try.ntmps30
            go_wp2_with fail
            refine (same_any a a' n c n' c' ops ops' _ HO.out HO'.out).mono ?_
            rintro e w' ⟨rfl, hb2⟩
            have hb3 := below_then HB.out hb2
            go_wp2_with fail
            go_ret
            exact ⟨by simp, hb3⟩
          · have b5 : (s == s') = false := by simp [h5]
            go_enter Try.func30, Try.ntmps30
            go_wp2_with fail
            go_ret
            exact ⟨ret_decP (by simp [h5]), hb⟩
        · have b4 : (nw == nw') = false := by simp [h4]
          go_enter Try.func30, Try.ntmps30
          go_wp2_with fail
          go_ret
          exact ⟨ret_decP (by simp [h4]), hb⟩
      · have b3 : (o == o') = false := by simp [h3]
        go_enter Try.func30, Try.ntmps30
        go_wp2_with fail
        go_ret
        exact ⟨ret_decP (by simp [h3]), hb⟩
    · have b2 : (t == t') = false := by simp [h2]
      go_enter Try.func30, Try.ntmps30
      go_wp2_with fail
      go_ret
      exact ⟨ret_decP (by simp [h2]), hb⟩
  · have b1 : (f == f') = false := by simp [h1]
    go_enter Try.func30, Try.ntmps30
    go_wp2_with fail
    go_ret
    exact ⟨ret_decP (by simp [h1]), hb⟩
theorem sameP_ok : SamePC := fun v v' p p' w hp hq => sameP_any v v' p p' w hp hq
end Go.Proofs.Ytmpmaljkmfgagab
