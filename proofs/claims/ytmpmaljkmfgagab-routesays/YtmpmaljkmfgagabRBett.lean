/-
  Contract of route.isBetter.
-/
import Derived.Test.YtmpmaljkmfgagabCmpN
import Derived.Test.YtmpmaljkmfgagabCutB
namespace Go.Proofs.Ytmpmaljkmfgagab
open Go.RowKit

theorem ret_bo {a b : Bool} (h : a = b) : Ending.returned (.bool a) = .returned (.bool b) := by rw [h]

set_option maxRecDepth 100000 in
set_option maxHeartbeats 1000000 in
theorem isBetter_any (a a' : Option Addr) (n c n' c' : Nat) (p q : RouteM.Pth) (w : World) (h1 : NS w a n c p.vs) (h2 : NS w a' n' c' q.vs) :
    Calls Try.prog 115 #[.agg #[.slice a n c, .int .i64 p.cost], .agg #[.slice a' n' c', .int .i64 q.cost]] w fun e w' => e = .returned (.bool (RouteM.bett p q)) ∧ Below w.heap.size w w' := by
  obtain ⟨x, C⟩ := p
  obtain ⟨y, D⟩ := q
  simp only at h1 h2 ⊢
  have hlen : n ≤ 9223372036854775807 := by have := h1.le; have := h1.max; omega
  have hlen' : n' ≤ 9223372036854775807 := by have := h2.le; have := h2.max; omega
  have HLX := Lib.hid h1.len
  have HLY := Lib.hid h2.len
  have hb : Below w.heap.size w ((w.alloc (.cells #[.slice a n c, .int .i64 C] 101)).alloc (.cells #[.slice a' n' c', .int .i64 D] 101)) := ((Below.refl _ _).alloc (Nat.le_refl _) _).alloc (by simp) _
  have HB := Lib.hid hb
  by_cases hn0 : n = 0
  · subst hn0
    have HX : Hid (RouteM.bett ⟨x, C⟩ ⟨y, D⟩ = false) := by
      show _ = _
      have hx : x = [] := List.eq_nil_of_length_eq_zero HLX.out
      unfold RouteM.bett
      rw [if_pos (.inl hx)]
      simp [hx]
    clear h1 h2 hb
    go_enter Try.func115, Try.ntmps115
    go_wp2_with fail
    go_ret
    exact ⟨ret_bo HX.out.symm, HB.out⟩
  · have hb0 : ((n : Int) == 0) = false := by simp; omega
    have hp0 : 0 < n := by omega
    have HXn : Hid (x ≠ []) := by
      show _ ≠ _
      intro e
      have := HLX.out
      rw [e] at this
      simp at this
      omega
    by_cases hn0' : n' = 0
    · subst hn0'
      have HX : Hid (RouteM.bett ⟨x, C⟩ ⟨y, D⟩ = true) := by
        show _ = _
        have hy : y = [] := List.eq_nil_of_length_eq_zero HLY.out
        unfold RouteM.bett
        rw [if_pos (.inr hy)]
        exact decide_eq_true HXn.out
      clear h1 h2 hb
      go_enter Try.func115, Try.ntmps115
      go_wp2_with fail
      go_ret
      exact ⟨ret_bo HX.out.symm, HB.out⟩
    · have hb0' : ((n' : Int) == 0) = false := by simp; omega
      have HYn : Hid (y ≠ []) := by
        show _ ≠ _
        intro e
        have := HLY.out
        rw [e] at this
        simp at this
        omega
      have HX0 : Hid (RouteM.bett ⟨x, C⟩ ⟨y, D⟩ = if C ≠ D then decide (C < D) else if n ≠ n' then decide (n < n') else decide (RouteM.cmpL x y < 0)) := by
        show _ = _
        unfold RouteM.bett
        rw [if_neg (by rintro (h | h); exact HXn.out h; exact HYn.out h), HLX.out, HLY.out]
      by_cases hCD : C = D
      · subst hCD
        have hcb : (C != C) = false := by simp
        by_cases hnn : n = n'
        · subst hnn
          have hnb : ((n : Int) != n) = false := by simp
          have HX : Hid (RouteM.bett ⟨x, C⟩ ⟨y, C⟩ = decide (RouteM.cmpL x y < 0)) := by
            show _ = _
            rw [HX0.out, if_neg (by simp), if_neg (by simp)]
          replace h1 := h1.later hb
          replace h2 := h2.later hb
          generalize hK : RouteM.cmpL x y = K at HX
          have HC : Hid (∀ W : World, NS W a n c x → NS W a' n c' y → Calls Try.prog 127 #[.slice a n c, .slice a' n c'] W fun e w' => e = .returned (.int .i64 K) ∧ DrewN W w') := by
            show ∀ W : World, _
            intro W g1 g2
            rw [← hK]
            exact cmpInts_any a a' n c n c' x y W g1 g2
          clear hb hK
          go_enter Try.func115, Try.ntmps115
          go_wp2_with fail
          refine (HC.out _ h1 h2).mono ?_
          rintro e w' ⟨rfl, hd⟩
          have HD := Lib.hid hd.below
          clear hd
          go_wp2_with fail
          go_ret
          exact ⟨ret_bo HX.out.symm, below_then HB.out HD.out⟩
        · have hnb : ((n : Int) != n') = true := by simp; omega
          have HX : Hid (RouteM.bett ⟨x, C⟩ ⟨y, C⟩ = decide (n < n')) := by
            show _ = _
            rw [HX0.out, if_neg (by simp), if_pos hnn]
          clear h1 h2 hb
          go_enter Try.func115, Try.ntmps115
          go_wp2_with fail
          go_ret
          exact ⟨ret_bo (by rw [HX.out]), HB.out⟩
      · have hcb : (C != D) = true := by simp [hCD]
        have HX : Hid (RouteM.bett ⟨x, C⟩ ⟨y, D⟩ = decide (C < D)) := by
          show _ = _
          rw [HX0.out, if_pos hCD]
        clear h1 h2 hb
        go_enter Try.func115, Try.ntmps115
        go_wp2_with fail
        go_ret
        exact ⟨ret_bo HX.out.symm, HB.out⟩
end Go.Proofs.Ytmpmaljkmfgagab
