/-
  slices.Reverse of edges, in a row of the caller's own.
-/
import Derived.Test.YtmpmaljkmfgagabCloneE
import Derived.RegionTactic
namespace Go.Proofs.Ytmpmaljkmfgagab
open Go.RowKit

theorem cellsE_set : ∀ (L : List RouteM.EdR) (k : Nat) (a b c : Int), (((cellsE L).set (k * 3) (.int .i64 a)).set (k * 3 + 1) (.int .i64 b)).set (k * 3 + 2) (.int .i64 c) = cellsE (L.set k ⟨a, b, c⟩)
  | [], k, a, b, c => by simp [cellsE]
  | e :: t, 0, a, b, c => by simp [cellsE]
  | e :: t, k + 1, a, b, c => by
    have := cellsE_set t k a b c
    simp only [cellsE, List.set_cons_succ, show (k + 1) * 3 = k * 3 + 1 + 1 + 1 by omega, show k * 3 + 1 + 1 + 1 + 1 = (k * 3 + 1) + 1 + 1 + 1 by omega, show k * 3 + 1 + 1 + 1 + 2 = (k * 3 + 2) + 1 + 1 + 1 by omega]
    rw [this]
theorem getD_set (L : List RouteM.EdR) (k q : Nat) (e : RouteM.EdR) (hk : k < L.length) : (L.set k e).getD q default = if k = q then e else L.getD q default := by
  simp only [List.getD_eq_getElem?_getD, List.getElem?_set]
  split
  · simp
  · rfl
theorem own_ltE {w : World} {base g n cap : Nat} {xs : List Value} (h : w.ownsRow base 63 3 (.slice (some ⟨g, 0, none⟩) n cap) n xs) : base ≤ g ∧ g < w.heap.size := h.lt g rfl
theorem own_drew {w : World} {base e s n : Nat} {v : Value} {xs : List Value} (h : w.ownsRow base e s v n xs) : w.drew.ownsRow base e s v n xs := h
theorem list_rev {l L : List RouteM.EdR} {n : Nat} (hl : l.length = n) (hL : L.length = n) (h : ∀ q, q < n → L.getD q default = l.getD (n - 1 - q) default) : L = l.reverse := by
  apply List.ext_getElem
  · simp [hl, hL]
  · intro i h1 h2
    have := h i (by omega)
    rw [List.getElem_reverse]
    simp only [List.getD_eq_getElem?_getD, List.getElem?_eq_getElem h1, List.getElem?_eq_getElem (show n - 1 - i < l.length by omega), Option.getD_some] at this
    rw [this]
    congr 1
    omega

/-- the rounds: so many are exchanged at both ends -/
def RevRel (base n cap g : Nat) (l : List RouteM.EdR) (w : World) (i j : Value) (wr : World) : Prop :=
  ∃ (k : Nat) (L : List RouteM.EdR), i = .int .i64 k ∧ j = .int .i64 ((n : Int) - 1 - k) ∧ k ≤ n ∧ 2 * k ≤ n + 1 ∧ wr.ownsRow base 63 3 (.slice (some ⟨g, 0, none⟩) n cap) n (cellsE L) ∧ L.length = n ∧ Below base w wr ∧
    ∀ q, q < n → L.getD q default = if q < k ∨ n - k ≤ q then l.getD (n - 1 - q) default else l.getD q default

set_option maxRecDepth 100000 in
set_option maxHeartbeats 1000000 in
theorem revE_any (base g n cap : Nat) (l : List RouteM.EdR) (w : World) (hl : l.length = n) (hn : n ≤ 60) (ho : w.ownsRow base 63 3 (.slice (some ⟨g, 0, none⟩) n cap) n (cellsE l)) :
    Calls Try.prog 44 #[.slice (some ⟨g, 0, none⟩) n cap] w fun e w' => e = .returned (.tuple #[]) ∧ w'.ownsRow base 63 3 (.slice (some ⟨g, 0, none⟩) n cap) n (cellsE l.reverse) ∧ Below base w w' := by
  have HO := Lib.hid ho
  clear ho
  go_enter Try.func44, Try.ntmps44
  go_wp2_with fail
  go_loopw [2, 3] (fun i j wr => RevRel base n cap g l w i j wr) (fun i _ _ => n - (intOf i).toNat)
  case atStart =>
    refine ⟨0, l, rfl, by simp, Nat.zero_le _, by omega, HO.out, hl, Below.refl _ _, fun q hq => ?_⟩
    rw [if_neg (by omega)]
  case round =>
    obtain ⟨k, L, rfl, rfl, hk, hk2, how, hL, hB, hq⟩ := hrel
    have HO2 := Lib.hid how
    have HQ := Lib.hid hq
    have HB := Lib.hid hB
    clear how hq hB HO
    by_cases hlt : 2 * k + 1 < n
    · obtain ⟨J, hJ⟩ : ∃ J : Nat, (n : Int) - 1 - k = J := ⟨n - 1 - k, by omega⟩
      have hkJ : k < J := by omega
      have hJn : J < n := by omega
      obtain ⟨c0, c1, c2⟩ := cellsE_get L k (by omega)
      obtain ⟨d0, d1, d2⟩ := cellsE_get L J (by omega)
      have q0 := HO2.out.cellAt (k * 3) (by omega)
      have q1 := HO2.out.cellAt (k * 3 + 1) (by omega)
      have q2 := HO2.out.cellAt (k * 3 + 2) (by omega)
      have r0 := HO2.out.cellAt (J * 3) (by omega)
      have r1 := HO2.out.cellAt (J * 3 + 1) (by omega)
      have r2 := HO2.out.cellAt (J * 3 + 2) (by omega)
      have fz := fun j => HO2.out.frozenAt j
      rw [c0] at q0
      rw [c1] at q1
      rw [c2] at q2
      rw [d0] at r0
      rw [d1] at r1
      rw [d2] at r2
      rw [hJ]
      obtain ⟨⟨XA, XB, XC⟩, hX⟩ : ∃ X, L.getD k default = X := ⟨_, rfl⟩
      obtain ⟨⟨YA, YB, YC⟩, hY⟩ : ∃ Y, L.getD J default = Y := ⟨_, rfl⟩
      rw [hX] at q0 q1 q2
      rw [hY] at r0 r1 r2
      have HX := Lib.hid hX
      have HY := Lib.hid hY
      simp only at q0 q1 q2 r0 r1 r2
      clear hX hY c0 c1 c2 d0 d1 d2
      go_wp2_with fail
      go_region
      have h1 := (HO2.out.stored (k * 3) (.int .i64 YA)).1
      have h2 := h1.stored (k * 3 + 1) (.int .i64 YB)
      have h3 := h2.1.stored (k * 3 + 2) (.int .i64 YC)
      have h4 := h3.1.stored (J * 3) (.int .i64 XA)
      have h5 := h4.1.stored (J * 3 + 1) (.int .i64 XB)
      have h6 := h5.1.stored (J * 3 + 2) (.int .i64 XC)
      have hown := h6.1
      rw [cellsE_set L k YA YB YC, cellsE_set _ J XA XB XC] at hown
      have hbg : base ≤ g := (own_ltE HO2.out).1
      have hbb := ((((((HB.out.setCell (p := ⟨g, k * 3, none⟩) hbg (.int .i64 YA)).setCell (p := ⟨g, k * 3 + 1, none⟩) hbg (.int .i64 YB)).setCell (p := ⟨g, k * 3 + 2, none⟩) hbg (.int .i64 YC)).setCell (p := ⟨g, J * 3, none⟩) hbg (.int .i64 XA)).setCell (p := ⟨g, J * 3 + 1, none⟩) hbg (.int .i64 XB)).setCell (p := ⟨g, J * 3 + 2, none⟩) hbg (.int .i64 XC)).drew
      have HOW := Lib.hid (own_drew hown)
      have HBB := Lib.hid hbb
      clear h1 h2 h3 h4 h5 h6 hown hbb q0 q1 q2 r0 r1 r2 fz
      generalize ((((((wr.setCell ⟨g, k * 3, none⟩ (.int .i64 YA)).setCell ⟨g, k * 3 + 1, none⟩ (.int .i64 YB)).setCell ⟨g, k * 3 + 2, none⟩ (.int .i64 YC)).setCell ⟨g, J * 3, none⟩ (.int .i64 XA)).setCell ⟨g, J * 3 + 1, none⟩ (.int .i64 XB)).setCell ⟨g, J * 3 + 2, none⟩ (.int .i64 XC)).drew = W9 at HOW HBB ⊢
      go_wp2_with fail
      go_roundw
      case rel =>
        refine ⟨k + 1, (L.set k ⟨YA, YB, YC⟩).set J ⟨XA, XB, XC⟩, by go_num, ?_, by omega, by omega, HOW.out, by simp [hL], HBB.out, fun q hq => ?_⟩
        · congr 1
          omega
        · have e1 := HQ.out q hq
          have e2 := HQ.out k (by omega)
          have e3 := HQ.out J (by omega)
          rw [if_neg (by omega), HX.out] at e2
          rw [if_neg (by omega), HY.out] at e3
          rw [getD_set _ J q _ (by simp; omega), getD_set _ k q _ (by omega)]
          by_cases hqJ : J = q
          · subst hqJ
            rw [if_pos rfl, if_pos (by omega), e2, show n - 1 - J = k by omega]
          · rw [if_neg hqJ]
            by_cases hqk : k = q
            · subst hqk
              rw [if_pos rfl, if_pos (by omega), e3, show n - 1 - k = J by omega]
            · rw [if_neg hqk, e1]
              by_cases hc : q < k ∨ n - k ≤ q
              · rw [if_pos hc, if_pos (by omega)]
              · rw [if_neg hc, if_neg (by omega)]
      case measure => simp [intOf]; omega
    · have hge : ¬ ((k : Int) < (n : Int) - 1 - k) := by omega
      have HLR : Hid (L = l.reverse) := by
        show L = l.reverse
        refine list_rev hl hL (fun q hq => ?_)
        rw [HQ.out q hq]
        split
        · rfl
        · have : q = n - 1 - q := by omega
          rw [← this]
      go_wp2_with fail
      go_end0
      exact ⟨rfl, by rw [← HLR.out]; exact HO2.out, HB.out⟩
end Go.Proofs.Ytmpmaljkmfgagab
