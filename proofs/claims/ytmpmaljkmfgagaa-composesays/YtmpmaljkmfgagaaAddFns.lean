/-
  Contracts of compose.bothInsert, compose.continues and compose.cut.
-/
import Derived.Test.YtmpmaljkmfgagaaAddSt
import Derived.Handy
namespace Go.Proofs.Ytmpmaljkmfgagaa
open Go.RowKit

set_option maxHeartbeats 400000 in
theorem bothInsert_any (A L : Int) (v : Value) (A' L' : Int) (v' : Value) (w : World) :
    Calls Try.prog 75 #[.agg #[.int .i64 A, .int .i64 L, v], .agg #[.int .i64 A', .int .i64 L', v']] w fun e w' => e = .returned (.bool (decide (L = 0 ∧ L' = 0))) ∧ Below w.heap.size w w' := by
  have HB := Lib.hid (((Below.refl w.heap.size w).alloc (Nat.le_refl _) (.cells #[.int .i64 A, .int .i64 L, v] 56)).alloc (by simp) (.cells #[.int .i64 A', .int .i64 L', v'] 56))
  by_cases h1 : L = 0
  · subst h1
    by_cases h2 : L' = 0
    · subst h2
      go_enter Try.func75, Try.ntmps75
      go_wp2
      go_ret
      exact ⟨by simp, HB.out⟩
    · have h2b : (L' == 0) = false := by simp [h2]
      go_enter Try.func75, Try.ntmps75
      go_wp2
      go_ret
      exact ⟨by simp [h2], HB.out⟩
  · have h1b : (L == 0) = false := by simp [h1]
    go_enter Try.func75, Try.ntmps75
    go_wp2
    go_ret
    exact ⟨by simp [h1], HB.out⟩

set_option maxHeartbeats 400000 in
theorem continues_any (A L : Int) (v : Value) (A' L' : Int) (v' : Value) (w : World) (hA : 0 ≤ A ∧ A ≤ 1000) (hL : 0 ≤ L ∧ L ≤ 1000) :
    Calls Try.prog 76 #[.agg #[.int .i64 A, .int .i64 L, v], .agg #[.int .i64 A', .int .i64 L', v']] w fun e w' => e = .returned (.bool (decide (L ≠ 0 ∧ L' ≠ 0 ∧ A + L = A'))) ∧ Below w.heap.size w w' := by
  have HB := Lib.hid (((Below.refl w.heap.size w).alloc (Nat.le_refl _) (.cells #[.int .i64 A, .int .i64 L, v] 56)).alloc (by simp) (.cells #[.int .i64 A', .int .i64 L', v'] 56))
  obtain ⟨a1, a2⟩ := hA
  obtain ⟨l1, l2⟩ := hL
  by_cases h1 : L = 0
  · subst h1
    go_enter Try.func76, Try.ntmps76
    go_wp2
    go_ret
    exact ⟨by simp, HB.out⟩
  · have h1b : (L != 0) = true := by simp [h1]
    by_cases h2 : L' = 0
    · subst h2
      go_enter Try.func76, Try.ntmps76
      go_wp2
      go_ret
      exact ⟨by simp, HB.out⟩
    · have h2b : (L' != 0) = true := by simp [h2]
      obtain ⟨S, hS⟩ : ∃ S : Int, A + L = S := ⟨_, rfl⟩
      by_cases h3 : S = A'
      · subst h3
        go_enter Try.func76, Try.ntmps76
        go_wp2
        go_ret
        exact ⟨by simp [h1, h2, hS], HB.out⟩
      · have h3b : (S == A') = false := by simp [h3]
        go_enter Try.func76, Try.ntmps76
        go_wp2
        go_ret
        exact ⟨by simp [hS, h3], HB.out⟩

/-- what cut returns: a step, its data where those of the argument lie -/
def GivesCut (w0 : World) (o : OpR) (i j : Nat) (w : World) (e : Ending) (w' : World) : Prop :=
  ∃ a n c, e = .returned (.agg #[.int .i64 (CompM.cutR o i j).at_, .int .i64 (CompM.cutR o i j).len, .slice a n c]) ∧ BS w0 a n c (CompM.cutR o i j).data ∧ Below w.heap.size w w'

set_option maxHeartbeats 400000 in
theorem cut_any {w0 : World} (o : OpR) (a : Option Addr) (n c i j : Nat) (w : World) (hd : BS w0 a n c o.data) (ho : CompM.OneStep o) (hij : i ≤ j) (hj : (j : Int) ≤ DeltaM.size o) (hA : 0 ≤ o.at_ ∧ o.at_ ≤ 1000) (hL : o.len ≤ 1000) :
    Calls Try.prog 77 #[.agg #[.int .i64 o.at_, .int .i64 o.len, .slice a n c], .int .i64 (i : Int), .int .i64 (j : Int)] w (GivesCut w0 o i j w) := by
  obtain ⟨A, L, D⟩ := o
  simp only at hd hA hL ⊢
  obtain ⟨a1, a2⟩ := hA
  have hdl := hd.len
  unfold DeltaM.size at hj
  simp only at hj
  rcases ho with ⟨h1, h2, h3⟩ | ⟨h1, h2, h3⟩
  · simp only at h1 h2 h3
    subst h1 h2
    have hjn : j ≤ n := by omega
    have hle := hd.le
    have hcut : ∀ W, (Instr.slice 27 (.slice a n c) (some (.int .i64 (i : Int))) (some (.int .i64 (j : Int))) none).run Try.prog W = .ok (.slice (cutA a c i) (j - i) (c - i)) W := fun W => run_cut_lh a n c W i j hij (by omega)
    have HS := Lib.hid (hd.mid i j hij hjn)
    have HC : Hid (CompM.cutR ⟨0, 0, D⟩ i j = ⟨0, 0, (D.drop i).take (j - i)⟩) := by
      show _ = _
      unfold CompM.cutR
      rw [if_pos rfl, show ((i : Int)).toNat = i by omega, show ((j : Int) - i).toNat = j - i by omega]
    generalize cutA a c i = A3 at hcut HS
    generalize c - i = C3 at hcut HS
    generalize j - i = N3 at hcut HS HC
    have HB := Lib.hid (((Below.refl w.heap.size w).alloc (Nat.le_refl _) (.cells #[.int .i64 0, .int .i64 0, .slice a n c] 56)).alloc (by simp) (.cells #[.int .i64 0, .int .i64 0, .slice A3 N3 C3] 56))
    clear hd hdl hj
    go_enter Try.func77, Try.ntmps77
    go_wp2
    go_returns
    exact ⟨A3, N3, C3, by rw [HC.out], by rw [HC.out]; exact HS.out, HB.out⟩
  · simp only at h1 h2 h3
    subst h3
    simp only [List.length_nil, Int.ofNat_zero, Int.add_zero] at hj
    have HC : Hid (CompM.cutR ⟨A, L, []⟩ i j = ⟨A + i, (j : Int) - i, []⟩) := by
      show _ = _
      unfold CompM.cutR
      rw [if_neg (by show ¬ L = 0; omega)]
    have hLb : (L == 0) = false := by simp; omega
    obtain ⟨P, hP⟩ : ∃ P : Int, A + (i : Int) = P := ⟨_, rfl⟩
    obtain ⟨Q, hQ⟩ : ∃ Q : Int, (j : Int) - (i : Int) = Q := ⟨_, rfl⟩
    rw [hP, hQ] at HC
    have HB := Lib.hid (((Below.refl w.heap.size w).alloc (Nat.le_refl _) (.cells #[.int .i64 A, .int .i64 L, .slice a n c] 56)).alloc (by simp) (.cells #[.int .i64 P, .int .i64 Q, .slice none 0 0] 56))
    clear hd hdl
    go_enter Try.func77, Try.ntmps77
    go_wp2
    go_returns
    exact ⟨none, 0, 0, by rw [HC.out], by rw [HC.out]; exact BS.nil_ _, HB.out⟩
end Go.Proofs.Ytmpmaljkmfgagaa
