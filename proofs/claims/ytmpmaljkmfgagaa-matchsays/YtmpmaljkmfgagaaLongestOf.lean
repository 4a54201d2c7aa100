/-
  Contract of the reference's LongestOf: the longest match, the first of several, from the longest one down.
-/
import Derived.Test.YtmpmaljkmfgagaaMatchMath
import Derived.Test.YtmpmaljkmfgagaaIndex
namespace Go.Proofs.Ytmpmaljkmfgagaa
open Go.RowKit

/-- what LongestOf returns -/
def GivesL (old s : List Int) (w : World) (e : Ending) (w' : World) : Prop :=
  ∃ i n : Nat, MatchM.Best old s i n ∧ e = .returned (.tuple #[.int .i64 i, .int .i64 n]) ∧ DrewN w w'
/-- the rounds of LongestOf: no match is longer than n -/
def DownRel (old s : List Int) (w : World) (n : Value) (wr : World) : Prop :=
  ∃ m : Nat, n = .int .i64 m ∧ m ≤ 64 ∧ m ≤ s.length ∧ (∀ j, MatchM.ag (old.drop j) s ≤ m) ∧ DrewN w wr

theorem DrewN.trans {w w1 w2 : World} (h : DrewN w w1) (h2 : DrewN w1 w2) : DrewN w w2 := by
  obtain ⟨a, rfl⟩ := h
  obtain ⟨b, rfl⟩ := h2
  exact DrewN.more _ _ _

set_option maxRecDepth 100000 in
set_option maxHeartbeats 1000000 in
theorem longestOf_any (a a' : Option Addr) (n c n' c' : Nat) (x y : List Int) (at_ : Nat) (w : World) (hx : BS w a n c x) (hy : BS w a' n' c' y) (hn : n ≤ 64) (hn' : n' ≤ 64) (hat : at_ ≤ n') (hM : MaxCell w) :
    Calls Try.prog 32 #[.slice a n c, .slice a' n' c', .int .i64 at_] w (GivesL x (y.drop at_) w) := by
  have HX := Lib.hid hx
  have HY := Lib.hid hy
  have HM := Lib.hid hM
  have hle' := hy.le
  obtain ⟨T, hT⟩ : ∃ T : Nat, (n' : Int) - at_ = T := ⟨n' - at_, by omega⟩
  have HS : Hid ((y.drop at_).length = T) := by show (y.drop at_).length = T; rw [List.length_drop, hy.len]; omega
  obtain ⟨M, hMM⟩ : ∃ M : Nat, min (n : Int) T = M := ⟨min n T, by omega⟩
  have HTop : Hid (∀ j, MatchM.ag (x.drop j) (y.drop at_) ≤ M) := by
    show ∀ j, _
    intro j
    have := MatchM.all_top x (y.drop at_) j
    rw [HS.out, hx.len] at this
    omega
  have hM1 : M ≤ 64 := by omega
  have hM2 : M ≤ T := by omega
  clear hx hy hM
  go_enter Try.func32, Try.ntmps32
  go_wp2
  go_loopw [8] (fun i wr => DownRel x (y.drop at_) w i wr) (fun i _ => (intOf i).toNat)
  case atStart => exact ⟨M, rfl, hM1, by rw [HS.out]; exact hM2, HTop.out, 0, rfl⟩
  case round =>
    clear HTop hM1 hM2 hMM
    obtain ⟨m, rfl, hm, hms, hall, hd⟩ := hrel
    rw [HS.out] at hms
    have HA := Lib.hid hall
    have HD := Lib.hid hd
    have HX1 := Lib.hid (HX.out.later hd.below)
    have HY1 := Lib.hid (HY.out.later hd.below)
    have HM1 := Lib.hid (HM.out.later hd.below)
    clear hall hd
    by_cases hpos : 0 < m
    · obtain ⟨K, hK⟩ : ∃ K : Nat, (at_ : Int) + m = K := ⟨at_ + m, by omega⟩
      have hcut : ∀ W, (Instr.slice 27 (.slice a' n' c') (some (.int .i64 at_)) (some (.int .i64 K)) none).run Try.prog W = .ok (.slice (cutA a' c' at_) (K - at_) (c' - at_)) W := fun W => run_cut_lh a' n' c' W at_ K (by omega) (by omega)
      have hmid := HY1.out.mid at_ K (by omega) (by omega)
      have hKm : K - at_ = m := by omega
      rw [hKm] at hmid
      simp only [hKm] at hcut
      have hidx := index_any a (cutA a' c' at_) n c m (c' - at_) x ((y.drop at_).take m) wr HX1.out hmid hn HM1.out
      have hb1 := HX.out.bytes
      have hb2 : ∀ v ∈ y.drop at_, 0 ≤ v ∧ v ≤ 255 := fun v hv => HY.out.bytes v (List.mem_of_mem_drop hv)
      have hdown := fun (k : Nat) (hk : k + 1 = m) => MatchM.all_down (n := k) hb1 hb2 (by rw [HS.out]; omega)
      have hbest := fun (i : Nat) => MatchM.Best.of_index (i := i) (n := m) hb1 hb2 (by rw [HS.out]; exact hms) HA.out
      have hge := Lib.index_ge (Lib.bytesOf x) (Lib.bytesOf ((y.drop at_).take m))
      have HDN : Hid (∀ k, k + 1 = m → Lib.index (Lib.bytesOf x) (Lib.bytesOf ((y.drop at_).take m)) = -1 → ∀ j, MatchM.ag (x.drop j) (y.drop at_) ≤ k) := by
        show ∀ k, _
        intro k hk h
        exact hdown k hk (by rw [hk]; exact h)
      have HBE := Lib.hid hbest
      have HID := Lib.hid hidx
      clear hdown hbest hb1 hb2 hmid hidx
      generalize Lib.index (Lib.bytesOf x) (Lib.bytesOf ((y.drop at_).take m)) = V at hge HDN HBE HID
      generalize cutA a' c' at_ = A' at hcut HID
      go_wp2_with fail
      refine HID.out.mono ?_
      rintro e W ⟨rfl, hd2⟩
      have HD2 := Lib.hid (HD.out.trans hd2)
      clear hd2 HID
      rcases (show V = -1 ∨ ∃ i : Nat, V = i from by
        rcases Int.lt_or_le V 0 with h | h
        · exact .inl (by omega)
        · exact .inr ⟨V.toNat, by omega⟩) with rfl | ⟨i, rfl⟩
      · go_wp2
        go_roundw
        case rel => exact ⟨m - 1, by go_num, by omega, by rw [HS.out]; omega, HDN.out (m - 1) (by omega) (by trivial), HD2.out⟩
        case measure => simp [intOf]; omega
      · go_wp2
        go_ret2
        exact ⟨i, m, HBE.out i rfl, rfl, HD2.out⟩
    · have hm0 : m = 0 := by omega
      subst hm0
      go_wp2
      go_ret2
      exact ⟨0, 0, MatchM.Best.of_zero HA.out, rfl, HD.out⟩
end Go.Proofs.Ytmpmaljkmfgagaa
