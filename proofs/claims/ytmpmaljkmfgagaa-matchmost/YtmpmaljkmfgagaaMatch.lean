/-
  Contracts of match.agreeing and match.Longest: the longest match, the first of several.
-/
import Derived.Test.YtmpmaljkmfgagaaRow
import Derived.Test.YtmpmaljkmfgagaaCutB
import Derived.Test.YtmpmaljkmfgagaaMatchMath
namespace Go.Proofs.Ytmpmaljkmfgagaa
open Go.RowKit

theorem ret_ag {a b : Int} (h : a = b) : Ending.returned (.int .i64 a) = .returned (.int .i64 b) := by rw [h]

set_option maxRecDepth 100000 in
set_option maxHeartbeats 400000 in
theorem agreeing_any (a a' : Option Addr) (n c n' c' : Nat) (x y : List Int) (w : World) (hx : BS w a n c x) (hy : BS w a' n' c' y) :
    Calls Try.prog 54 #[.slice a n c, .slice a' n' c'] w fun e w' => e = .returned (.int .i64 (MatchM.ag x y)) ∧ DrewN w w' := by
  have hlen : n ≤ 9223372036854775807 := by have := hx.le; have := hx.max; omega
  have hlen' : n' ≤ 9223372036854775807 := by have := hy.le; have := hy.max; omega
  have hl := Lib.hid hx.len
  have hl' := Lib.hid hy.len
  have hcells := hx.cells
  have hcells' := hy.cells
  clear hx hy
  go_enter Try.func54, Try.ntmps54
  go_wp2
  go_loopw [5] (fun i wr => ∃ k : Nat, k ≤ n ∧ k ≤ n' ∧ i = .int .i64 k ∧ Hid (∀ j, j < k → x[j]?.getD 0 = y[j]?.getD 0) ∧ DrewN w wr) (fun i _ => n - (intOf i).toNat)
  case atStart => exact ⟨0, Nat.zero_le _, Nat.zero_le _, rfl, Lib.hid (fun j hj => absurd hj (by omega)), 0, rfl⟩
  case round =>
    obtain ⟨k, hk, hk2, rfl, HE, nq, rfl⟩ := hrel
    by_cases hlt : k < n
    · have hd1 : decide (k < n) = true := by simp; omega
      by_cases hlt' : k < n'
      · obtain ⟨b, off, rfl, hc⟩ := hcells (by omega)
        obtain ⟨b', off', rfl, hc'⟩ := hcells' (by omega)
        have hck := hc k (by omega)
        have hck' := hc' k (by omega)
        have hd2 : decide (k < n') = true := by simp; omega
        by_cases heq : x[k]?.getD 0 = y[k]?.getD 0
        · have HQ := Lib.hid heq
          rw [heq] at hck
          clear hc hcells hc' hcells' heq
          go_wp2
          go_quiet (fail)
          go_wp2
          go_roundw
          case rel => exact ⟨k + 1, by omega, by omega, by go_num, Lib.hid (fun j hj => by
            rcases Nat.lt_or_ge j k with h | h
            · exact HE.out j h
            · obtain rfl : j = k := by omega
              exact HQ.out), _, rfl⟩
          case measure => simp [intOf]; omega
        · have hb : (x[k]?.getD 0 == y[k]?.getD 0) = false := by simpa using heq
          have HQ := Lib.hid heq
          clear hc hcells hc' hcells' heq
          go_wp2
          go_quiet (fail)
          go_wp2
          go_ret
          exact ⟨ret_ag (by rw [MatchM.ag_eq k x y (by rw [hl.out]; omega) (by rw [hl'.out]; omega) HE.out (.inr (.inr HQ.out))]), DrewN.more _ _ _⟩
      · have hd : decide (k < n') = false := by simp; omega
        clear hcells hcells'
        go_wp2
        go_quiet (fail)
        go_wp2
        go_ret
        exact ⟨ret_ag (by rw [MatchM.ag_eq k x y (by rw [hl.out]; omega) (by rw [hl'.out]; omega) HE.out (.inr (.inl (by rw [hl'.out]; omega)))]), DrewN.more _ _ _⟩
    · have hd : decide (k < n) = false := by simp; omega
      clear hcells hcells'
      go_wp2
      go_quiet (fail)
      go_wp2
      go_ret
      exact ⟨ret_ag (by rw [MatchM.ag_eq k x y (by rw [hl.out]; omega) (by rw [hl'.out]; omega) HE.out (.inl (by rw [hl.out]; omega))]), DrewN.more _ _ _⟩

theorem quiet_drew {P : Program} {f : FuncId} {args : Array Value} {w : World} {q n : Nat} {v : Value} (h : Calls P f args (w.drewN (q + n)) fun e w' => e = .returned v ∧ DrewN (w.drewN (q + n)) w') :
    Calls P f args (w.drewN (q + n)) fun e w'' => e = .returned v ∧ ∃ m, w'' = w.drewN (q + m) := h.mono fun _ _ ⟨he, m, hm⟩ => ⟨he, n + m, by rw [hm, World.drewN_drewN, Nat.add_assoc]⟩

/-- what Longest returns of images at a place in them -/
def GivesM (old s : List Int) (w : World) (e : Ending) (w' : World) : Prop :=
  ∃ i n : Nat, MatchM.Best old s i n ∧ e = .returned (.tuple #[.int .i64 i, .int .i64 n, .int .i64 0]) ∧ DrewN w w'

/-- the rounds of Longest: the best of the places so far -/
def LongRel (old s : List Int) (w : World) (st len i : Value) (wr : World) : Prop :=
  ∃ k j n : Nat, i = .int .i64 k ∧ st = .int .i64 j ∧ len = .int .i64 n ∧ k ≤ old.length ∧ n ≤ 64 ∧ MatchM.Upto old s k j n ∧ DrewN w wr

set_option maxRecDepth 100000 in
set_option maxHeartbeats 400000 in
theorem longest_any (a a' : Option Addr) (n c n' c' : Nat) (x y : List Int) (at_ : Nat) (w : World) (hx : BS w a n c x) (hy : BS w a' n' c' y) (hn : n ≤ 64) (hn' : n' ≤ 64) (hat : at_ ≤ n') :
    Calls Try.prog 30 #[.slice a n c, .slice a' n' c', .int .i64 at_] w (GivesM x (y.drop at_) w) := by
  have HX := Lib.hid hx
  have HY := Lib.hid (hy.cut at_ hat)
  have HL := Lib.hid hx.len
  have hcut : ∀ W, (Instr.slice 27 (.slice a' n' c') (some (.int .i64 at_)) none none).run Try.prog W = .ok (.slice (cutA a' c' at_) (n' - at_) (c' - at_)) W := fun W => run_cut_l a' n' c' W at_ hat
  generalize cutA a' c' at_ = A' at HY hcut
  have HM : Hid (∀ j, MatchM.ag (x.drop j) (y.drop at_) ≤ 64) := by
    show ∀ j, _
    intro j
    have := MatchM.ag_le_l (x.drop j) (y.drop at_)
    have := hx.len
    simp at *
    omega
  clear hx hy
  go_enter Try.func30, Try.ntmps30
  go_wp2
  go_loopw [9, 10, 33] (fun st len i wr => LongRel x (y.drop at_) w st len i wr) (fun _ _ i _ => n - (intOf i).toNat)
  case atStart => exact ⟨0, 0, 0, rfl, rfl, rfl, Nat.zero_le _, by omega, MatchM.Upto.start _ _, 0, rfl⟩
  case round =>
    obtain ⟨k, j, m, rfl, rfl, rfl, hk, hm, hu, nq, rfl⟩ := hrel
    rw [HL.out] at hk
    have HU := Lib.hid hu
    clear hu
    by_cases hlt : k < n
    · have hcut2 : ∀ W, (Instr.slice 27 (.slice a n c) (some (.int .i64 k)) none none).run Try.prog W = .ok (.slice (cutA a c k) (n - k) (c - k)) W := fun W => run_cut_l a n c W k (by omega)
      have hag := fun W => agreeing_any (cutA a c k) A' (n - k) (c - k) (n' - at_) (c' - at_) (x.drop k) (y.drop at_) W
      have HX2 := Lib.hid (HX.out.cut k (by omega))
      have hv := HM.out k
      obtain ⟨V, hV⟩ : ∃ V, MatchM.ag (x.drop k) (y.drop at_) = V := ⟨_, rfl⟩
      have HVE := Lib.hid hV
      rw [hV] at hv hag
      clear hV
      generalize cutA a c k = A at hcut2 hag HX2
      have HAG := Lib.hid hag
      clear hag
      by_cases hgt : m < V
      · go_wp2
        go_quiet (exact quiet_drew (HAG.out _ (HX2.out.drewN _) (HY.out.drewN _)))
        go_wp2
        go_roundw
        case rel => exact ⟨k + 1, k, V, by go_num, rfl, rfl, by rw [HL.out]; omega, hv, by have := HU.out.more (by rw [HVE.out]; exact hgt); rwa [HVE.out] at this, _, rfl⟩
        case measure => simp [intOf]; omega
      · go_wp2
        go_quiet (exact quiet_drew (HAG.out _ (HX2.out.drewN _) (HY.out.drewN _)))
        go_wp2
        go_roundw
        case rel => exact ⟨k + 1, j, m, by go_num, rfl, rfl, by rw [HL.out]; omega, hm, HU.out.same (by rw [HVE.out]; exact hgt), _, rfl⟩
        case measure => simp [intOf]; omega
    · go_wp2
      go_ret3
      have hkn : k = x.length := by rw [HL.out]; omega
      exact ⟨j, m, (hkn ▸ HU.out).best, rfl, nq, rfl⟩

/-- .. of too many bytes -/
theorem longest_many (a a' : Option Addr) (n c n' c' : Nat) (at_ : Int) (w : World) (h : 64 < n ∨ 64 < n') :
    Calls Try.prog 30 #[.slice a n c, .slice a' n' c', .int .i64 at_] w fun e w' => e = .returned (.tuple #[.int .i64 0, .int .i64 0, .int .i64 1]) ∧ w = w' := by
  by_cases h1 : 64 < n
  · go_enter Try.func30, Try.ntmps30
    go_wp2
    go_ret3
    exact ⟨rfl, rfl⟩
  · have h2 : 64 < n' := by omega
    go_enter Try.func30, Try.ntmps30
    go_wp2
    go_ret3
    exact ⟨rfl, rfl⟩
/-- .. at a place that is none -/
theorem longest_who (a a' : Option Addr) (n c n' c' : Nat) (at_ : Int) (w : World) (h : n ≤ 64) (h' : n' ≤ 64) (ha : at_ < 0 ∨ n' < at_) :
    Calls Try.prog 30 #[.slice a n c, .slice a' n' c', .int .i64 at_] w fun e w' => e = .returned (.tuple #[.int .i64 0, .int .i64 0, .int .i64 4]) ∧ w = w' := by
  by_cases h1 : at_ < 0
  · go_enter Try.func30, Try.ntmps30
    go_wp2
    go_ret3
    exact ⟨rfl, rfl⟩
  · have h2 : n' < at_ := by omega
    go_enter Try.func30, Try.ntmps30
    go_wp2
    go_ret3
    exact ⟨rfl, rfl⟩
end Go.Proofs.Ytmpmaljkmfgagaa
