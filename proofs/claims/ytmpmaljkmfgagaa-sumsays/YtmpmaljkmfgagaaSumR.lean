/-
  Contracts of the reference's SumOn, SumOf.
-/
import Derived.Test.YtmpmaljkmfgagaaRow
import Derived.Test.YtmpmaljkmfgagaaSumMath
namespace Go.Proofs.Ytmpmaljkmfgagaa
open Go.RowKit
open SumM

theorem drop_cons (l : List Int) (k : Nat) (h : k < l.length) : l.drop k = l[k]?.getD 0 :: l.drop (k + 1) := by
  rw [List.drop_eq_getElem_cons h]; simp [List.getElem?_eq_getElem h]

set_option maxHeartbeats 400000 in
theorem sumOn_any (s : Int) (a : Option Addr) (n c : Nat) (l : List Int) (w : World) (hs0 : 0 ≤ s) (hs1 : s ≤ 65520) (hr : BS w a n c l) :
    Calls Try.prog 20 #[.int .i64 s, .slice a n c] w fun e w' => e = .returned (.int .i64 (addL s l)) ∧ w = w' := by
  have hlen : n ≤ 9223372036854775807 := by have := hr.le; have := hr.max; omega
  have hl := Lib.hid hr.len
  have hbyte := hr.byte
  have hcells := hr.cells
  have hpw := Lib.hid (addL_pw l s hs0 hs1)
  clear hr
  go_enter Try.func20, Try.ntmps20
  go_wp2
  go_loop [5, 6, 7] (fun p m i => ∃ k : Nat, k ≤ n ∧ i = .int .i64 (k - 1) ∧ p = .int .i64 (pw (l.drop k)) ∧ m = .int .i64 (nn (l.drop k))) (fun _ _ i => (intOf i + 1).toNat)
  case atStart => exact ⟨n, Nat.le_refl _, rfl, by rw [← hl.out]; simp [pw], by rw [← hl.out]; simp [nn]⟩
  case round =>
    obtain ⟨k, hk, rfl, rfl, rfl⟩ := hrel
    have hb1 := pw_bd (l.drop k)
    have hb2 := nn_bd (l.drop k)
    cases k with
    | succ k =>
      obtain ⟨b, off, rfl, hc⟩ := hcells (by omega)
      have hck := hc k (by omega)
      have hby := hbyte k
      have hsn := Lib.hid (drop_cons l k (by rw [hl.out]; omega))
      have hm1 : 0 ≤ l[k]?.getD 0 * pw (l.drop (k + 1)) := Int.mul_nonneg hby.1 hb1.1
      have hm2 : l[k]?.getD 0 * pw (l.drop (k + 1)) ≤ 255 * 65520 := Int.mul_le_mul hby.2 hb1.2 hb1.1 (by omega)
      clear hc hbyte hcells
      go_wp2
      go_round
      case rel => exact ⟨k, by omega, by go_num, by rw [hsn.out]; rfl, by rw [hsn.out]; rfl⟩
      case measure => simp [intOf]
    | zero =>
      rw [List.drop_zero] at hb1 hb2
      have hm1 : 0 ≤ s * pw l := Int.mul_nonneg hs0 hb1.1
      have hm2 : s * pw l ≤ 65520 * 65520 := Int.mul_le_mul hs1 hb1.2 hb1.1 (by omega)
      clear hbyte hcells
      go_wp2
      go_ret
      exact ⟨ret_int (by rw [hpw.out]), rfl⟩

theorem sumOf_any (a : Option Addr) (n c : Nat) (l : List Int) (w : World) (hr : BS w a n c l) :
    Calls Try.prog 19 #[.slice a n c] w fun e w' => e = .returned (.int .i64 (addL 1 l)) ∧ w = w' := by
  go_enter Try.func19, Try.ntmps19
  go_wp2_with (go_at_call 20; refine (sumOn_any 1 a n c l _ (by omega) (by omega) hr).mono ?_; rintro e w' ⟨rfl, rfl⟩)
  go_ret
  exact ⟨rfl, rfl⟩
end Go.Proofs.Ytmpmaljkmfgagaa
