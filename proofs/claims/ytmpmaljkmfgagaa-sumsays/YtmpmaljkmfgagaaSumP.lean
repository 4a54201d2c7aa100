/-
  Contracts of package sum: add, Of.
-/
import Derived.Test.YtmpmaljkmfgagaaRow
import Derived.Test.YtmpmaljkmfgagaaSumMath
namespace Go.Proofs.Ytmpmaljkmfgagaa
open Go.RowKit
open SumM

theorem take_snoc (zs : List Int) (k : Nat) (h : k < zs.length) : zs.take (k + 1) = zs.take k ++ [zs[k]?.getD 0] := by
  rw [List.take_succ_eq_append_getElem h]; simp [List.getElem?_eq_getElem h]

set_option maxHeartbeats 400000 in
theorem add_any (s : Int) (a : Option Addr) (n c : Nat) (l : List Int) (w : World) (hs0 : 0 ≤ s) (hs1 : s ≤ 65520) (hr : BS w a n c l) :
    Calls Try.prog 48 #[.int .i64 s, .slice a n c] w fun e w' => e = .returned (.int .i64 (addL s l)) ∧ w = w' := by
  have hlen : n ≤ 9223372036854775807 := by have := hr.le; have := hr.max; omega
  have hl := Lib.hid hr.len
  have hbyte := hr.byte
  have hcells := hr.cells
  clear hr
  go_enter Try.func48, Try.ntmps48
  go_wp2
  go_loop [0, 9] (fun t i => ∃ k : Nat, k ≤ n ∧ i = .int .i64 k ∧ t = .int .i64 (addL s (l.take k))) (fun _ i => n - (intOf i).toNat)
  case atStart => exact ⟨0, Nat.zero_le _, rfl, by simp [addL]⟩
  case round =>
    obtain ⟨k, hk, rfl, rfl⟩ := hrel
    have hb := addL_bd (l.take k) s hs0 hs1
    by_cases hlt : k < n
    · obtain ⟨b, off, rfl, hc⟩ := hcells (by omega)
      have hck := hc k (by omega)
      have hby := hbyte k
      have hsn := Lib.hid (take_snoc l k (by rw [hl.out]; omega))
      clear hc hbyte hcells
      go_wp2
      go_round
      case rel => exact ⟨k + 1, by omega, by go_num, by rw [hsn.out, addL_snoc]⟩
      case measure => simp [intOf]; omega
    · clear hbyte hcells
      go_wp2
      go_ret
      exact ⟨ret_int (by rw [List.take_of_length_le (by rw [hl.out]; omega)]), rfl⟩

theorem of_any (a : Option Addr) (n c : Nat) (l : List Int) (w : World) (hr : BS w a n c l) :
    Calls Try.prog 18 #[.slice a n c] w fun e w' => e = .returned (.int .i64 (addL 1 l)) ∧ w = w' := by
  go_enter Try.func18, Try.ntmps18
  go_wp2_with (go_at_call 48; refine (add_any 1 a n c l _ (by omega) (by omega) hr).mono ?_; rintro e w' ⟨rfl, rfl⟩)
  go_ret
  exact ⟨rfl, rfl⟩
end Go.Proofs.Ytmpmaljkmfgagaa
