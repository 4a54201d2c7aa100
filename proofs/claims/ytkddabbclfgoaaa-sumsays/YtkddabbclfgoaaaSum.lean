/-
  Contracts of the functions of package sum and of the reference's sums: each returns the checksum of the bytes, and leaves memory as it is.
-/
import Derived.Test.YtkddabbclfgoaaaRow
import Derived.Test.YtkddabbclfgoaaaSumMath
namespace Go.Proofs.Ytkddabbclfgoaaa
open Go.RowKit
open SumM

theorem ret_int {k : IntKind} {a b : Int} (h : a = b) : Ending.returned (.int k a) = .returned (.int k b) := by rw [h]

theorem take_snoc (zs : List Int) (k : Nat) (h : k < zs.length) : zs.take (k + 1) = zs.take k ++ [zs[k]?.getD 0] := by
  rw [List.take_succ_eq_append_getElem h]; simp [List.getElem?_eq_getElem h]

set_option maxHeartbeats 400000 in
theorem add_any (s : Int) (a : Option Addr) (n c : Nat) (l : List Int) (w : World) (hs0 : 0 ≤ s) (hs1 : s ≤ 65520) (hr : BS w a n c l) :
    Calls Try.prog 32 #[.int .i64 s, .slice a n c] w fun e w' => e = .returned (.int .i64 (addL s l)) ∧ w = w' := by
  have hlen : n ≤ 9223372036854775807 := by have := hr.le; have := hr.max; omega
  have hl := Lib.hid hr.len
  have hbyte := hr.byte
  have hcells := hr.cells
  clear hr
  go_enter Try.func32, Try.ntmps32
  go_wp2
  go_loop [0, 9] (fun t i => ∃ k : Nat, k ≤ n ∧ i = .int .i64 k ∧ t = .int .i64 (addL s (l.take k))) (fun _ i => n - (intOf i).toNat)
  case atStart => exact ⟨0, Nat.zero_le _, rfl, by simp [addL]⟩
  case round =>
    obtain ⟨k, hk, rfl, rfl⟩ := hrel
    have hb := addL_bd (l.take k) s hs0 hs1
    by_cases hlt : k < n
    · obtain ⟨b, off, rfl, hc⟩ := hcells (by omega)
      have hck := hc k (by omega)
      have hby := hbyte k
      have hsn := Lib.hid (take_snoc l k (by rw [hl.out]; omega))
      clear hc hbyte hcells
      go_wp2
      go_round
      case rel => exact ⟨k + 1, by omega, by go_num, by rw [hsn.out, addL_snoc]⟩
      case measure => simp [intOf]; omega
    · clear hbyte hcells
      go_wp2
      go_ret
      exact ⟨ret_int (by rw [List.take_of_length_le (by rw [hl.out]; omega)]), rfl⟩

theorem of_any (a : Option Addr) (n c : Nat) (l : List Int) (w : World) (hr : BS w a n c l) :
    Calls Try.prog 14 #[.slice a n c] w fun e w' => e = .returned (.int .i64 (addL 1 l)) ∧ w = w' := by
  go_enter Try.func14, Try.ntmps14
  go_wp2_with (go_at_call 32; refine (add_any 1 a n c l _ (by omega) (by omega) hr).mono ?_; rintro e w' ⟨rfl, rfl⟩)
  go_ret
  exact ⟨rfl, rfl⟩

theorem on_in (s : Int) (a : Option Addr) (n c : Nat) (l : List Int) (w : World) (hs0 : 0 ≤ s) (hs1 : s ≤ 65520) (hr : BS w a n c l) :
    Calls Try.prog 12 #[.int .i64 s, .slice a n c] w fun e w' => e = .returned (.tuple #[.int .i64 (addL s l), .int .i64 0]) ∧ w = w' := by
  have h1 : ¬ s < 0 := by omega
  have h2 : ¬ 65521 ≤ s := by omega
  go_enter Try.func12, Try.ntmps12
  go_wp2_with (go_at_call 32; refine (add_any s a n c l _ hs0 hs1 hr).mono ?_; rintro e w' ⟨rfl, rfl⟩)
  go_ret2
  exact ⟨rfl, rfl⟩

theorem on_out (s : Int) (a : Option Addr) (n c : Nat) (w : World) (h : s < 0 ∨ 65520 < s) :
    Calls Try.prog 12 #[.int .i64 s, .slice a n c] w fun e w' => e = .returned (.tuple #[.int .i64 0, .int .i64 2]) ∧ w = w' := by
  rcases h with h | h
  · go_enter Try.func12, Try.ntmps12
    go_wp2
    go_ret2
    exact ⟨rfl, rfl⟩
  · have h1 : ¬ s < 0 := by omega
    have h2 : 65521 ≤ s := by omega
    go_enter Try.func12, Try.ntmps12
    go_wp2
    go_ret2
    exact ⟨rfl, rfl⟩

theorem drop_cons (l : List Int) (k : Nat) (h : k < l.length) : l.drop k = l[k]?.getD 0 :: l.drop (k + 1) := by
  rw [List.drop_eq_getElem_cons h]; simp [List.getElem?_eq_getElem h]

set_option maxHeartbeats 400000 in
theorem sumOn_any (s : Int) (a : Option Addr) (n c : Nat) (l : List Int) (w : World) (hs0 : 0 ≤ s) (hs1 : s ≤ 65520) (hr : BS w a n c l) :
    Calls Try.prog 16 #[.int .i64 s, .slice a n c] w fun e w' => e = .returned (.int .i64 (addL s l)) ∧ w = w' := by
  have hlen : n ≤ 9223372036854775807 := by have := hr.le; have := hr.max; omega
  have hl := Lib.hid hr.len
  have hbyte := hr.byte
  have hcells := hr.cells
  have hpw := Lib.hid (addL_pw l s hs0 hs1)
  clear hr
  go_enter Try.func16, Try.ntmps16
  go_wp2
  go_loop [5, 6, 7] (fun p m i => ∃ k : Nat, k ≤ n ∧ i = .int .i64 (k - 1) ∧ p = .int .i64 (pw (l.drop k)) ∧ m = .int .i64 (nn (l.drop k))) (fun _ _ i => (intOf i + 1).toNat)
  case atStart => exact ⟨n, Nat.le_refl _, rfl, by rw [← hl.out]; simp [pw], by rw [← hl.out]; simp [nn]⟩
  case round =>
    obtain ⟨k, hk, rfl, rfl, rfl⟩ := hrel
    have hb1 := pw_bd (l.drop k)
    have hb2 := nn_bd (l.drop k)
    cases k with
    | succ k =>
      obtain ⟨b, off, rfl, hc⟩ := hcells (by omega)
      have hck := hc k (by omega)
      have hby := hbyte k
      have hsn := Lib.hid (drop_cons l k (by rw [hl.out]; omega))
      have hm1 : 0 ≤ l[k]?.getD 0 * pw (l.drop (k + 1)) := Int.mul_nonneg hby.1 hb1.1
      have hm2 : l[k]?.getD 0 * pw (l.drop (k + 1)) ≤ 255 * 65520 := Int.mul_le_mul hby.2 hb1.2 hb1.1 (by omega)
      clear hc hbyte hcells
      go_wp2
      go_round
      case rel => exact ⟨k, by omega, by go_num, by rw [hsn.out]; rfl, by rw [hsn.out]; rfl⟩
      case measure => simp [intOf]
    | zero =>
      rw [List.drop_zero] at hb1 hb2
      have hm1 : 0 ≤ s * pw l := Int.mul_nonneg hs0 hb1.1
      have hm2 : s * pw l ≤ 65520 * 65520 := Int.mul_le_mul hs1 hb1.2 hb1.1 (by omega)
      clear hbyte hcells
      go_wp2
      go_ret
      exact ⟨ret_int (by rw [hpw.out]), rfl⟩

theorem sumOf_any (a : Option Addr) (n c : Nat) (l : List Int) (w : World) (hr : BS w a n c l) :
    Calls Try.prog 15 #[.slice a n c] w fun e w' => e = .returned (.int .i64 (addL 1 l)) ∧ w = w' := by
  go_enter Try.func15, Try.ntmps15
  go_wp2_with (go_at_call 16; refine (sumOn_any 1 a n c l _ (by omega) (by omega) hr).mono ?_; rintro e w' ⟨rfl, rfl⟩)
  go_ret
  exact ⟨rfl, rfl⟩

theorem two_bs (w : World) (b : Nat) (x y : Int) (h0 : w.cell? ⟨b, 0, none⟩ = some (.int .u8 x)) (h1 : w.cell? ⟨b, 1, none⟩ = some (.int .u8 y)) (hx : 0 ≤ x ∧ x ≤ 255) (hy : 0 ≤ y ∧ y ≤ 255) :
    BS w (some ⟨b, 0, none⟩) 2 2 [x, y] := by
  refine ⟨rfl, by omega, by omega, by simp [hx, hy], fun _ => ⟨b, 0, rfl, ?_⟩, fun h => by cases h⟩
  intro i hi
  match i, hi with
  | 0, _ => simpa using h0
  | 1, _ => simpa using h1
end Go.Proofs.Ytkddabbclfgoaaa
