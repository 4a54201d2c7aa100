/-
  The closed fact of the packing's statements: a run, and one byte.
-/
import Derived.Test.YtmpmaljkmfgagaaUnpack
import Derived.Test.YtmpmaljkmfgagaaPack
import Derived.Test.YtmpmaljkmfgagaaEqBytes
import Derived.Test.YtmpmaljkmfgagaaLit
namespace Go.Proofs.Ytmpmaljkmfgagaa
open Go.RowKit

theorem packs_four : PackM.Packs [7, 7, 7, 7, 9] [132, 7, 1, 9] := by
  have h0 : PackM.Packs [9] [1, 9] := .lit [9] [] 1 (by omega) (by omega) (by simp) (fun j hj => by obtain rfl : j = 0 := by omega
                                                                                                    decide) (.inl rfl) .nil
  exact .run [7, 7, 7, 7, 9] [1, 9] 4 (by decide) (by omega) h0
theorem unp_five : PackM.Unp 5 [132, 7, 1, 9] [] ([7, 7, 7, 7, 9], 0) := by simpa using packs_four.alone
theorem unp_four : PackM.Unp 4 [132, 7, 1, 9] [] ([], 1) := packs_four.short 4 [] (by simp) (by simp)
theorem unp_form : PackM.Unp 9 [128] [] ([], 3) := .form 128 [] [] (by decide)
theorem unp_torn : PackM.Unp 9 [2, 1] [] ([], 7) := .torn 2 [1] [] (by decide) (by decide)

set_option maxRecDepth 100000 in
set_option maxHeartbeats 1000000 in
theorem packedFact_any (w : World) :
    Calls Try.prog 26 #[] w fun e w' => e = .returned (.bool true) ∧ Below w.heap.size w w' := by
  have hb0 : Below w.heap.size w (w.alloc (.cells #[.int .u8 7, .int .u8 7, .int .u8 7, .int .u8 7, .int .u8 9] 5)) := (Below.refl _ _).alloc (Nat.le_refl _) _
  go_enter Try.func26, Try.ntmps26
  go_wp2_with fail
  refine (pack_any _ 5 5 [7, 7, 7, 7, 9] _ (lit_bs w [7, 7, 7, 7, 9] 5 rfl (by omega) (by decide)) (by omega)).mono ?_
  rintro e W1 ⟨o, a1, n1, c1, hp, rfl, s1, hb1⟩
  obtain rfl := packs_four.det _ hp
  replace hb1 := below_then hb0 hb1
  clear hb0 hp
  go_wp2_with fail
  refine (unpack_any a1 n1 c1 _ 5 _ s1 (by have := s1.len; simp at this; omega)).mono ?_
  rintro e W2 ⟨r, a2, n2, c2, hu, rfl, s2, hb2⟩
  obtain rfl := unp_five.det _ hu
  replace s1 := s1.later hb2
  replace hb2 := below_then hb1 hb2
  clear hb1 hu
  go_wp2_with fail
  refine (unpack_any a1 n1 c1 _ 4 _ s1 (by have := s1.len; simp at this; omega)).mono ?_
  rintro e W3 ⟨r, a3, n3, c3, hu, rfl, -, hb3⟩
  obtain rfl := unp_four.det _ hu
  replace s1 := s1.later hb3
  replace s2 := s2.later hb3
  replace hb3 := below_then hb2 hb3
  clear hb2 hu
  have hb4 := hb3.alloc hb3.size (.cells #[.int .u8 128] 5)
  have hl4 := lit_bs W3 [128] 1 rfl (by omega) (by decide)
  have hbx : Below W3.heap.size W3 (W3.alloc (.cells #[.int .u8 128] 5)) := (Below.refl _ _).alloc (Nat.le_refl _) _
  replace s1 := s1.later hbx
  replace s2 := s2.later hbx
  clear hbx hb3
  go_wp2_with fail
  refine (unpack_any _ 1 1 [128] 9 _ hl4 (by omega)).mono ?_
  rintro e W5 ⟨r, a5, n5, c5, hu, rfl, -, hb5⟩
  obtain rfl := unp_form.det _ hu
  replace s1 := s1.later hb5
  replace s2 := s2.later hb5
  replace hb5 := below_then hb4 hb5
  clear hb4 hu hl4
  have hb6 := hb5.alloc hb5.size (.cells #[.int .u8 2, .int .u8 1] 5)
  have hl6 := lit_bs W5 [2, 1] 2 rfl (by omega) (by decide)
  have hbx : Below W5.heap.size W5 (W5.alloc (.cells #[.int .u8 2, .int .u8 1] 5)) := (Below.refl _ _).alloc (Nat.le_refl _) _
  replace s1 := s1.later hbx
  replace s2 := s2.later hbx
  clear hbx hb5
  go_wp2_with fail
  refine (unpack_any _ 2 2 [2, 1] 9 _ hl6 (by omega)).mono ?_
  rintro e W7 ⟨r, a7, n7, c7, hu, rfl, -, hb7⟩
  obtain rfl := unp_torn.det _ hu
  replace s1 := s1.later hb7
  replace s2 := s2.later hb7
  replace hb7 := below_then hb6 hb7
  clear hb6 hu hl6
  have hb8 := hb7.alloc hb7.size (.cells #[.int .u8 132, .int .u8 7, .int .u8 1, .int .u8 9] 5)
  have hl8 := lit_bs W7 [132, 7, 1, 9] 4 rfl (by omega) (by decide)
  have hbx : Below W7.heap.size W7 (W7.alloc (.cells #[.int .u8 132, .int .u8 7, .int .u8 1, .int .u8 9] 5)) := (Below.refl _ _).alloc (Nat.le_refl _) _
  replace s1 := s1.later hbx
  replace s2 := s2.later hbx
  clear hbx hb7
  go_wp2_with fail
  refine (eqBytes_same a1 _ n1 c1 4 4 [132, 7, 1, 9] _ s1 hl8).mono ?_
  rintro e w' ⟨rfl, rfl⟩
  generalize W7.alloc (.cells #[.int .u8 132, .int .u8 7, .int .u8 1, .int .u8 9] 5) = W8 at hb8 s2 ⊢
  clear hl8 s1
  have hb9 := hb8.alloc hb8.size (.cells #[.int .u8 7, .int .u8 7, .int .u8 7, .int .u8 7, .int .u8 9] 5)
  have hl9 := lit_bs W8 [7, 7, 7, 7, 9] 5 rfl (by omega) (by decide)
  have hbx : Below W8.heap.size W8 (W8.alloc (.cells #[.int .u8 7, .int .u8 7, .int .u8 7, .int .u8 7, .int .u8 9] 5)) := (Below.refl _ _).alloc (Nat.le_refl _) _
  replace s2 := s2.later hbx
  clear hbx hb8
  go_wp2_with fail
  refine (eqBytes_same a2 _ n2 c2 5 5 [7, 7, 7, 7, 9] _ s2 hl9).mono ?_
  rintro e w' ⟨rfl, rfl⟩
  go_wp2_with fail
  go_ret
  exact ⟨rfl, hb9⟩
end Go.Proofs.Ytmpmaljkmfgagaa
