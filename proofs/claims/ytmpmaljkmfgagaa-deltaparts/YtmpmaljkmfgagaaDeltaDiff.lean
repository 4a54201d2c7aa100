/-
  Contracts of delta.Diff: it returns what the document says.
-/
import Derived.Test.YtmpmaljkmfgagaaDeltaRes
import Derived.Test.YtmpmaljkmfgagaaDeltaSt
import Derived.Test.YtmpmaljkmfgagaaMatch
namespace Go.Proofs.Ytmpmaljkmfgagaa
open Go.RowKit

set_option maxRecDepth 100000 in
set_option maxHeartbeats 1000000 in
theorem diff_many (a a' : Option Addr) (n c n' c' : Nat) (w : World) (h : 64 < n ∨ 64 < n') :
    Calls Try.prog 36 #[.slice a n c, .slice a' n' c'] w fun e w' => e = .returned (.tuple #[.slice none 0 0, .int .i64 1]) ∧ Below w.heap.size w w' := by
  have HB := Lib.hid ((Below.refl w.heap.size w).alloc (Nat.le_refl _) (.cells #[.slice a' n' c'] 27))
  by_cases h1 : 64 < n
  · go_enter Try.func36, Try.ntmps36
    go_wp2
    go_ret2
    exact ⟨rfl, HB.out⟩
  · have h2 : 64 < n' := by omega
    go_enter Try.func36, Try.ntmps36
    go_wp2
    go_ret2
    exact ⟨rfl, HB.out⟩

/-- the bytes that wait -/
def waits (y : List Int) (dn j : Nat) : List Int := (y.drop dn).take (j - dn)
theorem waits_more (y : List Int) {dn j : Nat} (h : dn ≤ j) (hj : j < y.length) : waits y dn (j + 1) = waits y dn j ++ [y[j]?.getD 0] := by
  unfold waits
  rw [show j + 1 - dn = (j - dn) + 1 by omega, List.take_add_one, List.getElem?_drop, show dn + (j - dn) = j by omega, List.getElem?_eq_getElem hj]
  simp
theorem waits_none (y : List Int) (j : Nat) : waits y j j = [] := by unfold waits; simp
theorem waits_bytes {y : List Int} (h : ∀ v ∈ y, 0 ≤ v ∧ v ≤ 255) (dn j : Nat) : ∀ v ∈ waits y dn j, 0 ≤ v ∧ v ≤ 255 := fun v hv => h v (List.mem_of_mem_drop (List.mem_of_mem_take hv))

/-- the rounds of Diff -/
def DifRel (old b : List Int) (w : World) (B0 B1 B2 : Nat) (a : Option Addr) (n c : Nat) (i : Value) (wr : World) : Prop :=
  ∃ (j dn : Nat) (vo : Value) (out : List OpR), i = .int .i64 j ∧ j ≤ b.length ∧ dn ≤ j ∧ FSt w B0 B1 B2 a n c vo out dn wr ∧ (∀ o, DeltaM.Dif old (b.drop j) (waits b dn j) o → DeltaM.Dif old b [] (out ++ o)) ∧ out.length ≤ 2 * dn

set_option maxRecDepth 100000 in
set_option maxHeartbeats 2000000 in
theorem diff_any (a a' : Option Addr) (n c n' c' : Nat) (x y : List Int) (w : World) (hx : BS w a n c x) (hy : BS w a' n' c' y) (hn : n ≤ 64) (hn' : n' ≤ 64) :
    Calls Try.prog 36 #[.slice a n c, .slice a' n' c'] w (GivesD x y w) := by
  have HX := Lib.hid hx
  have HY := Lib.hid hy
  have HL := Lib.hid hy.len
  obtain ⟨B0, hB0⟩ : ∃ B0, w.heap.size = B0 := ⟨_, rfl⟩
  have hst : Hid (FSt w B0 (B0 + 1) (B0 + 2) a' n' c' (.slice none 0 0) [] 0 (((w.alloc (.cells #[.slice a' n' c'] 27)).alloc (.cells #[.slice none 0 0] 48)).alloc (.cells #[.int .i64 0] 3))) := by
    subst hB0
    have e : (w.alloc (.cells #[.slice a' n' c'] 27)).heap.size = w.heap.size + 1 := by simp
    have e2 : ((w.alloc (.cells #[.slice a' n' c'] 27)).alloc (.cells #[.slice none 0 0] 48)).heap.size = w.heap.size + 2 := by simp
    refine ⟨?_, ?_, ?_, OutSt.start _ _ _ (fun g hg => by cases hg), (((Below.refl _ _).alloc (Nat.le_refl _) _).alloc (by rw [e]; omega) _).alloc (by rw [e2]; omega) _, Nat.le_refl _, by omega, by omega⟩
    · rw [heap_at, if_neg (by rw [e2]; omega), heap_at, if_neg (by rw [e]; omega), heap_at, if_pos rfl]
    · rw [heap_at, if_neg (by rw [e2]; omega), heap_at, if_pos e.symm]
    · rw [heap_at, if_pos e2.symm]
      rfl
  clear hx hy
  go_enter Try.func36, Try.ntmps36
  go_wp2_with fail
  generalize ((w.alloc (.cells #[.slice a' n' c'] 27)).alloc (.cells #[.slice none 0 0] 48)).alloc (.cells #[.int .i64 0] 3) = W0 at hst ⊢
  go_loopw [9] (fun i wr => DifRel x y w B0 (B0 + 1) (B0 + 2) a' n' c' i wr) (fun i _ => n' - (intOf i).toNat)
  case atStart => exact ⟨0, 0, _, [], rfl, Nat.zero_le _, Nat.le_refl _, hst.out, fun o h => h, by simp⟩
  case round =>
    obtain ⟨j, dn, vo, out, rfl, hj, hdj, hs, hu, hbd⟩ := hrel
    rw [HL.out] at hj
    have HS := Lib.hid hs
    have HU := Lib.hid hu
    have k0 := cell_blk hs.c0
    clear hs hu
    by_cases hlt : j < n'
    · go_wp2_with fail
      refine (longest_any a a' n c n' c' x y j _ (HX.out.later HS.out.below) (HY.out.later HS.out.below) hn hn' (by omega)).mono ?_
      rintro e W1 ⟨i, m, hbest, rfl, hd⟩
      have HS1 := Lib.hid (HS.out.later hd.below)
      have hrm := hbest.room
      rw [HX.out.len, List.length_drop, HL.out] at hrm
      have HBest := Lib.hid hbest
      clear hbest hd HS k0
      by_cases h3 : 3 < m
      · have hm4 : ¬ (m : Int) < 4 := by omega
        go_wp2_with fail
        refine (insert_any j HS1.out HY.out hdj (by omega) hn' (by omega)).mono ?_
        rintro e W2 ⟨rfl, vo2, hs2⟩
        have hfl := flushL_len ((y.drop dn).take (j - dn))
        have hol : (out ++ DeltaM.flushL ((y.drop dn).take (j - dn))).length ≤ 2 * dn + 1 := by rw [List.length_append]; omega
        have HU2 : Hid (∀ o, DeltaM.Dif x ((y.drop j).drop m) [] o → DeltaM.Dif x y [] ((out ++ DeltaM.flushL ((y.drop dn).take (j - dn))) ++ ⟨i, m, []⟩ :: o)) := by
          show ∀ o, _ → _
          intro o ho
          have := HU.out _ (.copy (y.drop j) _ i m o HBest.out h3 ho)
          rwa [List.append_assoc]
        generalize out ++ DeltaM.flushL ((y.drop dn).take (j - dn)) = out2 at hs2 hol HU2
        obtain ⟨g, cap, W5, hrun, k5, f5, k50, k52, HS5⟩ := hs2.app i m (BS.nil_ _) (fun p hp => by cases hp) (by unfold I64; omega) (by unfold I64; omega) (by omega)
        have k1 := cell_blk hs2.c1
        obtain ⟨J, hJ⟩ : ∃ J : Nat, (j : Int) + m = J := ⟨j + m, by omega⟩
        have HJ : Hid (j + m = J) := by show j + m = J; omega
        have hJn : J ≤ n' := by omega
        have k6 := cell_blk HS5.out.c2
        have f6 := frozen_blk HS5.out.c2
        clear hs2 HS1
        go_wp2_with (at_builtin; refine Lib.wpList_append_run _ rfl _ _ _ _ rfl _ _ rfl rfl _ _ hrun ?_)
        go_roundw
        case rel =>
          refine ⟨J, J, _, out2 ++ [⟨i, m, []⟩], rfl, by rw [HL.out]; exact hJn, Nat.le_refl _, HS5.out.set_ J, ?_, ?_⟩
          · intro o ho
            rw [waits_none] at ho
            have := HU2.out o (by rw [List.drop_drop, HJ.out]; exact ho)
            simpa using this
          · simp only [List.length_append, List.length_cons, List.length_nil]
            omega
        case measure => simp [intOf]; omega
      · have hm4 : (m : Int) < 4 := by omega
        obtain ⟨J, hJ⟩ : ∃ J : Nat, (j : Int) + 1 = J := ⟨j + 1, by omega⟩
        have HJ : Hid (j + 1 = J) := by show j + 1 = J; omega
        have HD := Lib.hid (drop_byte y j (by rw [HL.out]; exact hlt))
        have HU2 : Hid (∀ o, DeltaM.Dif x (y.drop J) (waits y dn J) o → DeltaM.Dif x y [] (out ++ o)) := by
          show ∀ o, _ → _
          intro o ho
          refine HU.out o ?_
          have hb := HBest.out
          rw [← HJ.out, waits_more y hdj (by rw [HL.out]; exact hlt)] at ho
          rw [HD.out] at hb ⊢
          exact .lit _ _ _ i m o hb (by omega) ho
        have hJn : J ≤ n' := by omega
        go_wp2_with fail
        go_roundw
        case rel => exact ⟨J, dn, _, out, rfl, by rw [HL.out]; exact hJn, by omega, HS1.out, HU2.out, hbd⟩
        case measure => simp [intOf]; omega
    · obtain rfl : j = n' := by omega
      go_wp2_with fail
      refine (insert_any j HS.out HY.out hdj (by omega) hn' (by omega)).mono ?_
      rintro e W2 ⟨rfl, vo2, hs2⟩
      have hfl := flushL_len ((y.drop dn).take (j - dn))
      have k1 := cell_blk hs2.c1
      obtain ⟨ar, cr, rfl, hos⟩ := hs2.o.os
      have HOS := Lib.hid hos
      have HON := Lib.hid (hs2.o.osn.mono (lo' := w.heap.size) (by have := hs2.le0; have := hs2.le1; have := hs2.le2; omega))
      have HBL := Lib.hid hs2.below
      have hdif := HU.out (DeltaM.flushL ((y.drop dn).take (j - dn))) (by rw [List.drop_eq_nil_of_le (by rw [HL.out]; omega)]; exact .done _)
      have HDif := Lib.hid hdif
      have HLen : Hid ((out ++ DeltaM.flushL ((y.drop dn).take (j - dn))).length ≤ 200) := by show _ ≤ 200; rw [List.length_append]; omega
      clear hs2 hos hdif
      generalize out ++ DeltaM.flushL ((y.drop dn).take (j - dn)) = out2 at *
      go_wp2_with fail
      go_ret2
      exact ⟨out2, ar, _, cr, HDif.out, rfl, HOS.out, ⟨HLen.out, HON.out⟩, HBL.out⟩
end Go.Proofs.Ytmpmaljkmfgagaa
