/-
  The walk of the law PackBack.
-/
import Derived.Test.YtmpmaljkmfgagaaPackedFact
import Derived.Test.YtmpmaljkmfgagaaCat2
namespace Go.Proofs.Ytmpmaljkmfgagaa
open Go.RowKit

set_option maxRecDepth 100000 in
set_option maxHeartbeats 2000000 in
theorem packBack_walk (a0 : Option Addr) (len0 cap0 : Nat) (l0 : List Int) (a1 : Option Addr) (len1 cap1 : Nat) (l1 : List Int) (w : World) (w0 : BS w a0 len0 cap0 l0) (s0 : cap0 ≤ 1048576) (w1 : BS w a1 len1 cap1 l1) (s1 : cap1 ≤ 1048576) :
    Calls Try.prog 7 #[.slice a0 len0 cap0, .slice a1 len1 cap1] w fun e w' => e = .returned (.bool true) ∧ Below w.heap.size w w' := by
  have hle := w0.le
  have hle1 := w1.le
  go_enter Try.func7, Try.ntmps7
  go_wp2_with fail
  refine (pack_any a0 len0 cap0 l0 _ w0 (by omega)).mono ?_
  rintro e W1 ⟨p, ap, np, cp, hp, rfl, sp, hb1⟩
  have hpl := hp.len.1
  rw [sp.len, w0.len] at hpl
  have hl0 := w0.len
  have HL0 := Lib.hid hl0
  clear hl0
  go_wp2_with fail
  refine (unpack_any ap np cp p (len0 : Int) _ sp (by omega)).mono ?_
  rintro e W2 ⟨r, au, nu, cu, hu, rfl, su, hb2⟩
  obtain rfl := (show PackM.Unp (len0 : Int) p [] (l0, 0) by have := hp.alone; rwa [HL0.out] at this).det _ hu
  replace sp := sp.later hb2
  replace hb2 := below_then hb1 hb2
  clear hb1 hu
  go_wp2_with fail
  refine (packedFact_any _).mono ?_
  rintro e W3 ⟨rfl, hb3⟩
  replace sp := sp.later hb3
  replace su := su.later hb3
  replace hb3 := below_then hb2 hb3
  clear hb2
  go_wp2_with fail
  refine (eqBytes_same au a0 nu cu len0 cap0 l0 _ su (w0.later hb3)).mono ?_
  rintro e w' ⟨rfl, rfl⟩
  have hg : ¬ (len0 : Int) + (len0 : Int) / 127 + 1 < (np : Int) := by omega
  have hg2 : decide ((len0 : Int) + (len0 : Int) / 127 + 1 < (np : Int)) = false := by simp; omega
  have hl1 := w1.len
  have HL1 := Lib.hid hl1
  clear su hl1
  by_cases hz : len0 = 0
  case' pos =>
    have hz0 : len0 ≤ 0 := by omega
    have hd0 : decide (0 < len0) = false := by simp; omega
    clear hz
    generalize W3 = W4 at hb3 sp ⊢
    go_wp2_with fail
  case' neg =>
    have hpos : 0 < len0 := by omega
    go_wp2_with fail
    refine (unpack_any ap np cp p ((len0 : Int) - 1) _ sp (by omega)).mono ?_
    rintro e W4 ⟨r, a4, n4, c4, hu, rfl, -, hb4⟩
    obtain rfl := (hp.short ((len0 : Int) - 1) [] (by intro h; have := HL0.out; rw [h] at this; simp at this; omega) (by rw [HL0.out]; simp only [List.length_nil]; omega)).det _ hu
    replace sp := sp.later hb4
    replace hb3 := below_then hb3 hb4
    clear hb4 hu
    go_wp2_with fail
  all_goals
    refine (pack_any a1 len1 cap1 l1 _ (w1.later hb3) (by omega)).mono ?_
    rintro e W5 ⟨q, aq, nq, cq, hq, rfl, sq, hb5⟩
    have hql := hq.len.1
    rw [sq.len, HL1.out] at hql
    replace sp := sp.later hb5
    replace hb5 := below_then hb3 hb5
    clear hb3
    go_wp2_with fail
    refine (concat_two ap aq np cp nq cq p q _ sp sq (by omega)).mono ?_
    rintro e W6 ⟨ac, nc, cc, rfl, sc, hb6⟩
    have hcl := sc.len
    rw [List.length_append, sp.len, sq.len] at hcl
    replace hb6 := below_then hb5 hb6
    clear hb5
    go_wp2_with fail
    refine (unpack_any ac nc cc (p ++ q) ((len0 : Int) + (len1 : Int)) _ sc (by omega)).mono ?_
    rintro e W7 ⟨r, av, nv, cv, hu, rfl, sv, hb7⟩
    obtain rfl := (show PackM.Unp ((len0 : Int) + (len1 : Int)) (p ++ q) [] (l0 ++ l1, 0) by have := hp.both hq; rwa [HL0.out, HL1.out] at this).det _ hu
    replace hb7 := below_then hb6 hb7
    clear hb6 hu sc hcl sp sq
    go_wp2_with fail
    refine (concat_two a0 a1 len0 cap0 len1 cap1 l0 l1 _ (w0.later hb7) (w1.later hb7) (by omega)).mono ?_
    rintro e W8 ⟨ad, nd, cd, rfl, sd, hb8⟩
    replace sv := sv.later hb8
    replace hb8 := below_then hb7 hb8
    clear hb7
    go_wp2_with fail
    refine (eqBytes_same av ad nv cv nd cd (l0 ++ l1) _ sv sd).mono ?_
    rintro e w' ⟨rfl, rfl⟩
    go_wp2_with fail
    go_ret
    exact ⟨rfl, hb8⟩
end Go.Proofs.Ytmpmaljkmfgagaa
