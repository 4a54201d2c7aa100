/-
  Contract of the reference's Diffed: it returns what the document says.
-/
import Derived.Test.YtmpmaljkmfgagaaDeltaRes
import Derived.Test.YtmpmaljkmfgagaaLongestOf
import Derived.Test.YtmpmaljkmfgagaaStep
namespace Go.Proofs.Ytmpmaljkmfgagaa
open Go.RowKit

/-- a call that makes the plain bytes a step -/
def FlushD (w0 : World) (B0 B1 : Nat) (out : List OpR) (pl : List Int) (e : Ending) (W' : World) : Prop :=
  e = .returned (.tuple #[]) ∧ ∃ vo', DSt w0 B0 B1 vo' (.slice none 0 0) (out ++ DeltaM.flushL pl) [] W'

set_option maxRecDepth 100000 in
set_option maxHeartbeats 1000000 in
theorem flushD_any {w0 : World} {B0 B1 : Nat} {vo vp : Value} {out : List OpR} {pl : List Int} {W : World} (h : DSt w0 B0 B1 vo vp out pl W) (hb : ∀ x ∈ pl, 0 ≤ x ∧ x ≤ 255) (hk : out.length ≤ 1000) (hpl : pl.length ≤ 1000) :
    Calls Try.prog 61 #[.pointer (some ⟨B1, 0, none⟩), .pointer (some ⟨B0, 0, none⟩)] W (FlushD w0 B0 B1 out pl) := by
  obtain ⟨a, c, rfl⟩ : ∃ a c, vp = .slice a pl.length c := by
    rcases h.p.2 with ⟨q1, q2⟩ | ⟨g, cap, cur, q1, _⟩
    · exact ⟨none, 0, by rw [q1, q2]⟩
    · exact ⟨_, _, q1⟩
  have k0 := cell_blk h.c0
  have k1 := cell_blk h.c1
  have f1 := frozen_blk h.c1
  have HH := Lib.hid h
  by_cases hp : pl = []
  · subst hp
    clear h
    go_enter Try.func61, Try.ntmps61
    go_wp2
    go_end0
    exact ⟨rfl, vo, by rw [show out ++ DeltaM.flushL [] = out by simp [DeltaM.flushL]]; exact HH.out.clear_⟩
  · obtain ⟨g, cap, W5, hrun, k5, f5, k6, f6, HS⟩ := h.flush hb hk
    have hpos : 0 < pl.length := by cases pl with
      | nil => exact absurd rfl hp
      | cons x t => simp
    have HF : Hid (DeltaM.flushL pl = [⟨0, 0, pl⟩]) := by show DeltaM.flushL pl = _; unfold DeltaM.flushL; rw [if_neg hp]
    obtain ⟨N, hN⟩ : ∃ N, pl.length = N := ⟨_, rfl⟩
    obtain ⟨M, hM⟩ : ∃ M, out.length = M := ⟨_, rfl⟩
    rw [hN] at hpos k1 hrun k6
    rw [hM] at hrun k6 f6 HS
    clear h
    go_enter Try.func61, Try.ntmps61
    go_wp2_with (at_builtin; refine Lib.wpList_append_run _ rfl _ _ _ _ rfl _ _ rfl rfl _ _ hrun ?_)
    go_end0
    exact ⟨rfl, _, by rw [HF.out]; exact HS.out⟩

/-- the rounds of Diffed -/
def DiffRel (old b : List Int) (w : World) (B0 B1 : Nat) (i : Value) (wr : World) : Prop :=
  ∃ (j : Nat) (vo vp : Value) (out : List OpR) (pl : List Int), i = .int .i64 j ∧ j ≤ b.length ∧ DSt w B0 B1 vo vp out pl wr ∧ (∀ o, DeltaM.Dif old (b.drop j) pl o → DeltaM.Dif old b [] (out ++ o)) ∧
    out.length ≤ 2 * j ∧ pl.length ≤ j ∧ ∀ x ∈ pl, 0 ≤ x ∧ x ≤ 255

theorem one_byte (W : World) (x : Int) (hx : 0 ≤ x ∧ x ≤ 255) : BS (W.alloc (.cells #[.int .u8 x] 5)) (some ⟨W.heap.size, 0, none⟩) 1 1 [x] := by
  refine ⟨rfl, Nat.le_refl _, by omega, by simpa using hx, fun _ => ⟨W.heap.size, 0, rfl, fun i hi => ?_⟩, fun h => by cases h⟩
  obtain rfl : i = 0 := by omega
  simp only [World.cell?, Nat.add_zero, heap_at, if_pos]
  simp

set_option maxRecDepth 100000 in
set_option maxHeartbeats 1000000 in
theorem diffed_many (a a' : Option Addr) (n c n' c' : Nat) (w : World) (h : 64 < n ∨ 64 < n') :
    Calls Try.prog 38 #[.slice a n c, .slice a' n' c'] w fun e w' => e = .returned (.tuple #[.slice none 0 0, .int .i64 1]) ∧ w = w' := by
  by_cases h1 : 64 < n
  · go_enter Try.func38, Try.ntmps38
    go_wp2
    go_ret2
    exact ⟨rfl, rfl⟩
  · have h2 : 64 < n' := by omega
    go_enter Try.func38, Try.ntmps38
    go_wp2
    go_ret2
    exact ⟨rfl, rfl⟩

set_option maxRecDepth 100000 in
set_option maxHeartbeats 2000000 in
theorem diffed_any (a a' : Option Addr) (n c n' c' : Nat) (x y : List Int) (w : World) (hx : BS w a n c x) (hy : BS w a' n' c' y) (hn : n ≤ 64) (hn' : n' ≤ 64) (hM : MaxCell w) :
    Calls Try.prog 38 #[.slice a n c, .slice a' n' c'] w (GivesD x y w) := by
  have HX := Lib.hid hx
  have HY := Lib.hid hy
  have HM := Lib.hid hM
  have HL := Lib.hid hy.len
  obtain ⟨B0, hB0⟩ : ∃ B0, w.heap.size = B0 := ⟨_, rfl⟩
  have hst : Hid (DSt w B0 (B0 + 1) (.slice none 0 0) (.slice none 0 0) [] [] ((w.alloc (.cells #[.slice none 0 0] 48)).alloc (.cells #[.slice none 0 0] 27))) := by
    subst hB0
    have e : (w.alloc (.cells #[.slice none 0 0] 48)).heap.size = w.heap.size + 1 := by simp
    refine ⟨?_, ?_, OutSt.start _ _ _ (fun g hg => by cases hg), World.ownsRow_nil _ _ _ _, ((Below.refl _ _).alloc (Nat.le_refl _) _).alloc (by rw [e]; omega) _, Nat.le_refl _, by omega⟩
    · rw [heap_at, if_neg (by rw [e]; omega), heap_at, if_pos rfl]
    · rw [heap_at, if_pos e.symm]
  clear hx hy hM
  go_enter Try.func38, Try.ntmps38
  go_wp2_with fail
  generalize (w.alloc (.cells #[.slice none 0 0] 48)).alloc (.cells #[.slice none 0 0] 27) = W0 at hst ⊢
  go_loopw [9] (fun i wr => DiffRel x y w B0 (B0 + 1) i wr) (fun i _ => n' - (intOf i).toNat)
  case atStart => exact ⟨0, _, _, [], [], rfl, Nat.zero_le _, hst.out, fun o h => h, by simp, by simp, by simp⟩
  case round =>
    obtain ⟨j, vo, vp, out, pl, rfl, hj, hs, hu, hbd, hpl, hby⟩ := hrel
    rw [HL.out] at hj
    have HS := Lib.hid hs
    have HU := Lib.hid hu
    have HB := Lib.hid hby
    clear hs hu hby
    by_cases hlt : j < n'
    · go_wp2_with fail
      refine (longestOf_any a a' n c n' c' x y j _ (HX.out.later HS.out.below) (HY.out.later HS.out.below) hn hn' (by omega) (HM.out.later HS.out.below)).mono ?_
      rintro e W1 ⟨i, m, hbest, rfl, hd⟩
      have HS1 := Lib.hid (HS.out.later hd.below)
      have hrm := hbest.room
      rw [HX.out.len, List.length_drop, HL.out] at hrm
      have HBest := Lib.hid hbest
      clear hbest hd HS
      by_cases h3 : 3 < m
      · go_wp2_with fail
        refine (flushD_any HS1.out HB.out (by omega) (by omega)).mono ?_
        rintro e W2 ⟨rfl, vo2, hs2⟩
        have hfl := flushL_len pl
        have hol : (out ++ DeltaM.flushL pl).length ≤ 2 * j + 1 := by rw [List.length_append]; omega
        have HU2 : Hid (∀ o, DeltaM.Dif x ((y.drop j).drop m) [] o → DeltaM.Dif x y [] ((out ++ DeltaM.flushL pl) ++ ⟨i, m, []⟩ :: o)) := by
          show ∀ o, _ → _
          intro o ho
          have := HU.out _ (.copy (y.drop j) pl i m o HBest.out h3 ho)
          rwa [List.append_assoc]
        generalize out ++ DeltaM.flushL pl = out2 at hs2 hol HU2
        obtain ⟨g, cap, W5, hrun, k5, f5, HS5⟩ := hs2.copy i m (by unfold I64; omega) (by unfold I64; omega) (by omega)
        have k0 := cell_blk hs2.c0
        obtain ⟨J, hJ⟩ : ∃ J : Nat, (j : Int) + m = J := ⟨j + m, by omega⟩
        have HJ : Hid (j + m = J) := by show j + m = J; omega
        have hJn : J ≤ n' := by omega
        clear hs2 HS1
        go_wp2_with (at_builtin; refine Lib.wpList_append_run _ rfl _ _ _ _ rfl _ _ rfl rfl _ _ hrun ?_)
        go_roundw
        case rel =>
          refine ⟨J, _, _, out2 ++ [⟨i, m, []⟩], [], rfl, by rw [HL.out]; exact hJn, HS5.out, ?_, ?_, by simp, by simp⟩
          · intro o ho
            have := HU2.out o (by rw [List.drop_drop, HJ.out]; exact ho)
            simpa using this
          · simp only [List.length_append, List.length_cons, List.length_nil]
            omega
        case measure => simp [intOf]; omega
      · obtain ⟨blk, off, rfl, hc⟩ := (HY.out.later HS1.out.below).cells (by omega)
        have hcj := hc j hlt
        have hxv := HY.out.byte j
        have HD := Lib.hid (drop_byte y j (by rw [HL.out]; exact hlt))
        generalize y[j]?.getD 0 = xv at hcj hxv HD
        clear hc
        have k1 := cell_blk HS1.out.c1
        have z1 := lt_blk HS1.out.c1
        have hBa : Below W1.heap.size W1 (W1.alloc (.cells #[.int .u8 xv] 5)) := (Below.refl _ _).alloc (Nat.le_refl _) _
        obtain ⟨g, cap, W5, hrun, k5, f5, HS5⟩ := (HS1.out.later hBa).drew.plain ((one_byte W1 xv hxv).later (Below.refl _ _).drew) (by omega)
        obtain ⟨J, hJ⟩ : ∃ J : Nat, (j : Int) + 1 = J := ⟨j + 1, by omega⟩
        have HJ : Hid (j + 1 = J) := by show j + 1 = J; omega
        have hJn : J ≤ n' := by omega
        have HU2 : Hid (∀ o, DeltaM.Dif x (y.drop J) (pl ++ [xv]) o → DeltaM.Dif x y [] (out ++ o)) := by
          show ∀ o, _ → _
          intro o ho
          refine HU.out o ?_
          have hb := HBest.out
          rw [HD.out] at hb ⊢
          rw [HJ.out] at hb ⊢
          exact .lit xv _ pl i m o hb (by omega) ho
        have HBy : Hid (∀ v ∈ pl ++ [xv], 0 ≤ v ∧ v ≤ 255) := by
          show ∀ v ∈ pl ++ [xv], _
          intro v hv
          rcases List.mem_append.1 hv with h | h
          · exact HB.out v h
          · simp at h; subst h; exact hxv
        obtain ⟨P, hP⟩ : ∃ P, pl.length = P := ⟨_, rfl⟩
        have HP := Lib.hid hP
        rw [hP] at hrun HS5 hpl
        clear hP hBa HS1
        go_wp2_with fail
        go_region_law (refine step_append_run rfl (.tmp 45) (.tmp 50) 27 27 rfl vp (.slice (some ⟨W1.heap.size, 0, none⟩) 1 1) (by simp [Act.eval]) (by simp [Act.eval]) _ _ hrun ?_)
        all_goals
          generalize W5.setCell ⟨B0 + 1, 0, none⟩ (.slice (some ⟨g, 0, none⟩) (P + 1) cap) = W8 at HS5 ⊢
          clear k5 f5 hrun W5 k1 hcj z1
          go_wp2_with fail
          go_roundw
          case rel => exact ⟨J, _, _, out, pl ++ [xv], rfl, by rw [HL.out]; exact hJn, HS5.out, HU2.out, by omega, by rw [List.length_append, HP.out]; simp only [List.length_cons, List.length_nil]; omega, HBy.out⟩
          case measure => simp [intOf]; omega
    · obtain rfl : j = n' := by omega
      go_wp2_with fail
      refine (flushD_any HS.out HB.out (by omega) (by omega)).mono ?_
      rintro e W2 ⟨rfl, vo2, hs2⟩
      have hfl := flushL_len pl
      have k0 := cell_blk hs2.c0
      obtain ⟨ar, cr, rfl, hos⟩ := hs2.o.os
      have HOS := Lib.hid hos
      have HON := Lib.hid (hs2.o.osn.mono (lo' := w.heap.size) (by have := hs2.le0; have := hs2.le1; omega))
      have HBL := Lib.hid hs2.below
      have hdif := HU.out (DeltaM.flushL pl) (by rw [List.drop_eq_nil_of_le (by rw [HL.out]; omega)]; exact .done pl)
      have HDif := Lib.hid hdif
      have HLen : Hid ((out ++ DeltaM.flushL pl).length ≤ 200) := by show _ ≤ 200; rw [List.length_append]; omega
      clear hs2 hos hdif
      generalize out ++ DeltaM.flushL pl = out2 at *
      go_wp2_with fail
      go_ret2
      exact ⟨out2, ar, _, cr, HDif.out, rfl, HOS.out, ⟨HLen.out, HON.out⟩, HBL.out⟩
end Go.Proofs.Ytmpmaljkmfgagaa
