/-
  Texts put into one: Diffed, AppSt, Applied, PatMade, Lit, StepsL, DifThree, PatL, DvInst, WayMem, PatchC, DeltaCheck, PCheck, SumP, DeltaSt, Match, DeltaDiff, PMake, ChunkC, PPut, PackRes, AlikeR, Packed, RunLen, PackSt, Pack, CCut, TrySt, DvBegin, DvBits, DeltaApply, DvFill, PDo, LawG.
-/
import Derived.Test.YtmpmaljkmfgagacGreatRowToNewR
import Derived.Test.YtmpmaljkmfgagacGreatMemStToStep
import Derived.Maps.AppendAt
import Derived.Handy
import Derived.Lib.SlBytesConst
import Derived.Deep.RegionLaw
import Derived.Deep.RegionHeld3
import Derived.Laws.CopyOwn
import Derived.Laws.MakeOwn
set_option maxRecDepth 100000
set_option maxHeartbeats 4000000
namespace Go.Proofs.YtmpmaljkmfgagacGreat
open Go.RowKit
def FlushD (w0 : World) (B0 B1 : Nat) (out : List OpR) (pl : List Int) (e : Ending) (W' : World) : Prop :=
 e = .returned (.tuple #[]) ∧ ∃ vo', DSt w0 B0 B1 vo' (.slice none 0 0) (out ++ DeltaM.flushL pl) [] W'
theorem flushD_any {w0 : World} {B0 B1 : Nat} {vo vp : Value} {out : List OpR} {pl : List Int} {W : World} (h : DSt w0 B0 B1 vo vp out pl W) (hb : ∀ x ∈ pl, 0 ≤ x ∧ x ≤ 255) (hk : out.length ≤ 1000) (hpl : pl.length ≤ 1000) :
   Calls Tryz.prog 126 #[.pointer (some ⟨B1, 0, none⟩), .pointer (some ⟨B0, 0, none⟩)] W (FlushD w0 B0 B1 out pl) := by
 obtain ⟨a, c, rfl⟩ : ∃ a c, vp = .slice a pl.length c := by
   rcases h.p.2 with ⟨q1, q2⟩ | ⟨g, cap, cur, q1, _⟩
   · exact ⟨none, 0, by rw [q1, q2]⟩
   · exact ⟨_, _, q1⟩
 have k0 := cell_blk h.c0
 have k1 := cell_blk h.c1
 have f1 := frozen_blk h.c1
 have HH := LH h
 by_cases hp : pl = []
 · subst hp
   clear h
   go_enter Tryz.func126, Tryz.ntmps126
   go_wp2
   go_end0
   exact ⟨rfl, vo, by rw [show out ++ DeltaM.flushL [] = out by simp [DeltaM.flushL]]; exact HH.out.clear_⟩
 · obtain ⟨g, cap, W5, hrun, k5, f5, k6, f6, HS⟩ := h.flush hb hk
   have hpos : 0 < pl.length := by cases pl with
     | nil => exact absurd rfl hp
     | cons x t => simp
   have HF : Hid (DeltaM.flushL pl = [⟨0, 0, pl⟩]) := by show DeltaM.flushL pl = _; unfold DeltaM.flushL; rw [if_neg hp]
   obtain ⟨N, hN⟩ : ∃ N, pl.length = N := ⟨_, rfl⟩
   obtain ⟨M, hM⟩ : ∃ M, out.length = M := ⟨_, rfl⟩
   rw [hN] at hpos k1 hrun k6
   rw [hM] at hrun k6 f6 HS
   clear h
   go_enter Tryz.func126, Tryz.ntmps126
   go_wp2_with (at_builtin; refine Lib.wpList_append_run _ rfl _ _ _ _ rfl _ _ rfl rfl _ _ hrun ?_)
   go_end0
   exact ⟨rfl, _, by rw [HF.out]; exact HS.out⟩
def DiffRel (old b : List Int) (w : World) (B0 B1 : Nat) (i : Value) (wr : World) : Prop :=
 ∃ (j : Nat) (vo vp : Value) (out : List OpR) (pl : List Int), i = .int .i64 j ∧ j ≤ b.length ∧ DSt w B0 B1 vo vp out pl wr ∧ (∀ o, DeltaM.Dif old (b.drop j) pl o → DeltaM.Dif old b [] (out ++ o)) ∧
   out.length ≤ 2 * j ∧ pl.length ≤ j ∧ ∀ x ∈ pl, 0 ≤ x ∧ x ≤ 255
theorem one_byte (W : World) (x : Int) (hx : 0 ≤ x ∧ x ≤ 255) : BS (W.alloc (.cells #[.int .u8 x] 5)) (some ⟨W.heap.size, 0, none⟩) 1 1 [x] := by
 refine ⟨rfl, Nat.le_refl _, by omega, by simpa using hx, fun _ => ⟨W.heap.size, 0, rfl, fun i hi => ?_⟩, fun h => by cases h⟩
 obtain rfl : i = 0 := by omega
 simp only [World.cell?, Nat.add_zero, hpA, if_pos]
 simp
theorem diffed_any (a a' : Option Addr) (n c n' c' : Nat) (x y : List Int) (w : World) (hx : BS w a n c x) (hy : BS w a' n' c' y) (hn : n ≤ 64) (hn' : n' ≤ 64) (hM : MaxCell w) :
   Calls Tryz.prog 88 #[.slice a n c, .slice a' n' c'] w (GivesD x y w) := by
 have HX := LH hx
 have HY := LH hy
 have HM := LH hM
 have HL := LH hy.len
 obtain ⟨B0, hB0⟩ : ∃ B0, w.heap.size = B0 := ⟨_, rfl⟩
 have hst : Hid (DSt w B0 (B0 + 1) (.slice none 0 0) (.slice none 0 0) [] [] ((w.alloc (.cells #[.slice none 0 0] 33)).alloc (.cells #[.slice none 0 0] 22))) := by
   subst hB0
   have e : (w.alloc (.cells #[.slice none 0 0] 33)).heap.size = w.heap.size + 1 := by simp
   refine ⟨?_, ?_, OutSt.start _ _ _ (fun g hg => by cases hg), World.ownsRow_nil _ _ _ _, ((Below.refl _ _).alloc (Nat.le_refl _) _).alloc (by rw [e]; omega) _, Nat.le_refl _, by omega⟩
   · rw [hpA, if_neg (by rw [e]; omega), hpA, if_pos rfl]
   · rw [hpA, if_pos e.symm]
 clear hx hy hM
 go_enter Tryz.func88, Tryz.ntmps88
 go_wp2_with fail
 generalize (w.alloc (.cells #[.slice none 0 0] 33)).alloc (.cells #[.slice none 0 0] 22) = W0 at hst ⊢
 go_loopw [9] (fun i wr => DiffRel x y w B0 (B0 + 1) i wr) (fun i _ => n' - (intOf i).toNat)
 case atStart => exact ⟨0, _, _, [], [], rfl, Nat.zero_le _, hst.out, fun o h => h, by simp, by simp, by simp⟩
 case round =>
   obtain ⟨j, vo, vp, out, pl, rfl, hj, hs, hu, hbd, hpl, hby⟩ := hrel
   rw [HL.out] at hj
   have HS := LH hs
   have HU := LH hu
   have HB := LH hby
   clear hs hu hby
   by_cases hlt : j < n'
   · go_wp2_with fail
     refine (longestOf_any a a' n c n' c' x y j _ (HX.out.later HS.out.below) (HY.out.later HS.out.below) hn hn' (by omega) (HM.out.later HS.out.below)).mono ?_
     rintro e W1 ⟨i, m, hbest, rfl, hd⟩
     have HS1 := LH (HS.out.later hd.below)
     have hrm := hbest.room
     rw [HX.out.len, List.length_drop, HL.out] at hrm
     have HBest := LH hbest
     clear hbest hd HS
     by_cases h3 : 3 < m
     · go_wp2_with fail
       refine (flushD_any HS1.out HB.out (by omega) (by omega)).mono ?_
       rintro e W2 ⟨rfl, vo2, hs2⟩
       have hfl := flushL_len pl
       have hol : (out ++ DeltaM.flushL pl).length ≤ 2 * j + 1 := by rw [List.length_append]; omega
       have HU2 : Hid (∀ o, DeltaM.Dif x ((y.drop j).drop m) [] o → DeltaM.Dif x y [] ((out ++ DeltaM.flushL pl) ++ ⟨i, m, []⟩ :: o)) := by
         show ∀ o, _ → _
         intro o ho
         have := HU.out _ (.copy (y.drop j) pl i m o HBest.out h3 ho)
         rwa [List.append_assoc]
       generalize out ++ DeltaM.flushL pl = out2 at hs2 hol HU2
       obtain ⟨g, cap, W5, hrun, k5, f5, HS5⟩ := hs2.copy i m (by unfold I64; omega) (by unfold I64; omega) (by omega)
       have k0 := cell_blk hs2.c0
       obtain ⟨J, hJ⟩ : ∃ J : Nat, (j : Int) + m = J := ⟨j + m, by omega⟩
       have HJ : Hid (j + m = J) := by show j + m = J; omega
       have hJn : J ≤ n' := by omega
       clear hs2 HS1
       go_wp2_with (at_builtin; refine Lib.wpList_append_run _ rfl _ _ _ _ rfl _ _ rfl rfl _ _ hrun ?_)
       go_roundw
       case rel =>
         refine ⟨J, _, _, out2 ++ [⟨i, m, []⟩], [], rfl, by rw [HL.out]; exact hJn, HS5.out, ?_, ?_, by simp, by simp⟩
         · intro o ho
           have := HU2.out o (by rw [List.drop_drop, HJ.out]; exact ho)
           simpa using this
         · simp only [List.length_append, List.length_cons, List.length_nil]
           omega
       case measure => simp [intOf]; omega
     · obtain ⟨blk, off, rfl, hc⟩ := (HY.out.later HS1.out.below).cells (by omega)
       have hcj := hc j hlt
       have hxv := HY.out.byte j
       have HD := LH (drop_byte y j (by rw [HL.out]; exact hlt))
       generalize y[j]?.getD 0 = xv at hcj hxv HD
       clear hc
       have k1 := cell_blk HS1.out.c1
       have z1 := lt_blk HS1.out.c1
       have hBa : Below W1.heap.size W1 (W1.alloc (.cells #[.int .u8 xv] 5)) := (Below.refl _ _).alloc (Nat.le_refl _) _
       obtain ⟨g, cap, W5, hrun, k5, f5, HS5⟩ := (HS1.out.later hBa).drew.plain ((one_byte W1 xv hxv).later (Below.refl _ _).drew) (by omega)
       obtain ⟨J, hJ⟩ : ∃ J : Nat, (j : Int) + 1 = J := ⟨j + 1, by omega⟩
       have HJ : Hid (j + 1 = J) := by show j + 1 = J; omega
       have hJn : J ≤ n' := by omega
       have HU2 : Hid (∀ o, DeltaM.Dif x (y.drop J) (pl ++ [xv]) o → DeltaM.Dif x y [] (out ++ o)) := by
         show ∀ o, _ → _
         intro o ho
         refine HU.out o ?_
         have hb := HBest.out
         rw [HD.out] at hb ⊢
         rw [HJ.out] at hb ⊢
         exact .lit xv _ pl i m o hb (by omega) ho
       have HBy : Hid (∀ v ∈ pl ++ [xv], 0 ≤ v ∧ v ≤ 255) := by
         show ∀ v ∈ pl ++ [xv], _
         intro v hv
         rcases List.mem_append.1 hv with h | h
         · exact HB.out v h
         · simp at h; subst h; exact hxv
       obtain ⟨P, hP⟩ : ∃ P, pl.length = P := ⟨_, rfl⟩
       have HP := LH hP
       rw [hP] at hrun HS5 hpl
       clear hP hBa HS1
       go_wp2_with fail
       go_region_law (refine step_append_run rfl (.tmp 45) (.tmp 50) 22 22 rfl vp (.slice (some ⟨W1.heap.size, 0, none⟩) 1 1) (by simp [Act.eval]) (by simp [Act.eval]) _ _ hrun ?_)
       all_goals
         generalize W5.setCell ⟨B0 + 1, 0, none⟩ (.slice (some ⟨g, 0, none⟩) (P + 1) cap) = W8 at HS5 ⊢
         clear k5 f5 hrun W5 k1 hcj z1
         go_wp2_with fail
         go_roundw
         case rel => exact ⟨J, _, _, out, pl ++ [xv], rfl, by rw [HL.out]; exact hJn, HS5.out, HU2.out, by omega, by rw [List.length_append, HP.out]; simp only [List.length_cons, List.length_nil]; omega, HBy.out⟩
         case measure => simp [intOf]; omega
   · obtain rfl : j = n' := by omega
     go_wp2_with fail
     refine (flushD_any HS.out HB.out (by omega) (by omega)).mono ?_
     rintro e W2 ⟨rfl, vo2, hs2⟩
     have hfl := flushL_len pl
     have k0 := cell_blk hs2.c0
     obtain ⟨ar, cr, rfl, hos⟩ := hs2.o.os
     have HOS := LH hos
     have HON := LH (hs2.o.osn.mono (lo' := w.heap.size) (by have := hs2.le0; have := hs2.le1; omega))
     have HBL := LH hs2.below
     have hdif := HU.out (DeltaM.flushL pl) (by rw [List.drop_eq_nil_of_le (by rw [HL.out]; omega)]; exact .done pl)
     have HDif := LH hdif
     have HLen : Hid ((out ++ DeltaM.flushL pl).length ≤ 200) := by show _ ≤ 200; rw [List.length_append]; omega
     clear hs2 hos hdif
     generalize out ++ DeltaM.flushL pl = out2 at *
     go_wp2_with fail
     go_ret2
     exact ⟨out2, ar, _, cr, HDif.out, rfl, HOS.out, ⟨HLen.out, HON.out⟩, HBL.out⟩
theorem app_lies {w : World} {base : Nat} {v : Value} {n : Nat} {l : List Int} (hown : w.ownsRow base 5 1 v n (l.map (Value.int .u8)))
   {a : Option Addr} {m c : Nat} {l' : List Int} (hs : BS w a m c l') (hb : n + m ≤ 140737488355328) (hbase : base ≤ w.heap.size) :
   ∃ a' c' w', (Builtin.append_ #[22, 22] 22 #[v, .slice a m c]).run Tryz.prog w = .ok (.slice a' (n + m) c') w' ∧
     w'.ownsRow base 5 1 (.slice a' (n + m) c') (n + m) ((l ++ l').map (Value.int .u8)) ∧ w.grownBy w' v.ownBlock ∧ ((Value.slice a' (n + m) c').ownBlock = v.ownBlock ∨ (Value.slice a' (n + m) c').ownBlock = some w.heap.size) := by
 obtain ⟨i0, hi, hz0, hz1, hz2⟩ := info_parts Tryz.info_u8
 suffices h : ∃ v' w', (Builtin.append_ #[22, 22] 22 #[v, .slice a m c]).run Tryz.prog w = .ok v' w' ∧
     w'.ownsRow base 5 1 v' (n + m) ((l ++ l').map (Value.int .u8)) ∧ w.grownBy w' v.ownBlock ∧ (v'.ownBlock = v.ownBlock ∨ v'.ownBlock = some w.heap.size) by
   obtain ⟨v', w', hr, ho, hg, hl⟩ := h
   obtain ⟨a', c', rfl⟩ : ∃ a' c', v' = .slice a' (n + m) c' := by
     rcases ho.2 with ⟨h1, h2⟩ | ⟨g, cap, cur, h1, _⟩
     · exact ⟨none, 0, by rw [h1, h2]⟩
     · exact ⟨_, _, h1⟩
   exact ⟨a', c', w', hr, ho, hg, hl⟩
 cases a with
 | none =>
   have hc := hs.none_ rfl
   subst hc
   obtain rfl : m = 0 := by have := hs.le; omega
   obtain rfl : l' = [] := List.eq_nil_of_length_eq_zero hs.len
   exact ⟨v, w, run_append_owned_none w base 22 _ 5 i0 1 Tryz.underlying22 hi v n _ hown, by simpa using hown, World.grownBy.refl w _, .inl rfl⟩
 | some ad =>
   obtain ⟨v', w', hr, ho, hg, _, hl⟩ := run_append_own_at (P := Tryz.prog) w base 22 22 5 i0 _ 1 1 Tryz.underlying22 hi hz0 hz1 hz2 rfl (by decide) v n _ hown ad m c (l'.map (Value.int .u8))
     (by simpa using hs.len) hs.news (oneCell_u8 _) (by unfold maxLen; omega) (by omega) hbase
   exact ⟨v', w', hr, by simpa using ho, hg, hl⟩
structure ASt (w : World) (B : Nat) (cs : Array Value) (vo : Value) (outl : List Int) (W : World) : Prop where
 cb : W.heap[B]? = some (.cells cs 123 (0, 0))
 own : W.ownsRow w.heap.size 5 1 vo outl.length (outl.map (Value.int .u8))
 ne : vo.ownBlock ≠ some B
 below : Below w.heap.size w W
 le : w.heap.size ≤ B
section
variable {w : World} {B : Nat} {cs : Array Value} {vo : Value} {outl : List Int} {W W' : World}
theorem ASt.later (h : ASt w B cs vo outl W) (hb : Below W.heap.size W W') : ASt w B cs vo outl W' :=
 ⟨(hb.block _ (lt_blk h.cb)).trans h.cb, own_later h.own hb, h.ne, bTh h.below hb, h.le⟩
theorem ASt.app (h : ASt w B cs vo outl W) {a : Option Addr} {m c : Nat} {l' : List Int} (hs : BS W a m c l') (hm : m ≤ 1000) (hk : outl.length ≤ 1000) :
   ∃ a5 c5 W5, (Builtin.append_ #[22, 22] 22 #[vo, .slice a m c]).run Tryz.prog W = .ok (.slice a5 (outl.length + m) c5) W5 ∧ Hid (ASt w B cs (.slice a5 (outl.length + m) c5) (outl ++ l') W5) := by
 obtain ⟨a5, c5, W5, hr, ho, hg, hl⟩ := app_lies h.own hs (by omega) h.below.size
 have hlt := lt_blk h.cb
 refine ⟨a5, c5, W5, hr, (hg.block B hlt (fun e => h.ne e.symm)).trans h.cb, ?_, ?_, h.below.grown hg h.below.size (fun g hg' => (oL3 h.own hg').1), h.le⟩
 · rw [List.length_append, hs.len]
   exact ho
 · intro e
   rcases hl with hl | hl
   · exact h.ne (hl.symm.trans e)
   · rw [hl] at e
     injection e with e
     omega
end
theorem cells_blk {W : World} {B : Nat} {v0 v1 v2 : Value} (h : W.heap[B]? = some (.cells #[v0, v1, v2] 123 (0, 0))) : W.cell? ⟨B, 0, none⟩ = some v0 ∧ W.cell? ⟨B, 1, none⟩ = some v1 ∧ W.cell? ⟨B, 2, none⟩ = some v2 := by
 simp [World.cell?, h]
theorem one_lit (W : World) (x : Int) (hx : 0 ≤ x ∧ x ≤ 255) : BS (W.alloc (.cells #[.int .u8 x] 5)) (some ⟨W.heap.size, 0, none⟩) 1 1 [x] := by
 refine ⟨rfl, Nat.le_refl _, by omega, by simpa using hx, fun _ => ⟨W.heap.size, 0, rfl, fun i hi => ?_⟩, fun h => by cases h⟩
 obtain rfl : i = 0 := by omega
 simp only [World.cell?, Nat.add_zero, hpA, if_pos]
 simp
theorem made_n (fr to : Int) (a a' : Option Addr) (n c n' c' : Nat) (x y : List Int) (w : World) (hx : BS w a n c x) (hy : BS w a' n' c' y) (hn : n ≤ 64) (hn' : n' ≤ 64) (hM : MaxCell w) (hf : I64 fr) (ht : I64 to) :
   Calls Tryz.prog 47 #[.int .i64 fr, .int .i64 to, .slice a n c, .slice a' n' c'] w fun e w' => ∃ ops, DeltaM.Dif x y [] ops ∧ GivesPN (fun _ => True) (madeOf fr to x y ops 0) w e w' := by
 have hb0 : Below w.heap.size w (w.alloc (.cells #[.int .i64 0, .int .i64 0, .int .i64 0, .int .i64 0, .int .i64 0, .slice none 0 0] 35)) := (Below.refl _ _).alloc (Nat.le_refl _) _
 have e0 : (w.alloc (.cells #[.int .i64 0, .int .i64 0, .int .i64 0, .int .i64 0, .int .i64 0, .slice none 0 0] 35)).heap.size = w.heap.size + 1 := by simp
 have hB0 : (w.alloc (.cells #[.int .i64 0, .int .i64 0, .int .i64 0, .int .i64 0, .int .i64 0, .slice none 0 0] 35)).heap[w.heap.size]? = some (.cells #[.int .i64 0, .int .i64 0, .int .i64 0, .int .i64 0, .int .i64 0, .slice none 0 0] 35 (0, 0)) := by rw [hpA, if_pos rfl]
 obtain ⟨B, hBw⟩ : ∃ B, w.heap.size = B := ⟨_, rfl⟩
 have HBW := LH hBw
 rw [hBw] at hB0 e0
 have hx0 := hx.later hb0
 have hy0 := hy.later hb0
 have hM0 := hM.later hb0
 have HX := LH hx
 have HY := LH hy
 have HLY := LH hy.len
 have HF : Hid (I64 fr ∧ I64 to) := ⟨hf, ht⟩
 clear hx hy hM hf ht
 have HS := LH (SumM.addL_bd x 1 (by omega) (by omega))
 have HS' := LH (SumM.addL_bd y 1 (by omega) (by omega))
 go_enter Tryz.func47, Tryz.ntmps47
 go_wp2_with fail
 generalize w.alloc (.cells #[.int .i64 0, .int .i64 0, .int .i64 0, .int .i64 0, .int .i64 0, .slice none 0 0] 35) = W0 at hb0 hB0 hx0 hy0 hM0 e0 ⊢
 refine (diffed_any a a' n c n' c' x y _ hx0 hy0 hn hn' hM0).mono ?_
 rintro e W1 ⟨ops, ad, nd, cd, hdif, rfl, od, ⟨-, odn⟩, b1⟩
 have hW0 : B + 1 ≤ W0.heap.size := by omega
 replace odn := odn.mono hW0
 clear hW0
 have HD := LH hdif
 have hB1 := (b1.block B (by omega)).trans hB0
 have b1' := bTh hb0 b1
 have hx1 := HX.out.later b1'
 have hy1 := HY.out.later b1'
 have hz1 : B < W1.heap.size := by have := b1.size; omega
 clear hdif b1 hb0 hB0 hx0 hy0 hM0 e0 hBw W0
 go_wp2_with fail
 refine (sumOf_any a n c x _ hx1).mono ?_
 rintro e w' ⟨rfl, rfl⟩
 go_wp2_with fail
 refine (sumOf_any a' n' c' y _ hy1).mono ?_
 rintro e w' ⟨rfl, rfl⟩
 obtain ⟨s1, hs1⟩ : ∃ s, SumM.addL 1 x = s := ⟨_, rfl⟩
 obtain ⟨s2, hs2⟩ : ∃ s, SumM.addL 1 y = s := ⟨_, rfl⟩
 have HE1 := LH hs1
 have HE2 := LH hs2
 rw [hs1, hs2]
 rw [hs1] at HS
 rw [hs2] at HS'
 clear hs1 hs2 hx1 hy1
 have hb2 : Below W1.heap.size W1 (W1.alloc (.cells #[.int .i64 fr, .int .i64 to, .int .i64 s1, .int .i64 s2, .int .i64 (n' : Int), .slice ad nd cd] 35)) := (Below.refl _ _).alloc (Nat.le_refl _) _
 have hpv : PV (W1.alloc (.cells #[.int .i64 fr, .int .i64 to, .int .i64 s1, .int .i64 s2, .int .i64 (n' : Int), .slice ad nd cd] 35)) (.agg #[.int .i64 fr, .int .i64 to, .int .i64 s1, .int .i64 s2, .int .i64 (n' : Int), .slice ad nd cd]) ⟨fr, to, s1, s2, n', ops⟩ :=
   ⟨ad, nd, cd, rfl, od.later hb2, HF.out.1, HF.out.2, by have := HS.out; unfold I64; simp only; omega, by have := HS'.out; unfold I64; simp only; omega, by unfold I64; simp only; omega⟩
 obtain ⟨B2, hB2w⟩ : ∃ B2, W1.heap.size = B2 := ⟨_, rfl⟩
 have hB2 : (W1.alloc (.cells #[.int .i64 fr, .int .i64 to, .int .i64 s1, .int .i64 s2, .int .i64 (n' : Int), .slice ad nd cd] 35)).heap[B2]? = some (.cells #[.int .i64 fr, .int .i64 to, .int .i64 s1, .int .i64 s2, .int .i64 (n' : Int), .slice ad nd cd] 35 (0, 0)) := by rw [hpA, if_pos hB2w.symm]
 have e2 : (W1.alloc (.cells #[.int .i64 fr, .int .i64 to, .int .i64 s1, .int .i64 s2, .int .i64 (n' : Int), .slice ad nd cd] 35)).heap.size = B2 + 1 := by simp [hB2w]
 have hB1' := (hb2.block B hz1).trans hB1
 have b2 := bTh b1' hb2
 clear b1' od
 go_wp2_with fail
 generalize W1.alloc (.cells #[.int .i64 fr, .int .i64 to, .int .i64 s1, .int .i64 s2, .int .i64 (n' : Int), .slice ad nd cd] 35) = W2 at hpv hB2 e2 hB1' b2 hb2 ⊢
 refine (checkPat_any _ _ _ hpv).mono ?_
 rintro e W3 ⟨rfl, b3⟩
 have HON := LH ((odn.later hb2).later b3)
 have hBr := (b3.block B (by omega)).trans hB1'
 have hBp := (b3.block B2 (by omega)).trans hB2
 have b4 := bTh b2 b3
 obtain ⟨E, hE⟩ : ∃ E, PatM.check ⟨fr, to, s1, s2, n', ops⟩ = E := ⟨_, rfl⟩
 have HE : Hid (PatM.check ⟨fr, to, SumM.addL 1 x, SumM.addL 1 y, y.length, ops⟩ = E) := by show _ = E; rw [HE1.out, HE2.out, HLY.out]; exact hE
 rw [hE]
 obtain ⟨r0, r1, r2, r3, r4, r5, f0, f1, f2, f3, f4, f5⟩ := pat_cells hBr
 obtain ⟨p0, p1, p2, p3, p4, p5, -⟩ := pat_cells hBp
 have hne : B ≠ B2 := by omega
 have HBL : Hid (w.heap.size ≤ B) := by show w.heap.size ≤ B; rw [HBW.out]; exact Nat.le_refl _
 have g0 : ∀ v, (W3.setCell ⟨B, 0, none⟩ v).cell? ⟨B, 0, none⟩ = some v := fun v => World.cell?_setCell_same _ _ _ r0
 clear hpv hB1' hB2 b3 b2 e2 hE hB2w hBp hz1 hB1 odn hb2
 by_cases h0 : E = 0
 · subst h0
   have HK : Hid (madeOf fr to x y ops 0 = (⟨fr, to, s1, s2, n', ops⟩, 0)) := by
     show _ = _
     unfold madeOf
     rw [if_neg (by simp), if_neg (by rw [HE.out]; simp), HE1.out, HE2.out, HLY.out]
   obtain ⟨W6, hW6, q0, q1, q2, q3, q4, q5, hoth, hsz⟩ := set_six hBr (.int .i64 fr) (.int .i64 to) (.int .i64 s1) (.int .i64 s2) (.int .i64 (n' : Int)) (.slice ad nd cd)
   have HB6 : Hid (Below w.heap.size w W6) := by
     show Below _ _ _
     rw [← hW6]
     exact (((((b4.setCell HBL.out _).setCell HBL.out _).setCell HBL.out _).setCell HBL.out _).setCell HBL.out _).setCell HBL.out _
   have HP6 : Hid (∀ W' : World, W6.heap.size ≤ W'.heap.size → (∀ k, w.heap.size ≤ k → k < W6.heap.size → W'.heap[k]? = W6.heap[k]?) → PV W' (.agg #[.int .i64 fr, .int .i64 to, .int .i64 s1, .int .i64 s2, .int .i64 (n' : Int), .slice ad nd cd]) ⟨fr, to, s1, s2, n', ops⟩) := by
     show ∀ W' : World, _
     intro W' z1 z2
     exact ⟨ad, nd, cd, rfl, HON.out W' (by rw [← hsz]; exact z1) (fun k k1 k2 => (z2 k (by have := HBL.out; omega) (by rw [hsz]; exact k2)).trans (hoth k (by omega))), HF.out.1, HF.out.2, by have := HS.out; unfold I64; simp only; omega, by have := HS'.out; unfold I64; simp only; omega, by unfold I64; simp only; omega⟩
   clear hoth hsz b4 HON
   go_wp2_with fail
   try simp only [Exit.inBlock, Exit.then]
   refine bodyPost_ret (by simp [results, Tryz.results47, go_sem, q0, q1, q2, q3, q4, q5]; try rfl) rfl ?_
   exact ⟨ops, HD.out, _, by rw [HK.out], HB6.out, fun W' z1 z2 _ => by rw [HK.out]; exact HP6.out W' z1 z2⟩
 · have hnb : (E != 0) = true := by simp [h0]
   have HK : Hid (madeOf fr to x y ops 0 = (noPat, E)) := by
     show _ = _
     unfold madeOf
     rw [if_neg (by simp), if_pos (by rw [HE.out]; exact h0), HE.out]
   obtain ⟨W6, hW6, q0, q1, q2, q3, q4, q5, hoth, hsz⟩ := set_six hBr (.int .i64 0) (.int .i64 0) (.int .i64 0) (.int .i64 0) (.int .i64 0) (.slice none 0 0)
   have HB6 : Hid (Below w.heap.size w W6) := by
     show Below _ _ _
     rw [← hW6]
     exact (((((b4.setCell HBL.out _).setCell HBL.out _).setCell HBL.out _).setCell HBL.out _).setCell HBL.out _).setCell HBL.out _
   clear hoth hsz b4 HON
   go_wp2_with fail
   try simp only [Exit.inBlock, Exit.then]
   refine bodyPost_ret (by simp [results, Tryz.results47, go_sem, q0, q1, q2, q3, q4, q5]; try rfl) rfl ?_
   exact ⟨ops, HD.out, _, by rw [HK.out], HB6.out, fun _ _ _ _ => by rw [HK.out]; exact noPat_pv _⟩
theorem lit_bs_marked (w : World) (zs : List Int) (n : Nat) (fz : Nat × Nat) (hn : zs.length = n) (hm : n ≤ 1000) (hz : ∀ x ∈ zs, 0 ≤ x ∧ x ≤ 255) :
   BS (w.alloc (.cells (zs.map (Value.int .u8)).toArray 5 fz)) (some ⟨w.heap.size, 0, none⟩) n n zs := by
 refine ⟨hn, Nat.le_refl _, by omega, hz, fun _ => ⟨w.heap.size, 0, rfl, fun i hi => ?_⟩, fun h => by cases h⟩
 have hi' : i < zs.length := by omega
 rw [Nat.zero_add]
 simp only [World.cell?, hpA, if_pos]
 simp [List.getElem?_eq_getElem hi']
def stepsL : List OpR := [⟨0, 0, [120]⟩, ⟨4, 4, []⟩, ⟨0, 4, []⟩]
theorem dif_three : DeltaM.Dif [97, 98, 99, 100, 101, 102, 103, 104] [120, 101, 102, 103, 104, 97, 98, 99, 100] [] stepsL := by
 have h1 : MatchM.Best [97, 98, 99, 100, 101, 102, 103, 104] [120, 101, 102, 103, 104, 97, 98, 99, 100] 0 0 := (show MatchM.Upto _ _ 8 0 0 from ⟨by decide, by decide, by decide, by decide⟩).best
 have h2 : MatchM.Best [97, 98, 99, 100, 101, 102, 103, 104] [101, 102, 103, 104, 97, 98, 99, 100] 4 4 := (show MatchM.Upto _ _ 8 4 4 from ⟨by decide, by decide, by decide, by decide⟩).best
 have h3 : MatchM.Best [97, 98, 99, 100, 101, 102, 103, 104] [97, 98, 99, 100] 0 4 := (show MatchM.Upto _ _ 8 0 4 from ⟨by decide, by decide, by decide, by decide⟩).best
 have e3 := DeltaM.Dif.copy _ [] 0 4 _ h3 (by decide) (.done [])
 have e2 := DeltaM.Dif.copy _ [120] 4 4 _ h2 (by decide) e3
 exact .lit 120 _ [] 0 0 _ h1 (by decide) e2
def patL : PatR := ⟨1, 2, 33012, 46707, 9, stepsL⟩
theorem patL_check : PatM.check patL = 0 := by decide
theorem patL_made : madeOf 1 2 [97, 98, 99, 100, 101, 102, 103, 104] [120, 101, 102, 103, 104, 97, 98, 99, 100] stepsL 0 = (patL, 0) := by decide
theorem patL_put : PatM.putL patL = [1, 2, 128, 244, 182, 115, 9, 3, 255, 1, 120, 4, 4, 0, 4] := by decide
namespace Inst
def im0 : List Int := [97, 98, 99, 100, 101, 102, 103, 104]
def im1 : List Int := [120, 101, 102, 103, 104, 97, 98, 99, 100]
def packL : List Int := [15, 1, 2, 128, 244, 182, 115, 9, 3, 255, 1, 120, 4, 4, 0, 4]
theorem packL_packs : PackM.Packs (PatM.putL patL) packL := by
 rw [patL_put]
 refine .lit [1, 2, 128, 244, 182, 115, 9, 3, 255, 1, 120, 4, 4, 0, 4] [] 15 (by omega) (by omega) (by simp) ?_ (.inl rfl) .nil
 decide
theorem packL_unp : PackM.Unp 400 packL [] (PatM.putL patL, 0) := by
 have := packL_packs.back 400 [] [] (PatM.putL patL, 0) (by rw [patL_put]; simp) (by simpa using PackM.Unp.done (PatM.putL patL))
 simpa using this
def chL : ChR := ⟨1, 2, 0, 1, packL⟩
theorem chL_cut : ChunkM.cutL patL.from_ patL.to_ packL = [chL] := by decide
theorem cut_patL {cs : List ChR} {err : Int} (h : ChunkM.CutIs patL cs err) : cs = [chL] ∧ err = 0 :=
 h.det (.inr ⟨patL_check, packL, packL_packs, chL_cut.symm, rfl⟩)
theorem join_chL {r : PatR × Int} (h : ChunkM.JoinIs [chL] r) : r = (patL, 0) := by
 refine h.det (.inr ⟨by decide, (PatM.putL patL, 0), ?_, ?_⟩)
 · have : ChunkM.flatD [chL] = packL := by decide
   rw [this]
   exact packL_unp
 · unfold ChunkM.joinEnd
   simp only
   rw [PatM.read_put patL_check]
   decide
def d0 : DevR := (DevM.newOf im0).1
def d1 : DevR := { d0 with got := [chL] }
def d2 : DevR := { d0 with c := (RecM.writeOf d0.c (DevM.put (DevM.rc d0) RecM.noInf) false).1, busy := true, job := patL, done := 0, got := [] }
def d3 : DevR := (DevM.write d2 false 0).1
def d4 : DevR := (DevM.write d3 false 0).1
def d5 : DevR := (DevM.finish d4 false).1
def d6 : DevR := DevM.off d5
def d7 : DevR := (DevM.boot d6).1
def d8 : DevR := (DevM.confirm d7).1
theorem st0 : DevM.newOf im0 = (d0, 0) := by kernel_rfl
theorem st1 : DevM.told d0 true (DevM.hear d0 chL) = (d1, 0) := by kernel_rfl
theorem st2 : DevM.told d1 true (DevM.open_ d1) = (d2, 0) := by
 have h : ChunkM.joinOf d1.got = (patL, 0) := join_chL (ChunkM.joinOf_is [chL])
 unfold DevM.open_
 rw [h]
 show _ = (d2, 0)
 kernel_rfl
theorem st3 : DevM.told d2 true (DevM.write d2 false 0) = (d3, 0) := by kernel_rfl
theorem stL : DevM.told d3 true (DevM.finish d3 false) = (DevM.noDev, 5) := by kernel_rfl
theorem st4 : DevM.told d3 true (DevM.write d3 false 0) = (d4, 0) := by kernel_rfl
theorem st5 : DevM.told d4 true (DevM.finish d4 false) = (d5, 0) := by kernel_rfl
theorem st6 : DevM.told d5 true (DevM.crash d5) = (d6, 0) := by kernel_rfl
theorem st7 : DevM.told d6 false (DevM.boot d6) = (d7, 0) := by kernel_rfl
theorem st8 : DevM.told d7 true (DevM.confirm d7) = (d8, 0) := by kernel_rfl
theorem ck8 : DevM.check d8 = 0 := by decide +kernel
theorem run7 : d7.run = 1 := by decide +kernel
theorem slot7 : d7.s1.take 9 = im1 := by decide +kernel
theorem len7 : d7.s1.length = 64 := by decide +kernel
end Inst
theorem gnY {P : Program} {ops : Array Oper} {Q : Exit → Act → World → Prop} {S : World → Prop} {r : WayO} {a : Act} {W : World} (X : World → Prop) (h : X W) (k : ∀ V, X V → wpWay P ops Q r S a V) : wpWay P ops Q r S a W := k W h
theorem gnX {prog : Program} {code : Code} {K : Exit → Act → World → Prop} {a : Act} {W : World} (X : World → Prop) (h : X W) (k : ∀ V, X V → Code.wp prog code K a V) : Code.wp prog code K a W := k W h
theorem MH.sub {w W : World} {L : List (Nat × Array Value × TypeId)} {H H' : Hlds} (h : MH w L H W) (hs : ∀ q ∈ H', q ∈ H) : MH w L H' W :=
 ⟨h.ms, fun q hq => h.has q (hs q hq), fun q hq => h.lo q (hs q hq), fun p hp q hq => h.sep p hp q (hs q hq)⟩
theorem MS.block {w W W' : World} {L : List (Nat × Array Value × TypeId)} (h : MS w L [] [] W) (hb : Below W.heap.size W W') {B : Nat} {c : Array Value} {t : TypeId} (hB : W'.heap[B]? = some (.cells c t (0, 0))) (hlo : W.heap.size ≤ B) : MS w ((B, c, t) :: L) [] [] W' := by
 have h' := h.later hb
 refine ⟨fun q hq => ?_, ?_, fun q hq => ?_, h'.below, (fun _ q => by cases q), (fun _ q => by cases q)⟩
 · rcases List.mem_cons.1 hq with rfl | hq
   · exact hB
   · exact h'.has q hq
 · exact List.Pairwise.cons (fun q hq => by have := h.lt hq; simp only; omega) h.srt
 · rcases List.mem_cons.1 hq with rfl | hq
   · have := h.below.size; simp only; omega
   · exact h.base q hq
theorem MH.block {w W W' : World} {L : List (Nat × Array Value × TypeId)} {H : Hlds} (h : MH w L H W) (hb : Below W.heap.size W W') {B : Nat} {c : Array Value} {t : TypeId} (hB : W'.heap[B]? = some (.cells c t (0, 0))) (hlo : W.heap.size ≤ B) : MH w ((B, c, t) :: L) H W' := by
 refine ⟨h.ms.block hb hB hlo, fun q hq => (h.has q hq).below hb, h.lo, fun p hp q hq => ?_⟩
 rcases List.mem_cons.1 hp with rfl | hp
 · have := (h.has q hq).1
   exact .inr (by simp only; omega)
 · exact h.sep p hp q hq
theorem MH.subL {w W : World} {L L' : List (Nat × Array Value × TypeId)} {H : Hlds} (h : MH w L H W) (hs : L'.Sublist L) : MH w L' H W :=
 ⟨h.ms.sub hs, h.has, h.lo, fun p hp q hq => h.sep p (hs.subset hp) q hq⟩
def zPat : Array Value := jbC none 0 0 noPat
theorem put_zpat (oa : Option Addr) (on oc : Nat) (p : PatR) : putAt zPat 0 (jbC oa on oc p).toList = jbC oa on oc p := by kernel_rfl
def GivesPatL (w : World) (e : Ending) (w' : World) : Prop :=
 ∃ ap np cp, e = .returned (.tuple #[.agg (jbC ap np cp patL), .int .i64 0]) ∧ Below w.heap.size w w' ∧ NewR w.heap.size w' (fun V => OS V ap np cp patL.ops)
theorem jobCells_inj {oa oa' : Option Addr} {on oc on' oc' : Nat} {p : PatR} (h : jbC oa on oc p = jbC oa' on' oc' p) : oa = oa' ∧ on = on' ∧ oc = oc' := by
 have := congrArg (fun a : Array Value => a[5]?) h
 simp [jbC] at this
 exact this
theorem madeL_any (a0 a1 : Option Addr) (c0 c1 : Nat) (w : World) (h0 : BS w a0 8 c0 Inst.im0) (h1 : BS w a1 9 c1 Inst.im1) (hM : MaxCell w) :
   Calls Tryz.prog 47 #[.int .i64 1, .int .i64 2, .slice a0 8 c0, .slice a1 9 c1] w (GivesPatL w) := by
 refine (made_n 1 2 a0 a1 8 c0 9 c1 Inst.im0 Inst.im1 w h0 h1 (by omega) (by omega) hM (by unfold I64; omega) (by unfold I64; omega)).mono ?_
 rintro e w' ⟨ops, hdif, hg⟩
 obtain rfl := hdif.det dif_three
 have hm : madeOf 1 2 Inst.im0 Inst.im1 _ 0 = (patL, 0) := patL_made
 rw [hm] at hg
 obtain ⟨v, he, hb, hn⟩ := hg
 obtain ⟨ap, np, cp, hv, -, -⟩ := hn w' (Nat.le_refl _) (fun _ _ _ => rfl) trivial
 subst hv
 refine ⟨ap, np, cp, he, hb, fun V v1 v2 => ?_⟩
 obtain ⟨ap', np', cp', hv', ho, -⟩ := hn V v1 v2 trivial
 have hj : jbC ap np cp patL = jbC ap' np' cp' patL := by
   have := hv'
   injection this
 obtain ⟨rfl, rfl, rfl⟩ := jobCells_inj hj
 exact ho
def DeltaM.stepErr (old : Int) (o : OpR) : Int := if DeltaM.badForm o then 3 else if DeltaM.bdR old o then 2 else 0
theorem DeltaM.good_num {old : Int} {o : OpR} (h : ¬ DeltaM.badForm o) (h2 : ¬ DeltaM.bdR old o) : 0 ≤ o.len ∧ (o.data.length : Int) ≤ 64 ∧ o.len ≤ old := by
 unfold DeltaM.badForm at h
 unfold DeltaM.bdR at h2
 omega
theorem imageSize_any (x : Int) (w : World) :
   Calls Tryz.prog 145 #[.int .i64 x] w fun e w' => e = .returned (.bool (decide (0 ≤ x ∧ x ≤ 64))) ∧ w = w' := by
 by_cases h : 0 ≤ x
 · go_enter Tryz.func145, Tryz.ntmps145
   go_wp2
   go_ret
   exact ⟨by simp [h], rfl⟩
 · go_enter Tryz.func145, Tryz.ntmps145
   go_wp2
   go_ret
   exact ⟨by simp; omega, rfl⟩
theorem checkStep_any (A L : Int) (va : Option Addr) (vn vc : Nat) (D : List Int) (old : Int) (w : World) (hD : D.length = vn) (hA : I64 A) (hL : I64 L) (h0 : 0 ≤ old) (h1 : old ≤ 64) :
   Calls Tryz.prog 146 #[.agg #[.int .i64 A, .int .i64 L, .slice va vn vc], .int .i64 old] w fun e w' => e = .returned (.int .i64 (DeltaM.stepErr old ⟨A, L, D⟩)) ∧ Below w.heap.size w w' := by
 have hB1 := (Below.refl w.heap.size w).alloc (Nat.le_refl _) (.cells #[.int .i64 A, .int .i64 L, .slice va vn vc] 123)
 have HB := LH hB1
 have HV : Hid ((D.length : Int) = vn) := by show (D.length : Int) = vn; omega
 have form : DeltaM.badForm ⟨A, L, D⟩ → 3 = DeltaM.stepErr old ⟨A, L, D⟩ := fun h => by unfold DeltaM.stepErr; rw [if_pos h]
 have range : ¬ DeltaM.badForm ⟨A, L, D⟩ → DeltaM.bdR old ⟨A, L, D⟩ → 2 = DeltaM.stepErr old ⟨A, L, D⟩ := fun h h2 => by unfold DeltaM.stepErr; rw [if_neg h, if_pos h2]
 have fine : ¬ DeltaM.badForm ⟨A, L, D⟩ → ¬ DeltaM.bdR old ⟨A, L, D⟩ → 0 = DeltaM.stepErr old ⟨A, L, D⟩ := fun h h2 => by unfold DeltaM.stepErr; rw [if_neg h, if_neg h2]
 have HF := LH form
 have HR := LH range
 have HN := LH fine
 clear form range fine hB1 hD
 unfold I64 at hA hL
 obtain ⟨a1, a2⟩ := hA
 obtain ⟨l1, l2⟩ := hL
 by_cases hL0 : L = 0
 · subst hL0
   by_cases hA0 : A = 0
   · subst hA0
     by_cases hv0 : vn = 0
     · subst hv0
       have HBF : Hid (DeltaM.badForm ⟨0, 0, D⟩) := by show DeltaM.badForm _; exact .inl ⟨rfl, .inr (by simp only; rw [HV.out]; omega)⟩
       go_enter Tryz.func146, Tryz.ntmps146
       go_wp2
       go_ret
       exact ⟨ret_chk (HF.out HBF.out), HB.out⟩
     · have hvb : ((vn : Int) == 0) = false := by simp; omega
       by_cases hv64 : 64 < (vn : Int)
       · have HBF : Hid (DeltaM.badForm ⟨0, 0, D⟩) := by show DeltaM.badForm _; exact .inl ⟨rfl, .inr (by simp only; rw [HV.out]; omega)⟩
         go_enter Tryz.func146, Tryz.ntmps146
         go_wp2
         go_ret
         exact ⟨ret_chk (HF.out HBF.out), HB.out⟩
       · have HNF : Hid (¬ DeltaM.badForm ⟨0, 0, D⟩) := by show ¬ _; unfold DeltaM.badForm; simp only; rw [HV.out]; omega
         have HNR : Hid (¬ DeltaM.bdR old ⟨0, 0, D⟩) := by show ¬ _; unfold DeltaM.bdR; simp only; omega
         have hno : ¬ old < 0 := by omega
         go_enter Tryz.func146, Tryz.ntmps146
         go_wp2
         go_ret
         exact ⟨ret_chk (HN.out HNF.out HNR.out), HB.out⟩
   · have HBF : Hid (DeltaM.badForm ⟨A, 0, D⟩) := by show DeltaM.badForm _; exact .inl ⟨rfl, .inl hA0⟩
     have hAb : (A != 0) = true := by simp [hA0]
     go_enter Tryz.func146, Tryz.ntmps146
     go_wp2
     go_ret
     exact ⟨ret_chk (HF.out HBF.out), HB.out⟩
 · have hLb : (L == 0) = false := by simp [hL0]
   have hLn : (L != 0) = true := by simp [hL0]
   by_cases hv : vn = 0
   · subst hv
     have HNF : Hid (¬ DeltaM.badForm ⟨A, L, D⟩) := by show ¬ _; unfold DeltaM.badForm; simp only; rw [HV.out]; omega
     by_cases hr1 : L < 0
     · have HBR : Hid (DeltaM.bdR old ⟨A, L, D⟩) := by show DeltaM.bdR _ _; unfold DeltaM.bdR; simp only; omega
       go_enter Tryz.func146, Tryz.ntmps146
       go_wp2
       go_ret
       exact ⟨ret_chk (HR.out HNF.out HBR.out), HB.out⟩
     · by_cases hr2 : A < 0
       · have HBR : Hid (DeltaM.bdR old ⟨A, L, D⟩) := by show DeltaM.bdR _ _; unfold DeltaM.bdR; simp only; omega
         go_enter Tryz.func146, Tryz.ntmps146
         go_wp2
         go_ret
         exact ⟨ret_chk (HR.out HNF.out HBR.out), HB.out⟩
       · obtain ⟨S, hS⟩ : ∃ S : Int, old - A = S := ⟨_, rfl⟩
         by_cases hr5 : S < L
         · have HBR : Hid (DeltaM.bdR old ⟨A, L, D⟩) := by show DeltaM.bdR _ _; unfold DeltaM.bdR; simp only; omega
           go_enter Tryz.func146, Tryz.ntmps146
           go_wp2
           go_ret
           exact ⟨ret_chk (HR.out HNF.out HBR.out), HB.out⟩
         · have HNR : Hid (¬ DeltaM.bdR old ⟨A, L, D⟩) := by show ¬ _; unfold DeltaM.bdR; simp only; omega
           go_enter Tryz.func146, Tryz.ntmps146
           go_wp2
           go_ret
           exact ⟨ret_chk (HN.out HNF.out HNR.out), HB.out⟩
   · have HBF : Hid (DeltaM.badForm ⟨A, L, D⟩) := by show DeltaM.badForm _; unfold DeltaM.badForm; simp only; rw [HV.out]; omega
     have hvb : ((vn : Int) != 0) = true := by simp; omega
     go_enter Tryz.func146, Tryz.ntmps146
     go_wp2
     go_ret
     exact ⟨ret_chk (HF.out HBF.out), HB.out⟩
theorem step_block (W : World) (v0 v1 v2 : Value) : (W.alloc (.cells #[v0, v1, v2] 123)).heap[W.heap.size]? = some (.cells #[v0, v1, v2] 123 (0, 0)) := by rw [hpA, if_pos rfl]
theorem step_cells {W : World} {B : Nat} {v0 v1 v2 : Value} (h : W.heap[B]? = some (.cells #[v0, v1, v2] 123 (0, 0))) : W.cell? ⟨B, 0, none⟩ = some v0 ∧ W.cell? ⟨B, 1, none⟩ = some v1 ∧ W.cell? ⟨B, 2, none⟩ = some v2 := by
 simp [World.cell?, h]
theorem check_any (a : Option Addr) (n c : Nat) (l : List OpR) (old size : Int) (w : World) (hl : OS w a n c l) :
   Calls Tryz.prog 120 #[.slice a n c, .int .i64 old, .int .i64 size] w fun e w' => e = .returned (.int .i64 (DeltaM.check l old size)) ∧ Below w.heap.size w w' := by
 have hlen : n ≤ 9223372036854775807 := by have := hl.le; have := hl.max; omega
 by_cases h40 : 40 < n
 · have he : DeltaM.check l old size = 1 := by unfold DeltaM.check; rw [if_pos (.inl (by rw [hl.len]; exact h40))]
   rw [he]
   clear hl
   go_enter Tryz.func120, Tryz.ntmps120
   go_wp2_with fail
   go_ret
   exact ⟨rfl, Below.refl _ _⟩
 · by_cases hold : 0 ≤ old ∧ old ≤ 64
   · by_cases hsz : 0 ≤ size ∧ size ≤ 64
     · have he : DeltaM.check l old size = DeltaM.chk old size l 0 := by unfold DeltaM.check; rw [if_neg (by rw [hl.len]; omega)]
       rw [he]
       have HL := LH hl
       have HLn := LH hl.len
       obtain ⟨o1, o2⟩ := hold
       obtain ⟨s1, s2⟩ := hsz
       have d1 : decide (0 ≤ old ∧ old ≤ 64) = true := by simp; omega
       have d2 : decide (0 ≤ size ∧ size ≤ 64) = true := by simp; omega
       clear hl he
       go_enter Tryz.func120, Tryz.ntmps120
       go_wp2_with fail
       refine (imageSize_any old _).mono ?_
       rintro e w' ⟨rfl, rfl⟩
       rw [d1]
       go_wp2_with fail
       refine (imageSize_any size _).mono ?_
       rintro e w' ⟨rfl, rfl⟩
       rw [d2]
       go_wp2_with fail
       go_loopw [7, 26] (fun made i wr => ChkRel l old size w made i wr) (fun _ i _ => n - (intOf i).toNat)
       case atStart => exact ⟨0, 0, rfl, rfl, Nat.zero_le _, s1, rfl, Below.refl _ _⟩
       case round =>
         obtain ⟨m, k, rfl, rfl, hk, hm, hc, hB⟩ := hrel
         rw [HLn.out] at hk
         have HC := LH hc
         clear hc
         by_cases hlt : k < n
         · obtain ⟨b, off, rfl, hcs⟩ := (HL.out.later hB).cells (by omega)
           obtain ⟨va, vn, vc, q0, q1, q2, q3, q4, q5⟩ := hcs k hlt
           have HD := LH (drop_op l k (by rw [HLn.out]; exact hlt))
           generalize l.getD k default = o at q0 q1 q2 q3 q4 q5 HD
           obtain ⟨A, L, D⟩ := o
           have HDL := LH q3.len
           clear hcs q3
           have hB1 := hB.alloc hB.size (.cells #[.int .i64 A, .int .i64 L, .slice va vn vc] 123)
           simp only at q0 q1 q2 q4 q5
           have hA64 := LH q4
           have hL64 := LH q5
           clear q4 q5
           have HV : Hid ((D.length : Int) = vn) := by show (D.length : Int) = vn; have := HDL.out; simp only at this; omega
           have HF : Hid (∀ r : Int, DeltaM.chk old size (⟨A, L, D⟩ :: l.drop (k + 1)) m = r → r = DeltaM.chk old size l 0) := by
             show ∀ r : Int, _ → _
             intro r h
             rw [← h, ← HC.out, HD.out]
           have HSZ : Hid (DeltaM.size ⟨A, L, D⟩ = L + vn) := by show DeltaM.size ⟨A, L, D⟩ = L + vn; unfold DeltaM.size; simp only; rw [HV.out]
           have hblk := step_block wr (.int .i64 A) (.int .i64 L) (.slice va vn vc)
           have HB1 := LH hB1
           have HBLK := LH hblk
           clear hblk hB1
           go_wp2_with fail
           refine (checkStep_any A L va vn vc D old _ HDL.out hA64.out hL64.out o1 o2).mono ?_
           rintro e W2 ⟨rfl, hb2⟩
           have hB2 := bTh HB1.out hb2
           have hc2 := step_cells ((hb2.block _ (by simp)).trans HBLK.out)
           obtain ⟨-, r1, r2⟩ := hc2
           have HB2 := LH hB2
           clear hB2 hb2 HB1 HBLK q0 q1 q2
           by_cases hf : DeltaM.badForm ⟨A, L, D⟩
           · have he : DeltaM.stepErr old ⟨A, L, D⟩ = 3 := by unfold DeltaM.stepErr; rw [if_pos hf]
             rw [he]
             have HBF := LH hf
             clear hf he
             go_wp2_with fail
             go_ret
             exact ⟨ret_chk (HF.out 3 (DeltaM.chk_form HBF.out)), HB2.out⟩
           · by_cases hr : DeltaM.bdR old ⟨A, L, D⟩
             · have he : DeltaM.stepErr old ⟨A, L, D⟩ = 2 := by unfold DeltaM.stepErr; rw [if_neg hf, if_pos hr]
               rw [he]
               have HNF := LH hf
               have HBR := LH hr
               clear hf hr he
               go_wp2_with fail
               go_ret
               exact ⟨ret_chk (HF.out 2 (DeltaM.chk_range HNF.out HBR.out)), HB2.out⟩
             · have he : DeltaM.stepErr old ⟨A, L, D⟩ = 0 := by unfold DeltaM.stepErr; rw [if_neg hf, if_neg hr]
               rw [he]
               have hg := DeltaM.good_num hf hr
               simp only at hg
               rw [HV.out] at hg
               obtain ⟨g1, g2, g3⟩ := hg
               have HNF := LH hf
               have HNR := LH hr
               clear hf hr he
               obtain ⟨M, hM⟩ : ∃ M : Nat, (m : Int) + (L + vn) = M := ⟨m + (L + vn).toNat, by omega⟩
               obtain ⟨S, hS⟩ : ∃ S : Int, L + (vn : Int) = S := ⟨_, rfl⟩
               rw [hS] at hM
               by_cases hmany : size < (M : Int)
               · go_wp2_with fail
                 go_ret
                 exact ⟨ret_chk (HF.out 1 (DeltaM.chk_many HNF.out HNR.out (by rw [HSZ.out]; omega))), HB2.out⟩
               · go_wp2_with fail
                 go_roundw
                 case rel =>
                   refine ⟨M, k + 1, rfl, rfl, by rw [HLn.out]; omega, by omega, ?_, HB2.out⟩
                   have e2 : (m : Int) + DeltaM.size ⟨A, L, D⟩ = M := by rw [HSZ.out]; omega
                   rw [← HC.out, HD.out, DeltaM.chk_on HNF.out HNR.out (by rw [e2]; omega), e2]
                 case measure => simp [intOf]; omega
         · have hkl : l.drop k = [] := List.drop_eq_nil_of_le (by rw [HLn.out]; omega)
           have HE := LH hkl
           clear hkl
           by_cases hf : (m : Int) < size
           · go_wp2_with fail
             go_ret
             exact ⟨ret_chk (by rw [← HC.out, HE.out]; simp [DeltaM.chk, hf]), hB⟩
           · go_wp2_with fail
             go_ret
             exact ⟨ret_chk (by rw [← HC.out, HE.out]; simp [DeltaM.chk, hf]), hB⟩
     · have he : DeltaM.check l old size = 1 := by unfold DeltaM.check; rw [if_pos (.inr (.inr hsz))]
       rw [he]
       have d1 : decide (0 ≤ old ∧ old ≤ 64) = true := by simp only [decide_eq_true_eq]; exact hold
       have d2 : decide (0 ≤ size ∧ size ≤ 64) = false := by simp only [decide_eq_false_iff_not]; exact hsz
       clear hl he hold hsz
       go_enter Tryz.func120, Tryz.ntmps120
       go_wp2_with fail
       refine (imageSize_any old _).mono ?_
       rintro e w' ⟨rfl, rfl⟩
       rw [d1]
       go_wp2_with fail
       refine (imageSize_any size _).mono ?_
       rintro e w' ⟨rfl, rfl⟩
       rw [d2]
       go_wp2_with fail
       go_ret
       exact ⟨rfl, Below.refl _ _⟩
   · have he : DeltaM.check l old size = 1 := by unfold DeltaM.check; rw [if_pos (.inr (.inl hold))]
     rw [he]
     have d1 : decide (0 ≤ old ∧ old ≤ 64) = false := by simp only [decide_eq_false_iff_not]; exact hold
     clear hl he hold
     go_enter Tryz.func120, Tryz.ntmps120
     go_wp2_with fail
     refine (imageSize_any old _).mono ?_
     rintro e w' ⟨rfl, rfl⟩
     rw [d1]
     go_wp2_with fail
     go_ret
     exact ⟨rfl, Below.refl _ _⟩
theorem isVersion_any (x : Int) (w : World) :
   Calls Tryz.prog 118 #[.int .i64 x] w fun e w' => e = .returned (.bool (decide (1 ≤ x ∧ x ≤ 30))) ∧ w = w' := by
 by_cases h : 1 ≤ x
 · go_enter Tryz.func118, Tryz.ntmps118
   go_wp2
   go_ret
   exact ⟨by simp [h], rfl⟩
 · go_enter Tryz.func118, Tryz.ntmps118
   go_wp2
   go_ret
   exact ⟨by simp; omega, rfl⟩
theorem isSum_any (x : Int) (w : World) :
   Calls Tryz.prog 119 #[.int .i64 x] w fun e w' => e = .returned (.bool (decide (0 ≤ x ∧ x ≤ 65535))) ∧ w = w' := by
 by_cases h : 0 ≤ x
 · go_enter Tryz.func119, Tryz.ntmps119
   go_wp2
   go_ret
   exact ⟨by simp [h], rfl⟩
 · go_enter Tryz.func119, Tryz.ntmps119
   go_wp2
   go_ret
   exact ⟨by simp; omega, rfl⟩
theorem checkP_any (v : Value) (p : PatR) (w : World) (hp : PV w v p) :
   Calls Tryz.prog 76 #[v] w fun e w' => e = .returned (.int .i64 (PatM.check p)) ∧ Below w.heap.size w w' := by
 obtain ⟨a, n, c, rfl, ho, -⟩ := hp
 obtain ⟨f, t, o, nw, s, ops⟩ := p
 simp only at ho ⊢
 have hb : Below w.heap.size w (w.alloc (.cells #[.int .i64 f, .int .i64 t, .int .i64 o, .int .i64 nw, .int .i64 s, .slice a n c] 35)) := (Below.refl _ _).alloc (Nat.le_refl _) _
 by_cases h1 : 1 ≤ f ∧ f ≤ 30
 · have d1 : decide (1 ≤ f ∧ f ≤ 30) = true := decide_eq_true h1
   by_cases h2 : 1 ≤ t ∧ t ≤ 30
   · have d2 : decide (1 ≤ t ∧ t ≤ 30) = true := decide_eq_true h2
     by_cases h3 : 0 ≤ o ∧ o ≤ 65535
     · have d3 : decide (0 ≤ o ∧ o ≤ 65535) = true := decide_eq_true h3
       by_cases h4 : 0 ≤ nw ∧ nw ≤ 65535
       · have d4 : decide (0 ≤ nw ∧ nw ≤ 65535) = true := decide_eq_true h4
         have HE : Hid (PatM.check ⟨f, t, o, nw, s, ops⟩ = DeltaM.check ops 64 s) := by
           show _ = _
           unfold PatM.check
           rw [if_neg (by unfold PatM.badHead; simp only; omega)]
         have HO := LH (ho.later hb)
         have HB := LH hb
         clear h1 h2 h3 h4 ho hb
         go_enter Tryz.func76, Tryz.ntmps76
         go_wp2_with fail
         refine (isVersion_any f _).mono ?_
         rintro e w' ⟨rfl, rfl⟩
         rw [d1]
         go_wp2_with fail
         refine (isVersion_any t _).mono ?_
         rintro e w' ⟨rfl, rfl⟩
         rw [d2]
         go_wp2_with fail
         refine (isSum_any o _).mono ?_
         rintro e w' ⟨rfl, rfl⟩
         rw [d3]
         go_wp2_with fail
         refine (isSum_any nw _).mono ?_
         rintro e w' ⟨rfl, rfl⟩
         rw [d4]
         go_wp2_with fail
         refine (check_any a n c ops 64 s _ HO.out).mono ?_
         rintro e w' ⟨rfl, hb2⟩
         have hb3 := bTh HB.out hb2
         go_wp2_with fail
         go_ret
         exact ⟨ret_chk HE.out.symm, hb3⟩
       · have d4 : decide (0 ≤ nw ∧ nw ≤ 65535) = false := decide_eq_false h4
         have HE : Hid (PatM.check ⟨f, t, o, nw, s, ops⟩ = 2) := by
           show _ = _
           unfold PatM.check
           rw [if_pos (by unfold PatM.badHead; simp only; omega)]
         clear h1 h2 h3 h4 ho
         go_enter Tryz.func76, Tryz.ntmps76
         go_wp2_with fail
         refine (isVersion_any f _).mono ?_
         rintro e w' ⟨rfl, rfl⟩
         rw [d1]
         go_wp2_with fail
         refine (isVersion_any t _).mono ?_
         rintro e w' ⟨rfl, rfl⟩
         rw [d2]
         go_wp2_with fail
         refine (isSum_any o _).mono ?_
         rintro e w' ⟨rfl, rfl⟩
         rw [d3]
         go_wp2_with fail
         refine (isSum_any nw _).mono ?_
         rintro e w' ⟨rfl, rfl⟩
         rw [d4]
         go_wp2_with fail
         go_ret
         exact ⟨ret_chk HE.out.symm, hb⟩
     · have d3 : decide (0 ≤ o ∧ o ≤ 65535) = false := decide_eq_false h3
       have HE : Hid (PatM.check ⟨f, t, o, nw, s, ops⟩ = 2) := by
         show _ = _
         unfold PatM.check
         rw [if_pos (by unfold PatM.badHead; simp only; omega)]
       clear h1 h2 h3 ho
       go_enter Tryz.func76, Tryz.ntmps76
       go_wp2_with fail
       refine (isVersion_any f _).mono ?_
       rintro e w' ⟨rfl, rfl⟩
       rw [d1]
       go_wp2_with fail
       refine (isVersion_any t _).mono ?_
       rintro e w' ⟨rfl, rfl⟩
       rw [d2]
       go_wp2_with fail
       refine (isSum_any o _).mono ?_
       rintro e w' ⟨rfl, rfl⟩
       rw [d3]
       go_wp2_with fail
       go_ret
       exact ⟨ret_chk HE.out.symm, hb⟩
   · have d2 : decide (1 ≤ t ∧ t ≤ 30) = false := decide_eq_false h2
     have HE : Hid (PatM.check ⟨f, t, o, nw, s, ops⟩ = 2) := by
       show _ = _
       unfold PatM.check
       rw [if_pos (by unfold PatM.badHead; simp only; omega)]
     clear h1 h2 ho
     go_enter Tryz.func76, Tryz.ntmps76
     go_wp2_with fail
     refine (isVersion_any f _).mono ?_
     rintro e w' ⟨rfl, rfl⟩
     rw [d1]
     go_wp2_with fail
     refine (isVersion_any t _).mono ?_
     rintro e w' ⟨rfl, rfl⟩
     rw [d2]
     go_wp2_with fail
     go_ret
     exact ⟨ret_chk HE.out.symm, hb⟩
 · have d1 : decide (1 ≤ f ∧ f ≤ 30) = false := decide_eq_false h1
   have HE : Hid (PatM.check ⟨f, t, o, nw, s, ops⟩ = 2) := by
     show _ = _
     unfold PatM.check
     rw [if_pos (by unfold PatM.badHead; simp only; omega)]
   clear h1 ho
   go_enter Tryz.func76, Tryz.ntmps76
   go_wp2_with fail
   refine (isVersion_any f _).mono ?_
   rintro e w' ⟨rfl, rfl⟩
   rw [d1]
   go_wp2_with fail
   go_ret
   exact ⟨ret_chk HE.out.symm, hb⟩
end Go.Proofs.YtmpmaljkmfgagacGreat
namespace Go.Proofs.YtmpmaljkmfgagacGreat
open Go.RowKit
open SumM
theorem take_snoc (zs : List Int) (k : Nat) (h : k < zs.length) : zs.take (k + 1) = zs.take k ++ [zs[k]?.getD 0] := by
 rw [List.take_succ_eq_append_getElem h]; simp [List.getElem?_eq_getElem h]
theorem add_any (s : Int) (a : Option Addr) (n c : Nat) (l : List Int) (w : World) (hs0 : 0 ≤ s) (hs1 : s ≤ 65520) (hr : BS w a n c l) :
   Calls Tryz.prog 81 #[.int .i64 s, .slice a n c] w fun e w' => e = .returned (.int .i64 (addL s l)) ∧ w = w' := by
 have hlen : n ≤ 9223372036854775807 := by have := hr.le; have := hr.max; omega
 have hl := LH hr.len
 have hbyte := hr.byte
 have hcells := hr.cells
 clear hr
 go_enter Tryz.func81, Tryz.ntmps81
 go_wp2
 go_loop [0, 9] (fun t i => ∃ k : Nat, k ≤ n ∧ i = .int .i64 k ∧ t = .int .i64 (addL s (l.take k))) (fun _ i => n - (intOf i).toNat)
 case atStart => exact ⟨0, Nat.zero_le _, rfl, by simp [addL]⟩
 case round =>
   obtain ⟨k, hk, rfl, rfl⟩ := hrel
   have hb := addL_bd (l.take k) s hs0 hs1
   by_cases hlt : k < n
   · obtain ⟨b, off, rfl, hc⟩ := hcells (by omega)
     have hck := hc k (by omega)
     have hby := hbyte k
     have hsn := LH (take_snoc l k (by rw [hl.out]; omega))
     clear hc hbyte hcells
     go_wp2
     go_round
     case rel => exact ⟨k + 1, by omega, by go_num, by rw [hsn.out, addL_snoc]⟩
     case measure => simp [intOf]; omega
   · clear hbyte hcells
     go_wp2
     go_ret
     exact ⟨ret_int (by rw [List.take_of_length_le (by rw [hl.out]; omega)]), rfl⟩
theorem of_any (a : Option Addr) (n c : Nat) (l : List Int) (w : World) (hr : BS w a n c l) :
   Calls Tryz.prog 36 #[.slice a n c] w fun e w' => e = .returned (.int .i64 (addL 1 l)) ∧ w = w' := by
 go_enter Tryz.func36, Tryz.ntmps36
 go_wp2_with (go_at_call 81; refine (add_any 1 a n c l _ (by omega) (by omega) hr).mono ?_; rintro e w' ⟨rfl, rfl⟩)
 go_ret
 exact ⟨rfl, rfl⟩
end Go.Proofs.YtmpmaljkmfgagacGreat
namespace Go.Proofs.YtmpmaljkmfgagacGreat
open Go.RowKit
theorem bytesClone_any (a : Option Addr) (n c : Nat) (l : List Int) (w : World) (hs : BS w a n c l) (hn : n ≤ 140737488355328) :
   Calls Tryz.prog 79 #[.slice a n c] w (GivesB w l) := by
 have hq := fun (A : Option Addr) (n c : Nat) (w : World) => Lib.run_eql_slice_nil (P := Tryz.prog) w 22 5 A n c 0 0 Tryz.underlying22
 cases a with
 | none =>
   have hc := hs.none_ rfl
   subst hc
   obtain rfl : n = 0 := by have := hs.le; omega
   obtain rfl : l = [] := List.eq_nil_of_length_eq_zero hs.len
   go_enter Tryz.func79, Tryz.ntmps79
   go_wp2
   go_ret
   exact ⟨none, 0, 0, rfl, World.ownsRow_nil _ _ _ _, Below.refl _ _⟩
 | some ad =>
   have hown := World.ownsRow_lit (base := w.heap.size) (e := 5) (size := 1) w #[] 0 (Nat.le_refl _) (by unfold maxLen; omega) rfl
   have hb1 := (Below.refl w.heap.size w).alloc (Nat.le_refl _) (.cells #[] 5)
   obtain ⟨a', c', w', hrun, hown', hg⟩ := app_run (l := []) hown (hs.later hb1) (by omega) (by simp)
   have hb' := hb1.grown hg (by simp) (fun g hg => (hown.lt g hg).1)
   have HO := LH hown'
   clear hown' hown
   go_enter Tryz.func79, Tryz.ntmps79
   go_wp2_with (at_builtin; refine Lib.wpList_append_run _ rfl _ _ _ _ rfl _ _ rfl rfl _ _ hrun ?_)
   go_ret
   exact ⟨a', n, c', rfl, by simpa using HO.out, hb'⟩
structure FSt (w0 : World) (B0 B1 B2 : Nat) (a : Option Addr) (n c : Nat) (vo : Value) (out : List OpR) (dn : Nat) (W : World) : Prop where
 c0 : W.heap[B0]? = some (.cells #[.slice a n c] 22 (0, 0))
 c1 : W.heap[B1]? = some (.cells #[vo] 33 (0, 0))
 c2 : W.heap[B2]? = some (.cells #[.int .i64 (dn : Int)] 3 (0, 0))
 o : OutSt W (B2 + 1) none vo out
 below : Below w0.heap.size w0 W
 le0 : w0.heap.size ≤ B0
 le1 : B0 < B1
 le2 : B1 < B2
section
variable {w0 : World} {B0 B1 B2 : Nat} {a : Option Addr} {n c : Nat} {vo : Value} {out : List OpR} {dn : Nat} {W W' : World}
theorem FSt.later (h : FSt w0 B0 B1 B2 a n c vo out dn W) (hb : Below W.heap.size W W') : FSt w0 B0 B1 B2 a n c vo out dn W' :=
 ⟨(hb.block _ (lt_blk h.c0)).trans h.c0, (hb.block _ (lt_blk h.c1)).trans h.c1, (hb.block _ (lt_blk h.c2)).trans h.c2, h.o.later hb, bTh h.below hb, h.le0, h.le1, h.le2⟩
theorem FSt.set_ (h : FSt w0 B0 B1 B2 a n c vo out dn W) (t : Nat) : FSt w0 B0 B1 B2 a n c vo out t (W.setCell ⟨B2, 0, none⟩ (.int .i64 (t : Int))) :=
 ⟨(Below.heap_setCell W _ _ B0 (by have := h.le1; have := h.le2; show B0 ≠ B2; omega)).trans h.c0, (Below.heap_setCell W _ _ B1 (by have := h.le2; show B1 ≠ B2; omega)).trans h.c1, set_blk h.c2 _,
   h.o.set (by show B2 < B2 + 1; omega) _, h.below.setCell (by show w0.heap.size ≤ B2; have := h.le0; have := h.le1; have := h.le2; omega) _, h.le0, h.le1, h.le2⟩
theorem FSt.app (h : FSt w0 B0 B1 B2 a n c vo out dn W) (A L : Int) {ad : Option Addr} {m cd : Nat} {d : List Int} (hd : BS W ad m cd d) (hap : ∀ p, ad = some p → B2 < p.block ∧ p.block < W.heap.size ∧ some p.block ≠ vo.ownBlock)
   (hA : I64 A) (hL : I64 L) (hk : out.length ≤ 1000) :
   ∃ g cap W5, (Builtin.append_ #[33, 33] 33 #[vo, .slice (some ⟨W.heap.size, 0, none⟩) 1 1]).run Tryz.prog (W.alloc (.cells #[.int .i64 A, .int .i64 L, .slice ad m cd] 123)) = .ok (.slice (some ⟨g, 0, none⟩) (out.length + 1) cap) W5 ∧
     W5.cell? ⟨B1, 0, none⟩ = some vo ∧ W5.frozen? ⟨B1, 0, none⟩ = false ∧ W5.cell? ⟨B0, 0, none⟩ = some (.slice a n c) ∧ W5.cell? ⟨B2, 0, none⟩ = some (.int .i64 (dn : Int)) ∧
     Hid (FSt w0 B0 B1 B2 a n c (.slice (some ⟨g, 0, none⟩) (out.length + 1) cap) (out ++ [⟨A, L, d⟩]) dn (W5.setCell ⟨B1, 0, none⟩ (.slice (some ⟨g, 0, none⟩) (out.length + 1) cap))) := by
 have hl0 := lt_blk h.c0
 have hl1 := lt_blk h.c1
 have hl2 := lt_blk h.c2
 have hle1 := h.le1
 have hle2 := h.le2
 have hbl : Below W.heap.size W (W.alloc (.cells #[.int .i64 A, .int .i64 L, .slice ad m cd] 123)) := (Below.refl _ _).alloc (Nat.le_refl _) _
 have hsz := hbl.size
 have h2 := h.later hbl
 obtain ⟨g, cap, W5, hr, hO, hg, hlies⟩ := h2.o.app (B := W.heap.size) (A := A) (L := L) (a := ad) (n := m) (c := cd) (d := d) (by rw [hpA, if_pos rfl]) (hd.later hbl) (fun p hp => by
   have := hap p hp
   exact ⟨by omega, by omega, this.2.2, by simp⟩) hA hL hk (by omega)
 have far : ∀ k, k < B2 + 1 → some k ≠ vo.ownBlock := by
   intro k hk2 e
   obtain ⟨⟨vs, _, q, _⟩, _⟩ := h.o
   have := (oL3 q e.symm).1
   omega
 have e0 := (hg.block B0 (by omega) (far _ (by omega))).trans h2.c0
 have e1 := (hg.block B1 (by omega) (far _ (by omega))).trans h2.c1
 have e2 := (hg.block B2 (by omega) (far _ (by omega))).trans h2.c2
 refine ⟨g, cap, W5, hr, cell_blk e1, frozen_blk e1, cell_blk e0, cell_blk e2, ?_⟩
 have hB5 := h2.below.grown hg h2.below.size (fun g' hg' => by
   obtain ⟨⟨vs, _, q, _⟩, _⟩ := h.o
   have := (oL3 q hg').1
   have := h.le0
   omega)
 exact ⟨(Below.heap_setCell W5 _ _ B0 (by show B0 ≠ B1; omega)).trans e0, set_blk e1 _, (Below.heap_setCell W5 _ _ B2 (by show B2 ≠ B1; omega)).trans e2, hO.set (by show B1 < B2 + 1; omega) _,
   hB5.setCell (by show w0.heap.size ≤ B1; have := h.le0; omega) _, h.le0, h.le1, h.le2⟩
end
theorem newer {w0 : World} {B0 B1 B2 : Nat} {a : Option Addr} {n c : Nat} {vo : Value} {out : List OpR} {dn : Nat} {W W2 : World} (h : FSt w0 B0 B1 B2 a n c vo out dn W) {p : Addr} {m cd k : Nat} {xs : List Value} (ho : W2.ownsRow W.drew.heap.size 5 1 (.slice (some p) m cd) k xs) :
   B2 < p.block ∧ p.block < W2.heap.size ∧ some p.block ≠ vo.ownBlock := by
 have h1 := oL3 ho (g := p.block) rfl
 have h2 := lt_blk h.c2
 have h3 : W.heap.size ≤ p.block := h1.1
 refine ⟨by omega, h1.2, fun e => ?_⟩
 obtain ⟨⟨vs, _, q, _⟩, _⟩ := h.o
 have := (oL3 q e.symm).2
 omega
def InsertTo (w0 : World) (B0 B1 B2 : Nat) (a : Option Addr) (n c : Nat) (out : List OpR) (pl : List Int) (t : Nat) (e : Ending) (W' : World) : Prop :=
 e = .returned (.tuple #[]) ∧ ∃ vo', FSt w0 B0 B1 B2 a n c vo' (out ++ DeltaM.flushL pl) t W'
theorem insert_any {w0 : World} {B0 B1 B2 : Nat} {a : Option Addr} {n c : Nat} {vo : Value} {out : List OpR} {dn : Nat} {y : List Int} {W : World} (t : Nat) (h : FSt w0 B0 B1 B2 a n c vo out dn W) (hy : BS w0 a n c y)
   (hdt : dn ≤ t) (htn : t ≤ n) (hn : n ≤ 64) (hk : out.length ≤ 1000) :
   Calls Tryz.prog 116 #[.int .i64 (t : Int), .pointer (some ⟨B2, 0, none⟩), .pointer (some ⟨B1, 0, none⟩), .pointer (some ⟨B0, 0, none⟩)] W (InsertTo w0 B0 B1 B2 a n c out ((y.drop dn).take (t - dn)) t) := by
 have k0 := cell_blk h.c0
 have k1 := cell_blk h.c1
 have k2 := cell_blk h.c2
 have HH := LH h
 by_cases hlt : dn < t
 · obtain ⟨D, hD⟩ : ∃ D : Nat, t - dn = D := ⟨_, rfl⟩
   have hyl := hy.le
   have hcut : ∀ W, (Instr.slice 22 (.slice a n c) (some (.int .i64 dn)) (some (.int .i64 t)) none).run Tryz.prog W = .ok (.slice (cutA a c dn) (t - dn) (c - dn)) W := fun W => run_cut_lh a n c W dn t hdt (by omega)
   have hsrc := (hy.mid dn t hdt htn).later h.below
   have hpl : ((y.drop dn).take (t - dn)).length = t - dn := by have := hy.len; simp; omega
   rw [hD] at hsrc hpl
   simp only [hD] at hcut
   have HF : Hid (DeltaM.flushL ((y.drop dn).take D) = [⟨0, 0, (y.drop dn).take D⟩]) := by
     show DeltaM.flushL _ = _
     unfold DeltaM.flushL
     rw [if_neg (by intro e; rw [e] at hpl; simp at hpl; omega)]
   rw [hD]
   have hbt := hsrc.bytes
   generalize (y.drop dn).take D = pl at hsrc hpl HF hbt
   generalize cutA a c dn = A3 at hcut hsrc
   generalize c - dn = C3 at hcut hsrc
   have HS := LH hsrc
   have HCL := LH (fun W => bytesClone_any A3 D C3 pl W)
   have HBT := LH hbt
   have hDs : D ≤ 140737488355328 := by omega
   have hk1 : W.drew.cell? ⟨B1, 0, none⟩ = some vo := k1
   have hk0 : W.drew.cell? ⟨B0, 0, none⟩ = some (.slice a n c) := k0
   have hk2 : W.drew.cell? ⟨B2, 0, none⟩ = some (.int .i64 dn) := k2
   obtain ⟨M, hM⟩ : ∃ M, out.length = M := ⟨_, rfl⟩
   have HM := LH hM
   rw [hM] at hk
   clear h hsrc hpl hbt hD hM hy hyl
   go_enter Tryz.func116, Tryz.ntmps116
   go_wp2
   go_region_law (first
     | (refine step_append_run rfl (.tmp 8) (.tmp 15) 33 33 rfl vo (.slice (some ⟨W2.heap.size, 0, none⟩) 1 1) (by simp [Act.eval]) (by simp [Act.eval]) _ _ hrun ?_)
     | (go_simp; go_at_call 79; refine (HCL.out _ (HS.out.later (Below.refl _ _).drew) hDs).mono ?_; rintro e W2 ⟨ac, nc, cc, rfl, hown, hb⟩
        have h2 := (HH.out.later (Below.refl _ _).drew).later hb
        have p0 := cell_blk h2.c0
        have p1 := cell_blk h2.c1
        have p2 := cell_blk h2.c2
        have hba : Below W2.heap.size W2 (W2.alloc (.cells #[.int .i64 0, .int .i64 0, .slice ac nc cc] 123)) := (Below.refl _ _).alloc (Nat.le_refl _) _
        have q0 := cell_blk (h2.later hba).c0
        have q1 := cell_blk (h2.later hba).c1
        have q2 := cell_blk (h2.later hba).c2
        have happ := h2.app 0 0 (BS.of_own hown HBT.out) (fun p hp => by subst hp; exact newer HH.out hown) (by unfold I64; omega) (by unfold I64; omega) (by rw [HM.out]; exact hk)
        rw [HM.out] at happ
        obtain ⟨g, cap, W5, hrun, k5, f5, k50, k52, HS5⟩ := happ
        clear h2 hown hb hba))
   all_goals
     generalize W5.setCell ⟨B1, 0, none⟩ (.slice (some ⟨g, 0, none⟩) (M + 1) cap) = W8 at HS5 ⊢
     clear k5 f5 k50 k52 hrun W5 p0 p1 p2 q0 q1 q2 k0 k1 k2 hk0 hk1 hk2
     have r2 := cell_blk HS5.out.c2
     have f2 := frozen_blk HS5.out.c2
     go_wp2
     go_end0
     exact ⟨rfl, _, by rw [HF.out]; exact HS5.out.set_ t⟩
 · obtain rfl : dn = t := by omega
   go_enter Tryz.func116, Tryz.ntmps116
   go_wp2
   go_end0
   exact ⟨rfl, vo, by rw [Nat.sub_self, List.take_zero, show out ++ DeltaM.flushL [] = out by simp [DeltaM.flushL]]; exact HH.out⟩
theorem ret_ag {a b : Int} (h : a = b) : Ending.returned (.int .i64 a) = .returned (.int .i64 b) := by rw [h]
theorem agreeing_any (a a' : Option Addr) (n c n' c' : Nat) (x y : List Int) (w : World) (hx : BS w a n c x) (hy : BS w a' n' c' y) :
   Calls Tryz.prog 144 #[.slice a n c, .slice a' n' c'] w fun e w' => e = .returned (.int .i64 (MatchM.ag x y)) ∧ DrewN w w' := by
 have hlen : n ≤ 9223372036854775807 := by have := hx.le; have := hx.max; omega
 have hlen' : n' ≤ 9223372036854775807 := by have := hy.le; have := hy.max; omega
 have hl := LH hx.len
 have hl' := LH hy.len
 have hcells := hx.cells
 have hcells' := hy.cells
 clear hx hy
 go_enter Tryz.func144, Tryz.ntmps144
 go_wp2
 go_loopw [5] (fun i wr => ∃ k : Nat, k ≤ n ∧ k ≤ n' ∧ i = .int .i64 k ∧ Hid (∀ j, j < k → x[j]?.getD 0 = y[j]?.getD 0) ∧ DrewN w wr) (fun i _ => n - (intOf i).toNat)
 case atStart => exact ⟨0, Nat.zero_le _, Nat.zero_le _, rfl, LH (fun j hj => absurd hj (by omega)), 0, rfl⟩
 case round =>
   obtain ⟨k, hk, hk2, rfl, HE, nq, rfl⟩ := hrel
   by_cases hlt : k < n
   · have hd1 : decide (k < n) = true := by simp; omega
     by_cases hlt' : k < n'
     · obtain ⟨b, off, rfl, hc⟩ := hcells (by omega)
       obtain ⟨b', off', rfl, hc'⟩ := hcells' (by omega)
       have hck := hc k (by omega)
       have hck' := hc' k (by omega)
       have hd2 : decide (k < n') = true := by simp; omega
       by_cases heq : x[k]?.getD 0 = y[k]?.getD 0
       · have HQ := LH heq
         rw [heq] at hck
         clear hc hcells hc' hcells' heq
         go_wp2
         go_quiet (fail)
         go_wp2
         go_roundw
         case rel => exact ⟨k + 1, by omega, by omega, by go_num, LH (fun j hj => by
           rcases Nat.lt_or_ge j k with h | h
           · exact HE.out j h
           · obtain rfl : j = k := by omega
             exact HQ.out), _, rfl⟩
         case measure => simp [intOf]; omega
       · have hb : (x[k]?.getD 0 == y[k]?.getD 0) = false := by simpa using heq
         have HQ := LH heq
         clear hc hcells hc' hcells' heq
         go_wp2
         go_quiet (fail)
         go_wp2
         go_ret
         exact ⟨ret_ag (by rw [MatchM.ag_eq k x y (by rw [hl.out]; omega) (by rw [hl'.out]; omega) HE.out (.inr (.inr HQ.out))]), DrewN.more _ _ _⟩
     · have hd : decide (k < n') = false := by simp; omega
       clear hcells hcells'
       go_wp2
       go_quiet (fail)
       go_wp2
       go_ret
       exact ⟨ret_ag (by rw [MatchM.ag_eq k x y (by rw [hl.out]; omega) (by rw [hl'.out]; omega) HE.out (.inr (.inl (by rw [hl'.out]; omega)))]), DrewN.more _ _ _⟩
   · have hd : decide (k < n) = false := by simp; omega
     clear hcells hcells'
     go_wp2
     go_quiet (fail)
     go_wp2
     go_ret
     exact ⟨ret_ag (by rw [MatchM.ag_eq k x y (by rw [hl.out]; omega) (by rw [hl'.out]; omega) HE.out (.inl (by rw [hl.out]; omega))]), DrewN.more _ _ _⟩
theorem quiet_drew {P : Program} {f : FuncId} {args : Array Value} {w : World} {q n : Nat} {v : Value} (h : Calls P f args (w.drewN (q + n)) fun e w' => e = .returned v ∧ DrewN (w.drewN (q + n)) w') :
   Calls P f args (w.drewN (q + n)) fun e w'' => e = .returned v ∧ ∃ m, w'' = w.drewN (q + m) := h.mono fun _ _ ⟨he, m, hm⟩ => ⟨he, n + m, by rw [hm, World.drewN_drewN, Nat.add_assoc]⟩
def GivesM (old s : List Int) (w : World) (e : Ending) (w' : World) : Prop :=
 ∃ i n : Nat, MatchM.Best old s i n ∧ e = .returned (.tuple #[.int .i64 i, .int .i64 n, .int .i64 0]) ∧ DrewN w w'
def LongRel (old s : List Int) (w : World) (st len i : Value) (wr : World) : Prop :=
 ∃ k j n : Nat, i = .int .i64 k ∧ st = .int .i64 j ∧ len = .int .i64 n ∧ k ≤ old.length ∧ n ≤ 64 ∧ MatchM.Upto old s k j n ∧ DrewN w wr
theorem longest_any (a a' : Option Addr) (n c n' c' : Nat) (x y : List Int) (at_ : Nat) (w : World) (hx : BS w a n c x) (hy : BS w a' n' c' y) (hn : n ≤ 64) (hn' : n' ≤ 64) (hat : at_ ≤ n') :
   Calls Tryz.prog 117 #[.slice a n c, .slice a' n' c', .int .i64 at_] w (GivesM x (y.drop at_) w) := by
 have HX := LH hx
 have HY := LH (hy.cut at_ hat)
 have HL := LH hx.len
 have hcut : ∀ W, (Instr.slice 22 (.slice a' n' c') (some (.int .i64 at_)) none none).run Tryz.prog W = .ok (.slice (cutA a' c' at_) (n' - at_) (c' - at_)) W := fun W => run_cut_l a' n' c' W at_ hat
 generalize cutA a' c' at_ = A' at HY hcut
 have HM : Hid (∀ j, MatchM.ag (x.drop j) (y.drop at_) ≤ 64) := by
   show ∀ j, _
   intro j
   have := MatchM.ag_le_l (x.drop j) (y.drop at_)
   have := hx.len
   simp at *
   omega
 clear hx hy
 go_enter Tryz.func117, Tryz.ntmps117
 go_wp2
 go_loopw [9, 10, 33] (fun st len i wr => LongRel x (y.drop at_) w st len i wr) (fun _ _ i _ => n - (intOf i).toNat)
 case atStart => exact ⟨0, 0, 0, rfl, rfl, rfl, Nat.zero_le _, by omega, MatchM.Upto.start _ _, 0, rfl⟩
 case round =>
   obtain ⟨k, j, m, rfl, rfl, rfl, hk, hm, hu, nq, rfl⟩ := hrel
   rw [HL.out] at hk
   have HU := LH hu
   clear hu
   by_cases hlt : k < n
   · have hcut2 : ∀ W, (Instr.slice 22 (.slice a n c) (some (.int .i64 k)) none none).run Tryz.prog W = .ok (.slice (cutA a c k) (n - k) (c - k)) W := fun W => run_cut_l a n c W k (by omega)
     have hag := fun W => agreeing_any (cutA a c k) A' (n - k) (c - k) (n' - at_) (c' - at_) (x.drop k) (y.drop at_) W
     have HX2 := LH (HX.out.cut k (by omega))
     have hv := HM.out k
     obtain ⟨V, hV⟩ : ∃ V, MatchM.ag (x.drop k) (y.drop at_) = V := ⟨_, rfl⟩
     have HVE := LH hV
     rw [hV] at hv hag
     clear hV
     generalize cutA a c k = A at hcut2 hag HX2
     have HAG := LH hag
     clear hag
     by_cases hgt : m < V
     · go_wp2
       go_quiet (exact quiet_drew (HAG.out _ (HX2.out.drewN _) (HY.out.drewN _)))
       go_wp2
       go_roundw
       case rel => exact ⟨k + 1, k, V, by go_num, rfl, rfl, by rw [HL.out]; omega, hv, by have := HU.out.more (by rw [HVE.out]; exact hgt); rwa [HVE.out] at this, _, rfl⟩
       case measure => simp [intOf]; omega
     · go_wp2
       go_quiet (exact quiet_drew (HAG.out _ (HX2.out.drewN _) (HY.out.drewN _)))
       go_wp2
       go_roundw
       case rel => exact ⟨k + 1, j, m, by go_num, rfl, rfl, by rw [HL.out]; omega, hm, HU.out.same (by rw [HVE.out]; exact hgt), _, rfl⟩
       case measure => simp [intOf]; omega
   · go_wp2
     go_ret3
     have hkn : k = x.length := by rw [HL.out]; omega
     exact ⟨j, m, (hkn ▸ HU.out).best, rfl, nq, rfl⟩
def waits (y : List Int) (dn j : Nat) : List Int := (y.drop dn).take (j - dn)
theorem waits_more (y : List Int) {dn j : Nat} (h : dn ≤ j) (hj : j < y.length) : waits y dn (j + 1) = waits y dn j ++ [y[j]?.getD 0] := by
 unfold waits
 rw [show j + 1 - dn = (j - dn) + 1 by omega, List.take_add_one, List.getElem?_drop, show dn + (j - dn) = j by omega, List.getElem?_eq_getElem hj]
 simp
theorem waits_none (y : List Int) (j : Nat) : waits y j j = [] := by unfold waits; simp
def DifRel (old b : List Int) (w : World) (B0 B1 B2 : Nat) (a : Option Addr) (n c : Nat) (i : Value) (wr : World) : Prop :=
 ∃ (j dn : Nat) (vo : Value) (out : List OpR), i = .int .i64 j ∧ j ≤ b.length ∧ dn ≤ j ∧ FSt w B0 B1 B2 a n c vo out dn wr ∧ (∀ o, DeltaM.Dif old (b.drop j) (waits b dn j) o → DeltaM.Dif old b [] (out ++ o)) ∧ out.length ≤ 2 * dn
theorem diff_any (a a' : Option Addr) (n c n' c' : Nat) (x y : List Int) (w : World) (hx : BS w a n c x) (hy : BS w a' n' c' y) (hn : n ≤ 64) (hn' : n' ≤ 64) :
   Calls Tryz.prog 75 #[.slice a n c, .slice a' n' c'] w (GivesD x y w) := by
 have HX := LH hx
 have HY := LH hy
 have HL := LH hy.len
 obtain ⟨B0, hB0⟩ : ∃ B0, w.heap.size = B0 := ⟨_, rfl⟩
 have hst : Hid (FSt w B0 (B0 + 1) (B0 + 2) a' n' c' (.slice none 0 0) [] 0 (((w.alloc (.cells #[.slice a' n' c'] 22)).alloc (.cells #[.slice none 0 0] 33)).alloc (.cells #[.int .i64 0] 3))) := by
   subst hB0
   have e : (w.alloc (.cells #[.slice a' n' c'] 22)).heap.size = w.heap.size + 1 := by simp
   have e2 : ((w.alloc (.cells #[.slice a' n' c'] 22)).alloc (.cells #[.slice none 0 0] 33)).heap.size = w.heap.size + 2 := by simp
   refine ⟨?_, ?_, ?_, OutSt.start _ _ _ (fun g hg => by cases hg), (((Below.refl _ _).alloc (Nat.le_refl _) _).alloc (by rw [e]; omega) _).alloc (by rw [e2]; omega) _, Nat.le_refl _, by omega, by omega⟩
   · rw [hpA, if_neg (by rw [e2]; omega), hpA, if_neg (by rw [e]; omega), hpA, if_pos rfl]
   · rw [hpA, if_neg (by rw [e2]; omega), hpA, if_pos e.symm]
   · rw [hpA, if_pos e2.symm]
     rfl
 clear hx hy
 go_enter Tryz.func75, Tryz.ntmps75
 go_wp2_with fail
 generalize ((w.alloc (.cells #[.slice a' n' c'] 22)).alloc (.cells #[.slice none 0 0] 33)).alloc (.cells #[.int .i64 0] 3) = W0 at hst ⊢
 go_loopw [9] (fun i wr => DifRel x y w B0 (B0 + 1) (B0 + 2) a' n' c' i wr) (fun i _ => n' - (intOf i).toNat)
 case atStart => exact ⟨0, 0, _, [], rfl, Nat.zero_le _, Nat.le_refl _, hst.out, fun o h => h, by simp⟩
 case round =>
   obtain ⟨j, dn, vo, out, rfl, hj, hdj, hs, hu, hbd⟩ := hrel
   rw [HL.out] at hj
   have HS := LH hs
   have HU := LH hu
   have k0 := cell_blk hs.c0
   clear hs hu
   by_cases hlt : j < n'
   · go_wp2_with fail
     refine (longest_any a a' n c n' c' x y j _ (HX.out.later HS.out.below) (HY.out.later HS.out.below) hn hn' (by omega)).mono ?_
     rintro e W1 ⟨i, m, hbest, rfl, hd⟩
     have HS1 := LH (HS.out.later hd.below)
     have hrm := hbest.room
     rw [HX.out.len, List.length_drop, HL.out] at hrm
     have HBest := LH hbest
     clear hbest hd HS k0
     by_cases h3 : 3 < m
     · have hm4 : ¬ (m : Int) < 4 := by omega
       go_wp2_with fail
       refine (insert_any j HS1.out HY.out hdj (by omega) hn' (by omega)).mono ?_
       rintro e W2 ⟨rfl, vo2, hs2⟩
       have hfl := flushL_len ((y.drop dn).take (j - dn))
       have hol : (out ++ DeltaM.flushL ((y.drop dn).take (j - dn))).length ≤ 2 * dn + 1 := by rw [List.length_append]; omega
       have HU2 : Hid (∀ o, DeltaM.Dif x ((y.drop j).drop m) [] o → DeltaM.Dif x y [] ((out ++ DeltaM.flushL ((y.drop dn).take (j - dn))) ++ ⟨i, m, []⟩ :: o)) := by
         show ∀ o, _ → _
         intro o ho
         have := HU.out _ (.copy (y.drop j) _ i m o HBest.out h3 ho)
         rwa [List.append_assoc]
       generalize out ++ DeltaM.flushL ((y.drop dn).take (j - dn)) = out2 at hs2 hol HU2
       obtain ⟨g, cap, W5, hrun, k5, f5, k50, k52, HS5⟩ := hs2.app i m (BS.nil_ _) (fun p hp => by cases hp) (by unfold I64; omega) (by unfold I64; omega) (by omega)
       have k1 := cell_blk hs2.c1
       obtain ⟨J, hJ⟩ : ∃ J : Nat, (j : Int) + m = J := ⟨j + m, by omega⟩
       have HJ : Hid (j + m = J) := by show j + m = J; omega
       have hJn : J ≤ n' := by omega
       have k6 := cell_blk HS5.out.c2
       have f6 := frozen_blk HS5.out.c2
       clear hs2 HS1
       go_wp2_with (at_builtin; refine Lib.wpList_append_run _ rfl _ _ _ _ rfl _ _ rfl rfl _ _ hrun ?_)
       go_roundw
       case rel =>
         refine ⟨J, J, _, out2 ++ [⟨i, m, []⟩], rfl, by rw [HL.out]; exact hJn, Nat.le_refl _, HS5.out.set_ J, ?_, ?_⟩
         · intro o ho
           rw [waits_none] at ho
           have := HU2.out o (by rw [List.drop_drop, HJ.out]; exact ho)
           simpa using this
         · simp only [List.length_append, List.length_cons, List.length_nil]
           omega
       case measure => simp [intOf]; omega
     · have hm4 : (m : Int) < 4 := by omega
       obtain ⟨J, hJ⟩ : ∃ J : Nat, (j : Int) + 1 = J := ⟨j + 1, by omega⟩
       have HJ : Hid (j + 1 = J) := by show j + 1 = J; omega
       have HD := LH (drop_byte y j (by rw [HL.out]; exact hlt))
       have HU2 : Hid (∀ o, DeltaM.Dif x (y.drop J) (waits y dn J) o → DeltaM.Dif x y [] (out ++ o)) := by
         show ∀ o, _ → _
         intro o ho
         refine HU.out o ?_
         have hb := HBest.out
         rw [← HJ.out, waits_more y hdj (by rw [HL.out]; exact hlt)] at ho
         rw [HD.out] at hb ⊢
         exact .lit _ _ _ i m o hb (by omega) ho
       have hJn : J ≤ n' := by omega
       go_wp2_with fail
       go_roundw
       case rel => exact ⟨J, dn, _, out, rfl, by rw [HL.out]; exact hJn, by omega, HS1.out, HU2.out, hbd⟩
       case measure => simp [intOf]; omega
   · obtain rfl : j = n' := by omega
     go_wp2_with fail
     refine (insert_any j HS.out HY.out hdj (by omega) hn' (by omega)).mono ?_
     rintro e W2 ⟨rfl, vo2, hs2⟩
     have hfl := flushL_len ((y.drop dn).take (j - dn))
     have k1 := cell_blk hs2.c1
     obtain ⟨ar, cr, rfl, hos⟩ := hs2.o.os
     have HOS := LH hos
     have HON := LH (hs2.o.osn.mono (lo' := w.heap.size) (by have := hs2.le0; have := hs2.le1; have := hs2.le2; omega))
     have HBL := LH hs2.below
     have hdif := HU.out (DeltaM.flushL ((y.drop dn).take (j - dn))) (by rw [List.drop_eq_nil_of_le (by rw [HL.out]; omega)]; exact .done _)
     have HDif := LH hdif
     have HLen : Hid ((out ++ DeltaM.flushL ((y.drop dn).take (j - dn))).length ≤ 200) := by show _ ≤ 200; rw [List.length_append]; omega
     clear hs2 hos hdif
     generalize out ++ DeltaM.flushL ((y.drop dn).take (j - dn)) = out2 at *
     go_wp2_with fail
     go_ret2
     exact ⟨out2, ar, _, cr, HDif.out, rfl, HOS.out, ⟨HLen.out, HON.out⟩, HBL.out⟩
theorem makeP_any (fr to : Int) (a a' : Option Addr) (n c n' c' : Nat) (x y : List Int) (w : World) (hx : BS w a n c x) (hy : BS w a' n' c' y) (hn : n ≤ 64) (hn' : n' ≤ 64) (hf : I64 fr) (ht : I64 to) :
   Calls Tryz.prog 24 #[.int .i64 fr, .int .i64 to, .slice a n c, .slice a' n' c'] w fun e w' => ∃ ops, DeltaM.Dif x y [] ops ∧ GivesPN (fun _ => True) (madeOf fr to x y ops 0) w e w' := by
 have hb0 : Below w.heap.size w (w.alloc (.cells #[.int .i64 0, .int .i64 0, .int .i64 0, .int .i64 0, .int .i64 0, .slice none 0 0] 35)) := (Below.refl _ _).alloc (Nat.le_refl _) _
 have e0 : (w.alloc (.cells #[.int .i64 0, .int .i64 0, .int .i64 0, .int .i64 0, .int .i64 0, .slice none 0 0] 35)).heap.size = w.heap.size + 1 := by simp
 have hB0 : (w.alloc (.cells #[.int .i64 0, .int .i64 0, .int .i64 0, .int .i64 0, .int .i64 0, .slice none 0 0] 35)).heap[w.heap.size]? = some (.cells #[.int .i64 0, .int .i64 0, .int .i64 0, .int .i64 0, .int .i64 0, .slice none 0 0] 35 (0, 0)) := by rw [hpA, if_pos rfl]
 obtain ⟨B, hBw⟩ : ∃ B, w.heap.size = B := ⟨_, rfl⟩
 have HBW := LH hBw
 rw [hBw] at hB0 e0
 have hx0 := hx.later hb0
 have hy0 := hy.later hb0
 have HX := LH hx
 have HY := LH hy
 have HLY := LH hy.len
 have HF : Hid (I64 fr ∧ I64 to) := ⟨hf, ht⟩
 clear hx hy hf ht
 have HS := LH (SumM.addL_bd x 1 (by omega) (by omega))
 have HS' := LH (SumM.addL_bd y 1 (by omega) (by omega))
 go_enter Tryz.func24, Tryz.ntmps24
 go_wp2_with fail
 generalize w.alloc (.cells #[.int .i64 0, .int .i64 0, .int .i64 0, .int .i64 0, .int .i64 0, .slice none 0 0] 35) = W0 at hb0 hB0 hx0 hy0 e0 ⊢
 refine (diff_any a a' n c n' c' x y _ hx0 hy0 hn hn').mono ?_
 rintro e W1 ⟨ops, ad, nd, cd, hdif, rfl, od, ⟨-, odn⟩, b1⟩
 have hW0 : B + 1 ≤ W0.heap.size := by omega
 replace odn := odn.mono hW0
 clear hW0
 have HD := LH hdif
 have hB1 := (b1.block B (by omega)).trans hB0
 have b1' := bTh hb0 b1
 have hx1 := HX.out.later b1'
 have hy1 := HY.out.later b1'
 have hz1 : B < W1.heap.size := by have := b1.size; omega
 clear hdif b1 hb0 hB0 hx0 hy0 e0 hBw W0
 go_wp2_with fail
 refine (of_any a n c x _ hx1).mono ?_
 rintro e w' ⟨rfl, rfl⟩
 go_wp2_with fail
 refine (of_any a' n' c' y _ hy1).mono ?_
 rintro e w' ⟨rfl, rfl⟩
 obtain ⟨s1, hs1⟩ : ∃ s, SumM.addL 1 x = s := ⟨_, rfl⟩
 obtain ⟨s2, hs2⟩ : ∃ s, SumM.addL 1 y = s := ⟨_, rfl⟩
 have HE1 := LH hs1
 have HE2 := LH hs2
 rw [hs1, hs2]
 rw [hs1] at HS
 rw [hs2] at HS'
 clear hs1 hs2 hx1 hy1
 have hb2 : Below W1.heap.size W1 (W1.alloc (.cells #[.int .i64 fr, .int .i64 to, .int .i64 s1, .int .i64 s2, .int .i64 (n' : Int), .slice ad nd cd] 35)) := (Below.refl _ _).alloc (Nat.le_refl _) _
 have hpv : PV (W1.alloc (.cells #[.int .i64 fr, .int .i64 to, .int .i64 s1, .int .i64 s2, .int .i64 (n' : Int), .slice ad nd cd] 35)) (.agg #[.int .i64 fr, .int .i64 to, .int .i64 s1, .int .i64 s2, .int .i64 (n' : Int), .slice ad nd cd]) ⟨fr, to, s1, s2, n', ops⟩ :=
   ⟨ad, nd, cd, rfl, od.later hb2, HF.out.1, HF.out.2, by have := HS.out; unfold I64; simp only; omega, by have := HS'.out; unfold I64; simp only; omega, by unfold I64; simp only; omega⟩
 obtain ⟨B2, hB2w⟩ : ∃ B2, W1.heap.size = B2 := ⟨_, rfl⟩
 have hB2 : (W1.alloc (.cells #[.int .i64 fr, .int .i64 to, .int .i64 s1, .int .i64 s2, .int .i64 (n' : Int), .slice ad nd cd] 35)).heap[B2]? = some (.cells #[.int .i64 fr, .int .i64 to, .int .i64 s1, .int .i64 s2, .int .i64 (n' : Int), .slice ad nd cd] 35 (0, 0)) := by rw [hpA, if_pos hB2w.symm]
 have e2 : (W1.alloc (.cells #[.int .i64 fr, .int .i64 to, .int .i64 s1, .int .i64 s2, .int .i64 (n' : Int), .slice ad nd cd] 35)).heap.size = B2 + 1 := by simp [hB2w]
 have hB1' := (hb2.block B hz1).trans hB1
 have b2 := bTh b1' hb2
 clear b1' od
 go_wp2_with fail
 generalize W1.alloc (.cells #[.int .i64 fr, .int .i64 to, .int .i64 s1, .int .i64 s2, .int .i64 (n' : Int), .slice ad nd cd] 35) = W2 at hpv hB2 e2 hB1' b2 hb2 ⊢
 refine (checkP_any _ _ _ hpv).mono ?_
 rintro e W3 ⟨rfl, b3⟩
 have HON := LH ((odn.later hb2).later b3)
 have hBr := (b3.block B (by omega)).trans hB1'
 have hBp := (b3.block B2 (by omega)).trans hB2
 have b4 := bTh b2 b3
 obtain ⟨E, hE⟩ : ∃ E, PatM.check ⟨fr, to, s1, s2, n', ops⟩ = E := ⟨_, rfl⟩
 have HE : Hid (PatM.check ⟨fr, to, SumM.addL 1 x, SumM.addL 1 y, y.length, ops⟩ = E) := by show _ = E; rw [HE1.out, HE2.out, HLY.out]; exact hE
 rw [hE]
 obtain ⟨r0, r1, r2, r3, r4, r5, f0, f1, f2, f3, f4, f5⟩ := pat_cells hBr
 obtain ⟨p0, p1, p2, p3, p4, p5, -⟩ := pat_cells hBp
 have hne : B ≠ B2 := by omega
 have HBL : Hid (w.heap.size ≤ B) := by show w.heap.size ≤ B; rw [HBW.out]; exact Nat.le_refl _
 have g0 : ∀ v, (W3.setCell ⟨B, 0, none⟩ v).cell? ⟨B, 0, none⟩ = some v := fun v => World.cell?_setCell_same _ _ _ r0
 clear hpv hB1' hB2 b3 b2 e2 hE hB2w hBp hz1 hB1 odn hb2
 by_cases h0 : E = 0
 · subst h0
   have HK : Hid (madeOf fr to x y ops 0 = (⟨fr, to, s1, s2, n', ops⟩, 0)) := by
     show _ = _
     unfold madeOf
     rw [if_neg (by simp), if_neg (by rw [HE.out]; simp), HE1.out, HE2.out, HLY.out]
   obtain ⟨W6, hW6, q0, q1, q2, q3, q4, q5, hoth, hsz⟩ := set_six hBr (.int .i64 fr) (.int .i64 to) (.int .i64 s1) (.int .i64 s2) (.int .i64 (n' : Int)) (.slice ad nd cd)
   have HB6 : Hid (Below w.heap.size w W6) := by
     show Below _ _ _
     rw [← hW6]
     exact (((((b4.setCell HBL.out _).setCell HBL.out _).setCell HBL.out _).setCell HBL.out _).setCell HBL.out _).setCell HBL.out _
   have HP6 : Hid (∀ W' : World, W6.heap.size ≤ W'.heap.size → (∀ k, w.heap.size ≤ k → k < W6.heap.size → W'.heap[k]? = W6.heap[k]?) → PV W' (.agg #[.int .i64 fr, .int .i64 to, .int .i64 s1, .int .i64 s2, .int .i64 (n' : Int), .slice ad nd cd]) ⟨fr, to, s1, s2, n', ops⟩) := by
     show ∀ W' : World, _
     intro W' z1 z2
     exact ⟨ad, nd, cd, rfl, HON.out W' (by rw [← hsz]; exact z1) (fun k k1 k2 => (z2 k (by have := HBL.out; omega) (by rw [hsz]; exact k2)).trans (hoth k (by omega))), HF.out.1, HF.out.2, by have := HS.out; unfold I64; simp only; omega, by have := HS'.out; unfold I64; simp only; omega, by unfold I64; simp only; omega⟩
   clear hoth hsz b4 HON
   go_wp2_with fail
   try simp only [Exit.inBlock, Exit.then]
   refine bodyPost_ret (by simp [results, Tryz.results24, go_sem, q0, q1, q2, q3, q4, q5]; try rfl) rfl ?_
   exact ⟨ops, HD.out, _, by rw [HK.out], HB6.out, fun W' z1 z2 _ => by rw [HK.out]; exact HP6.out W' z1 z2⟩
 · have hnb : (E != 0) = true := by simp [h0]
   have HK : Hid (madeOf fr to x y ops 0 = (noPat, E)) := by
     show _ = _
     unfold madeOf
     rw [if_neg (by simp), if_pos (by rw [HE.out]; exact h0), HE.out]
   obtain ⟨W6, hW6, q0, q1, q2, q3, q4, q5, hoth, hsz⟩ := set_six hBr (.int .i64 0) (.int .i64 0) (.int .i64 0) (.int .i64 0) (.int .i64 0) (.slice none 0 0)
   have HB6 : Hid (Below w.heap.size w W6) := by
     show Below _ _ _
     rw [← hW6]
     exact (((((b4.setCell HBL.out _).setCell HBL.out _).setCell HBL.out _).setCell HBL.out _).setCell HBL.out _).setCell HBL.out _
   clear hoth hsz b4 HON
   go_wp2_with fail
   try simp only [Exit.inBlock, Exit.then]
   refine bodyPost_ret (by simp [results, Tryz.results24, go_sem, q0, q1, q2, q3, q4, q5]; try rfl) rfl ?_
   exact ⟨ops, HD.out, _, by rw [HK.out], HB6.out, fun _ _ _ _ => by rw [HK.out]; exact noPat_pv _⟩
def GivesCs (p : PatR) (w : World) (e : Ending) (w' : World) : Prop :=
 ∃ cs err a n c, ChunkM.CutIs p cs err ∧ e = .returned (.tuple #[.slice a n c, .int .i64 err]) ∧ CS w' a n c cs ∧ Below w.heap.size w w'
def CheckCC : Prop := ∀ (v : Value) (r : ChR) (w : World), CV w v r →
 Calls Tryz.prog 101 #[v] w fun e w' => e = .returned (.int .i64 (ChunkM.check r)) ∧ Below w.heap.size w w'
def ListCC : Prop := ∀ (a : Option Addr) (n c : Nat) (l : List ChR) (w : World), CS w a n c l →
 Calls Tryz.prog 93 #[.slice a n c] w fun e w' => e = .returned (.int .i64 (ChunkM.checks l)) ∧ Below w.heap.size w w'
def SameCC : Prop := ∀ (a a' : Option Addr) (n c n' c' : Nat) (x y : List ChR) (w : World), CS w a n c x → CS w a' n' c' y →
 Calls Tryz.prog 51 #[.slice a n c, .slice a' n' c'] w fun e w' => e = .returned (.bool (decide (x = y))) ∧ Below w.heap.size w w'
theorem two_litP (W : World) (x y : Int) (hx : 0 ≤ x ∧ x ≤ 255) (hy : 0 ≤ y ∧ y ≤ 255) : BS (W.alloc (.cells #[.int .u8 x, .int .u8 y] 5)) (some ⟨W.heap.size, 0, none⟩) 2 2 [x, y] := by
 refine ⟨rfl, Nat.le_refl _, by omega, by intro v hv; simp at hv; rcases hv with rfl | rfl <;> assumption, fun _ => ⟨W.heap.size, 0, rfl, fun i hi => ?_⟩, fun h => by cases h⟩
 simp only [World.cell?, hpA, if_pos]
 match i, hi with
 | 0, _ | 1, _ => rfl
def GivesPS (w0 : World) (l : List Int) (e : Ending) (w' : World) : Prop :=
 ∃ a n c, e = .returned (.slice a n c) ∧ w'.ownsRow w0.heap.size 5 1 (.slice a n c) l.length (l.map (Value.int .u8)) ∧ l.length = n ∧ Below w0.heap.size w0 w'
theorem putStep_any (w0 : World) (a : Option Addr) (n c : Nat) (outl : List Int) (A L : Int) (va : Option Addr) (vn vc : Nat) (D : List Int) (w : World)
   (hown : w.ownsRow w0.heap.size 5 1 (.slice a n c) outl.length (outl.map (Value.int .u8))) (hol : outl.length = n) (hbw : Below w0.heap.size w0 w) (hd : BS w0 va vn vc D)
   (hg : ¬ DeltaM.badForm ⟨A, L, D⟩ ∧ ¬ DeltaM.bdR 64 ⟨A, L, D⟩) (hn : n ≤ 500) :
   Calls Tryz.prog 121 #[.slice a n c, .agg #[.int .i64 A, .int .i64 L, .slice va vn vc]] w (GivesPS w0 (outl ++ PatM.enc ⟨A, L, D⟩)) := by
 obtain ⟨g1, g2, g3⟩ := DeltaM.good_len hg.2
 simp only at g1 g2 g3
 have hDn := hd.len
 have HOL := LH hol
 obtain ⟨Bo, hBo⟩ : ∃ Bo, w.heap.size = Bo := ⟨_, rfl⟩
 have hbl : Below w.heap.size w (w.alloc (.cells #[.int .i64 A, .int .i64 L, .slice va vn vc] 123)) := (Below.refl _ _).alloc (Nat.le_refl _) _
 have hst : ASt w0 Bo #[.int .i64 A, .int .i64 L, .slice va vn vc] (.slice a n c) outl (w.alloc (.cells #[.int .i64 A, .int .i64 L, .slice va vn vc] 123)) := by
   refine ⟨by rw [hpA, if_pos hBo.symm], own_later hown hbl, fun e => ?_, bTh hbw hbl, by rw [← hBo]; exact hbw.size⟩
   have := (oL3 hown e).2
   omega
 have e1 : (w.alloc (.cells #[.int .i64 A, .int .i64 L, .slice va vn vc] 123)).heap.size = Bo + 1 := by simp [hBo]
 by_cases hL : L = 0
 · subst hL
   obtain ⟨hform, d1, d2⟩ := PatM.form_data hg.1 rfl
   simp only at d1 d2
   rw [hDn] at d1 d2
   have HEn : Hid (PatM.enc ⟨A, 0, D⟩ = [255, (vn : Int)] ++ D) := by show _ = _; simp [PatM.enc, hDn]
   have hw : IntKind.u8.wrap (vn : Int) = vn := by rw [IntKind.wrap_u8]; omega
   have hba : Below (w.alloc (.cells #[.int .i64 A, .int .i64 0, .slice va vn vc] 123)).heap.size (w.alloc (.cells #[.int .i64 A, .int .i64 0, .slice va vn vc] 123)) ((w.alloc (.cells #[.int .i64 A, .int .i64 0, .slice va vn vc] 123)).alloc (.cells #[.int .u8 255, .int .u8 (vn : Int)] 5)) := (Below.refl _ _).alloc (Nat.le_refl _) _
   have htl := two_litP (w.alloc (.cells #[.int .i64 A, .int .i64 0, .slice va vn vc] 123)) 255 vn (by omega) (by omega)
   rw [e1] at htl
   obtain ⟨a5, c5, W5, hrun, HS5⟩ := (hst.later hba).app htl (by omega) (by rw [HOL.out]; omega)
   rw [HOL.out] at hrun HS5
   have q5 := hd.later HS5.out.below
   obtain ⟨a7, c7, W7, hrun2, HS7⟩ := HS5.out.app q5 (by omega) (by rw [List.length_append, HOL.out]; simp only [List.length_cons, List.length_nil]; omega)
   have hl5 : (outl ++ [255, (vn : Int)]).length = n + 2 := by rw [List.length_append, HOL.out]; rfl
   rw [hl5] at hrun2 HS7
   obtain ⟨d0, d1', d2'⟩ := cells_blk HS5.out.cb
   have hl7 : Hid ((outl ++ [255, (vn : Int)] ++ D).length = n + 2 + vn) := by show _ = _; rw [List.length_append, hl5, hDn]
   have HEQ : Hid (outl ++ PatM.enc ⟨A, 0, D⟩ = outl ++ [255, (vn : Int)] ++ D) := by show _ = _; rw [HEn.out, List.append_assoc]
   clear hst hba htl HS5 q5 hbl hform hg hown hol hbw hd hDn
   go_enter Tryz.func121, Tryz.ntmps121
   go_wp2_with (first | (at_builtin; refine Lib.wpList_append_run _ rfl (.tmp 17) (.tmp 22) _ _ rfl _ _ rfl rfl _ _ hrun ?_) | (at_builtin; refine Lib.wpList_append_run _ rfl (.tmp 24) (.tmp 26) _ _ rfl _ _ rfl rfl _ _ hrun2 ?_))
   go_ret
   exact ⟨a7, n + 2 + vn, c7, rfl, by rw [HEQ.out]; exact HS7.out.own, by rw [HEQ.out]; exact hl7.out, HS7.out.below⟩
 · have hLb : (L != 0) = true := by simp [hL]
   have hw1 : IntKind.u8.wrap A = A := by rw [IntKind.wrap_u8]; omega
   have hw2 : IntKind.u8.wrap L = L := by rw [IntKind.wrap_u8]; omega
   have HEn : Hid (PatM.enc ⟨A, L, D⟩ = [A, L]) := by show _ = _; simp [PatM.enc, hL]
   have hba : Below (w.alloc (.cells #[.int .i64 A, .int .i64 L, .slice va vn vc] 123)).heap.size (w.alloc (.cells #[.int .i64 A, .int .i64 L, .slice va vn vc] 123)) ((w.alloc (.cells #[.int .i64 A, .int .i64 L, .slice va vn vc] 123)).alloc (.cells #[.int .u8 A, .int .u8 L] 5)) := (Below.refl _ _).alloc (Nat.le_refl _) _
   have htl := two_litP (w.alloc (.cells #[.int .i64 A, .int .i64 L, .slice va vn vc] 123)) A L (by omega) (by omega)
   rw [e1] at htl
   obtain ⟨a5, c5, W5, hrun, HS5⟩ := (hst.later hba).app htl (by omega) (by rw [HOL.out]; omega)
   rw [HOL.out] at hrun HS5
   clear hst hba htl hbl hg hown hol hbw hd hDn
   go_enter Tryz.func121, Tryz.ntmps121
   go_wp2_with (at_builtin; refine Lib.wpList_append_run _ rfl (.tmp 8) (.tmp 15) _ _ rfl _ _ rfl rfl _ _ hrun ?_)
   go_ret
   exact ⟨a5, n + 2, c5, rfl, by rw [HEn.out]; exact HS5.out.own, by rw [HEn.out, List.length_append, HOL.out]; rfl, HS5.out.below⟩
def PutRelP (hd : List Int) (ops : List OpR) (w : World) (out i : Value) (wr : World) : Prop :=
 ∃ (k : Nat) (a : Option Addr) (n c : Nat) (outl : List Int), i = .int .i64 k ∧ k ≤ ops.length ∧ out = .slice a n c ∧ outl.length = n ∧ outl = hd ++ PatM.encs (ops.take k) ∧ wr.ownsRow w.heap.size 5 1 (.slice a n c) outl.length (outl.map (Value.int .u8)) ∧ Below w.heap.size w wr
theorem putP_any (v : Value) (p : PatR) (w : World) (hp : PV w v p) :
   Calls Tryz.prog 77 #[v] w (GivesBE (PatM.putOf p) w) := by
 have hp' := hp
 obtain ⟨ao, no, co, rfl, ho, -⟩ := hp
 obtain ⟨f, t, o, nw, s, ops⟩ := p
 simp only at ho
 have hb : Below w.heap.size w (w.alloc (.cells #[.int .i64 f, .int .i64 t, .int .i64 o, .int .i64 nw, .int .i64 s, .slice ao no co] 35)) := (Below.refl _ _).alloc (Nat.le_refl _) _
 obtain ⟨B, hBw⟩ : ∃ B, w.heap.size = B := ⟨_, rfl⟩
 have hB0 : (w.alloc (.cells #[.int .i64 f, .int .i64 t, .int .i64 o, .int .i64 nw, .int .i64 s, .slice ao no co] 35)).heap[B]? = some (.cells #[.int .i64 f, .int .i64 t, .int .i64 o, .int .i64 nw, .int .i64 s, .slice ao no co] 35 (0, 0)) := by rw [hpA, if_pos hBw.symm]
 replace hp' := hp'.later hb
 replace ho := ho.later hb
 obtain ⟨E, hE⟩ : ∃ E, PatM.check ⟨f, t, o, nw, s, ops⟩ = E := ⟨_, rfl⟩
 have HE := LH hE
 clear hE
 go_enter Tryz.func77, Tryz.ntmps77
 go_wp2_with fail
 generalize w.alloc (.cells #[.int .i64 f, .int .i64 t, .int .i64 o, .int .i64 nw, .int .i64 s, .slice ao no co] 35) = W0 at hb hB0 hp' ho ⊢
 refine (checkP_any _ _ _ hp').mono ?_
 rintro e W1 ⟨rfl, b1⟩
 rw [HE.out]
 replace hB0 := (b1.block B (lt_blk hB0)).trans hB0
 replace ho := ho.later b1
 replace b1 := bTh hb b1
 clear hb hp' hBw W0
 by_cases h0 : E = 0
 · subst h0
   have HK : Hid (PatM.putOf ⟨f, t, o, nw, s, ops⟩ = (PatM.putL ⟨f, t, o, nw, s, ops⟩, 0)) := PatM.putOf_ok HE.out
   obtain ⟨hh, h2⟩ := PatM.check_parts HE.out
   obtain ⟨h40, -, -, s1, s2, hg, ht⟩ := DeltaM.check_zero h2
   unfold PatM.badHead at hh
   simp only at hh h40 s1 s2 hg ht
   obtain ⟨r0, r1, r2, r3, r4, r5, -⟩ := pat_cells hB0
   have hno := ho.len
   have hno40 : no ≤ 40 := by rw [← hno]; exact h40
   have w0 : IntKind.u8.wrap f = f := by rw [IntKind.wrap_u8]; omega
   have w1 : IntKind.u8.wrap t = t := by rw [IntKind.wrap_u8]; omega
   have w2 : IntKind.u8.wrap (o / 256) = o / 256 := by rw [IntKind.wrap_u8]; omega
   have w3 : IntKind.u8.wrap o = o % 256 := by rw [IntKind.wrap_u8]
   have w4 : IntKind.u8.wrap (nw / 256) = nw / 256 := by rw [IntKind.wrap_u8]; omega
   have w5 : IntKind.u8.wrap nw = nw % 256 := by rw [IntKind.wrap_u8]
   have w6 : IntKind.u8.wrap s = s := by rw [IntKind.wrap_u8]; omega
   have w7 : IntKind.u8.wrap (no : Int) = no := by rw [IntKind.wrap_u8]; omega
   have HHD : Hid (PatM.head ⟨f, t, o, nw, s, ops⟩ = [f, t, o / 256, o % 256, nw / 256, nw % 256, s, (no : Int)]) := by show _ = _; simp only [PatM.head, hno]
   have HPL : Hid (PatM.putL ⟨f, t, o, nw, s, ops⟩ = [f, t, o / 256, o % 256, nw / 256, nw % 256, s, (no : Int)] ++ PatM.encs ops) := by show _ = _; rw [← HHD.out]; rfl
   obtain ⟨hd, hhd⟩ : ∃ hd : List Int, hd = [f, t, o / 256, o % 256, nw / 256, nw % 256, s, (no : Int)] := ⟨_, rfl⟩
   have HHd : Hid (hd.length = 8) := by show hd.length = 8; rw [hhd]; rfl
   have hown : (W1.alloc (.cells #[.int .u8 f, .int .u8 t, .int .u8 (o / 256), .int .u8 (o % 256), .int .u8 (nw / 256), .int .u8 (nw % 256), .int .u8 s, .int .u8 (no : Int)] 5)).ownsRow W1.heap.size 5 1 (.slice (some ⟨W1.heap.size, 0, none⟩) 8 8) 8 (hd.map (Value.int .u8)) := by
     rw [hhd]
     exact World.ownsRow_lit (base := W1.heap.size) (e := 5) (size := 1) W1 #[.int .u8 f, .int .u8 t, .int .u8 (o / 256), .int .u8 (o % 256), .int .u8 (nw / 256), .int .u8 (nw % 256), .int .u8 s, .int .u8 (no : Int)] 8 (Nat.le_refl _) (by unfold maxLen; omega) rfl
   rw [← hhd] at HPL
   have hb2 : Below W1.heap.size W1 (W1.alloc (.cells #[.int .u8 f, .int .u8 t, .int .u8 (o / 256), .int .u8 (o % 256), .int .u8 (nw / 256), .int .u8 (nw % 256), .int .u8 s, .int .u8 (no : Int)] 5)) := (Below.refl _ _).alloc (Nat.le_refl _) _
   have HO1 := LH ho
   have HB1 := LH b1
   have r5' := cell_later hb2 r5
   have HG := LH hg
   have HLn := LH hno
   have HOw := LH hown
   have HB2 := LH hb2
   have HLE := LH (PatM.putL_len HE.out)
   have HBD : Hid (∀ k, (hd ++ PatM.encs (ops.take k)).length ≤ 152) := by
     show ∀ k, _
     intro k
     have h1 := HLE.out
     have h2 : PatM.encs ops = PatM.encs (ops.take k) ++ PatM.encs (ops.drop k) := by rw [← PatM.encs_append, List.take_append_drop]
     rw [HPL.out, h2] at h1
     simp only [List.length_append] at h1 ⊢
     omega
   clear hh h2 hg ht h40 hhd ho b1 hno hown hb2 hB0
   go_wp2_with fail
   generalize W1.alloc (.cells #[.int .u8 f, .int .u8 t, .int .u8 (o / 256), .int .u8 (o % 256), .int .u8 (nw / 256), .int .u8 (nw % 256), .int .u8 s, .int .u8 (no : Int)] 5) = W2 at r5' HOw HB2 ⊢
   clear r0 r1 r2 r3 r4 r5 w0 w1 w2 w3 w4 w5 w6 w7
   go_loopw [5, 44] (fun out i wr => PutRelP hd ops W1 out i wr) (fun _ i _ => no - (intOf i).toNat)
   case atStart => exact ⟨0, _, 8, 8, hd, rfl, Nat.zero_le _, rfl, HHd.out, by simp [PatM.encs], by rw [HHd.out]; exact HOw.out, HB2.out⟩
   case round =>
     clear HOw HB2
     obtain ⟨k, a2, n2, c2, outl, rfl, hk, rfl, hol, hou, ho2, hbw⟩ := hrel
     rw [HLn.out] at hk
     have HOL := LH hol
     have HOU := LH hou
     have hbd := HBD.out k
     rw [← hou, hol] at hbd
     clear hol hou
     by_cases hlt : k < no
     · obtain ⟨b, off, rfl, hcs⟩ := HO1.out.cells (by omega)
       obtain ⟨va, vn, vc, q0, q1, q2, q3, -, -⟩ := hcs k hlt
       replace q0 := cell_later hbw q0
       replace q1 := cell_later hbw q1
       replace q2 := cell_later hbw q2
       have hkl : k < ops.length := by rw [HLn.out]; exact hlt
       have HT : Hid (PatM.encs (ops.take (k + 1)) = PatM.encs (ops.take k) ++ PatM.enc (ops.getD k default)) := by
         show _ = _
         rw [List.take_add_one, List.getElem?_eq_getElem hkl, PatM.encs_append]
         simp [PatM.encs, List.getD_eq_getElem?_getD, List.getElem?_eq_getElem hkl]
       have hg := HG.out (ops.getD k default) (by rw [List.getD_eq_getElem?_getD, List.getElem?_eq_getElem hkl]; exact List.getElem_mem hkl)
       generalize ops.getD k default = oo at q0 q1 q2 q3 HT hg
       obtain ⟨A, L, D⟩ := oo
       simp only at q0 q1 q2 q3
       have hbl : Below wr.heap.size wr (wr.alloc (.cells #[.int .i64 A, .int .i64 L, .slice va vn vc] 123)) := (Below.refl _ _).alloc (Nat.le_refl _) _
       have HCall : Hid (Calls Tryz.prog 121 #[.slice a2 n2 c2, .agg #[.int .i64 A, .int .i64 L, .slice va vn vc]] (wr.alloc (.cells #[.int .i64 A, .int .i64 L, .slice va vn vc] 123)) (GivesPS W1 (outl ++ PatM.enc ⟨A, L, D⟩))) :=
         putStep_any W1 a2 n2 c2 outl A L va vn vc D _ (own_later ho2 hbl) HOL.out (bTh hbw hbl) q3 hg (by omega)
       clear hbl q3 hg ho2 hbw hcs
       go_wp2_with fail
       refine HCall.out.mono ?_
       rintro e W9 ⟨a9, n9, c9, rfl, ho9, hl9, hb9⟩
       go_wp2_with fail
       go_roundw
       case rel =>
         exact ⟨k + 1, a9, n9, c9, outl ++ PatM.enc ⟨A, L, D⟩, by go_num, by rw [HLn.out]; omega, rfl, hl9, by rw [HT.out, HOU.out, List.append_assoc], ho9, hb9⟩
       case measure => simp [intOf]; omega
     · obtain rfl : k = no := by omega
       have HEq : Hid (outl = PatM.putL ⟨f, t, o, nw, s, ops⟩) := by
         show outl = _
         rw [HPL.out, HOU.out, List.take_of_length_le (by rw [HLn.out]; omega)]
       have HBt : Hid (∀ v ∈ outl, 0 ≤ v ∧ v ≤ 255) := by
         show ∀ v ∈ outl, _
         rw [HEq.out]
         exact PatM.putL_bytes HE.out (OS.bytes HO1.out)
       have HOw2 := LH ho2
       have HBw2 := LH (bTh HB1.out hbw)
       clear ho2 hbw
       go_wp2_with fail
       go_ret2
       refine ⟨a2, n2, c2, tup_a (by rw [HK.out]), ?_, HBw2.out⟩
       rw [HK.out]
       simp only
       rw [← HEq.out]
       have := HOw2.out
       rw [HOL.out] at this
       exact BS.of_own this HBt.out
 · have hnb : (E != 0) = true := by simp [h0]
   have HK : Hid (PatM.putOf ⟨f, t, o, nw, s, ops⟩ = ([], E)) := by
     show _ = _
     rw [PatM.putOf_bad (by rw [HE.out]; exact h0), HE.out]
   go_wp2_with fail
   go_ret2
   exact ⟨none, 0, 0, tup_a (by rw [HK.out]), by rw [HK.out]; exact BS.nil_ _, b1⟩
theorem ret_run {a b : Int} (h : a = b) : Ending.returned (.int .i64 a) = .returned (.int .i64 b) := by rw [h]
def GivesPk (l : List Int) (w : World) (e : Ending) (w' : World) : Prop :=
 ∃ (o : List Int) (a : Option Addr) (n c : Nat), PackM.Packs l o ∧ e = .returned (.slice a n c) ∧ BS w' a n c o ∧ Below w.heap.size w w'
def GivesU (most : Int) (l : List Int) (w : World) (e : Ending) (w' : World) : Prop :=
 ∃ (r : List Int × Int) (a : Option Addr) (n c : Nat), PackM.Unp most l [] r ∧ e = .returned (.tuple #[.slice a n c, .int .i64 r.2]) ∧ BS w' a n c r.1 ∧ Below w.heap.size w w'
def lenV : Value → Nat
 | .slice _ n _ => n
 | _ => 0
theorem alike_any (a : Option Addr) (n c : Nat) (l : List Int) (w : World) (hr : BS w a n c l) (hp : 0 < n) :
   Calls Tryz.prog 130 #[.slice a n c] w fun e w' => e = .returned (.int .i64 (PackM.run l)) ∧ DrewN w w' := by
 have hlen : n ≤ 9223372036854775807 := by have := hr.le; have := hr.max; omega
 have hl := LH hr.len
 have hcells := hr.cells
 clear hr
 go_enter Tryz.func130, Tryz.ntmps130
 go_wp2
 go_loopw [3] (fun i wr => ∃ k : Nat, 1 ≤ k ∧ k ≤ n ∧ k ≤ 127 ∧ i = .int .i64 k ∧ Hid (∀ j, j < k → l[j]?.getD 0 = l[0]?.getD 0) ∧ DrewN w wr) (fun i _ => 127 - (intOf i).toNat)
 case atStart => exact ⟨1, by omega, by omega, by omega, rfl, LH (fun j hj => by rw [show j = 0 by omega]), 0, rfl⟩
 case round =>
   obtain ⟨k, hk1, hk, hk2, rfl, HE, nq, rfl⟩ := hrel
   by_cases hlt : k < n
   · by_cases h127 : k < 127
     · obtain ⟨b, off, rfl, hc⟩ := hcells (by omega)
       have hck := hc k (by omega)
       have hc0 := hc 0 (by omega)
       have hpos : (0 : Int) < n := by omega
       have hpos2 : 0 < n := by omega
       rw [Nat.add_zero] at hc0
       have hd1 : decide ((k : Int) < 127) = true := by simp; omega
       have hd2 : decide (k < n) = true := by simp; omega
       by_cases heq : l[k]?.getD 0 = l[0]?.getD 0
       · have HQ := LH heq
         rw [heq] at hck
         clear hc hcells heq
         go_wp2
         go_quiet (fail)
         go_wp2
         go_roundw
         case rel => exact ⟨k + 1, by omega, by omega, by omega, by go_num, LH (fun j hj => by
           rcases Nat.lt_or_ge j k with h | h
           · exact HE.out j h
           · obtain rfl : j = k := by omega
             exact HQ.out), _, rfl⟩
         case measure => simp [intOf]; omega
       · have hb : (l[k]?.getD 0 == l[0]?.getD 0) = false := by simpa using heq
         have HQ := LH heq
         clear hc hcells heq
         go_wp2
         go_quiet (fail)
         go_wp2
         go_ret
         exact ⟨ret_run (by rw [PackM.run_eq l k (by rw [hl.out]; omega) hk2 HE.out (.inr (.inr HQ.out))]), DrewN.more _ _ _⟩
     · have hd : decide ((k : Int) < 127) = false := by simp; omega
       clear hcells
       go_wp2
       go_quiet (fail)
       go_wp2
       go_ret
       exact ⟨ret_run (by rw [PackM.run_eq l k (by rw [hl.out]; omega) hk2 HE.out (.inr (.inl (by omega)))]), DrewN.more _ _ _⟩
   · have hd : decide (k < n) = false := by simp; omega
     clear hcells
     go_wp2
     go_quiet (fail)
     go_wp2
     go_ret
     exact ⟨ret_run (by rw [PackM.run_eq l k (by rw [hl.out]; omega) hk2 HE.out (.inl (by rw [hl.out]; omega))]), DrewN.more _ _ _⟩
def PackRel (l : List Int) (w : World) (b out : Value) (wr : World) : Prop :=
 ∃ (a : Option Addr) (m c : Nat) (rem : List Int) (a' : Option Addr) (k c' : Nat) (outl : List Int), b = .slice a m c ∧ out = .slice a' k c' ∧ BS w a m c rem ∧
   wr.ownsRow w.heap.size 5 1 (.slice a' k c') k (outl.map (Value.int .u8)) ∧ (∀ o, PackM.Packs rem o → PackM.Packs l (outl ++ o)) ∧ k + 2 * m ≤ 2 * l.length ∧ (∀ x ∈ outl, 0 ≤ x ∧ x ≤ 255) ∧ Below w.heap.size w wr
theorem one_bs (w : World) (x : Int) (hx : 0 ≤ x ∧ x ≤ 255) : BS (w.alloc (.cells #[.int .u8 x] 5)) (some ⟨w.heap.size, 0, none⟩) 1 1 [x] := by
 refine ⟨rfl, by omega, by omega, by simpa using hx, fun _ => ⟨w.heap.size, 0, rfl, ?_⟩, fun h => by cases h⟩
 intro i hi
 obtain rfl : i = 0 := by omega
 simp
theorem pair_bs (w : World) (x y : Int) (hx : 0 ≤ x ∧ x ≤ 255) (hy : 0 ≤ y ∧ y ≤ 255) : BS (w.alloc (.cells #[.int .u8 x, .int .u8 y] 5)) (some ⟨w.heap.size, 0, none⟩) 2 2 [x, y] := by
 refine ⟨rfl, by omega, by omega, by simp [hx, hy], fun _ => ⟨w.heap.size, 0, rfl, ?_⟩, fun h => by cases h⟩
 intro i hi
 match i, hi with
 | 0, _ => simp
 | 1, _ => simp
theorem lit_appends {w Wx : World} {a2 : Option Addr} {k c2 : Nat} {outl : List Int} (hB : Below w.heap.size w Wx) (ho : Wx.ownsRow w.heap.size 5 1 (.slice a2 k c2) k (outl.map (Value.int .u8)))
   {A : Option Addr} {j C : Nat} {lt : List Int} (hh : BS w A j C lt) (hj : j ≤ 127) (hk : k ≤ 16777216) :
   ∃ a5 c5 W5 a6 c6 W6, (Builtin.append_ #[22, 22] 22 #[.slice a2 k c2, .slice (some ⟨Wx.heap.size, 0, none⟩) 1 1]).run Tryz.prog (Wx.alloc (.cells #[.int .u8 (j : Int)] 5)) = .ok (.slice a5 (k + 1) c5) W5 ∧
     (Builtin.append_ #[22, 22] 22 #[.slice a5 (k + 1) c5, .slice A j C]).run Tryz.prog W5 = .ok (.slice a6 (k + 1 + j) c6) W6 ∧
     Hid (W6.ownsRow w.heap.size 5 1 (.slice a6 (k + 1 + j) c6) (k + 1 + j) ((outl ++ ((j : Int) :: lt)).map (Value.int .u8))) ∧ Below w.heap.size w W6 := by
 have hB2 := hB.alloc hB.size (.cells #[.int .u8 (j : Int)] 5)
 have ho2 := ho.alloc (.cells #[.int .u8 (j : Int)] 5)
 obtain ⟨a5, c5, W5, hrun1, ho5, hg5⟩ := app_run ho2 (one_bs Wx (j : Int) (by omega)) (by omega) hB2.size
 have hB5 := hB2.grown hg5 hB2.size (fun g hg => (ho2.lt g hg).1)
 obtain ⟨a6, c6, W6, hrun2, ho6, hg6⟩ := app_run ho5 (hh.later hB5) (by omega) hB5.size
 have hB6 := hB5.grown hg6 hB5.size (fun g hg => (ho5.lt g hg).1)
 exact ⟨a5, c5, W5, a6, c6, W6, hrun1, hrun2, by simpa [Hid, List.append_assoc] using ho6, hB6⟩
theorem lit_rel {l : List Int} {w : World} {a1 : Option Addr} {m c1 : Nat} {rem : List Int} {k : Nat} {outl : List Int} (hb : BS w a1 m c1 rem) (hu : ∀ o, PackM.Packs rem o → PackM.Packs l (outl ++ o)) (hy : ∀ x ∈ outl, 0 ≤ x ∧ x ≤ 255)
   (hbd : k + 2 * m ≤ 2 * l.length) {j : Nat} (h1 : 1 ≤ j) (h2 : j ≤ 127) (h3 : j ≤ m) (h4 : ∀ i, i < j → PackM.run (rem.drop i) < 3) (h5 : j = m ∨ j = 127 ∨ 3 ≤ PackM.run (rem.drop j))
   {a6 : Option Addr} {c6 : Nat} {W6 : World} (ho : W6.ownsRow w.heap.size 5 1 (.slice a6 (k + 1 + j) c6) (k + 1 + j) ((outl ++ ((j : Int) :: rem.take j)).map (Value.int .u8))) (hB : Below w.heap.size w W6) :
   PackRel l w (.slice (cutA a1 c1 j) (m - j) (c1 - j)) (.slice a6 (k + 1 + j) c6) W6 := by
 refine ⟨_, _, _, _, _, _, _, _, rfl, rfl, hb.cut j h3, ho, ?_, by omega, ?_, hB⟩
 · intro o h
   have := hu _ (.lit rem o j h1 h2 (by rw [hb.len]; exact h3) h4 (by rw [hb.len]; exact h5) h)
   simpa using this
 · intro y hyy
   simp only [List.mem_append, List.mem_cons] at hyy
   rcases hyy with hyy | rfl | hyy
   · exact hy y hyy
   · omega
   · exact hb.bytes y (List.mem_of_mem_take hyy)
theorem packed_any (a : Option Addr) (n c : Nat) (l : List Int) (w : World) (hr : BS w a n c l) (hn : n ≤ 4194304) :
   Calls Tryz.prog 92 #[.slice a n c] w (GivesPk l w) := by
 have hln := hr.len
 have HR := LH hr
 have hl : l.length ≤ 4194304 := by omega
 clear hr hln
 go_enter Tryz.func92, Tryz.ntmps92
 go_wp2
 go_loopw [0, 3] (fun b out wr => PackRel l w b out wr) (fun b _ _ => lenV b)
 case atStart => exact ⟨a, n, c, l, none, 0, 0, [], rfl, rfl, HR.out, World.ownsRow_nil _ _ _ _, fun o h => h, by rw [HR.out.len]; omega, by simp, Below.refl _ _⟩
 case round =>
   obtain ⟨a1, m, c1, rem, a2, k, c2, outl, rfl, rfl, hb, ho, hu, hbd, hby, hB⟩ := hrel
   have HO := LH ho
   have HU := LH hu
   have HY := LH hby
   have hk : k ≤ 8388608 := by omega
   clear ho hby hu
   by_cases hm : m = 0
   · subst hm
     obtain rfl : rem = [] := List.eq_nil_of_length_eq_zero hb.len
     go_wp2
     go_ret
     exact ⟨outl, a2, k, c2, by have := HU.out [] .nil; simpa using this, rfl, BS.of_own HO.out HY.out, hB⟩
   · have hm0 : 0 < m := by omega
     have hrm := PackM.run_max rem
     have hrl := PackM.run_le rem
     rw [hb.len] at hrl
     obtain ⟨R, hR⟩ : ∃ R, PackM.run rem = R := ⟨_, rfl⟩
     rw [hR] at hrm hrl
     have HRn := LH hR
     clear hR
     go_wp2_with fail
     refine (alike_any a1 m c1 rem _ (hb.later hB) hm0).mono ?_
     rintro e W1 ⟨rfl, hd1⟩
     rw [HRn.out]
     have hB1 := bTh hB hd1.below
     have HO1 := LH (own_later HO.out hd1.below)
     clear hd1 hB HO
     by_cases h3 : 3 ≤ R
     · obtain ⟨blk, off, rfl, hc⟩ := (hb.later hB1).cells hm0
       have hc0 := hc 0 hm0
       rw [Nat.add_zero] at hc0
       have hx := hb.byte 0
       clear hc
       have hcut : ∀ W, (Instr.slice 22 (.slice (some ⟨blk, off, none⟩) m c1) (some (.int .i64 R)) none none).run Tryz.prog W = .ok (.slice (cutA (some ⟨blk, off, none⟩) c1 R) (m - R) (c1 - R)) W := fun W => run_cut_l _ m c1 W R (by omega)
       have hb3 := hb.cut R (by omega)
       generalize cutA (some ⟨blk, off, none⟩) c1 R = A3 at hcut hb3
       have hB2 := hB1.alloc hB1.size (.cells #[.int .u8 (128 + (R : Int)), .int .u8 (rem[0]?.getD 0)] 5)
       have ho2 := HO1.out.alloc (.cells #[.int .u8 (128 + (R : Int)), .int .u8 (rem[0]?.getD 0)] 5)
       obtain ⟨a5, c5, W5, hrun, ho5, hg5⟩ := app_run ho2 (pair_bs W1 (128 + (R : Int)) (rem[0]?.getD 0) (by omega) hx) (by omega) hB2.size
       have hB5 := hB2.grown hg5 hB2.size (fun g hg => (ho2.lt g hg).1)
       have HO5 := LH ho5
       clear ho5 ho2 hg5 hB2
       go_wp2_with (at_builtin; refine Lib.wpList_append_run _ rfl _ _ _ _ rfl _ _ rfl rfl _ _ hrun ?_)
       go_roundw
       case rel =>
         refine ⟨A3, m - R, c1 - R, rem.drop R, a5, k + 2, c5, outl ++ [128 + (R : Int), rem[0]?.getD 0], rfl, rfl, hb3, HO5.out, ?_, by omega, ?_, hB5⟩
         · intro o h
           have := HU.out _ (.run rem o R HRn.out h3 h)
           simpa using this
         · intro y hy
           simp only [List.mem_append, List.mem_cons, List.not_mem_nil, or_false] at hy
           rcases hy with hy | rfl | rfl
           · exact HY.out y hy
           · omega
           · exact hx
       case measure => simp [lenV]; omega
     · have H3 := LH h3
       go_wp2_with fail
       go_loopw [5] (fun v wr => ∃ j : Nat, 1 ≤ j ∧ j ≤ m ∧ j ≤ 127 ∧ v = .int .i64 j ∧ Hid (∀ i, i < j → PackM.run (rem.drop i) < 3) ∧ Below W1.heap.size W1 wr) (fun v _ => 127 - (intOf v).toNat)
       case atStart =>
         refine ⟨1, by omega, by omega, by omega, rfl, LH (fun i hi => ?_), Below.refl _ _⟩
         rw [show i = 0 by omega, List.drop_zero, HRn.out]
         omega
       case round =>
         obtain ⟨j, hj1, hjm, hj127, rfl, HJ, hBj⟩ := hrel
         by_cases hlm : j < m
         · by_cases hl7 : j < 127
           · have hcut : ∀ W, (Instr.slice 22 (.slice a1 m c1) (some (.int .i64 j)) none none).run Tryz.prog W = .ok (.slice (cutA a1 c1 j) (m - j) (c1 - j)) W := fun W => run_cut_l _ m c1 W j (by omega)
             have hbj := hb.cut j (by omega)
             generalize cutA a1 c1 j = A3 at hcut hbj
             go_wp2_with fail
             refine (alike_any A3 (m - j) (c1 - j) (rem.drop j) _ ((hbj.later hB1).later hBj) (by omega)).mono ?_
             rintro e W4 ⟨rfl, hd4⟩
             have hrj := PackM.run_max (rem.drop j)
             have hB4 := bTh hBj hd4.below
             clear hcut hbj hBj hd4
             by_cases hrun : PackM.run (rem.drop j) < 3
             · have HS := LH hrun
               generalize PackM.run (rem.drop j) = S at hrun hrj ⊢
               go_wp2_with fail
               go_roundw
               case rel => exact ⟨j + 1, by omega, by omega, by omega, by go_num, LH (fun i hi => by
                 rcases Nat.lt_or_ge i j with h | h
                 · exact HJ.out i h
                 · obtain rfl : i = j := by omega
                   exact HS.out), hB4⟩
               case measure => simp [intOf]; omega
             · have HS : Hid (j = m ∨ j = 127 ∨ 3 ≤ PackM.run (rem.drop j)) := .inr (.inr (by omega))
               generalize PackM.run (rem.drop j) = S at hrun hrj ⊢
               have hBx := bTh hB1 hB4
               have HOx := LH (own_later HO1.out hB4)
               have hcut1 : ∀ W, (Instr.slice 22 (.slice a1 m c1) none (some (.int .i64 j)) none).run Tryz.prog W = .ok (.slice a1 j c1) W := fun W => rCh a1 m c1 W j (by have := hb.le; omega)
               have hcut2 : ∀ W, (Instr.slice 22 (.slice a1 m c1) (some (.int .i64 j)) none none).run Tryz.prog W = .ok (.slice (cutA a1 c1 j) (m - j) (c1 - j)) W := fun W => run_cut_l _ m c1 W j (by omega)
               obtain ⟨a5, c5, W5, a6, c6, W6, hrun1, hrun2, HO6, hB6⟩ := lit_appends hBx HOx.out (hb.head j hjm) hj127 (by omega)
               go_wp2_with (at_builtin; first
                 | (refine Lib.wpList_append_run _ rfl (.tmp 42) (.tmp 45) _ _ rfl _ _ rfl rfl _ _ hrun1 ?_)
                 | (refine Lib.wpList_append_run _ rfl (.tmp 47) (.tmp 50) _ _ rfl _ _ rfl rfl _ _ hrun2 ?_))
               go_roundw
               case rel => exact lit_rel hb HU.out HY.out hbd hj1 hj127 hjm HJ.out HS.out HO6.out hB6
               case measure => simp [lenV]; omega
           · have HS : Hid (j = m ∨ j = 127 ∨ 3 ≤ PackM.run (rem.drop j)) := .inr (.inl (by omega))
             have hd : decide ((j : Int) < 127) = false := by simp; omega
             have hBx := bTh hB1 hBj
             have HOx := LH (own_later HO1.out hBj)
             have hcut1 : ∀ W, (Instr.slice 22 (.slice a1 m c1) none (some (.int .i64 j)) none).run Tryz.prog W = .ok (.slice a1 j c1) W := fun W => rCh a1 m c1 W j (by have := hb.le; omega)
             have hcut2 : ∀ W, (Instr.slice 22 (.slice a1 m c1) (some (.int .i64 j)) none none).run Tryz.prog W = .ok (.slice (cutA a1 c1 j) (m - j) (c1 - j)) W := fun W => run_cut_l _ m c1 W j (by omega)
             obtain ⟨a5, c5, W5, a6, c6, W6, hrun1, hrun2, HO6, hB6⟩ := lit_appends hBx HOx.out (hb.head j hjm) hj127 (by omega)
             go_wp2_with (at_builtin; first
               | (refine Lib.wpList_append_run _ rfl (.tmp 42) (.tmp 45) _ _ rfl _ _ rfl rfl _ _ hrun1 ?_)
               | (refine Lib.wpList_append_run _ rfl (.tmp 47) (.tmp 50) _ _ rfl _ _ rfl rfl _ _ hrun2 ?_))
             go_roundw
             case rel => exact lit_rel hb HU.out HY.out hbd hj1 hj127 hjm HJ.out HS.out HO6.out hB6
             case measure => simp [lenV]; omega
         · have HS : Hid (j = m ∨ j = 127 ∨ 3 ≤ PackM.run (rem.drop j)) := .inl (by omega)
           have hd : decide (j < m) = false := by simp; omega
           have hBx := bTh hB1 hBj
           have HOx := LH (own_later HO1.out hBj)
           have hcut1 : ∀ W, (Instr.slice 22 (.slice a1 m c1) none (some (.int .i64 j)) none).run Tryz.prog W = .ok (.slice a1 j c1) W := fun W => rCh a1 m c1 W j (by have := hb.le; omega)
           have hcut2 : ∀ W, (Instr.slice 22 (.slice a1 m c1) (some (.int .i64 j)) none none).run Tryz.prog W = .ok (.slice (cutA a1 c1 j) (m - j) (c1 - j)) W := fun W => run_cut_l _ m c1 W j (by omega)
           obtain ⟨a5, c5, W5, a6, c6, W6, hrun1, hrun2, HO6, hB6⟩ := lit_appends hBx HOx.out (hb.head j hjm) hj127 (by omega)
           go_wp2_with (at_builtin; first
             | (refine Lib.wpList_append_run _ rfl (.tmp 42) (.tmp 45) _ _ rfl _ _ rfl rfl _ _ hrun1 ?_)
             | (refine Lib.wpList_append_run _ rfl (.tmp 47) (.tmp 50) _ _ rfl _ _ rfl rfl _ _ hrun2 ?_))
           go_roundw
           case rel => exact lit_rel hb HU.out HY.out hbd hj1 hj127 hjm HJ.out HS.out HO6.out hB6
           case measure => simp [lenV]; omega
theorem runLength_any (a : Option Addr) (n c : Nat) (l : List Int) (w : World) (hr : BS w a n c l) :
   Calls Tryz.prog 123 #[.slice a n c] w fun e w' => e = .returned (.int .i64 (PackM.run l)) ∧ DrewN w w' := by
 have hlen : n ≤ 9223372036854775807 := by have := hr.le; have := hr.max; omega
 have hl := LH hr.len
 have hcells := hr.cells
 clear hr
 go_enter Tryz.func123, Tryz.ntmps123
 go_wp2
 go_loopw [3] (fun i wr => ∃ k : Nat, k ≤ n ∧ k ≤ 127 ∧ i = .int .i64 k ∧ Hid (∀ j, j < k → l[j]?.getD 0 = l[0]?.getD 0) ∧ DrewN w wr) (fun i _ => 127 - (intOf i).toNat)
 case atStart => exact ⟨0, Nat.zero_le _, Nat.zero_le _, rfl, LH (fun j hj => absurd hj (by omega)), 0, rfl⟩
 case round =>
   obtain ⟨k, hk, hk2, rfl, HE, nq, rfl⟩ := hrel
   by_cases hlt : k < n
   · by_cases h127 : k < 127
     · obtain ⟨b, off, rfl, hc⟩ := hcells (by omega)
       have hck := hc k (by omega)
       have hc0 := hc 0 (by omega)
       have hpos : (0 : Int) < n := by omega
       have hpos2 : 0 < n := by omega
       rw [Nat.add_zero] at hc0
       have hd1 : decide ((k : Int) < 127) = true := by simp; omega
       have hd2 : decide (k < n) = true := by simp; omega
       by_cases heq : l[k]?.getD 0 = l[0]?.getD 0
       · have HQ := LH heq
         rw [heq] at hck
         clear hc hcells heq
         go_wp2
         go_quiet (fail)
         go_wp2
         go_roundw
         case rel => exact ⟨k + 1, by omega, by omega, by go_num, LH (fun j hj => by
           rcases Nat.lt_or_ge j k with h | h
           · exact HE.out j h
           · obtain rfl : j = k := by omega
             exact HQ.out), _, rfl⟩
         case measure => simp [intOf]; omega
       · have hb : (l[k]?.getD 0 == l[0]?.getD 0) = false := by simpa using heq
         have HQ := LH heq
         clear hc hcells heq
         go_wp2
         go_quiet (fail)
         go_wp2
         go_ret
         exact ⟨ret_run (by rw [PackM.run_eq l k (by rw [hl.out]; omega) hk2 HE.out (.inr (.inr HQ.out))]), DrewN.more _ _ _⟩
     · have hd : decide ((k : Int) < 127) = false := by simp; omega
       clear hcells
       go_wp2
       go_quiet (fail)
       go_wp2
       go_ret
       exact ⟨ret_run (by rw [PackM.run_eq l k (by rw [hl.out]; omega) hk2 HE.out (.inr (.inl (by omega)))]), DrewN.more _ _ _⟩
   · have hd : decide (k < n) = false := by simp; omega
     clear hcells
     go_wp2
     go_quiet (fail)
     go_wp2
     go_ret
     exact ⟨ret_run (by rw [PackM.run_eq l k (by rw [hl.out]; omega) hk2 HE.out (.inl (by rw [hl.out]; omega))]), DrewN.more _ _ _⟩
structure PSt (w0 : World) (B0 B1 B2 : Nat) (a : Option Addr) (n c fr : Nat) (a' : Option Addr) (k c' : Nat) (outl : List Int) (W : World) : Prop where
 c0 : W.heap[B0]? = some (.cells #[.slice a n c] 22 (0, 0))
 c1 : W.heap[B1]? = some (.cells #[.slice a' k c'] 22 (0, 0))
 c2 : W.heap[B2]? = some (.cells #[.int .i64 (fr : Int)] 3 (0, 0))
 own : W.ownsRow (B2 + 1) 5 1 (.slice a' k c') k (outl.map (Value.int .u8))
 below : Below w0.heap.size w0 W
 le0 : w0.heap.size ≤ B0
 le1 : B0 < B1
 le2 : B1 < B2
theorem blk_cell {W : World} {g t : Nat} {v : Value} (h : W.heap[g]? = some (.cells #[v] t (0, 0))) : W.cell? ⟨g, 0, none⟩ = some v := by simp [World.cell?, h]
theorem blk_frozen {W : World} {g t : Nat} {v : Value} (h : W.heap[g]? = some (.cells #[v] t (0, 0))) : W.frozen? ⟨g, 0, none⟩ = false := by simp [World.frozen?, h]
theorem blk_set {W : World} {g t : Nat} {v : Value} (h : W.heap[g]? = some (.cells #[v] t (0, 0))) (u : Value) : (W.setCell ⟨g, 0, none⟩ u).heap[g]? = some (.cells #[u] t (0, 0)) := by simp [World.setCell, Array.getElem?_modify, h]
theorem blk_lt {W : World} {g t : Nat} {v : Value} (h : W.heap[g]? = some (.cells #[v] t (0, 0))) : g < W.heap.size := by
 rcases Nat.lt_or_ge g W.heap.size with hlt | hge
 · exact hlt
 · rw [Array.getElem?_eq_none hge] at h; cases h
theorem own_far {w : World} {base e n : Nat} {v : Value} {xs : List Value} (h : w.ownsRow base e 1 v n xs) {p : Addr} (hp : p.block < base) (u : Value) : (w.setCell p u).ownsRow base e 1 v n xs := by
 refine ⟨h.1, ?_⟩
 rcases h.2 with h2 | ⟨g, cap, cur, h2, h3, h4, h5⟩
 · exact .inl h2
 · refine .inr ⟨g, cap, cur, h2, h3, ?_, h5⟩
   rw [Below.heap_setCell w p u g (by omega)]
   exact h4
section
variable {w0 : World} {B0 B1 B2 : Nat} {a : Option Addr} {n c fr : Nat} {a' : Option Addr} {k c' : Nat} {outl : List Int} {W W' : World}
theorem PSt.later (h : PSt w0 B0 B1 B2 a n c fr a' k c' outl W) (hb : Below W.heap.size W W') : PSt w0 B0 B1 B2 a n c fr a' k c' outl W' :=
 ⟨(hb.block _ (blk_lt h.c0)).trans h.c0, (hb.block _ (blk_lt h.c1)).trans h.c1, (hb.block _ (blk_lt h.c2)).trans h.c2, own_later h.own hb, bTh h.below hb, h.le0, h.le1, h.le2⟩
theorem PSt.drew (h : PSt w0 B0 B1 B2 a n c fr a' k c' outl W) : PSt w0 B0 B1 B2 a n c fr a' k c' outl W.drew := h.later (Below.refl _ _).drew
theorem PSt.from_ (h : PSt w0 B0 B1 B2 a n c fr a' k c' outl W) (t : Nat) : PSt w0 B0 B1 B2 a n c t a' k c' outl (W.setCell ⟨B2, 0, none⟩ (.int .i64 (t : Int))) :=
 ⟨(Below.heap_setCell W _ _ B0 (by have := h.le1; have := h.le2; show B0 ≠ B2; omega)).trans h.c0, (Below.heap_setCell W _ _ B1 (by have := h.le2; show B1 ≠ B2; omega)).trans h.c1, blk_set h.c2 _,
   own_far h.own (by show B2 < B2 + 1; omega) _, h.below.setCell (by show w0.heap.size ≤ B2; have := h.le0; have := h.le1; have := h.le2; omega) _, h.le0, h.le1, h.le2⟩
theorem PSt.app (h : PSt w0 B0 B1 B2 a n c fr a' k c' outl W) {A : Option Addr} {m C : Nat} {l' : List Int} (hs : BS W A m C l') (hm : m ≤ 4194304) (hk : k ≤ 16777216) :
   ∃ a5 c5 W5, (Builtin.append_ #[22, 22] 22 #[.slice a' k c', .slice A m C]).run Tryz.prog W = .ok (.slice a5 (k + m) c5) W5 ∧ W5.cell? ⟨B1, 0, none⟩ = some (.slice a' k c') ∧ W5.frozen? ⟨B1, 0, none⟩ = false ∧
     Hid (PSt w0 B0 B1 B2 a n c fr a5 (k + m) c5 (outl ++ l') (W5.setCell ⟨B1, 0, none⟩ (.slice a5 (k + m) c5))) := by
 obtain ⟨a5, c5, W5, hr, ho, hg⟩ := app_run h.own hs (by omega) (by have := blk_lt h.c2; omega)
 have hfar : ∀ g, g ≤ B2 → some g ≠ (Value.slice a' k c').ownBlock := by
   intro g hg he
   have := (h.own.lt g he.symm).1
   omega
 have e0 := (hg.block B0 (blk_lt h.c0) (hfar _ (by have := h.le1; have := h.le2; omega))).trans h.c0
 have e1 := (hg.block B1 (blk_lt h.c1) (hfar _ (by have := h.le2; omega))).trans h.c1
 have e2 := (hg.block B2 (blk_lt h.c2) (hfar _ (by omega))).trans h.c2
 have hB5 := h.below.grown hg h.below.size (fun g hg => by have := (h.own.lt g hg).1; have := h.le0; have := h.le1; have := h.le2; omega)
 refine ⟨a5, c5, W5, hr, blk_cell e1, blk_frozen e1, ?_⟩
 exact ⟨(Below.heap_setCell W5 _ _ B0 (by have := h.le1; show B0 ≠ B1; omega)).trans e0, blk_set e1 _, (Below.heap_setCell W5 _ _ B2 (by have := h.le2; show B2 ≠ B1; omega)).trans e2,
   own_far ho (by show B1 < B2 + 1; have := h.le2; omega) _, hB5.setCell (by show w0.heap.size ≤ B1; have := h.le0; have := h.le1; omega) _, h.le0, h.le1, h.le2⟩
end
def litW (l : List Int) (fr t : Nat) : List Int := if fr < t then (((t - fr : Nat) : Int)) :: (l.drop fr).take (t - fr) else []
def FlushTo (w0 : World) (B0 B1 B2 : Nat) (a : Option Addr) (n c : Nat) (l : List Int) (fr t : Nat) (outl : List Int) (e : Ending) (W' : World) : Prop :=
 e = .returned (.tuple #[]) ∧ ∃ a5 k5 c5, PSt w0 B0 B1 B2 a n c t a5 k5 c5 (outl ++ litW l fr t) W'
theorem flush_any {w0 : World} {B0 B1 B2 : Nat} {a : Option Addr} {n c fr : Nat} {a' : Option Addr} {k c' : Nat} {outl l : List Int} {W : World} (t : Nat) (h : PSt w0 B0 B1 B2 a n c fr a' k c' outl W) (hl : BS w0 a n c l)
   (hft : fr ≤ t) (htn : t ≤ n) (h127 : t ≤ fr + 127) (hk : k ≤ 8388608) :
   Calls Tryz.prog 122 #[.int .i64 (t : Int), .pointer (some ⟨B2, 0, none⟩), .pointer (some ⟨B1, 0, none⟩), .pointer (some ⟨B0, 0, none⟩)] W (FlushTo w0 B0 B1 B2 a n c l fr t outl) := by
 have k2 := blk_cell h.c2
 have f2 := blk_frozen h.c2
 have k1 := blk_cell h.c1
 have f1 := blk_frozen h.c1
 have k0 := blk_cell h.c0
 have HH := LH h
 by_cases hlt : fr < t
 · obtain ⟨D, hD⟩ : ∃ D : Nat, (t : Int) - (fr : Int) = D := ⟨t - fr, by omega⟩
   have hD2 : D ≤ 127 := by omega
   have hDe : t - fr = D := by omega
   have HDe := LH hDe
   clear hDe
   have hBa : Below W.heap.size W (W.alloc (.cells #[.int .u8 (D : Int)] 5)) := (Below.refl _ _).alloc (Nat.le_refl _) _
   obtain ⟨a5, c5, W5, hrun1, k5, f5, HS5⟩ := (h.later hBa).app (one_bs W (D : Int) (by omega)) (by omega) (by omega)
   clear hBa h
   go_enter Tryz.func122, Tryz.ntmps122
   go_wp2_with (at_builtin; refine Lib.wpList_append_run _ rfl _ _ _ _ rfl _ _ rfl rfl _ _ hrun1 ?_)
   generalize W5.setCell ⟨B1, 0, none⟩ (.slice a5 (k + 1) c5) = W6 at HS5 ⊢
   clear k5 f5 hrun1 W5 k0 k1 k2 f1 f2 HH
   have k2 := blk_cell HS5.out.c2
   have k1 := blk_cell HS5.out.c1
   have k0 := blk_cell HS5.out.c0
   have hlD := hl.len
   have hlc := hl.le
   have hsrc := ((hl.mid fr t hft htn).later HS5.out.drew.below)
   have hcut : ∀ W, (Instr.slice 22 (.slice a n c) (some (.int .i64 fr)) (some (.int .i64 t)) none).run Tryz.prog W = .ok (.slice (cutA a c fr) (t - fr) (c - fr)) W := fun W => run_cut_lh a n c W fr t hft (by omega)
   rw [HDe.out] at hsrc
   simp only [HDe.out] at hcut
   clear hlD hlc hD
   generalize cutA a c fr = A3 at hcut hsrc
   generalize c - fr = C3 at hcut hsrc
   obtain ⟨a7, c7, W7, hrun2, k7, f7, HS7⟩ := HS5.out.drew.app hsrc (by omega) (by omega)
   clear hsrc
   go_region_law (refine step_append_run rfl (.tmp 15) (.tmp 19) 22 22 rfl (.slice a5 (k + 1) c5) (.slice A3 D C3) (by simp [Act.eval, Act.put]) (by simp [Act.eval, Act.put]) _ _ hrun2 ?_)
   all_goals
     generalize W7.setCell ⟨B1, 0, none⟩ (.slice a7 (k + 1 + D) c7) = W8 at HS7 ⊢
     clear k7 f7 hrun2 W7 k0 k1 k2
     have k2 := blk_cell HS7.out.c2
     have f2 := blk_frozen HS7.out.c2
     go_wp2
     go_end0
     refine ⟨rfl, a7, k + 1 + D, c7, ?_⟩
     rw [litW, if_pos hlt, HDe.out]
     have := HS7.out.from_ t
     simpa using this
 · obtain rfl : fr = t := by omega
   go_enter Tryz.func122, Tryz.ntmps122
   go_wp2
   go_end0
   exact ⟨rfl, a', k, c', by rw [litW, if_neg (Nat.lt_irrefl _), List.append_nil]; exact HH.out.from_ _⟩
theorem litW_len (l : List Int) (fr t n : Nat) (hl : l.length = n) (h : fr ≤ t) (ht : t ≤ n) : (litW l fr t).length + 2 * (n - t) ≤ 2 * (n - fr) := by
 unfold litW
 split
 · simp only [List.length_cons, List.length_take, List.length_drop, hl]; omega
 · simp only [List.length_nil]; omega
theorem litW_byt (l : List Int) (fr t : Nat) (hl : ∀ x ∈ l, 0 ≤ x ∧ x ≤ 255) (h : t ≤ fr + 127) : ∀ x ∈ litW l fr t, 0 ≤ x ∧ x ≤ 255 := by
 intro x hx
 unfold litW at hx
 split at hx
 · rcases List.mem_cons.1 hx with rfl | hx
   · omega
   · exact hl x (List.mem_of_mem_drop (List.mem_of_mem_take hx))
 · cases hx
theorem flush_packs {l outl : List Int} {fr t n : Nat} (hl : l.length = n) (h1 : fr ≤ t) (h2 : t ≤ n) (h3 : t ≤ fr + 127) (h4 : ∀ i, fr ≤ i → i < t → PackM.run (l.drop i) < 3)
   (h5 : t = n ∨ t = fr + 127 ∨ 3 ≤ PackM.run (l.drop t)) (hu : ∀ o, PackM.Packs (l.drop fr) o → PackM.Packs l (outl ++ o)) : ∀ o, PackM.Packs (l.drop t) o → PackM.Packs l ((outl ++ litW l fr t) ++ o) := by
 intro o ho
 unfold litW
 split
 · rename_i hlt
   have := hu _ (.lit (l.drop fr) o (t - fr) (by omega) (by omega) (by rw [List.length_drop, hl]; omega) (fun j hj => by rw [List.drop_drop]; exact h4 _ (by omega) (by omega))
     (by rw [List.length_drop, hl, List.drop_drop, show fr + (t - fr) = t by omega]; omega) (by rw [List.drop_drop, show fr + (t - fr) = t by omega]; exact ho))
   simpa using this
 · obtain rfl : fr = t := by omega
   simpa using hu o ho
def PackRelI (l : List Int) (w : World) (a : Option Addr) (n c B0 B1 B2 : Nat) (i : Value) (wr : World) : Prop :=
 ∃ (j fr : Nat) (a' : Option Addr) (k c' : Nat) (outl : List Int), i = .int .i64 j ∧ fr ≤ j ∧ j ≤ n ∧ j ≤ fr + 126 ∧ PSt w B0 B1 B2 a n c fr a' k c' outl wr ∧ (∀ o, PackM.Packs (l.drop fr) o → PackM.Packs l (outl ++ o)) ∧
   (∀ i, fr ≤ i → i < j → PackM.run (l.drop i) < 3) ∧ outl.length + 2 * (n - fr) ≤ 2 * n ∧ (∀ x ∈ outl, 0 ≤ x ∧ x ≤ 255)
theorem pst_start (w : World) (a : Option Addr) (n c : Nat) : PSt w w.heap.size (w.heap.size + 1) (w.heap.size + 1 + 1) a n c 0 none 0 0 []
   (((w.alloc (.cells #[.slice a n c] 22)).alloc (.cells #[.slice none 0 0] 22)).alloc (.cells #[.int .i64 0] 3)) := by
 refine ⟨?_, ?_, ?_, World.ownsRow_nil _ _ _ _, (((Below.refl _ _).alloc (Nat.le_refl _) _).alloc (by simp) _).alloc (by simp; omega) _, Nat.le_refl _, by omega, by omega⟩
 · simp only [hpA, World.size_alloc]; rw [if_neg (by omega), if_neg (by omega)]; simp
 · simp only [hpA, World.size_alloc]; simp
 · simp only [hpA, World.size_alloc]; simp
theorem pack_any (a : Option Addr) (n c : Nat) (l : List Int) (w : World) (hr : BS w a n c l) (hn : n ≤ 4194304) :
   Calls Tryz.prog 78 #[.slice a n c] w (GivesPk l w) := by
 have HR := LH hr
 have HL := LH hr.len
 have hst := LH (pst_start w a n c)
 clear hr
 go_enter Tryz.func78, Tryz.ntmps78
 go_wp2_with fail
 generalize (((w.alloc (.cells #[.slice a n c] 22)).alloc (.cells #[.slice none 0 0] 22)).alloc (.cells #[.int .i64 0] 3)) = W0 at hst ⊢
 generalize w.heap.size + 1 + 1 = B2 at hst ⊢
 generalize w.heap.size + 1 = B1 at hst ⊢
 obtain ⟨B0, hB0⟩ : ∃ B0, w.heap.size = B0 := ⟨_, rfl⟩
 rw [hB0] at hst ⊢
 clear hB0
 go_loopw [6] (fun i wr => PackRelI l w a n c B0 B1 B2 i wr) (fun i _ => n - (intOf i).toNat)
 case atStart => exact ⟨0, 0, none, 0, 0, [], rfl, Nat.le_refl _, Nat.zero_le _, by omega, hst.out, fun o h => h, fun i h1 h2 => by omega, by simp, by simp⟩
 case round =>
   obtain ⟨j, fr, a2, k, c2, outl, rfl, hfj, hjn, hj126, hs, hu, hr3, hbd, hby⟩ := hrel
   have k0 := blk_cell hs.c0
   have k1 := blk_cell hs.c1
   have k2 := blk_cell hs.c2
   have f2 := blk_frozen hs.c2
   have hol : outl.length = k := by simpa using hs.own.1
   have hk : k ≤ 8388608 := by omega
   have HS := LH hs
   have HU := LH hu
   have H3 := LH hr3
   have HY := LH hby
   have HK := LH hol
   have HD := LH hbd
   clear hs hu hr3 hby hol hbd
   by_cases hlt : j < n
   · have hcut : ∀ W, (Instr.slice 22 (.slice a n c) (some (.int .i64 j)) none none).run Tryz.prog W = .ok (.slice (cutA a c j) (n - j) (c - j)) W := fun W => run_cut_l a n c W j (by omega)
     have hbj := HR.out.cut j (by omega)
     generalize cutA a c j = A3 at hcut hbj
     go_wp2_with fail
     refine (runLength_any A3 (n - j) (c - j) (l.drop j) _ (hbj.later HS.out.below)).mono ?_
     rintro e W1 ⟨rfl, hd1⟩
     have HS1 := LH (HS.out.later hd1.below)
     have hRm := PackM.run_max (l.drop j)
     have hRl := PackM.run_le (l.drop j)
     rw [List.length_drop, HL.out] at hRl
     obtain ⟨R, hR⟩ : ∃ R, PackM.run (l.drop j) = R := ⟨_, rfl⟩
     rw [hR] at hRm hRl ⊢
     have HRn := LH hR
     clear hR k0 k1 k2 f2 HS hcut hbj hd1
     by_cases h3 : 3 ≤ R
     · go_wp2_with fail
       refine (flush_any j HS1.out HR.out hfj hjn (by omega) hk).mono ?_
       rintro e W2 ⟨rfl, a5, k5, c5, hs2⟩
       have hp2 := flush_packs HL.out hfj hjn (by omega) H3.out (.inr (.inr (by rw [HRn.out]; exact h3))) HU.out
       have hl2 := litW_len l fr j n HL.out hfj hjn
       have hy2 : ∀ x ∈ outl ++ litW l fr j, 0 ≤ x ∧ x ≤ 255 := fun x hx => (List.mem_append.1 hx).elim (HY.out x) (litW_byt l fr j HR.out.bytes (by omega) x)
       have hb2 : (outl ++ litW l fr j).length + 2 * (n - j) ≤ 2 * n := by rw [List.length_append]; have := HD.out; omega
       generalize outl ++ litW l fr j = out2 at hs2 hp2 hy2 hb2
       have hk5 : out2.length = k5 := by simpa using hs2.own.1
       have hk6 : k5 ≤ 8388608 := by omega
       obtain ⟨blk, off, rfl, hc⟩ := (HR.out.later hs2.below).cells (by omega)
       have hcj := hc j hlt
       have hx := HR.out.byte j
       have HX : Hid ((l.drop j)[0]?.getD 0 = l[j]?.getD 0) := by show (l.drop j)[0]?.getD 0 = l[j]?.getD 0; rw [List.getElem?_drop, Nat.add_zero]
       generalize l[j]?.getD 0 = x at hcj hx HX
       clear hc
       have k0 := blk_cell hs2.c0
       have k1 := blk_cell hs2.c1
       have z1 := blk_lt hs2.c1
       have hBa : Below W2.heap.size W2 (W2.alloc (.cells #[.int .u8 (128 + (R : Int)), .int .u8 x] 5)) := (Below.refl _ _).alloc (Nat.le_refl _) _
       obtain ⟨a7, c7, W7, hrun, k7, f7, HS7⟩ := (hs2.later hBa).drew.app ((pair_bs W2 (128 + (R : Int)) x (by omega) hx).later (Below.refl _ _).drew) (by omega) (by omega)
       have hw1 : IntKind.i64.wrap (128 + (R : Int)) = 128 + (R : Int) := IntWalk.i64_in _ (by omega)
       have hw2 : IntKind.u8.wrap (128 + (R : Int)) = 128 + (R : Int) := by rw [IntKind.wrap_u8]; omega
       have HP2 := LH hp2
       have HY2 := LH hy2
       have HB2 := LH hb2
       clear hp2 hy2 hb2 hl2 hk5 hBa hs2 HS1
       go_wp2_with fail
       go_region_law (refine step_append_run rfl (.tmp 22) (.tmp 30) 22 22 rfl (.slice a5 k5 c5) (.slice (some ⟨W2.heap.size, 0, none⟩) 2 2) (by simp [Act.eval]) (by simp [Act.eval]) _ _ hrun ?_)
       all_goals
         generalize W7.setCell ⟨B1, 0, none⟩ (.slice a7 (k5 + 2) c7) = W8 at HS7 ⊢
         clear k7 f7 hrun W7 k0 k1 hw1 hw2 hcj z1
         have k2 := blk_cell HS7.out.c2
         have f2 := blk_frozen HS7.out.c2
         obtain ⟨J, hJ⟩ : ∃ J : Nat, (j : Int) + (R : Int) = J := ⟨j + R, by omega⟩
         have hJn : J ≤ n := by omega
         have HJ : Hid (j + R = J) := by show j + R = J; omega
         have HS9 := LH (HS7.out.from_ J)
         go_wp2_with fail
         go_roundw
         case rel =>
           refine ⟨J, J, a7, k5 + 2, c7, out2 ++ [128 + (R : Int), x], rfl, Nat.le_refl _, hJn, by omega, HS9.out, ?_, fun i h1 h2 => by omega, ?_, ?_⟩
           · intro o ho
             have := HP2.out _ (.run (l.drop j) o R HRn.out h3 (by rw [List.drop_drop, HJ.out]; exact ho))
             rw [HX.out] at this
             simpa using this
           · have := HB2.out
             simp only [List.length_append, List.length_cons, List.length_nil]
             omega
           · intro y hy
             simp only [List.mem_append, List.mem_cons, List.not_mem_nil, or_false] at hy
             rcases hy with hy | rfl | rfl
             · exact HY2.out y hy
             · omega
             · exact hx
         case measure => simp [intOf]; omega
     · obtain ⟨J, hJ⟩ : ∃ J : Nat, (j : Int) + 1 = J := ⟨j + 1, by omega⟩
       obtain ⟨D, hD⟩ : ∃ D : Nat, (J : Int) - (fr : Int) = D := ⟨J - fr, by omega⟩
       have hJn : J ≤ n := by omega
       have HJ : Hid (j + 1 = J) := by show j + 1 = J; omega
       have H3' : Hid (∀ i, fr ≤ i → i < J → PackM.run (l.drop i) < 3) := by
         intro i h1 h2
         rcases Nat.lt_or_ge i j with h | h
         · exact H3.out i h1 h
         · obtain rfl : i = j := by omega
           rw [HRn.out]; omega
       have k2 := blk_cell HS1.out.c2
       by_cases hD7 : D = 127
       · have hb : ((D : Int) == 127) = true := by simp; omega
         go_wp2_with fail
         refine (flush_any J HS1.out HR.out (by omega) hJn (by omega) hk).mono ?_
         rintro e W2 ⟨rfl, a5, k5, c5, hs2⟩
         have hp2 := flush_packs HL.out (show fr ≤ J by omega) hJn (by omega) H3'.out (.inr (.inl (by omega))) HU.out
         have hl2 := litW_len l fr J n HL.out (by omega) hJn
         have hy2 : ∀ x ∈ outl ++ litW l fr J, 0 ≤ x ∧ x ≤ 255 := fun x hx => (List.mem_append.1 hx).elim (HY.out x) (litW_byt l fr J HR.out.bytes (by omega) x)
         have hb2 : (outl ++ litW l fr J).length + 2 * (n - J) ≤ 2 * n := by rw [List.length_append]; have := HD.out; omega
         have HP2 := LH hp2
         have HY2 := LH hy2
         have HB2 := LH hb2
         have HS2 := LH hs2
         clear hp2 hy2 hb2 hl2 hs2 k2
         go_wp2_with fail
         go_roundw
         case rel => exact ⟨J, J, a5, k5, c5, _, rfl, Nat.le_refl _, hJn, by omega, HS2.out, HP2.out, fun i h1 h2 => by omega, HB2.out, HY2.out⟩
         case measure => simp [intOf]; omega
       · have hb : ((D : Int) == 127) = false := by simp; omega
         go_wp2_with fail
         go_roundw
         case rel => exact ⟨J, fr, a2, k, c2, outl, rfl, by omega, hJn, by omega, HS1.out, HU.out, H3'.out, HD.out, HY.out⟩
         case measure => simp [intOf]; omega
   · obtain rfl : j = n := by omega
     go_wp2_with fail
     refine (flush_any j HS.out HR.out hfj (Nat.le_refl _) (by omega) hk).mono ?_
     rintro e W2 ⟨rfl, a5, k5, c5, hs2⟩
     have hp2 := flush_packs HL.out hfj (Nat.le_refl _) (by omega) H3.out (.inl rfl) HU.out
     have hy2 : ∀ x ∈ outl ++ litW l fr j, 0 ≤ x ∧ x ≤ 255 := fun x hx => (List.mem_append.1 hx).elim (HY.out x) (litW_byt l fr j HR.out.bytes (by omega) x)
     have HP2 := LH hp2
     have HY2 := LH hy2
     have HS2 := LH hs2
     have k1' := blk_cell hs2.c1
     clear hp2 hy2 hs2 k0 k1 k2 f2
     go_wp2_with fail
     go_ret
     refine ⟨_, a5, k5, c5, ?_, rfl, BS.of_own HS2.out.own HY2.out, HS2.out.below⟩
     have := HP2.out [] (by rw [List.drop_eq_nil_of_le (by rw [HL.out]; omega)]; exact .nil)
     simpa using this
structure CuW (w w1 : World) (B : Nat) (f t : Int) (ab : Option Addr) (nb cb : Nat) (o : List Int) (vo : Value) (out : List ChR) (W : World) : Prop where
 c0 : W.cell? ⟨B, 0, none⟩ = some (.int .i64 f)
 c1 : W.cell? ⟨B, 1, none⟩ = some (.int .i64 t)
 bs : BS W ab nb cb o
 st : CpSt w1.heap.size vo out W
 lt : B < w1.heap.size
 below1 : Below w1.heap.size w1 W
 below : Below w.heap.size w W
theorem CuW.later {w w1 : World} {B : Nat} {f t : Int} {ab : Option Addr} {nb cb : Nat} {o : List Int} {vo : Value} {out : List ChR} {W W' : World} (h : CuW w w1 B f t ab nb cb o vo out W) (hb : Below W.heap.size W W') : CuW w w1 B f t ab nb cb o vo out W' :=
 ⟨cell_later hb h.c0, cell_later hb h.c1, h.bs.later hb, h.st.later hb, h.lt, bTh h.below1 hb, bTh h.below hb⟩
theorem CuW.app {w w1 : World} {B : Nat} {f t : Int} {ab : Option Addr} {nb cb : Nat} {o : List Int} {vo : Value} {out : List ChR} {W W2 : World} (h : CuW w w1 B f t ab nb cb o vo out W) (hbs1 : BS w1 ab nb cb o) (hb : Below W.heap.size W W2) (r : ChR) {a : Option Addr} {n c : Nat} (hd : W2.ownsRow W.heap.size 5 1 (.slice a n c) n (r.data.map (Value.int .u8))) (hby : ∀ v ∈ r.data, 0 ≤ v ∧ v ≤ 255) (hI : r.I) (hn : out.length ≤ 1000) (hw : w.heap.size ≤ w1.heap.size) :
   ∃ g cap W5, (Builtin.append_ #[32, 32] 32 #[vo, .slice (some ⟨W2.heap.size, 0, none⟩) 1 1]).run Tryz.prog (W2.alloc (.cells #[.int .i64 r.fr, .int .i64 r.to_, .int .i64 r.n, .int .i64 r.of_, .slice a n c] 39)) = .ok (.slice (some ⟨g, 0, none⟩) (out.length + 1) cap) W5 ∧
     Hid (CuW w w1 B f t ab nb cb o (.slice (some ⟨g, 0, none⟩) (out.length + 1) cap) (out ++ [r]) W5) := by
 have h2 := h.later hb
 obtain ⟨g, cap, W5, hr, HS, hk⟩ := h2.st.app r (BS.of_own hd hby) (fun p hp => by
   have h9 := oL3 hd (g := p.block) (by rw [hp]; rfl)
   have h8 := h.below1.size
   refine ⟨by omega, h9.2, fun e => ?_⟩
   have h7 := (h.st.own e.symm).2
   omega) hI hn h2.below1.size h2.below1 rfl
 have hB5 : W5.heap[B]? = W2.heap[B]? := hk B (Nat.lt_of_lt_of_le h.lt h2.below1.size) (fun e => by
   have h7 := (h2.st.own e.symm).1
   have := h.lt
   omega)
 refine ⟨g, cap, W5, hr, ?_, ?_, hbs1.later HS.out.2, HS.out.1, h.lt, HS.out.2, ?_⟩
 · rw [← h2.c0]; simp only [World.cell?, hB5]
 · rw [← h2.c1]; simp only [World.cell?, hB5]
 · have hb5 := HS.out.2
   refine ⟨hb5.os.trans (h2.below1.os.symm.trans h2.below.os), hb5.tape.trans (h2.below1.tape.symm.trans h2.below.tape), hb5.output.trans (h2.below1.output.symm.trans h2.below.output), Nat.le_trans hw hb5.size, fun k hk' => ?_⟩
   rw [hb5.block k (by omega), ← h2.below1.block k (by omega), h2.below.block k hk']
def CutRel (w w1 : World) (B : Nat) (f t : Int) (ab : Option Addr) (nb cb : Nat) (o : List Int) (out i : Value) (wr : World) : Prop :=
 ∃ k : Nat, i = .int .i64 k ∧ k ≤ ChunkM.parts o ∧ CuW w w1 B f t ab nb cb o out ((ChunkM.cutL f t o).take k) wr
theorem CpSt.newC {base : Nat} {vo : Value} {out : List ChR} {W : World} (h : CpSt base vo out W) : NewR base W (fun V => CpSt base vo out V) := fun V hs hk => by
 obtain ⟨vs, h1, h2, h3⟩ := h
 exact ⟨vs, h1, own_keep h2 (fun g hg => hk g (oL3 h2 hg).1 (oL3 h2 hg).2), fun i hi => (h3 i hi).keep hs (fun k k1 k2 _ => hk k k1 k2)⟩
def GivesCsN (p : PatR) (w : World) (e : Ending) (w' : World) : Prop :=
 ∃ cs err a n c, ChunkM.CutIs p cs err ∧ e = .returned (.tuple #[.slice a n c, .int .i64 err]) ∧ NewR w.heap.size w' (fun V => CS V a n c cs) ∧ Below w.heap.size w w'
theorem cutC_n (v : Value) (p : PatR) (w : World) (hv : PV w v p) : Calls Tryz.prog 25 #[v] w (GivesCsN p w) := by
 obtain ⟨ap, np, cp, rfl, hop, i1, i2, i3, i4, i5⟩ := hv
 obtain ⟨f, t, od, nw, sz, ops⟩ := p
 simp only at hop i1 i2 i3 i4 i5 ⊢
 have hb0 : Below w.heap.size w (w.alloc (.cells #[.int .i64 f, .int .i64 t, .int .i64 od, .int .i64 nw, .int .i64 sz, .slice ap np cp] 35)) := (Below.refl _ _).alloc (Nat.le_refl _) _
 obtain ⟨B, hBB⟩ : ∃ B, w.heap.size = B := ⟨_, rfl⟩
 have hblk : (w.alloc (.cells #[.int .i64 f, .int .i64 t, .int .i64 od, .int .i64 nw, .int .i64 sz, .slice ap np cp] 35)).heap[B]? = some (.cells #[.int .i64 f, .int .i64 t, .int .i64 od, .int .i64 nw, .int .i64 sz, .slice ap np cp] 35 (0, 0)) := by rw [hpA, if_pos hBB.symm]
 have HPV : Hid (PV (w.alloc (.cells #[.int .i64 f, .int .i64 t, .int .i64 od, .int .i64 nw, .int .i64 sz, .slice ap np cp] 35)) (.agg #[.int .i64 f, .int .i64 t, .int .i64 od, .int .i64 nw, .int .i64 sz, .slice ap np cp]) ⟨f, t, od, nw, sz, ops⟩) := ⟨ap, np, cp, rfl, hop.later hb0, i1, i2, i3, i4, i5⟩
 have HB0 := LH hb0
 have HBLK := LH hblk
 have HI : Hid (I64 f ∧ I64 t) := ⟨i1, i2⟩
 clear hop i1 i2 i3 i4 i5 hb0 hblk
 go_enter Tryz.func25, Tryz.ntmps25
 go_wp2_with fail
 refine (putP_any _ _ _ HPV.out).mono ?_
 rintro e W1 ⟨a1, n1, c1, rfl, s1, b1⟩
 by_cases hc : PatM.check ⟨f, t, od, nw, sz, ops⟩ = 0
 · rw [PatM.putOf_ok hc] at s1 ⊢
   simp only at s1 ⊢
   have hpl := PatM.putL_len hc
   have hs1l := s1.len
   have HB1 := LH (bTh HB0.out b1)
   have HBLK1 := LH ((b1.block B (lt_blk HBLK.out)).trans HBLK.out)
   have HC := LH hc
   clear b1 HB0 HBLK HPV hc
   go_wp2_with fail
   refine (pack_any a1 n1 c1 _ _ s1 (by omega)).mono ?_
   rintro e W2 ⟨o, a2, n2, c2, hpk, rfl, s2, b2⟩
   have hol := ChunkM.packed_len HC.out hpk
   have hop := ChunkM.packed_parts HC.out hpk
   have hs2l := s2.len
   have hle2 := s2.le
   have HB2 := LH (bTh HB1.out b2)
   have hblk2 := (b2.block B (lt_blk HBLK1.out)).trans HBLK1.out
   have HPK := LH hpk
   have HS2 := LH s2
   obtain ⟨K, hKK⟩ : ∃ K, ChunkM.parts o = K := ⟨_, rfl⟩
   have HKK := LH hKK
   have hK16 : (n2 + 15) / 16 = K := by rw [← hKK]; unfold ChunkM.parts; rw [hs2l]
   obtain ⟨k0, k1, -⟩ := pat_cells hblk2
   have HU : Hid (CuW w W2 B f t a2 n2 c2 o (.slice none 0 0) [] W2) := ⟨k0, k1, s2, CpSt.start _ _, lt_blk hblk2, Below.refl _ _, HB2.out⟩
   have hq1 : ((n2 : Int) + 16 - 1).tdiv 16 = (K : Int) := by
     rw [show (n2 : Int) + 16 - 1 = ((n2 + 15 : Nat) : Int) by omega, ← hK16]
     rfl
   obtain ⟨X1, hX1⟩ : ∃ X1 : Nat, (n2 : Int) + 16 = X1 := ⟨n2 + 16, by omega⟩
   obtain ⟨X2, hX2⟩ : ∃ X2 : Nat, (X1 : Int) - 1 = X2 := ⟨n2 + 15, by omega⟩
   have hq2 : (X2 : Int).tdiv 16 = (K : Int) := by
     rw [← hX2, ← hX1]
     exact hq1
   rw [hKK] at hop
   clear s1 b2 HB1 HBLK1 hpk s2 hpl hs1l k0 k1 hblk2 hKK
   go_wp2_with fail
   go_loopw [7, 28] (fun out i wr => CutRel w W2 B f t a2 n2 c2 o out i wr) (fun _ i _ => K - (intOf i).toNat)
   case atStart => exact ⟨0, rfl, Nat.zero_le _, HU.out⟩
   case round =>
     obtain ⟨k, rfl, hk, hu⟩ := hrel
     rw [HKK.out] at hk
     have HU2 := LH hu
     clear hu HU
     by_cases hlt : k < K
     · have hk16 : k * 16 < n2 := by omega
       obtain ⟨P, hP⟩ : ∃ P : Nat, (k : Int) * 16 = P := ⟨k * 16, by omega⟩
       obtain ⟨k9, hk9⟩ : ∃ k9 : Nat, (k : Int) + 1 = k9 := ⟨k + 1, by omega⟩
       obtain ⟨Q, hQ⟩ : ∃ Q : Nat, (k9 : Int) * 16 = Q := ⟨k9 * 16, by omega⟩
       obtain ⟨M, hM⟩ : ∃ M : Nat, (if (n2 : Int) < (Q : Int) then (n2 : Int) else (Q : Int)) = M := ⟨min n2 Q, by split <;> omega⟩
       have hM2 : M = min n2 Q := by split at hM <;> omega
       have hM3 : (if n2 < Q then (n2 : Int) else (Q : Int)) = M := by rw [hM2]; split <;> omega
       have hM4 : min (Q : Int) (n2 : Int) = M := by rw [hM2]; omega
       have hM5 : min (n2 : Int) (Q : Int) = M := by rw [hM2]; omega
       have hcut : ∀ W, (Instr.slice 22 (.slice a2 n2 c2) (some (.int .i64 P)) (some (.int .i64 M)) none).run Tryz.prog W = .ok (.slice (cutA a2 c2 P) (M - P) (c2 - P)) W := fun W => run_cut_lh a2 n2 c2 W P M (by omega) (by omega)
       have hmid := HU2.out.bs.mid P M (by omega) (by omega)
       have hdat : (o.drop P).take (M - P) = (o.drop (k * 16)).take 16 := by
         rw [show P = k * 16 by omega]
         by_cases hq : M - k * 16 = 16
         · rw [hq]
         · rw [List.take_of_length_le (by rw [List.length_drop]; omega), List.take_of_length_le (by rw [List.length_drop]; omega)]
       rw [hdat] at hmid
       generalize cutA a2 c2 P = A3 at hcut hmid
       generalize M - P = E3 at hcut hmid
       generalize c2 - P = C3 at hcut hmid
       have hE3 := hmid.len
       have hE16 : E3 ≤ 140737488355328 := by
         have h9 : ((o.drop (k * 16)).take 16).length ≤ 16 := by rw [List.length_take]; omega
         omega
       have hby := hmid.bytes
       have hln : ((ChunkM.cutL f t o).take k).length = k := by rw [List.length_take, ChunkM.cutL_length, HKK.out]; omega
       have hnth : ChunkM.nth f t o k = ⟨f, t, k, K, (o.drop (k * 16)).take 16⟩ := by unfold ChunkM.nth; rw [HKK.out]
       have HT : Hid ((ChunkM.cutL f t o).take (k + 1) = (ChunkM.cutL f t o).take k ++ [⟨f, t, k, K, (o.drop (k * 16)).take 16⟩]) := by
         show _ = _
         rw [← hnth, List.take_add_one]
         congr 1
         have hkl : k < (ChunkM.cutL f t o).length := by rw [ChunkM.cutL_length, HKK.out]; exact hlt
         have := ChunkM.cutL_get f t o (k := k) (by rw [HKK.out]; exact hlt)
         rw [List.getD_eq_getElem?_getD, List.getElem?_eq_getElem hkl, Option.getD_some] at this
         rw [List.getElem?_eq_getElem hkl, this]
         rfl
       have HIk : Hid (ChR.I ⟨f, t, k, K, (o.drop (k * 16)).take 16⟩) := ⟨HI.out.1, HI.out.2, by unfold I64; simp only; omega, by unfold I64; simp only; omega⟩
       have H3 := LH (HU2.out.later (Below.refl _ _).drew)
       have HCL := LH (bclone_any A3 E3 C3 _ wr.drew (hmid.later (Below.refl _ _).drew) hE16)
       have HBY := LH hby
       have HLN := LH hln
       have HSz := LH HB2.out.size
       obtain ⟨D3, hD3⟩ : ∃ D3, (o.drop (k * 16)).take 16 = D3 := ⟨_, rfl⟩
       rw [hD3] at HT HIk HCL HBY
       obtain ⟨k0, k1⟩ : wr.drew.cell? ⟨B, 0, none⟩ = some (.int .i64 f) ∧ wr.drew.cell? ⟨B, 1, none⟩ = some (.int .i64 t) := ⟨H3.out.c0, H3.out.c1⟩
       have hw1 : IntKind.i64.wrap (P : Int) = P := IntWalk.i64_in _ (by omega)
       have hw2 : IntKind.i64.wrap (k9 : Int) = k9 := IntWalk.i64_in _ (by omega)
       have hw3 : IntKind.i64.wrap (Q : Int) = Q := IntWalk.i64_in _ (by omega)
       clear hmid hdat hby hln hnth hE3 hD3 hM2
       go_wp2_with fail
       go_region_held3 (fun W => W.cell? ⟨B, 0, none⟩ = some (.int .i64 f) ∧ W.cell? ⟨B, 1, none⟩ = some (.int .i64 t)) (first | exact ⟨k0, k1⟩ | exact ⟨p0, p1⟩ | exact ⟨q0, q1⟩ | exact ⟨s0, s1⟩) (first
         | (refine step_append_run rfl (.tmp 41) (.tmp 51) 32 32 rfl u7 (.slice (some ⟨W5.heap.size, 0, none⟩) 1 1) (by simp [Act.eval]) (by simp [Act.eval]) _ _ hrun ?_)
         | (go_at_call 79; refine HCL.out.mono ?_; rintro e W5 ⟨ac, nc, cc, rfl, hown, hb⟩
            have hp := H3.out.later hb
            obtain ⟨p0, p1⟩ : W5.cell? ⟨B, 0, none⟩ = some (.int .i64 f) ∧ W5.cell? ⟨B, 1, none⟩ = some (.int .i64 t) := ⟨hp.c0, hp.c1⟩
            obtain ⟨g5, cap5, W6, hrun, HS6⟩ := H3.out.app HS2.out hb ⟨f, t, k, K, D3⟩ hown HBY.out HIk.out (by rw [HLN.out]; omega) HSz.out
            rw [HLN.out] at hrun HS6
            simp only at hrun
            have hq := hp.later ((Below.refl _ _).alloc (Nat.le_refl _) (.cells #[.int .i64 f, .int .i64 t, .int .i64 (k : Int), .int .i64 (K : Int), .slice ac nc cc] 39))
            obtain ⟨q0, q1⟩ := (⟨hq.c0, hq.c1⟩ : _ ∧ _)
            obtain ⟨s0, s1⟩ := (⟨HS6.out.c0, HS6.out.c1⟩ : _ ∧ _)
            clear hown hb hp hq))
       all_goals
         go_wp2_with fail
         go_roundw
         case rel => exact ⟨k + 1, by go_num, by rw [HKK.out]; omega, by rw [HT.out]; exact HS6.out⟩
         case measure => simp [intOf]; omega
     · have hkK : k = K := by omega
       subst hkK
       have hu := HU2.out
       rw [List.take_of_length_le (by rw [ChunkM.cutL_length, HKK.out]; exact Nat.le_refl _)] at hu
       obtain ⟨a9, c9, h9⟩ := hu.st.form
       subst h9
       have HCS := LH ((hu.st.newC.mono HB2.out.size).imp (fun V hv => hv.cs rfl))
       have HR : Hid (ChunkM.CutIs ⟨f, t, od, nw, sz, ops⟩ (ChunkM.cutL f t o) 0) := .inr ⟨HC.out, o, HPK.out, rfl, rfl⟩
       have hb9 := hu.below
       clear hu HU2
       go_wp2_with fail
       go_ret2
       exact ⟨_, 0, a9, _, c9, HR.out, rfl, HCS.out, hb9⟩
 · rw [PatM.putOf_bad hc] at s1 ⊢
   obtain ⟨E, hE⟩ : ∃ E, PatM.check ⟨f, t, od, nw, sz, ops⟩ = E := ⟨_, rfl⟩
   simp only [hE] at hc ⊢
   have t0 : (E != 0) = true := by simp [hc]
   have hb2 := bTh HB0.out b1
   have HR : Hid (ChunkM.CutIs ⟨f, t, od, nw, sz, ops⟩ [] E) := .inl ⟨by rw [hE]; exact hc, rfl, hE.symm⟩
   clear s1 hE
   go_wp2_with fail
   go_ret2
   exact ⟨[], E, none, 0, 0, HR.out, rfl, NewR.any (fun W => CS.nil_ W), hb2⟩
theorem MH.drop1 {w W : World} {L : List (Nat × Array Value × TypeId)} {x y : Nat × Nat × (World → Prop)} {t : Hlds} (h : MH w L (x :: y :: t) W) : MH w L (x :: t) W :=
 h.sub (fun q hq => by
   rcases List.mem_cons.1 hq with rfl | hq
   · exact List.mem_cons_self
   · exact List.mem_cons_of_mem _ (List.mem_cons_of_mem _ hq))
def GivesPt (p : PatR) (w : World) (e : Ending) (w' : World) : Prop :=
 ∃ ap np cp, e = .returned (.tuple #[.agg (jbC ap np cp p), .int .i64 0]) ∧ Below w.heap.size w w' ∧ NewR w.heap.size w' (fun V => OS V ap np cp p.ops)
theorem makeT_any (to : Int) (a0 a1 : Option Addr) (n0 c0 n1 c1 : Nat) (x y : List Int) (p : PatR) (w : World) (h0 : BS w a0 n0 c0 x) (h1 : BS w a1 n1 c1 y) (hn : n0 ≤ 64) (hn1 : n1 ≤ 64) (ht : I64 to) (hp : PatM.madeF 1 to x y = (p, 0)) :
   Calls Tryz.prog 24 #[.int .i64 1, .int .i64 to, .slice a0 n0 c0, .slice a1 n1 c1] w (GivesPt p w) := by
 refine (makeP_any 1 to a0 a1 n0 c0 n1 c1 x y w h0 h1 hn hn1 (by unfold I64; omega) ht).mono ?_
 rintro e w' ⟨ops, hdif, hg⟩
 have hm := (MadeIs.any (fr := 1) (to := to) (by rw [h0.len, h1.len]; omega) hdif).of
 rw [hm, hp] at hg
 obtain ⟨v, he, hb, hn⟩ := hg
 obtain ⟨ap, np, cp, hv, -, -⟩ := hn w' (Nat.le_refl _) (fun _ _ _ => rfl) trivial
 subst hv
 refine ⟨ap, np, cp, he, hb, fun V v1 v2 => ?_⟩
 obtain ⟨ap', np', cp', hv', ho, -⟩ := hn V v1 v2 trivial
 have hj : jbC ap np cp p = jbC ap' np' cp' p := by
   have := hv'
   injection this
 obtain ⟨rfl, rfl, rfl⟩ := jobCells_inj hj
 exact ho
theorem cutT_any (ap : Option Addr) (np cp : Nat) (p : PatR) (to : Int) (o : List Int) (w : World) (ho : OS w ap np cp p.ops) (hw : PatM.check p = 0) (hc : ChunkM.cutOf p = (ChunkM.cutL 1 to o, 0)) :
   Calls Tryz.prog 25 #[.agg (jbC ap np cp p)] w fun e w' => ∃ a c, e = .returned (.tuple #[.slice a (ChunkM.parts o) c, .int .i64 0]) ∧ Below w.heap.size w w' ∧ NewR w.heap.size w' (fun V => CS V a (ChunkM.parts o) c (ChunkM.cutL 1 to o)) := by
 have hI : I64 p.from_ ∧ I64 p.to_ ∧ I64 p.old ∧ I64 p.new ∧ I64 p.size := by
   obtain ⟨hh, -⟩ := PatM.check_parts hw
   unfold PatM.badHead at hh
   have := DevM.size_le hw
   unfold I64
   omega
 refine (cutC_n (.agg (jbC ap np cp p)) p w ⟨ap, np, cp, rfl, ho, hI⟩).mono ?_
 rintro e w' ⟨cs, err, a, n, c, h1, rfl, hn, hb⟩
 obtain ⟨rfl, rfl⟩ := h1.of
 rw [hc] at hn ⊢
 simp only at hn ⊢
 obtain rfl : n = ChunkM.parts o := by rw [← hn.here.len, ChunkM.cutL_length]
 exact ⟨a, c, rfl, hb, hn⟩
theorem begin_bad (HCh : CheckDC) (h : DevH) (d : DevR) (up : Bool) (E : Int) (w : World) (HD : DH w h d) (hE : DevM.check d = E) (h0 : E ≠ 0) : Calls Tryz.prog 55 #[devV h d, .bool up] w fun e w' => e = .returned (.tuple #[recV RecM.noRec, .int .i64 E]) ∧ Below w.heap.size w w' := by
 have HCk : Hid (∀ W, DH W h d → Calls Tryz.prog 10 #[.agg (dvC h d)] W fun e w' => e = .returned (.int .i64 E) ∧ Below W.heap.size W w') := fun W hd => by
   have := HCh h d W hd
   rw [hE] at this
   exact this
 have t0 : (E != 0) = true := by simp [h0]
 clear hE h0
 unfold devV
 obtain ⟨P1, hP1⟩ : ∃ P, w.heap.size = P := ⟨_, rfl⟩
 have HS := LH ((((((MS.start w).arg HD.argR).alloc (p := P1) (by simp [hP1]) (dvC h d) 37)).alloc (p := (P1 + 1)) (by simp [hP1]) zeroRec 28))
 go_enter Tryz.func55, Tryz.ntmps55
 go_upto_region 1 with fail
 refine wp_gen HS.out (fun V0 HS1 => ?_)
 replace HS := LH HS1
 clear HS1 hP1
 have bP1 := HS.out.get 1 rfl
 simp only at bP1
 go_wp2_with (first
   | (refine wpList_load_row rfl 37 (.tmp 2) rfl P1 rfl 37 (dvC h d) (0, 0) _ bP1 Tryz.underlying37 rfl (sDv h d) ?_))
 clear bP1
 refine (HCk.out _ (HS.out.read 0 rfl)).mono ?_
 rintro e W1 ⟨rfl, hb⟩
 replace HS := LH (HS.out.later hb)
 clear hb
 have HG := LH (HS.out.set 0 rfl zeroRec)
 have bP1p1 := HS.out.get 0 rfl
 simp only at bP1p1
 go_wp2_with (first
   | (refine wpList_store_row rfl 28 (.tmp 4) (.tmp 14) rfl (P1 + 1) zeroRec rfl rfl 28 _ bP1p1 size_zero rfl one_zero ?_))
 clear bP1p1
 refine bodyPost_ret (v := .tuple #[.agg zeroRec, .int .i64 E]) ?_ rfl ?_
 · exact res_ct (fn := Tryz.f55) (p := 4) (a := 5) rfl rfl rfl (HG.out.get 0 rfl) Tryz.underlying28 rfl size_zero
 · exact ⟨rfl, HG.out.below⟩
theorem begin_late (HCh : CheckDC) (h : DevH) (d : DevR) (up : Bool) (w : World) (HD : DH w h d) (hE : DevM.check d = 0) (h0 : d.up ≠ up) : Calls Tryz.prog 55 #[devV h d, .bool up] w fun e w' => e = .returned (.tuple #[recV RecM.noRec, .int .i64 5]) ∧ Below w.heap.size w w' := by
 have HCk : Hid (∀ W, DH W h d → Calls Tryz.prog 10 #[.agg (dvC h d)] W fun e w' => e = .returned (.int .i64 0) ∧ Below W.heap.size W w') := fun W hd => by
   have := HCh h d W hd
   rw [hE] at this
   exact this
 have t1 : (d.up != up) = true := by simpa using h0
 have t2 : (d.up == up) = false := by simpa using h0
 clear hE h0
 unfold devV
 obtain ⟨P1, hP1⟩ : ∃ P, w.heap.size = P := ⟨_, rfl⟩
 have HS := LH ((((((MS.start w).arg HD.argR).alloc (p := P1) (by simp [hP1]) (dvC h d) 37)).alloc (p := (P1 + 1)) (by simp [hP1]) zeroRec 28))
 go_enter Tryz.func55, Tryz.ntmps55
 go_upto_region 1 with fail
 refine wp_gen HS.out (fun V0 HS1 => ?_)
 replace HS := LH HS1
 clear HS1 hP1
 have bP1 := HS.out.get 1 rfl
 simp only at bP1
 go_wp2_with (first
   | (refine wpList_load_row rfl 37 (.tmp 2) rfl P1 rfl 37 (dvC h d) (0, 0) _ bP1 Tryz.underlying37 rfl (sDv h d) ?_))
 clear bP1
 refine (HCk.out _ (HS.out.read 0 rfl)).mono ?_
 rintro e W1 ⟨rfl, hb⟩
 replace HS := LH (HS.out.later hb)
 clear hb
 have HG := LH (HS.out.set 0 rfl zeroRec)
 have cP1_26 := cAt (k := 26) (v := .bool d.up) (HS.out.get 1 rfl) rfl
 simp only at cP1_26
 have bP1p1 := HS.out.get 0 rfl
 simp only at bP1p1
 go_wp2_with (first
   | (refine wpList_store_row rfl 28 (.tmp 4) (.tmp 20) rfl (P1 + 1) zeroRec rfl rfl 28 _ bP1p1 size_zero rfl one_zero ?_))
 clear cP1_26 bP1p1
 refine bodyPost_ret (v := .tuple #[.agg zeroRec, .int .i64 5]) ?_ rfl ?_
 · exact res_ct (fn := Tryz.f55) (p := 4) (a := 5) rfl rfl rfl (HG.out.get 0 rfl) Tryz.underlying28 rfl size_zero
 · exact ⟨rfl, HG.out.below⟩
theorem like_zrec (r : RecR) : zeroRec.size = (rcC r).size := by kernel_rfl
theorem begin_ok (HCh : CheckDC) (h : DevH) (d : DevR) (up : Bool) (w : World) (HD : DH w h d) (hE : DevM.check d = 0) (h0 : d.up = up) : Calls Tryz.prog 55 #[devV h d, .bool up] w fun e w' => e = .returned (.tuple #[recV (DevM.rc d), .int .i64 0]) ∧ Below w.heap.size w w' := by
 have HCk : Hid (∀ W, DH W h d → Calls Tryz.prog 10 #[.agg (dvC h d)] W fun e w' => e = .returned (.int .i64 0) ∧ Below W.heap.size W w') := fun W hd => by
   have := HCh h d W hd
   rw [hE] at this
   exact this
 have HRd : Hid (∀ W, Calls Tryz.prog 28 #[.agg (cpC d.c)] W fun e w' => e = .returned (.tuple #[.agg (rcC (DevM.rc d)), .int .i64 (RecM.newest d.c), .int .i64 0]) ∧ Below W.heap.size W w') := fun W => by
   have := rdR d.c W
   have hc : RecM.copies d.c = 0 := (DevM.ok_iff.1 hE).cops
   have hr : RecM.readOf d.c = (RecM.cur d.c, RecM.newest d.c, 0) := if_neg (fun q => q hc)
   rw [hr] at this
   exact this
 have HRC : Hid (recV (DevM.rc d) = .agg (rcC (DevM.rc d))) := rfl
 rw [HRC.out]
 have t1 : (up != up) = false := by simp
 have t2 : (up == up) = true := by simp
 clear hE
 unfold devV
 obtain ⟨P1, hP1⟩ : ∃ P, w.heap.size = P := ⟨_, rfl⟩
 have HS := LH ((((((MS.start w).arg HD.argR).alloc (p := P1) (by simp [hP1]) (dvC h d) 37)).alloc (p := (P1 + 1)) (by simp [hP1]) zeroRec 28))
 go_enter Tryz.func55, Tryz.ntmps55
 go_upto_region 1 with fail
 refine wp_gen HS.out (fun V0 HS1 => ?_)
 replace HS := LH HS1
 clear HS1 hP1
 have bP1 := HS.out.get 1 rfl
 simp only at bP1
 go_wp2_with (first
   | (refine wpList_load_row rfl 37 (.tmp 2) rfl P1 rfl 37 (dvC h d) (0, 0) _ bP1 Tryz.underlying37 rfl (sDv h d) ?_))
 clear bP1
 refine (HCk.out _ (HS.out.read 0 rfl)).mono ?_
 rintro e W1 ⟨rfl, hb⟩
 replace HS := LH (HS.out.later hb)
 clear hb
 have cP1_26 := cAt (k := 26) (v := .bool d.up) (HS.out.get 1 rfl) rfl
 simp only at cP1_26
 rw [h0] at cP1_26
 have bP1 := HS.out.get 1 rfl
 simp only at bP1
 go_wp2_with (first
   | (refine wLP rfl 31 (.tmp 22) rfl P1 2 rfl (dvC h d) 37 (0, 0) bP1 (cpC d.c) (part_cops h d) _ Tryz.underlying31 rfl (sCp d.c) ?_))
 clear cP1_26 bP1
 refine (HRd.out _).mono ?_
 rintro e W2 ⟨rfl, hb⟩
 replace HS := LH (HS.out.later hb)
 clear hb
 obtain ⟨P3, hP3⟩ : ∃ P, W2.heap.size = P := ⟨_, rfl⟩
 replace HS := LH (HS.out.alloc hP3 (rcC (DevM.rc d)) 28)
 have HG := LH (HS.out.set 1 rfl (rcC (DevM.rc d)))
 have bP3 := HS.out.get 0 rfl
 simp only at bP3
 have bP1p1 := HS.out.get 1 rfl
 simp only at bP1p1
 go_wp2_with (first
   | (refine wSN rfl 28 (.tmp 7) (.tmp 25) rfl P3 (rcC (DevM.rc d)) rfl rfl 28 _ hP3.symm (sRc (DevM.rc d)) (lRc (DevM.rc d)) (oRc (DevM.rc d)) ?_)
   | (refine wpList_load_row rfl 28 (.tmp 7) rfl P3 rfl 28 (rcC (DevM.rc d)) (0, 0) _ bP3 Tryz.underlying28 rfl (sRc (DevM.rc d)) ?_)
   | (refine wpList_store_row rfl 28 (.tmp 4) (.tmp 28) rfl (P1 + 1) (rcC (DevM.rc d)) rfl rfl 28 _ bP1p1 (sRc (DevM.rc d)) (like_zrec (DevM.rc d)) (oRc (DevM.rc d)) ?_))
 clear bP3 bP1p1
 refine bodyPost_ret (v := .tuple #[.agg (rcC (DevM.rc d)), .int .i64 0]) ?_ rfl ?_
 · exact res_ct (fn := Tryz.f55) (p := 4) (a := 5) rfl rfl rfl (HG.out.get 1 rfl) Tryz.underlying28 rfl (sRc _)
 · exact ⟨rfl, HG.out.below⟩
theorem beginD_any (HCh : CheckDC) (h : DevH) (d : DevR) (up : Bool) (w : World) (HD : DH w h d) : Calls Tryz.prog 55 #[devV h d, .bool up] w fun e w' => e = .returned (.tuple #[recV (DevM.beg d up).1, .int .i64 (DevM.beg d up).2]) ∧ Below w.heap.size w w' := by
 unfold DevM.beg
 by_cases h1 : DevM.check d = 0
 · rw [if_neg (fun q => q h1)]
   by_cases h2 : d.up = up
   · rw [if_neg (fun q => q h2)]
     exact begin_ok HCh h d up w HD h1 h2
   · rw [if_pos h2]
     exact begin_late HCh h d up w HD h1 h2
 · rw [if_pos h1]
   exact begin_bad HCh h d up _ w HD rfl h1
def slA (h : DevH) (k : Int) : Option Addr := if k = 0 then h.a0 else h.a1
def slN (h : DevH) (k : Int) : Nat := if k = 0 then h.n0 else h.n1
def slC (h : DevH) (k : Int) : Nat := if k = 0 then h.c0 else h.c1
theorem otherD_any (x : Int) (w : World) (h : x = 0 ∨ x = 1) :
   Calls Tryz.prog 62 #[.int .i64 x] w fun e w' => e = .returned (.int .i64 (1 - x)) ∧ w = w' := by
 rcases h with rfl | rfl
 · go_enter Tryz.func62, Tryz.ntmps62
   go_wp2
   go_ret
   exact ⟨rfl, rfl⟩
 · go_enter Tryz.func62, Tryz.ntmps62
   go_wp2
   go_ret
   exact ⟨rfl, rfl⟩
theorem suits0EG (oa : Option Addr) (on oc : Nat) (p : PatR) (g : Int) (tr : Bool) (n f : Int) (i0 i1 : InfR) (h1 : p.from_ = i0.ver) (h2 : f ≤ p.to_) (w : World) : Calls Tryz.prog 59 #[.agg (jbC oa on oc p), .agg (rcC ⟨g, 0, tr, n, f, i0, i1⟩)] w fun e w' => e = .returned (.bool (decide (p.from_ = i0.ver ∧ f ≤ p.to_))) ∧ Below w.heap.size w w' := by
 have t1 : (p.from_ == i0.ver) = true := by simp [h1]
 have t2 : decide (p.to_ ≥ f) = true := by simp; omega
 have t3 : decide (f ≤ p.to_) = true := by simp; omega
 have hres : Hid (true = decide (p.from_ = i0.ver ∧ f ≤ p.to_)) := by show _ = _; simp [h1, h2]
 clear h1 h2
 obtain ⟨P1, hP1⟩ : ∃ P, w.heap.size = P := ⟨_, rfl⟩
 have HS := LH (((((MS.start w).alloc (p := P1) (by simp [hP1]) (jbC oa on oc p) 35)).alloc (p := (P1 + 1)) (by simp [hP1]) (rcC ⟨g, 0, tr, n, f, i0, i1⟩) 28))
 go_enter Tryz.func59, Tryz.ntmps59
 go_upto_region 1 with fail
 refine wp_gen HS.out (fun V0 HS1 => ?_)
 replace HS := LH HS1
 clear HS1 hP1
 have cP1_0 := cAt (k := 0) (v := .int .i64 p.from_) (HS.out.get 1 rfl) rfl
 simp only at cP1_0
 have cP1p1_1 := cAt (k := 1) (v := .int .i64 0) (HS.out.get 0 rfl) rfl
 simp only at cP1p1_1
 have cP1p1_5 := cAt (k := 5) (v := .int .i64 i0.ver) (HS.out.get 0 rfl) rfl
 simp only at cP1p1_5
 have cP1_1 := cAt (k := 1) (v := .int .i64 p.to_) (HS.out.get 1 rfl) rfl
 simp only at cP1_1
 have cP1p1_4 := cAt (k := 4) (v := .int .i64 f) (HS.out.get 0 rfl) rfl
 simp only at cP1p1_4
 go_quiet (fail)
 have HB := HS.out.drewN nq
 go_wp2_with fail
 go_ret
 exact ⟨ret_b hres.out, HB.below⟩
theorem suits0EL (oa : Option Addr) (on oc : Nat) (p : PatR) (g : Int) (tr : Bool) (n f : Int) (i0 i1 : InfR) (h1 : p.from_ = i0.ver) (h2 : ¬ f ≤ p.to_) (w : World) : Calls Tryz.prog 59 #[.agg (jbC oa on oc p), .agg (rcC ⟨g, 0, tr, n, f, i0, i1⟩)] w fun e w' => e = .returned (.bool (decide (p.from_ = i0.ver ∧ f ≤ p.to_))) ∧ Below w.heap.size w w' := by
 have t1 : (p.from_ == i0.ver) = true := by simp [h1]
 have t2 : decide (p.to_ ≥ f) = false := by simp; omega
 have t3 : decide (f ≤ p.to_) = false := by simp; omega
 have hres : Hid (false = decide (p.from_ = i0.ver ∧ f ≤ p.to_)) := by show _ = _; simp [h1, h2]
 clear h1 h2
 obtain ⟨P1, hP1⟩ : ∃ P, w.heap.size = P := ⟨_, rfl⟩
 have HS := LH (((((MS.start w).alloc (p := P1) (by simp [hP1]) (jbC oa on oc p) 35)).alloc (p := (P1 + 1)) (by simp [hP1]) (rcC ⟨g, 0, tr, n, f, i0, i1⟩) 28))
 go_enter Tryz.func59, Tryz.ntmps59
 go_upto_region 1 with fail
 refine wp_gen HS.out (fun V0 HS1 => ?_)
 replace HS := LH HS1
 clear HS1 hP1
 have cP1_0 := cAt (k := 0) (v := .int .i64 p.from_) (HS.out.get 1 rfl) rfl
 simp only at cP1_0
 have cP1p1_1 := cAt (k := 1) (v := .int .i64 0) (HS.out.get 0 rfl) rfl
 simp only at cP1p1_1
 have cP1p1_5 := cAt (k := 5) (v := .int .i64 i0.ver) (HS.out.get 0 rfl) rfl
 simp only at cP1p1_5
 have cP1_1 := cAt (k := 1) (v := .int .i64 p.to_) (HS.out.get 1 rfl) rfl
 simp only at cP1_1
 have cP1p1_4 := cAt (k := 4) (v := .int .i64 f) (HS.out.get 0 rfl) rfl
 simp only at cP1p1_4
 go_quiet (fail)
 have HB := HS.out.drewN nq
 go_wp2_with fail
 go_ret
 exact ⟨ret_b hres.out, HB.below⟩
theorem suits0N (oa : Option Addr) (on oc : Nat) (p : PatR) (g : Int) (tr : Bool) (n f : Int) (i0 i1 : InfR) (h1 : p.from_ ≠ i0.ver) (w : World) : Calls Tryz.prog 59 #[.agg (jbC oa on oc p), .agg (rcC ⟨g, 0, tr, n, f, i0, i1⟩)] w fun e w' => e = .returned (.bool (decide (p.from_ = i0.ver ∧ f ≤ p.to_))) ∧ Below w.heap.size w w' := by
 have t1 : (p.from_ == i0.ver) = false := by simp [h1]
 have hres : Hid (false = decide (p.from_ = i0.ver ∧ f ≤ p.to_)) := by show _ = _; simp [h1]
 clear h1
 obtain ⟨P1, hP1⟩ : ∃ P, w.heap.size = P := ⟨_, rfl⟩
 have HS := LH (((((MS.start w).alloc (p := P1) (by simp [hP1]) (jbC oa on oc p) 35)).alloc (p := (P1 + 1)) (by simp [hP1]) (rcC ⟨g, 0, tr, n, f, i0, i1⟩) 28))
 go_enter Tryz.func59, Tryz.ntmps59
 go_upto_region 1 with fail
 refine wp_gen HS.out (fun V0 HS1 => ?_)
 replace HS := LH HS1
 clear HS1 hP1
 have cP1_0 := cAt (k := 0) (v := .int .i64 p.from_) (HS.out.get 1 rfl) rfl
 simp only at cP1_0
 have cP1p1_1 := cAt (k := 1) (v := .int .i64 0) (HS.out.get 0 rfl) rfl
 simp only at cP1p1_1
 have cP1p1_5 := cAt (k := 5) (v := .int .i64 i0.ver) (HS.out.get 0 rfl) rfl
 simp only at cP1p1_5
 have cP1_1 := cAt (k := 1) (v := .int .i64 p.to_) (HS.out.get 1 rfl) rfl
 simp only at cP1_1
 have cP1p1_4 := cAt (k := 4) (v := .int .i64 f) (HS.out.get 0 rfl) rfl
 simp only at cP1p1_4
 go_quiet (fail)
 have HB := HS.out.drewN nq
 go_wp2_with fail
 go_ret
 exact ⟨ret_b hres.out, HB.below⟩
theorem suits1EG (oa : Option Addr) (on oc : Nat) (p : PatR) (g : Int) (tr : Bool) (n f : Int) (i0 i1 : InfR) (h1 : p.from_ = i1.ver) (h2 : f ≤ p.to_) (w : World) : Calls Tryz.prog 59 #[.agg (jbC oa on oc p), .agg (rcC ⟨g, 1, tr, n, f, i0, i1⟩)] w fun e w' => e = .returned (.bool (decide (p.from_ = i1.ver ∧ f ≤ p.to_))) ∧ Below w.heap.size w w' := by
 have t1 : (p.from_ == i1.ver) = true := by simp [h1]
 have t2 : decide (p.to_ ≥ f) = true := by simp; omega
 have t3 : decide (f ≤ p.to_) = true := by simp; omega
 have hres : Hid (true = decide (p.from_ = i1.ver ∧ f ≤ p.to_)) := by show _ = _; simp [h1, h2]
 clear h1 h2
 obtain ⟨P1, hP1⟩ : ∃ P, w.heap.size = P := ⟨_, rfl⟩
 have HS := LH (((((MS.start w).alloc (p := P1) (by simp [hP1]) (jbC oa on oc p) 35)).alloc (p := (P1 + 1)) (by simp [hP1]) (rcC ⟨g, 1, tr, n, f, i0, i1⟩) 28))
 go_enter Tryz.func59, Tryz.ntmps59
 go_upto_region 1 with fail
 refine wp_gen HS.out (fun V0 HS1 => ?_)
 replace HS := LH HS1
 clear HS1 hP1
 have cP1_0 := cAt (k := 0) (v := .int .i64 p.from_) (HS.out.get 1 rfl) rfl
 simp only at cP1_0
 have cP1p1_1 := cAt (k := 1) (v := .int .i64 1) (HS.out.get 0 rfl) rfl
 simp only at cP1p1_1
 have cP1p1_8 := cAt (k := 8) (v := .int .i64 i1.ver) (HS.out.get 0 rfl) rfl
 simp only at cP1p1_8
 have cP1_1 := cAt (k := 1) (v := .int .i64 p.to_) (HS.out.get 1 rfl) rfl
 simp only at cP1_1
 have cP1p1_4 := cAt (k := 4) (v := .int .i64 f) (HS.out.get 0 rfl) rfl
 simp only at cP1p1_4
 go_quiet (fail)
 have HB := HS.out.drewN nq
 go_wp2_with fail
 go_ret
 exact ⟨ret_b hres.out, HB.below⟩
theorem suits1EL (oa : Option Addr) (on oc : Nat) (p : PatR) (g : Int) (tr : Bool) (n f : Int) (i0 i1 : InfR) (h1 : p.from_ = i1.ver) (h2 : ¬ f ≤ p.to_) (w : World) : Calls Tryz.prog 59 #[.agg (jbC oa on oc p), .agg (rcC ⟨g, 1, tr, n, f, i0, i1⟩)] w fun e w' => e = .returned (.bool (decide (p.from_ = i1.ver ∧ f ≤ p.to_))) ∧ Below w.heap.size w w' := by
 have t1 : (p.from_ == i1.ver) = true := by simp [h1]
 have t2 : decide (p.to_ ≥ f) = false := by simp; omega
 have t3 : decide (f ≤ p.to_) = false := by simp; omega
 have hres : Hid (false = decide (p.from_ = i1.ver ∧ f ≤ p.to_)) := by show _ = _; simp [h1, h2]
 clear h1 h2
 obtain ⟨P1, hP1⟩ : ∃ P, w.heap.size = P := ⟨_, rfl⟩
 have HS := LH (((((MS.start w).alloc (p := P1) (by simp [hP1]) (jbC oa on oc p) 35)).alloc (p := (P1 + 1)) (by simp [hP1]) (rcC ⟨g, 1, tr, n, f, i0, i1⟩) 28))
 go_enter Tryz.func59, Tryz.ntmps59
 go_upto_region 1 with fail
 refine wp_gen HS.out (fun V0 HS1 => ?_)
 replace HS := LH HS1
 clear HS1 hP1
 have cP1_0 := cAt (k := 0) (v := .int .i64 p.from_) (HS.out.get 1 rfl) rfl
 simp only at cP1_0
 have cP1p1_1 := cAt (k := 1) (v := .int .i64 1) (HS.out.get 0 rfl) rfl
 simp only at cP1p1_1
 have cP1p1_8 := cAt (k := 8) (v := .int .i64 i1.ver) (HS.out.get 0 rfl) rfl
 simp only at cP1p1_8
 have cP1_1 := cAt (k := 1) (v := .int .i64 p.to_) (HS.out.get 1 rfl) rfl
 simp only at cP1_1
 have cP1p1_4 := cAt (k := 4) (v := .int .i64 f) (HS.out.get 0 rfl) rfl
 simp only at cP1p1_4
 go_quiet (fail)
 have HB := HS.out.drewN nq
 go_wp2_with fail
 go_ret
 exact ⟨ret_b hres.out, HB.below⟩
theorem suits1N (oa : Option Addr) (on oc : Nat) (p : PatR) (g : Int) (tr : Bool) (n f : Int) (i0 i1 : InfR) (h1 : p.from_ ≠ i1.ver) (w : World) : Calls Tryz.prog 59 #[.agg (jbC oa on oc p), .agg (rcC ⟨g, 1, tr, n, f, i0, i1⟩)] w fun e w' => e = .returned (.bool (decide (p.from_ = i1.ver ∧ f ≤ p.to_))) ∧ Below w.heap.size w w' := by
 have t1 : (p.from_ == i1.ver) = false := by simp [h1]
 have hres : Hid (false = decide (p.from_ = i1.ver ∧ f ≤ p.to_)) := by show _ = _; simp [h1]
 clear h1
 obtain ⟨P1, hP1⟩ : ∃ P, w.heap.size = P := ⟨_, rfl⟩
 have HS := LH (((((MS.start w).alloc (p := P1) (by simp [hP1]) (jbC oa on oc p) 35)).alloc (p := (P1 + 1)) (by simp [hP1]) (rcC ⟨g, 1, tr, n, f, i0, i1⟩) 28))
 go_enter Tryz.func59, Tryz.ntmps59
 go_upto_region 1 with fail
 refine wp_gen HS.out (fun V0 HS1 => ?_)
 replace HS := LH HS1
 clear HS1 hP1
 have cP1_0 := cAt (k := 0) (v := .int .i64 p.from_) (HS.out.get 1 rfl) rfl
 simp only at cP1_0
 have cP1p1_1 := cAt (k := 1) (v := .int .i64 1) (HS.out.get 0 rfl) rfl
 simp only at cP1p1_1
 have cP1p1_8 := cAt (k := 8) (v := .int .i64 i1.ver) (HS.out.get 0 rfl) rfl
 simp only at cP1p1_8
 have cP1_1 := cAt (k := 1) (v := .int .i64 p.to_) (HS.out.get 1 rfl) rfl
 simp only at cP1_1
 have cP1p1_4 := cAt (k := 4) (v := .int .i64 f) (HS.out.get 0 rfl) rfl
 simp only at cP1p1_4
 go_quiet (fail)
 have HB := HS.out.drewN nq
 go_wp2_with fail
 go_ret
 exact ⟨ret_b hres.out, HB.below⟩
theorem suitsD_any (oa : Option Addr) (on oc : Nat) (p : PatR) (r : RecR) (ha : r.act = 0 ∨ r.act = 1) (w : World) : Calls Tryz.prog 59 #[.agg (jbC oa on oc p), .agg (rcC r)] w fun e w' => e = .returned (.bool (decide (p.from_ = (RecM.inf r r.act).ver ∧ r.floor ≤ p.to_))) ∧ Below w.heap.size w w' := by
 obtain ⟨g, a, tr, n, f, i0, i1⟩ := r
 simp only at ha
 rcases ha with rfl | rfl
 · by_cases h1 : p.from_ = i0.ver
   · by_cases h2 : f ≤ p.to_
     · exact suits0EG oa on oc p g tr n f i0 i1 h1 h2 w
     · exact suits0EL oa on oc p g tr n f i0 i1 h1 h2 w
   · exact suits0N oa on oc p g tr n f i0 i1 h1 w
 · by_cases h1 : p.from_ = i1.ver
   · by_cases h2 : f ≤ p.to_
     · exact suits1EG oa on oc p g tr n f i0 i1 h1 h2 w
     · exact suits1EL oa on oc p g tr n f i0 i1 h1 h2 w
   · exact suits1N oa on oc p g tr n f i0 i1 h1 w
theorem image0 (h : DevH) (d : DevR) (g : Int) (tr : Bool) (n f : Int) (i0 i1 : InfR) (m : Nat) (hm : i0.size = m) (hc : m ≤ h.c0) (w : World) : Calls Tryz.prog 61 #[devV h d, .agg (rcC ⟨g, 0, tr, n, f, i0, i1⟩)] w fun e w' => e = .returned (.slice h.a0 m h.c0) ∧ Below w.heap.size w w' := by
 have hcut := fun W => rCh h.a0 h.n0 h.c0 W m hc
 unfold devV
 obtain ⟨P1, hP1⟩ : ∃ P, w.heap.size = P := ⟨_, rfl⟩
 have HS := LH (((((MS.start w).alloc (p := P1) (by simp [hP1]) (dvC h d) 37)).alloc (p := (P1 + 1)) (by simp [hP1]) (rcC ⟨g, 0, tr, n, f, i0, i1⟩) 28))
 go_enter Tryz.func61, Tryz.ntmps61
 go_upto_region 1 with fail
 refine wp_gen HS.out (fun V0 HS1 => ?_)
 replace HS := LH HS1
 clear HS1 hP1
 have cP1_0 := cAt (k := 0) (v := .slice h.a0 h.n0 h.c0) (HS.out.get 1 rfl) rfl
 simp only at cP1_0
 have cP1p1_1 := cAt (k := 1) (v := .int .i64 0) (HS.out.get 0 rfl) rfl
 simp only at cP1p1_1
 have cP1p1_6 := cAt (k := 6) (v := .int .i64 i0.size) (HS.out.get 0 rfl) rfl
 simp only at cP1p1_6
 rw [hm] at cP1p1_6
 go_quiet (fail)
 have HB := HS.out.drewN nq
 go_wp2_with fail
 go_ret
 exact ⟨rfl, HB.below⟩
theorem image1 (h : DevH) (d : DevR) (g : Int) (tr : Bool) (n f : Int) (i0 i1 : InfR) (m : Nat) (hm : i1.size = m) (hc : m ≤ h.c1) (w : World) : Calls Tryz.prog 61 #[devV h d, .agg (rcC ⟨g, 1, tr, n, f, i0, i1⟩)] w fun e w' => e = .returned (.slice h.a1 m h.c1) ∧ Below w.heap.size w w' := by
 have hcut := fun W => rCh h.a1 h.n1 h.c1 W m hc
 unfold devV
 obtain ⟨P1, hP1⟩ : ∃ P, w.heap.size = P := ⟨_, rfl⟩
 have HS := LH (((((MS.start w).alloc (p := P1) (by simp [hP1]) (dvC h d) 37)).alloc (p := (P1 + 1)) (by simp [hP1]) (rcC ⟨g, 1, tr, n, f, i0, i1⟩) 28))
 go_enter Tryz.func61, Tryz.ntmps61
 go_upto_region 1 with fail
 refine wp_gen HS.out (fun V0 HS1 => ?_)
 replace HS := LH HS1
 clear HS1 hP1
 have cP1_1 := cAt (k := 1) (v := .slice h.a1 h.n1 h.c1) (HS.out.get 1 rfl) rfl
 simp only at cP1_1
 have cP1p1_1 := cAt (k := 1) (v := .int .i64 1) (HS.out.get 0 rfl) rfl
 simp only at cP1p1_1
 have cP1p1_9 := cAt (k := 9) (v := .int .i64 i1.size) (HS.out.get 0 rfl) rfl
 simp only at cP1p1_9
 rw [hm] at cP1p1_9
 go_quiet (fail)
 have HB := HS.out.drewN nq
 go_wp2_with fail
 go_ret
 exact ⟨rfl, HB.below⟩
theorem imageD_any (h : DevH) (d : DevR) (r : RecR) (ha : r.act = 0 ∨ r.act = 1) (m : Nat) (hm : (RecM.inf r r.act).size = m) (hc : m ≤ slC h r.act) (w : World) :
   Calls Tryz.prog 61 #[devV h d, .agg (rcC r)] w fun e w' => e = .returned (.slice (slA h r.act) m (slC h r.act)) ∧ Below w.heap.size w w' := by
 obtain ⟨g, a, tr, n, f, i0, i1⟩ := r
 simp only at ha hm hc ⊢
 rcases ha with rfl | rfl
 · exact image0 h d g tr n f i0 i1 m hm hc w
 · exact image1 h d g tr n f i0 i1 m hm hc w
theorem step_copy_run {P : Program} {ops : Array Oper} {o : Oper} {a : Act} {w : World} {K : Act → World → Prop} {Q : Exit → Act → World → Prop} {E : Prop} (hgd : o.guard = none) (d s : Operand) (dT sT : TypeId)
   (ho : o.op = .call { callee := .builtin .copy, args := #[d, s], argTypes := #[dT, sT] }) (vd vs : Value) (hd : a.eval d = vd) (hs : a.eval s = vs)
   (v' : Value) (w' : World) (hr : (Builtin.copy_ #[dT, sT] o.type #[vd, vs]).run P w = .ok v' w') (h : K (a.put o.dst v') w') :
   if Region.wanted o (yielded ops a.tmps) = true then Oper.wp P o a w K Q else E := by
 have hw : Region.wanted o (yielded ops a.tmps) = true := by simp [Region.wanted, hgd]
 rw [if_pos hw]
 unfold Oper.wp
 simp [execOp, ho, resolve, invoke, builtin, hd, hs, hr, Result.andThen]
 exact h
structure MSt (w0 : World) (g S : Nat) (dn : List Int) (W : World) : Prop where
 row : ∃ cur : List Value, W.heap[g]? = some (.cells cur.toArray 5 (0, 0)) ∧ cur.length = S ∧ cur.take dn.length = dn.map (Value.int .u8)
 fit : dn.length ≤ S
 below : Below w0.heap.size w0 W
 le : w0.heap.size ≤ g
section
variable {w0 : World} {g S : Nat} {dn : List Int} {W W' : World}
theorem MSt.lt (h : MSt w0 g S dn W) : g < W.heap.size := by
 obtain ⟨cur, h1, _⟩ := h.row
 exact lt_blk h1
theorem MSt.later (h : MSt w0 g S dn W) (hb : Below W.heap.size W W') : MSt w0 g S dn W' := by
 have hlt := h.lt
 obtain ⟨cur, h1, h2, h3⟩ := h.row
 exact ⟨⟨cur, (hb.block _ hlt).trans h1, h2, h3⟩, h.fit, bTh h.below hb, h.le⟩
theorem MSt.copy (h : MSt w0 g S dn W) {a : Option Addr} {m c : Nat} {l : List Int} (hs : BS W a m c l) (hm : dn.length + m ≤ S) :
   ∃ W', (Builtin.copy_ #[22, 22] 3 #[.slice (cutA (some ⟨g, 0, none⟩) S dn.length) (S - dn.length) (S - dn.length), .slice a m c]).run Tryz.prog W = .ok (.int .i64 (m : Int)) W' ∧
     Hid (MSt w0 g S (dn ++ l) W') ∧ ∀ k, k ≠ g → W'.heap[k]? = W.heap[k]? := by
 have hsz : (Tryz.prog.info? 5).map (·.size) = some 1 := by
   obtain ⟨i0, hi, hz0, hz1, hz2⟩ := info_parts Tryz.info_u8
   rw [hi]; simp [hz1]
 have hlen := hs.len
 by_cases h0 : m = 0
 · subst h0
   obtain rfl : l = [] := List.eq_nil_of_length_eq_zero hs.len
   refine ⟨W, run_copy_none (P := Tryz.prog) W 22 22 3 5 _ _ _ _ _ _ Tryz.underlying22 hsz (by simp), ?_, fun _ _ => rfl⟩
   rw [List.append_nil]
   exact h
 · obtain ⟨cur, h1, h2, h3⟩ := h.row
   obtain ⟨b, off, rfl, hc⟩ := hs.cells (by omega)
   have hcut : cutA (some ⟨g, 0, none⟩) S dn.length = some ⟨g, dn.length, none⟩ := by
     unfold cutA
     rw [if_neg (by omega), Option.map_some, addr_add, Nat.zero_add]
   have hr := run_copy_row (P := Tryz.prog) W 22 22 3 5 g dn.length (S - dn.length) (S - dn.length) ⟨b, off, none⟩ m c cur.toArray 5 (l.map (Value.int .u8)) Tryz.underlying22 hsz h1
     (by rw [List.length_map, hlen]; show m = min m (S - dn.length); omega) hs.news (by rw [List.length_map, hlen, List.size_toArray, h2]; exact hm) (oneCell_u8 _)
   rw [List.length_map, hlen] at hr
   rw [hcut]
   refine ⟨_, hr, ⟨⟨_, setRow_heap W g _ _ 5 _ h1, ?_, ?_⟩, ?_, below_setRow h.below h.le _, h.le⟩, fun k hk => setRow_other W g k _ hk⟩
   · simp only [List.length_append, List.length_take, List.length_map, List.length_drop]
     omega
   · simp only [List.length_append, List.map_append, h3]
     rw [List.take_append_of_le_length (by simp), List.take_of_length_le (by simp)]
   · rw [List.length_append]; omega
theorem MSt.bs (h : MSt w0 g S dn W) (hS : dn.length = S) (hm : S ≤ 1000) (hb : ∀ v ∈ dn, 0 ≤ v ∧ v ≤ 255) : BS W (some ⟨g, 0, none⟩) S S dn := by
 obtain ⟨cur, h1, h2, h3⟩ := h.row
 refine ⟨hS, Nat.le_refl _, by omega, hb, fun _ => ⟨g, 0, rfl, fun i hi => ?_⟩, fun e => by cases e⟩
 have hi2 : i < dn.length := by omega
 have := congrArg (·[i]?) h3
 simp only [List.getElem?_map, List.getElem?_take_of_lt hi2, List.getElem?_eq_getElem hi2, Option.map_some] at this
 simp only [World.cell?, h1, Nat.zero_add, List.getElem?_toArray, this, List.getElem?_eq_getElem hi2, Option.getD_some]
 rfl
end
def AplRel (old : List Int) (l : List OpR) (w : World) (g S : Nat) (n i : Value) (wr : World) : Prop :=
 ∃ (k d : Nat) (dn : List Int), i = .int .i64 k ∧ n = .int .i64 d ∧ dn.length = d ∧ k ≤ l.length ∧ MSt w g S dn wr ∧ dn ++ DeltaM.makes old (l.drop k) = DeltaM.makes old l
theorem apply_any (a : Option Addr) (n c : Nat) (old : List Int) (a' : Option Addr) (n' c' : Nat) (l : List OpR) (s : Int) (w : World) (hx : BS w a n c old) (hl : OS w a' n' c' l) :
   Calls Tryz.prog 110 #[.slice a n c, .slice a' n' c', .int .i64 s] w (GivesA old l s w) := by
 have HX := LH hx
 have HL := LH hl
 have HLn := LH hl.len
 have HXn := LH hx.len
 have hlen : n' ≤ 9223372036854775807 := by have := hl.le; have := hl.max; omega
 obtain ⟨E, hE⟩ : ∃ E, DeltaM.check l n s = E := ⟨_, rfl⟩
 have HE : Hid (DeltaM.check l old.length s = E) := by show DeltaM.check l old.length s = E; rw [hx.len]; exact hE
 have hck := check_any a' n' c' l n s
 rw [hE] at hck
 have HCK := LH hck
 have HXc := LH hx.le
 clear hck hx hl
 by_cases h0 : E = 0
 · subst h0
   obtain ⟨h40, o1, o2, s1, s2, hgood, htot⟩ := DeltaM.check_zero hE
   obtain ⟨S, rfl⟩ : ∃ S : Nat, s = S := ⟨s.toNat, by omega⟩
   have HG : Hid (DeltaM.Good old.length l) := by show DeltaM.Good old.length l; rw [HXn.out]; exact hgood
   have hml := DeltaM.makes_length (old := old) HG.out
   rw [htot] at hml
   have HML : Hid ((DeltaM.makes old l).length = S) := by show _ = S; omega
   have HAP : Hid (DeltaM.applied old l S = DeltaM.makes old l) := by show DeltaM.applied old l S = _; unfold DeltaM.applied; rw [if_pos HE.out]
   clear hgood htot hml hE h40
   obtain ⟨i0, hi, hz0, hz1, hz2⟩ := info_parts Tryz.info_u8
   have hmk : ∀ W, (Instr.makeSlice 22 (.int .i64 (S : Int)) (.int .i64 (S : Int))).run Tryz.prog W = .ok (.slice (some ⟨W.heap.size, 0, none⟩) S S) (W.alloc (.cells (madeCells (Value.int .u8 0).cells S) 5)) := by
     intro W
     have := run_make (P := Tryz.prog) W 22 5 i0 _ Tryz.underlying22 hi hz0 .i64 .i64 S S (by omega) (Int.le_refl _) (by rw [hz2]; omega) (by omega)
     simpa [hz1] using this
   have hms : (madeCells (Value.int .u8 0).cells S).size = S := size_madeCells _ _
   generalize madeCells (Value.int .u8 0).cells S = Z at hmk hms
   have HZ := LH hms
   clear hi hz0 hz1 hz2 i0 hms
   go_enter Tryz.func110, Tryz.ntmps110
   go_wp2_with fail
   refine (HCK.out _ HL.out).mono ?_
   rintro e W0 ⟨rfl, b0⟩
   obtain ⟨g, hg⟩ : ∃ g, W0.heap.size = g := ⟨_, rfl⟩
   have hst : Hid (MSt w g S [] (W0.alloc (.cells Z 5))) := by
     subst hg
     refine ⟨⟨Z.toList, by rw [hpA, if_pos rfl], by simpa using HZ.out, by simp⟩, by simp, b0.alloc b0.size _, b0.size⟩
   clear b0 HCK
   go_wp2_with fail
   generalize W0.alloc (.cells Z 5) = W1 at hst ⊢
   go_loopw [10, 25] (fun n i wr => AplRel old l w g S n i wr) (fun _ i _ => n' - (intOf i).toNat)
   case atStart => exact ⟨0, 0, [], rfl, rfl, rfl, Nat.zero_le _, hst.out, rfl⟩
   case round =>
     clear hst hmk
     obtain ⟨k, d, dn, rfl, rfl, hdl, hk, hs, hu⟩ := hrel
     rw [HLn.out] at hk
     have HS := LH hs
     have HU := LH hu
     have HDL := LH hdl
     clear hs hu hdl
     by_cases hlt : k < n'
     · obtain ⟨b, off, rfl, hcs⟩ := (HL.out.later HS.out.below).cells (by omega)
       obtain ⟨va, vn, vc, q0, q1, q2, q3, -, -⟩ := hcs k hlt
       have HD := LH (drop_op l k (by rw [HLn.out]; exact hlt))
       have hg := HG.out (l.getD k default) (by have : l.getD k default ∈ l.drop k := by rw [HD.out]; simp
                                                exact List.mem_of_mem_drop this)
       generalize l.getD k default = o at q0 q1 q2 q3 HD hg
       obtain ⟨A, L, D⟩ := o
       simp only at q0 q1 q2 q3
       obtain ⟨r1, r2, r3⟩ := DeltaM.good_len hg.2
       simp only at r1 r2 r3
       obtain ⟨N, rfl⟩ : ∃ N : Nat, A = N := ⟨A.toNat, by omega⟩
       obtain ⟨M, rfl⟩ : ∃ M : Nat, L = M := ⟨L.toNat, by omega⟩
       have hNM : N + M ≤ old.length := by omega
       have HP : Hid (DeltaM.makes old (l.drop k) = D ++ ((old.drop N).take M ++ DeltaM.makes old (l.drop (k + 1)))) := by
         show _ = _
         rw [HD.out]
         simp [DeltaM.makes, DeltaM.part]
       have hDn := q3.len
       have hle : d + vn + M ≤ S := by
         have h1 := congrArg List.length HU.out
         rw [HP.out] at h1
         simp only [List.length_append, List.length_take, List.length_drop] at h1
         have := HML.out
         have := HDL.out
         omega
       clear hg hcs r1 r2 r3
       obtain ⟨B, hBB⟩ : ∃ B, wr.heap.size = B := ⟨_, rfl⟩
       have hbl : Below wr.heap.size wr (wr.alloc (.cells #[.int .i64 (N : Int), .int .i64 (M : Int), .slice va vn vc] 123)) := (Below.refl _ _).alloc (Nat.le_refl _) _
       have hgB : g < B := by rw [← hBB]; exact HS.out.lt
       have hb0 : (wr.alloc (.cells #[.int .i64 (N : Int), .int .i64 (M : Int), .slice va vn vc] 123)).heap[B]? = some (.cells #[.int .i64 (N : Int), .int .i64 (M : Int), .slice va vn vc] 123 (0, 0)) := by rw [hpA, if_pos hBB.symm]
       obtain ⟨W5, hrun, HS5, hf5⟩ := (HS.out.later (hbl.drew)).copy (q3.later hbl.drew) (by rw [HDL.out]; omega)
       rw [HDL.out] at hrun
       have hb5 := (hf5 B (by omega)).trans hb0
       have c5 := step_cells hb5
       obtain ⟨e0, e1, -⟩ := c5
       have hl5 : (dn ++ D).length = d + vn := by rw [List.length_append, HDL.out, hDn]
       obtain ⟨F, hF⟩ : ∃ F : Nat, (d : Int) + vn = F := ⟨d + vn, by omega⟩
       have hF2 : d + vn = F := by omega
       obtain ⟨T, hT⟩ : ∃ T : Nat, (N : Int) + M = T := ⟨N + M, by omega⟩
       have hT2 : T - N = M := by omega
       have hTn : T ≤ n := by have := HXn.out; omega
       have hcut1 : ∀ W, (Instr.slice 22 (.slice (some ⟨g, 0, none⟩) S S) (some (.int .i64 d)) none none).run Tryz.prog W = .ok (.slice (cutA (some ⟨g, 0, none⟩) S d) (S - d) (S - d)) W := fun W => run_cut_l (some ⟨g, 0, none⟩) S S W d (by omega)
       have hcut2 : ∀ W, (Instr.slice 22 (.slice (some ⟨g, 0, none⟩) S S) (some (.int .i64 F)) none none).run Tryz.prog W = .ok (.slice (cutA (some ⟨g, 0, none⟩) S F) (S - F) (S - F)) W := fun W => run_cut_l (some ⟨g, 0, none⟩) S S W F (by omega)
       have hcut3 : ∀ W, (Instr.slice 22 (.slice a n c) (some (.int .i64 N)) (some (.int .i64 T)) none).run Tryz.prog W = .ok (.slice (cutA a c N) M (c - N)) W := fun W => by
         have := run_cut_lh a n c W N T (by omega) (by have := HXc.out; omega)
         rwa [hT2] at this
       have hsrc := (HX.out.mid N T (by omega) hTn)
       rw [hT2] at hsrc
       rw [hF2] at hl5
       have hsrc5 := hsrc.later (HS5.out.below.drew)
       obtain ⟨W7, hrun2, HS7, hf7⟩ := (HS5.out.later (Below.refl _ _).drew).copy hsrc5 (by rw [hl5]; omega)
       rw [hl5] at hrun2
       generalize cutA (some ⟨g, 0, none⟩) S d = A1 at hcut1 hrun
       generalize cutA (some ⟨g, 0, none⟩) S F = A2 at hcut2 hrun2
       generalize cutA a c N = A3 at hcut3 hrun2
       generalize c - N = C3 at hcut3 hrun2
       generalize S - d = Sd at hcut1 hrun
       generalize S - F = SF at hcut2 hrun2
       obtain ⟨G, hG⟩ : ∃ G : Nat, (F : Int) + M = G := ⟨F + M, by omega⟩
       have hw1 : IntKind.i64.wrap (F : Int) = F := IntWalk.i64_in _ (by omega)
       have hw2 : IntKind.i64.wrap (G : Int) = G := IntWalk.i64_in _ (by omega)
       have hw3 : IntKind.i64.wrap (T : Int) = T := IntWalk.i64_in _ (by omega)
       have HS7' := HS7
       have HLE := LH hle
       clear HS7 hf7 hf5 hsrc hsrc5 hb5 hb0 hbl HS5 HS hgB hle q3
       go_wp2_with fail
       go_region_law (refine step_copy_run rfl (.tmp 32) (.tmp 34) 22 22 rfl (.slice A1 Sd Sd) (.slice va vn vc) (by simp [Act.eval]) (by simp [Act.eval]) _ _ hrun ?_)
       clear hrun q0 q1 q2 hcut1
       go_wp2_with fail
       go_region_law (refine step_copy_run rfl (.tmp 40) (.tmp 49) 22 22 rfl (.slice A2 SF SF) (.slice A3 M C3) (by simp [Act.eval, Act.put]) (by simp [Act.eval, Act.put]) _ _ hrun2 ?_)
       all_goals
         go_wp2_with fail
         go_roundw
         case rel =>
           refine ⟨k + 1, G, _, by go_num, rfl, ?_, by rw [HLn.out]; omega, HS7'.out, ?_⟩
           · rw [List.length_append, hl5, List.length_take, List.length_drop]
             omega
           · rw [← HU.out, HP.out]
             simp
         case measure => simp [intOf]; omega
     · go_wp2_with fail
       go_ret2
       have hdr : l.drop k = [] := List.drop_eq_nil_of_le (by rw [HLn.out]; omega)
       have hu := HU.out
       rw [hdr] at hu
       simp only [DeltaM.makes, List.append_nil] at hu
       refine ⟨some ⟨g, 0, none⟩, S, S, tup_a HE.out.symm, ?_, HS.out.below⟩
       rw [HAP.out, ← hu]
       exact HS.out.bs (by rw [hu]; exact HML.out) (by omega) (by rw [hu]; exact DeltaM.makes_bytes HX.out.bytes (OS.bytes HL.out))
 · have HAP : Hid (DeltaM.applied old l s = []) := by show DeltaM.applied old l s = _; unfold DeltaM.applied; rw [if_neg (by rw [HE.out]; exact h0)]
   have hne : (E != 0) = true := by simp [h0]
   clear hE
   go_enter Tryz.func110, Tryz.ntmps110
   go_wp2_with fail
   refine (HCK.out _ HL.out).mono ?_
   rintro e W0 ⟨rfl, b0⟩
   go_wp2_with fail
   go_ret2
   exact ⟨none, 0, 0, tup_a HE.out.symm, by rw [HAP.out]; exact BS.nil_ _, b0⟩
def fillC (l : List Int) : Array Value := ((DevM.fill l).map (Value.int .u8)).toArray
theorem madeCells64 : madeCells (Value.int .u8 0).cells 64 = (List.replicate 64 (Value.int .u8 0)).toArray := by kernel_rfl
theorem fillC_is {l : List Int} {n : Nat} (hl : l.length = n) : ((List.replicate 64 (Value.int .u8 0)).toArray.toList.take 0 ++ l.map (Value.int .u8) ++ (List.replicate 64 (Value.int .u8 0)).toArray.toList.drop (0 + (l.map (Value.int .u8)).length)).toArray = fillC l := by
 unfold fillC DevM.fill
 simp only [List.take_zero, List.nil_append, List.length_map, Nat.zero_add, hl, List.drop_replicate, List.map_append, List.map_replicate]
theorem fillC_bs {W : World} {l : List Int} {g : Nat} (h : W.heap[g]? = some (.cells (fillC l) 5 (0, 0))) (hn : l.length ≤ 64) (hb : ∀ x ∈ l, 0 ≤ x ∧ x ≤ 255) : BS W (some ⟨g, 0, none⟩) 64 64 (DevM.fill l) := by
 have hl := DevM.fill_len hn
 refine ⟨hl, Nat.le_refl _, by omega, fun x hx => ?_, fun _ => ⟨g, 0, rfl, fun i hi => ?_⟩, fun q => by cases q⟩
 · unfold DevM.fill at hx
   rcases List.mem_append.1 hx with q | q
   · exact hb x q
   · rw [(List.mem_replicate.1 q).2]
     omega
 · rw [Nat.zero_add]
   simp only [World.cell?, h]
   unfold fillC
   simp [List.getElem?_eq_getElem (show i < (DevM.fill l).length by omega)]
theorem filledD_any (a : Option Addr) (n c : Nat) (l : List Int) (w : World) (hs : BS w a n c l) (hn : n ≤ 64) :
   Calls Tryz.prog 37 #[.slice a n c] w fun e w' => e = .returned (.slice (some ⟨w.heap.size, 0, none⟩) 64 64) ∧ w' = w.alloc (.cells (fillC l) 5) := by
 obtain ⟨i0, hi, hz0, hz1, hz2⟩ := info_parts Tryz.info_u8
 have hmk : ∀ W, (Instr.makeSlice 22 (.int .i64 64) (.int .i64 64)).run Tryz.prog W = .ok (.slice (some ⟨W.heap.size, 0, none⟩) 64 64) (W.alloc (.cells (madeCells (Value.int .u8 0).cells 64) 5)) := by
   intro W
   have := run_make (P := Tryz.prog) W 22 5 i0 _ Tryz.underlying22 hi hz0 .i64 .i64 64 64 (by omega) (Int.le_refl _) (by rw [hz2]; omega) (by omega)
   simpa [hz1] using this
 rw [madeCells64] at hmk
 have hsz : (Tryz.prog.info? 5).map (·.size) = some 1 := by kernel_rfl
 have hlen := hs.len
 have hrun : ∃ v, (Builtin.copy_ #[22, 22] 3 #[.slice (some ⟨w.heap.size, 0, none⟩) 64 64, .slice a n c]).run Tryz.prog (w.alloc (.cells (List.replicate 64 (Value.int .u8 0)).toArray 5)) = .ok v (w.alloc (.cells (fillC l) 5)) := by
   cases a with
   | none =>
     have hc := hs.none_ rfl
     subst hc
     obtain rfl : n = 0 := by have := hs.le; omega
     obtain rfl : l = [] := List.eq_nil_of_length_eq_zero hs.len
     refine ⟨goInt 0, ?_⟩
     rw [run_copy_nil (P := Tryz.prog) _ 22 22 3 5 _ _ _ Tryz.underlying22 (by rw [hsz]; rfl)]
     rfl
   | some ad =>
     refine ⟨goInt (l.map (Value.int .u8)).length, ?_⟩
     rw [run_copy_row (P := Tryz.prog) _ 22 22 3 5 w.heap.size 0 64 64 ad n c (List.replicate 64 (Value.int .u8 0)).toArray 5 (l.map (Value.int .u8)) Tryz.underlying22 hsz (by rw [hpA, if_pos rfl])
       (by rw [List.length_map, hlen]; exact (Nat.min_eq_left hn).symm) (fun j v hj => ?_) (by simp [hlen]; omega) (oneCell_u8 l)]
     · rw [fillC_is hlen, World.setRow_alloc_new]
     · have hjl : j < l.length := by
         rcases Nat.lt_or_ge j l.length with q | q
         · exact q
         · rw [List.getElem?_eq_none (by simpa using q)] at hj; cases hj
       rw [List.getElem?_map, List.getElem?_eq_getElem hjl, Option.map_some, Option.some.injEq] at hj
       have := (hs.later ((Below.refl _ _).alloc (Nat.le_refl _) (.cells (List.replicate 64 (Value.int .u8 0)).toArray 5))).cellsAt j (by omega)
       rw [this, ← hj, List.getD_eq_getElem?_getD, List.getElem?_eq_getElem hjl]
       rfl
 obtain ⟨v, hrun⟩ := hrun
 generalize (List.replicate 64 (Value.int .u8 0)).toArray = Z at hmk hrun
 clear hs hz0 hz1 hz2 hi hlen
 go_enter Tryz.func37, Tryz.ntmps37
 go_wp2_with (at_builtin; refine wpList_copy_runD rfl (.tmp 5) (.tmp 6) 22 22 rfl _ _ rfl rfl _ _ hrun ?_)
 go_ret
 exact ⟨rfl, rfl⟩
def GivesFl (l : List Int) (w : World) (e : Ending) (w' : World) : Prop :=
 ∃ F, e = .returned (.slice (some ⟨F, 0, none⟩) 64 64) ∧ w'.heap[F]? = some (.cells (fillC l) 5 (0, 0)) ∧ BS w' (some ⟨F, 0, none⟩) 64 64 (DevM.fill l) ∧ w.heap.size ≤ F ∧ F < w'.heap.size ∧ Below w.heap.size w w'
theorem GivesFl.of {l : List Int} {w : World} (hn : l.length ≤ 64) (hb : ∀ x ∈ l, 0 ≤ x ∧ x ≤ 255) : GivesFl l w (.returned (.slice (some ⟨w.heap.size, 0, none⟩) 64 64)) (w.alloc (.cells (fillC l) 5)) := by
 have hg : (w.alloc (.cells (fillC l) 5)).heap[w.heap.size]? = some (.cells (fillC l) 5 (0, 0)) := by rw [hpA, if_pos rfl]
 exact ⟨w.heap.size, rfl, hg, fillC_bs hg hn hb, Nat.le_refl _, bLQ hg, (Below.refl _ _).alloc (Nat.le_refl _) _⟩
theorem filledD_gives (a : Option Addr) (n c : Nat) (l : List Int) (w : World) (hs : BS w a n c l) (hn : n ≤ 64) : Calls Tryz.prog 37 #[.slice a n c] w (GivesFl l w) := by
 refine (filledD_any a n c l w hs hn).mono ?_
 rintro e w' ⟨rfl, rfl⟩
 exact GivesFl.of (by have := hs.len; omega) hs.bytes
theorem doP_any (v : Value) (p : PatR) (a : Option Addr) (n c : Nat) (old : List Int) (w : World) (hp : PV w v p) (hx : BS w a n c old) :
   Calls Tryz.prog 60 #[v, .slice a n c] w (GivesBE (doneOf p old) w) := by
 have hp' := hp
 obtain ⟨ao, no, co, rfl, ho, -⟩ := hp
 obtain ⟨f, t, o, nw, s, ops⟩ := p
 simp only at ho
 have HLn := LH hx.len
 have hb : Below w.heap.size w (w.alloc (.cells #[.int .i64 f, .int .i64 t, .int .i64 o, .int .i64 nw, .int .i64 s, .slice ao no co] 35)) := (Below.refl _ _).alloc (Nat.le_refl _) _
 obtain ⟨B, hBw⟩ : ∃ B, w.heap.size = B := ⟨_, rfl⟩
 have hB0 : (w.alloc (.cells #[.int .i64 f, .int .i64 t, .int .i64 o, .int .i64 nw, .int .i64 s, .slice ao no co] 35)).heap[B]? = some (.cells #[.int .i64 f, .int .i64 t, .int .i64 o, .int .i64 nw, .int .i64 s, .slice ao no co] 35 (0, 0)) := by rw [hpA, if_pos hBw.symm]
 replace hp' := hp'.later hb
 replace ho := ho.later hb
 replace hx := hx.later hb
 obtain ⟨E, hE⟩ : ∃ E, PatM.check ⟨f, t, o, nw, s, ops⟩ = E := ⟨_, rfl⟩
 have HE := LH hE
 clear hE
 go_enter Tryz.func60, Tryz.ntmps60
 go_wp2_with fail
 generalize w.alloc (.cells #[.int .i64 f, .int .i64 t, .int .i64 o, .int .i64 nw, .int .i64 s, .slice ao no co] 35) = W0 at hb hB0 hp' ho hx ⊢
 refine (checkP_any _ _ _ hp').mono ?_
 rintro e W1 ⟨rfl, b1⟩
 rw [HE.out]
 replace hB0 := (b1.block B (lt_blk hB0)).trans hB0
 replace ho := ho.later b1
 replace hx := hx.later b1
 replace b1 := bTh hb b1
 clear hb hp' hBw W0
 by_cases h0 : E = 0
 · subst h0
   by_cases h64 : 64 < n
   · have HK : Hid (doneOf ⟨f, t, o, nw, s, ops⟩ old = ([], 1)) := by
       show _ = _
       unfold doneOf
       rw [if_neg (by rw [HE.out]; simp), if_pos (by rw [HLn.out]; exact h64)]
     go_wp2_with fail
     go_ret2
     exact ⟨none, 0, 0, tup_a (by rw [HK.out]), by rw [HK.out]; exact BS.nil_ _, b1⟩
   · obtain ⟨r0, r1, r2, r3, r4, r5, -⟩ := pat_cells hB0
     have hq := fun m => of_any a n c old (W1.drewN m) (hx.drewN m)
     have HQ := LH hq
     clear hq
     obtain ⟨S, hS⟩ : ∃ S, SumM.addL 1 old = S := ⟨_, rfl⟩
     have HSu := LH hS
     rw [hS] at HQ
     clear hS
     by_cases hs : S = o
     · subst hs
       have hsb : (S != S) = false := by simp
       go_wp2_with fail
       go_quiet (exact quiet_eq (HQ.out _))
       have bq : Below W1.heap.size W1 (W1.drewN nq) := below_drewN (Below.refl _ _) nq
       have hB2 := (bq.block B (lt_blk hB0)).trans hB0
       have ho2 := ho.later bq
       have hx2 := hx.later bq
       have b2 := bTh b1 bq
       clear bq r0 r1 r2 r3 r4 r5 hB0 ho hx b1 HQ
       generalize W1.drewN nq = W2 at hB2 ho2 hx2 b2 ⊢
       obtain ⟨r0, r1, r2, r3, r4, r5, -⟩ := pat_cells hB2
       go_wp2_with fail
       refine (apply_any a n c old ao no co ops s _ hx2 ho2).mono ?_
       rintro e W3 ⟨ar, nr, cr, rfl, sr, b3⟩
       have hB3 := (b3.block B (lt_blk hB2)).trans hB2
       replace b3 := bTh b2 b3
       obtain ⟨F, hF⟩ : ∃ F, DeltaM.check ops old.length s = F := ⟨_, rfl⟩
       have HF := LH hF
       rw [hF]
       clear hF b2 hB2 ho2 hx2 r0 r1 r2 r3 r4 r5
       obtain ⟨r0, r1, r2, r3, r4, r5, -⟩ := pat_cells hB3
       obtain ⟨R, hR⟩ : ∃ R, DeltaM.applied old ops s = R := ⟨_, rfl⟩
       have HR := LH hR
       rw [hR] at sr
       clear hR
       by_cases hf0 : F = 0
       · subst hf0
         obtain ⟨S2, hS2⟩ : ∃ S, SumM.addL 1 R = S := ⟨_, rfl⟩
         have HS2 := LH hS2
         have HQ2 : Hid (∀ m, Calls Tryz.prog 36 #[.slice ar nr cr] (W3.drewN m) fun e w' => e = .returned (.int .i64 S2) ∧ W3.drewN m = w') := by
           show ∀ m, _
           intro m
           have := of_any ar nr cr R (W3.drewN m) (sr.drewN m)
           rwa [hS2] at this
         clear hS2
         by_cases hs2 : S2 = nw
         · subst hs2
           have hsb2 : (S2 != S2) = false := by simp
           have HK : Hid (doneOf ⟨f, t, S, S2, s, ops⟩ old = (R, 0)) := by
             show _ = _
             unfold doneOf
             rw [if_neg (by rw [HE.out]; simp), if_neg (by rw [HLn.out]; exact h64), if_neg (by simp only [HSu.out]; simp), if_neg (by simp only [HF.out]; simp)]
             simp only [HR.out, HS2.out]
             simp
           go_wp2_with fail
           go_quiet (exact quiet_eq (HQ2.out _))
           have b4 := below_drewN b3 nq
           have s4 := sr.drewN nq
           go_wp2_with fail
           go_ret2
           exact ⟨ar, nr, cr, tup_a (by rw [HK.out]), by rw [HK.out]; exact s4, b4⟩
         · have hsb2 : (S2 != nw) = true := by simp [hs2]
           have HK : Hid (doneOf ⟨f, t, S, nw, s, ops⟩ old = ([], 6)) := by
             show _ = _
             unfold doneOf
             rw [if_neg (by rw [HE.out]; simp), if_neg (by rw [HLn.out]; exact h64), if_neg (by simp only [HSu.out]; simp), if_neg (by simp only [HF.out]; simp)]
             simp only [HR.out, HS2.out]
             rw [if_pos hs2]
           go_wp2_with fail
           go_quiet (exact quiet_eq (HQ2.out _))
           have b4 := below_drewN b3 nq
           go_wp2_with fail
           go_ret2
           exact ⟨none, 0, 0, tup_a (by rw [HK.out]), by rw [HK.out]; exact BS.nil_ _, b4⟩
       · have hfb : (F == 0) = false := by simp [hf0]
         have hfn : (F != 0) = true := by simp [hf0]
         have HK : Hid (doneOf ⟨f, t, S, nw, s, ops⟩ old = ([], F)) := by
           show _ = _
           unfold doneOf
           rw [if_neg (by rw [HE.out]; simp), if_neg (by rw [HLn.out]; exact h64), if_neg (by simp only [HSu.out]; simp), if_pos (by simp only [HF.out]; exact hf0)]
           simp only [HF.out]
         go_wp2_with fail
         go_ret2
         exact ⟨none, 0, 0, tup_a (by rw [HK.out]), by rw [HK.out]; exact BS.nil_ _, b3⟩
     · have hsb : (S != o) = true := by simp [hs]
       have HK : Hid (doneOf ⟨f, t, o, nw, s, ops⟩ old = ([], 6)) := by
         show _ = _
         unfold doneOf
         rw [if_neg (by rw [HE.out]; simp), if_neg (by rw [HLn.out]; exact h64), if_pos (by simp only [HSu.out]; exact hs)]
       go_wp2_with fail
       go_quiet (exact quiet_eq (HQ.out _))
       have b4 := below_drewN b1 nq
       go_wp2_with fail
       go_ret2
       exact ⟨none, 0, 0, tup_a (by rw [HK.out]), by rw [HK.out]; exact BS.nil_ _, b4⟩
 · have hnb : (E != 0) = true := by simp [h0]
   have HK : Hid (doneOf ⟨f, t, o, nw, s, ops⟩ old = ([], E)) := by
     show _ = _
     unfold doneOf
     rw [if_pos (by rw [HE.out]; exact h0), HE.out]
   go_wp2_with fail
   go_ret2
   exact ⟨none, 0, 0, tup_a (by rw [HK.out]), by rw [HK.out]; exact BS.nil_ _, b1⟩
section
variable {P : Program} {ops : Array Oper} {rest : List Oper} {o : Oper} {a : Act} {w : World} {Q : Exit → Act → World → Prop}
theorem wLW (hw : Region.wanted o (yielded ops a.tmps) = true) (ty : TypeId) (x : Operand) (ho : o.op = .load ty x)
   (g : Nat) (hx : a.eval x = .pointer (some ⟨g, 0, none⟩)) (t : TypeId) (cs : Array Value) (fr : Nat × Nat) (d : TypeDesc) (hg : w.heap[g]? = some (.cells cs t fr))
   (hu : P.underlying ty = some d) (hd : (match d with | .struct _ | .array _ _ => true | _ => false) = true) (hi : (P.info? ty).map (·.size) = some cs.size)
   (h : wpList P ops Q rest (a.put o.dst (.agg cs)) w) : wpList P ops Q (o :: rest) a w :=
 wpList_step fun K hK => by
   rw [if_pos hw]
   exact wp_load_row ty x ho g hx t cs fr d hg hu hd hi (hK _ _ h)
end
end Go.Proofs.YtmpmaljkmfgagacGreat
