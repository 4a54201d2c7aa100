/-
  Texts put into one: DifThree, PatL, DvInst, WayMem, DvBegin, DvBits, DeltaCheck, DeltaApply, DvFill, PatchC, PCheck, SumP, PDo, LawG, DvBusy, ChunkC, CCheck, CKin, ChL, CList, SameChL, CSame, DeltaSame, PSame.
-/
import Derived.Test.YtmpmaljkmfgagacGreatHeldToStepsL
import Derived.Test.YtmpmaljkmfgagacGreatRowToDevT
import Derived.Laws.CopyOwn
import Derived.Laws.MakeOwn
import Derived.Handy
import Derived.BigQuiet
import Derived.Deep.QuietTactic
import Derived.Deep.Cut
import Derived.Deep.RegionHeld3
set_option maxRecDepth 100000
set_option maxHeartbeats 4000000
namespace Go.Proofs.YtmpmaljkmfgagacGreat
open Go.RowKit
theorem dif_three : DeltaM.Dif [97, 98, 99, 100, 101, 102, 103, 104] [120, 101, 102, 103, 104, 97, 98, 99, 100] [] stepsL := by
 have h1 : MatchM.Best [97, 98, 99, 100, 101, 102, 103, 104] [120, 101, 102, 103, 104, 97, 98, 99, 100] 0 0 := (show MatchM.Upto _ _ 8 0 0 from ⟨by decide, by decide, by decide, by decide⟩).best
 have h2 : MatchM.Best [97, 98, 99, 100, 101, 102, 103, 104] [101, 102, 103, 104, 97, 98, 99, 100] 4 4 := (show MatchM.Upto _ _ 8 4 4 from ⟨by decide, by decide, by decide, by decide⟩).best
 have h3 : MatchM.Best [97, 98, 99, 100, 101, 102, 103, 104] [97, 98, 99, 100] 0 4 := (show MatchM.Upto _ _ 8 0 4 from ⟨by decide, by decide, by decide, by decide⟩).best
 have e3 := DeltaM.Dif.copy _ [] 0 4 _ h3 (by decide) (.done [])
 have e2 := DeltaM.Dif.copy _ [120] 4 4 _ h2 (by decide) e3
 exact .lit 120 _ [] 0 0 _ h1 (by decide) e2
def patL : PatR := ⟨1, 2, 33012, 46707, 9, stepsL⟩
theorem patL_check : PatM.check patL = 0 := by decide
theorem patL_made : madeOf 1 2 [97, 98, 99, 100, 101, 102, 103, 104] [120, 101, 102, 103, 104, 97, 98, 99, 100] stepsL 0 = (patL, 0) := by decide
theorem patL_put : PatM.putL patL = [1, 2, 128, 244, 182, 115, 9, 3, 255, 1, 120, 4, 4, 0, 4] := by decide
namespace Inst
def im0 : List Int := [97, 98, 99, 100, 101, 102, 103, 104]
def im1 : List Int := [120, 101, 102, 103, 104, 97, 98, 99, 100]
def packL : List Int := [15, 1, 2, 128, 244, 182, 115, 9, 3, 255, 1, 120, 4, 4, 0, 4]
theorem packL_packs : PackM.Packs (PatM.putL patL) packL := by
 rw [patL_put]
 refine .lit [1, 2, 128, 244, 182, 115, 9, 3, 255, 1, 120, 4, 4, 0, 4] [] 15 (by omega) (by omega) (by simp) ?_ (.inl rfl) .nil
 decide
theorem packL_unp : PackM.Unp 400 packL [] (PatM.putL patL, 0) := by
 have := packL_packs.back 400 [] [] (PatM.putL patL, 0) (by rw [patL_put]; simp) (by simpa using PackM.Unp.done (PatM.putL patL))
 simpa using this
def chL : ChR := ⟨1, 2, 0, 1, packL⟩
theorem chL_cut : ChunkM.cutL patL.from_ patL.to_ packL = [chL] := by decide
theorem cut_patL {cs : List ChR} {err : Int} (h : ChunkM.CutIs patL cs err) : cs = [chL] ∧ err = 0 :=
 h.det (.inr ⟨patL_check, packL, packL_packs, chL_cut.symm, rfl⟩)
theorem join_chL {r : PatR × Int} (h : ChunkM.JoinIs [chL] r) : r = (patL, 0) := by
 refine h.det (.inr ⟨by decide, (PatM.putL patL, 0), ?_, ?_⟩)
 · have : ChunkM.flatD [chL] = packL := by decide
   rw [this]
   exact packL_unp
 · unfold ChunkM.joinEnd
   simp only
   rw [PatM.read_put patL_check]
   decide
def d0 : DevR := (DevM.newOf im0).1
def d1 : DevR := { d0 with got := [chL] }
def d2 : DevR := { d0 with c := (RecM.writeOf d0.c (DevM.put (DevM.rc d0) RecM.noInf) false).1, busy := true, job := patL, done := 0, got := [] }
def d3 : DevR := (DevM.write d2 false 0).1
def d4 : DevR := (DevM.write d3 false 0).1
def d5 : DevR := (DevM.finish d4 false).1
def d6 : DevR := DevM.off d5
def d7 : DevR := (DevM.boot d6).1
def d8 : DevR := (DevM.confirm d7).1
theorem st0 : DevM.newOf im0 = (d0, 0) := by kernel_rfl
theorem st1 : DevM.told d0 true (DevM.hear d0 chL) = (d1, 0) := by kernel_rfl
theorem st2 : DevM.told d1 true (DevM.open_ d1) = (d2, 0) := by
 have h : ChunkM.joinOf d1.got = (patL, 0) := join_chL (ChunkM.joinOf_is [chL])
 unfold DevM.open_
 rw [h]
 show _ = (d2, 0)
 kernel_rfl
theorem st3 : DevM.told d2 true (DevM.write d2 false 0) = (d3, 0) := by kernel_rfl
theorem stL : DevM.told d3 true (DevM.finish d3 false) = (DevM.noDev, 5) := by kernel_rfl
theorem st4 : DevM.told d3 true (DevM.write d3 false 0) = (d4, 0) := by kernel_rfl
theorem st5 : DevM.told d4 true (DevM.finish d4 false) = (d5, 0) := by kernel_rfl
theorem st6 : DevM.told d5 true (DevM.crash d5) = (d6, 0) := by kernel_rfl
theorem st7 : DevM.told d6 false (DevM.boot d6) = (d7, 0) := by kernel_rfl
theorem st8 : DevM.told d7 true (DevM.confirm d7) = (d8, 0) := by kernel_rfl
theorem ck8 : DevM.check d8 = 0 := by decide +kernel
theorem run7 : d7.run = 1 := by decide +kernel
theorem slot7 : d7.s1.take 9 = im1 := by decide +kernel
theorem len7 : d7.s1.length = 64 := by decide +kernel
end Inst
theorem gnY {P : Program} {ops : Array Oper} {Q : Exit → Act → World → Prop} {S : World → Prop} {r : WayO} {a : Act} {W : World} (X : World → Prop) (h : X W) (k : ∀ V, X V → wpWay P ops Q r S a V) : wpWay P ops Q r S a W := k W h
theorem gnX {prog : Program} {code : Code} {K : Exit → Act → World → Prop} {a : Act} {W : World} (X : World → Prop) (h : X W) (k : ∀ V, X V → Code.wp prog code K a V) : Code.wp prog code K a W := k W h
theorem MH.sub {w W : World} {L : List (Nat × Array Value × TypeId)} {H H' : Hlds} (h : MH w L H W) (hs : ∀ q ∈ H', q ∈ H) : MH w L H' W :=
 ⟨h.ms, fun q hq => h.has q (hs q hq), fun q hq => h.lo q (hs q hq), fun p hp q hq => h.sep p hp q (hs q hq)⟩
theorem MS.block {w W W' : World} {L : List (Nat × Array Value × TypeId)} (h : MS w L [] [] W) (hb : Below W.heap.size W W') {B : Nat} {c : Array Value} {t : TypeId} (hB : W'.heap[B]? = some (.cells c t (0, 0))) (hlo : W.heap.size ≤ B) : MS w ((B, c, t) :: L) [] [] W' := by
 have h' := h.later hb
 refine ⟨fun q hq => ?_, ?_, fun q hq => ?_, h'.below, (fun _ q => by cases q), (fun _ q => by cases q)⟩
 · rcases List.mem_cons.1 hq with rfl | hq
   · exact hB
   · exact h'.has q hq
 · exact List.Pairwise.cons (fun q hq => by have := h.lt hq; simp only; omega) h.srt
 · rcases List.mem_cons.1 hq with rfl | hq
   · have := h.below.size; simp only; omega
   · exact h.base q hq
theorem MH.block {w W W' : World} {L : List (Nat × Array Value × TypeId)} {H : Hlds} (h : MH w L H W) (hb : Below W.heap.size W W') {B : Nat} {c : Array Value} {t : TypeId} (hB : W'.heap[B]? = some (.cells c t (0, 0))) (hlo : W.heap.size ≤ B) : MH w ((B, c, t) :: L) H W' := by
 refine ⟨h.ms.block hb hB hlo, fun q hq => (h.has q hq).below hb, h.lo, fun p hp q hq => ?_⟩
 rcases List.mem_cons.1 hp with rfl | hp
 · have := (h.has q hq).1
   exact .inr (by simp only; omega)
 · exact h.sep p hp q hq
theorem MH.subL {w W : World} {L L' : List (Nat × Array Value × TypeId)} {H : Hlds} (h : MH w L H W) (hs : L'.Sublist L) : MH w L' H W :=
 ⟨h.ms.sub hs, h.has, h.lo, fun p hp q hq => h.sep p (hs.subset hp) q hq⟩
def zPat : Array Value := jbC none 0 0 noPat
theorem put_zpat (oa : Option Addr) (on oc : Nat) (p : PatR) : putAt zPat 0 (jbC oa on oc p).toList = jbC oa on oc p := by kernel_rfl
def GivesPatL (w : World) (e : Ending) (w' : World) : Prop :=
 ∃ ap np cp, e = .returned (.tuple #[.agg (jbC ap np cp patL), .int .i64 0]) ∧ Below w.heap.size w w' ∧ NewR w.heap.size w' (fun V => OS V ap np cp patL.ops)
theorem jobCells_inj {oa oa' : Option Addr} {on oc on' oc' : Nat} {p : PatR} (h : jbC oa on oc p = jbC oa' on' oc' p) : oa = oa' ∧ on = on' ∧ oc = oc' := by
 have := congrArg (fun a : Array Value => a[5]?) h
 simp [jbC] at this
 exact this
theorem madeL_any (a0 a1 : Option Addr) (c0 c1 : Nat) (w : World) (h0 : BS w a0 8 c0 Inst.im0) (h1 : BS w a1 9 c1 Inst.im1) (hM : MaxCell w) :
   Calls Tryz.prog 47 #[.int .i64 1, .int .i64 2, .slice a0 8 c0, .slice a1 9 c1] w (GivesPatL w) := by
 refine (made_n 1 2 a0 a1 8 c0 9 c1 Inst.im0 Inst.im1 w h0 h1 (by omega) (by omega) hM (by unfold I64; omega) (by unfold I64; omega)).mono ?_
 rintro e w' ⟨ops, hdif, hg⟩
 obtain rfl := hdif.det dif_three
 have hm : madeOf 1 2 Inst.im0 Inst.im1 _ 0 = (patL, 0) := patL_made
 rw [hm] at hg
 obtain ⟨v, he, hb, hn⟩ := hg
 obtain ⟨ap, np, cp, hv, -, -⟩ := hn w' (Nat.le_refl _) (fun _ _ _ => rfl) trivial
 subst hv
 refine ⟨ap, np, cp, he, hb, fun V v1 v2 => ?_⟩
 obtain ⟨ap', np', cp', hv', ho, -⟩ := hn V v1 v2 trivial
 have hj : jbC ap np cp patL = jbC ap' np' cp' patL := by
   have := hv'
   injection this
 obtain ⟨rfl, rfl, rfl⟩ := jobCells_inj hj
 exact ho
theorem begin_bad (HCh : CheckDC) (h : DevH) (d : DevR) (up : Bool) (E : Int) (w : World) (HD : DH w h d) (hE : DevM.check d = E) (h0 : E ≠ 0) : Calls Tryz.prog 55 #[devV h d, .bool up] w fun e w' => e = .returned (.tuple #[recV RecM.noRec, .int .i64 E]) ∧ Below w.heap.size w w' := by
 have HCk : Hid (∀ W, DH W h d → Calls Tryz.prog 10 #[.agg (dvC h d)] W fun e w' => e = .returned (.int .i64 E) ∧ Below W.heap.size W w') := fun W hd => by
   have := HCh h d W hd
   rw [hE] at this
   exact this
 have t0 : (E != 0) = true := by simp [h0]
 clear hE h0
 unfold devV
 obtain ⟨P1, hP1⟩ : ∃ P, w.heap.size = P := ⟨_, rfl⟩
 have HS := LH ((((((MS.start w).arg HD.argR).alloc (p := P1) (by simp [hP1]) (dvC h d) 37)).alloc (p := (P1 + 1)) (by simp [hP1]) zeroRec 28))
 go_enter Tryz.func55, Tryz.ntmps55
 go_upto_region 1 with fail
 refine wp_gen HS.out (fun V0 HS1 => ?_)
 replace HS := LH HS1
 clear HS1 hP1
 have bP1 := HS.out.get 1 rfl
 simp only at bP1
 go_wp2_with (first
   | (refine wpList_load_row rfl 37 (.tmp 2) rfl P1 rfl 37 (dvC h d) (0, 0) _ bP1 Tryz.underlying37 rfl (sDv h d) ?_))
 clear bP1
 refine (HCk.out _ (HS.out.read 0 rfl)).mono ?_
 rintro e W1 ⟨rfl, hb⟩
 replace HS := LH (HS.out.later hb)
 clear hb
 have HG := LH (HS.out.set 0 rfl zeroRec)
 have bP1p1 := HS.out.get 0 rfl
 simp only at bP1p1
 go_wp2_with (first
   | (refine wpList_store_row rfl 28 (.tmp 4) (.tmp 14) rfl (P1 + 1) zeroRec rfl rfl 28 _ bP1p1 size_zero rfl one_zero ?_))
 clear bP1p1
 refine bodyPost_ret (v := .tuple #[.agg zeroRec, .int .i64 E]) ?_ rfl ?_
 · exact res_ct (fn := Tryz.f55) (p := 4) (a := 5) rfl rfl rfl (HG.out.get 0 rfl) Tryz.underlying28 rfl size_zero
 · exact ⟨rfl, HG.out.below⟩
theorem begin_late (HCh : CheckDC) (h : DevH) (d : DevR) (up : Bool) (w : World) (HD : DH w h d) (hE : DevM.check d = 0) (h0 : d.up ≠ up) : Calls Tryz.prog 55 #[devV h d, .bool up] w fun e w' => e = .returned (.tuple #[recV RecM.noRec, .int .i64 5]) ∧ Below w.heap.size w w' := by
 have HCk : Hid (∀ W, DH W h d → Calls Tryz.prog 10 #[.agg (dvC h d)] W fun e w' => e = .returned (.int .i64 0) ∧ Below W.heap.size W w') := fun W hd => by
   have := HCh h d W hd
   rw [hE] at this
   exact this
 have t1 : (d.up != up) = true := by simpa using h0
 have t2 : (d.up == up) = false := by simpa using h0
 clear hE h0
 unfold devV
 obtain ⟨P1, hP1⟩ : ∃ P, w.heap.size = P := ⟨_, rfl⟩
 have HS := LH ((((((MS.start w).arg HD.argR).alloc (p := P1) (by simp [hP1]) (dvC h d) 37)).alloc (p := (P1 + 1)) (by simp [hP1]) zeroRec 28))
 go_enter Tryz.func55, Tryz.ntmps55
 go_upto_region 1 with fail
 refine wp_gen HS.out (fun V0 HS1 => ?_)
 replace HS := LH HS1
 clear HS1 hP1
 have bP1 := HS.out.get 1 rfl
 simp only at bP1
 go_wp2_with (first
   | (refine wpList_load_row rfl 37 (.tmp 2) rfl P1 rfl 37 (dvC h d) (0, 0) _ bP1 Tryz.underlying37 rfl (sDv h d) ?_))
 clear bP1
 refine (HCk.out _ (HS.out.read 0 rfl)).mono ?_
 rintro e W1 ⟨rfl, hb⟩
 replace HS := LH (HS.out.later hb)
 clear hb
 have HG := LH (HS.out.set 0 rfl zeroRec)
 have cP1_26 := cAt (k := 26) (v := .bool d.up) (HS.out.get 1 rfl) rfl
 simp only at cP1_26
 have bP1p1 := HS.out.get 0 rfl
 simp only at bP1p1
 go_wp2_with (first
   | (refine wpList_store_row rfl 28 (.tmp 4) (.tmp 20) rfl (P1 + 1) zeroRec rfl rfl 28 _ bP1p1 size_zero rfl one_zero ?_))
 clear cP1_26 bP1p1
 refine bodyPost_ret (v := .tuple #[.agg zeroRec, .int .i64 5]) ?_ rfl ?_
 · exact res_ct (fn := Tryz.f55) (p := 4) (a := 5) rfl rfl rfl (HG.out.get 0 rfl) Tryz.underlying28 rfl size_zero
 · exact ⟨rfl, HG.out.below⟩
theorem like_zrec (r : RecR) : zeroRec.size = (rcC r).size := by kernel_rfl
theorem begin_ok (HCh : CheckDC) (h : DevH) (d : DevR) (up : Bool) (w : World) (HD : DH w h d) (hE : DevM.check d = 0) (h0 : d.up = up) : Calls Tryz.prog 55 #[devV h d, .bool up] w fun e w' => e = .returned (.tuple #[recV (DevM.rc d), .int .i64 0]) ∧ Below w.heap.size w w' := by
 have HCk : Hid (∀ W, DH W h d → Calls Tryz.prog 10 #[.agg (dvC h d)] W fun e w' => e = .returned (.int .i64 0) ∧ Below W.heap.size W w') := fun W hd => by
   have := HCh h d W hd
   rw [hE] at this
   exact this
 have HRd : Hid (∀ W, Calls Tryz.prog 28 #[.agg (cpC d.c)] W fun e w' => e = .returned (.tuple #[.agg (rcC (DevM.rc d)), .int .i64 (RecM.newest d.c), .int .i64 0]) ∧ Below W.heap.size W w') := fun W => by
   have := rdR d.c W
   have hc : RecM.copies d.c = 0 := (DevM.ok_iff.1 hE).cops
   have hr : RecM.readOf d.c = (RecM.cur d.c, RecM.newest d.c, 0) := if_neg (fun q => q hc)
   rw [hr] at this
   exact this
 have HRC : Hid (recV (DevM.rc d) = .agg (rcC (DevM.rc d))) := rfl
 rw [HRC.out]
 have t1 : (up != up) = false := by simp
 have t2 : (up == up) = true := by simp
 clear hE
 unfold devV
 obtain ⟨P1, hP1⟩ : ∃ P, w.heap.size = P := ⟨_, rfl⟩
 have HS := LH ((((((MS.start w).arg HD.argR).alloc (p := P1) (by simp [hP1]) (dvC h d) 37)).alloc (p := (P1 + 1)) (by simp [hP1]) zeroRec 28))
 go_enter Tryz.func55, Tryz.ntmps55
 go_upto_region 1 with fail
 refine wp_gen HS.out (fun V0 HS1 => ?_)
 replace HS := LH HS1
 clear HS1 hP1
 have bP1 := HS.out.get 1 rfl
 simp only at bP1
 go_wp2_with (first
   | (refine wpList_load_row rfl 37 (.tmp 2) rfl P1 rfl 37 (dvC h d) (0, 0) _ bP1 Tryz.underlying37 rfl (sDv h d) ?_))
 clear bP1
 refine (HCk.out _ (HS.out.read 0 rfl)).mono ?_
 rintro e W1 ⟨rfl, hb⟩
 replace HS := LH (HS.out.later hb)
 clear hb
 have cP1_26 := cAt (k := 26) (v := .bool d.up) (HS.out.get 1 rfl) rfl
 simp only at cP1_26
 rw [h0] at cP1_26
 have bP1 := HS.out.get 1 rfl
 simp only at bP1
 go_wp2_with (first
   | (refine wLP rfl 31 (.tmp 22) rfl P1 2 rfl (dvC h d) 37 (0, 0) bP1 (cpC d.c) (part_cops h d) _ Tryz.underlying31 rfl (sCp d.c) ?_))
 clear cP1_26 bP1
 refine (HRd.out _).mono ?_
 rintro e W2 ⟨rfl, hb⟩
 replace HS := LH (HS.out.later hb)
 clear hb
 obtain ⟨P3, hP3⟩ : ∃ P, W2.heap.size = P := ⟨_, rfl⟩
 replace HS := LH (HS.out.alloc hP3 (rcC (DevM.rc d)) 28)
 have HG := LH (HS.out.set 1 rfl (rcC (DevM.rc d)))
 have bP3 := HS.out.get 0 rfl
 simp only at bP3
 have bP1p1 := HS.out.get 1 rfl
 simp only at bP1p1
 go_wp2_with (first
   | (refine wSN rfl 28 (.tmp 7) (.tmp 25) rfl P3 (rcC (DevM.rc d)) rfl rfl 28 _ hP3.symm (sRc (DevM.rc d)) (lRc (DevM.rc d)) (oRc (DevM.rc d)) ?_)
   | (refine wpList_load_row rfl 28 (.tmp 7) rfl P3 rfl 28 (rcC (DevM.rc d)) (0, 0) _ bP3 Tryz.underlying28 rfl (sRc (DevM.rc d)) ?_)
   | (refine wpList_store_row rfl 28 (.tmp 4) (.tmp 28) rfl (P1 + 1) (rcC (DevM.rc d)) rfl rfl 28 _ bP1p1 (sRc (DevM.rc d)) (like_zrec (DevM.rc d)) (oRc (DevM.rc d)) ?_))
 clear bP3 bP1p1
 refine bodyPost_ret (v := .tuple #[.agg (rcC (DevM.rc d)), .int .i64 0]) ?_ rfl ?_
 · exact res_ct (fn := Tryz.f55) (p := 4) (a := 5) rfl rfl rfl (HG.out.get 1 rfl) Tryz.underlying28 rfl (sRc _)
 · exact ⟨rfl, HG.out.below⟩
theorem beginD_any (HCh : CheckDC) (h : DevH) (d : DevR) (up : Bool) (w : World) (HD : DH w h d) : Calls Tryz.prog 55 #[devV h d, .bool up] w fun e w' => e = .returned (.tuple #[recV (DevM.beg d up).1, .int .i64 (DevM.beg d up).2]) ∧ Below w.heap.size w w' := by
 unfold DevM.beg
 by_cases h1 : DevM.check d = 0
 · rw [if_neg (fun q => q h1)]
   by_cases h2 : d.up = up
   · rw [if_neg (fun q => q h2)]
     exact begin_ok HCh h d up w HD h1 h2
   · rw [if_pos h2]
     exact begin_late HCh h d up w HD h1 h2
 · rw [if_pos h1]
   exact begin_bad HCh h d up _ w HD rfl h1
def slA (h : DevH) (k : Int) : Option Addr := if k = 0 then h.a0 else h.a1
def slN (h : DevH) (k : Int) : Nat := if k = 0 then h.n0 else h.n1
def slC (h : DevH) (k : Int) : Nat := if k = 0 then h.c0 else h.c1
theorem otherD_any (x : Int) (w : World) (h : x = 0 ∨ x = 1) :
   Calls Tryz.prog 62 #[.int .i64 x] w fun e w' => e = .returned (.int .i64 (1 - x)) ∧ w = w' := by
 rcases h with rfl | rfl
 · go_enter Tryz.func62, Tryz.ntmps62
   go_wp2
   go_ret
   exact ⟨rfl, rfl⟩
 · go_enter Tryz.func62, Tryz.ntmps62
   go_wp2
   go_ret
   exact ⟨rfl, rfl⟩
theorem suits0EG (oa : Option Addr) (on oc : Nat) (p : PatR) (g : Int) (tr : Bool) (n f : Int) (i0 i1 : InfR) (h1 : p.from_ = i0.ver) (h2 : f ≤ p.to_) (w : World) : Calls Tryz.prog 59 #[.agg (jbC oa on oc p), .agg (rcC ⟨g, 0, tr, n, f, i0, i1⟩)] w fun e w' => e = .returned (.bool (decide (p.from_ = i0.ver ∧ f ≤ p.to_))) ∧ Below w.heap.size w w' := by
 have t1 : (p.from_ == i0.ver) = true := by simp [h1]
 have t2 : decide (p.to_ ≥ f) = true := by simp; omega
 have t3 : decide (f ≤ p.to_) = true := by simp; omega
 have hres : Hid (true = decide (p.from_ = i0.ver ∧ f ≤ p.to_)) := by show _ = _; simp [h1, h2]
 clear h1 h2
 obtain ⟨P1, hP1⟩ : ∃ P, w.heap.size = P := ⟨_, rfl⟩
 have HS := LH (((((MS.start w).alloc (p := P1) (by simp [hP1]) (jbC oa on oc p) 35)).alloc (p := (P1 + 1)) (by simp [hP1]) (rcC ⟨g, 0, tr, n, f, i0, i1⟩) 28))
 go_enter Tryz.func59, Tryz.ntmps59
 go_upto_region 1 with fail
 refine wp_gen HS.out (fun V0 HS1 => ?_)
 replace HS := LH HS1
 clear HS1 hP1
 have cP1_0 := cAt (k := 0) (v := .int .i64 p.from_) (HS.out.get 1 rfl) rfl
 simp only at cP1_0
 have cP1p1_1 := cAt (k := 1) (v := .int .i64 0) (HS.out.get 0 rfl) rfl
 simp only at cP1p1_1
 have cP1p1_5 := cAt (k := 5) (v := .int .i64 i0.ver) (HS.out.get 0 rfl) rfl
 simp only at cP1p1_5
 have cP1_1 := cAt (k := 1) (v := .int .i64 p.to_) (HS.out.get 1 rfl) rfl
 simp only at cP1_1
 have cP1p1_4 := cAt (k := 4) (v := .int .i64 f) (HS.out.get 0 rfl) rfl
 simp only at cP1p1_4
 go_quiet (fail)
 have HB := HS.out.drewN nq
 go_wp2_with fail
 go_ret
 exact ⟨ret_b hres.out, HB.below⟩
theorem suits0EL (oa : Option Addr) (on oc : Nat) (p : PatR) (g : Int) (tr : Bool) (n f : Int) (i0 i1 : InfR) (h1 : p.from_ = i0.ver) (h2 : ¬ f ≤ p.to_) (w : World) : Calls Tryz.prog 59 #[.agg (jbC oa on oc p), .agg (rcC ⟨g, 0, tr, n, f, i0, i1⟩)] w fun e w' => e = .returned (.bool (decide (p.from_ = i0.ver ∧ f ≤ p.to_))) ∧ Below w.heap.size w w' := by
 have t1 : (p.from_ == i0.ver) = true := by simp [h1]
 have t2 : decide (p.to_ ≥ f) = false := by simp; omega
 have t3 : decide (f ≤ p.to_) = false := by simp; omega
 have hres : Hid (false = decide (p.from_ = i0.ver ∧ f ≤ p.to_)) := by show _ = _; simp [h1, h2]
 clear h1 h2
 obtain ⟨P1, hP1⟩ : ∃ P, w.heap.size = P := ⟨_, rfl⟩
 have HS := LH (((((MS.start w).alloc (p := P1) (by simp [hP1]) (jbC oa on oc p) 35)).alloc (p := (P1 + 1)) (by simp [hP1]) (rcC ⟨g, 0, tr, n, f, i0, i1⟩) 28))
 go_enter Tryz.func59, Tryz.ntmps59
 go_upto_region 1 with fail
 refine wp_gen HS.out (fun V0 HS1 => ?_)
 replace HS := LH HS1
 clear HS1 hP1
 have cP1_0 := cAt (k := 0) (v := .int .i64 p.from_) (HS.out.get 1 rfl) rfl
 simp only at cP1_0
 have cP1p1_1 := cAt (k := 1) (v := .int .i64 0) (HS.out.get 0 rfl) rfl
 simp only at cP1p1_1
 have cP1p1_5 := cAt (k := 5) (v := .int .i64 i0.ver) (HS.out.get 0 rfl) rfl
 simp only at cP1p1_5
 have cP1_1 := cAt (k := 1) (v := .int .i64 p.to_) (HS.out.get 1 rfl) rfl
 simp only at cP1_1
 have cP1p1_4 := cAt (k := 4) (v := .int .i64 f) (HS.out.get 0 rfl) rfl
 simp only at cP1p1_4
 go_quiet (fail)
 have HB := HS.out.drewN nq
 go_wp2_with fail
 go_ret
 exact ⟨ret_b hres.out, HB.below⟩
theorem suits0N (oa : Option Addr) (on oc : Nat) (p : PatR) (g : Int) (tr : Bool) (n f : Int) (i0 i1 : InfR) (h1 : p.from_ ≠ i0.ver) (w : World) : Calls Tryz.prog 59 #[.agg (jbC oa on oc p), .agg (rcC ⟨g, 0, tr, n, f, i0, i1⟩)] w fun e w' => e = .returned (.bool (decide (p.from_ = i0.ver ∧ f ≤ p.to_))) ∧ Below w.heap.size w w' := by
 have t1 : (p.from_ == i0.ver) = false := by simp [h1]
 have hres : Hid (false = decide (p.from_ = i0.ver ∧ f ≤ p.to_)) := by show _ = _; simp [h1]
 clear h1
 obtain ⟨P1, hP1⟩ : ∃ P, w.heap.size = P := ⟨_, rfl⟩
 have HS := LH (((((MS.start w).alloc (p := P1) (by simp [hP1]) (jbC oa on oc p) 35)).alloc (p := (P1 + 1)) (by simp [hP1]) (rcC ⟨g, 0, tr, n, f, i0, i1⟩) 28))
 go_enter Tryz.func59, Tryz.ntmps59
 go_upto_region 1 with fail
 refine wp_gen HS.out (fun V0 HS1 => ?_)
 replace HS := LH HS1
 clear HS1 hP1
 have cP1_0 := cAt (k := 0) (v := .int .i64 p.from_) (HS.out.get 1 rfl) rfl
 simp only at cP1_0
 have cP1p1_1 := cAt (k := 1) (v := .int .i64 0) (HS.out.get 0 rfl) rfl
 simp only at cP1p1_1
 have cP1p1_5 := cAt (k := 5) (v := .int .i64 i0.ver) (HS.out.get 0 rfl) rfl
 simp only at cP1p1_5
 have cP1_1 := cAt (k := 1) (v := .int .i64 p.to_) (HS.out.get 1 rfl) rfl
 simp only at cP1_1
 have cP1p1_4 := cAt (k := 4) (v := .int .i64 f) (HS.out.get 0 rfl) rfl
 simp only at cP1p1_4
 go_quiet (fail)
 have HB := HS.out.drewN nq
 go_wp2_with fail
 go_ret
 exact ⟨ret_b hres.out, HB.below⟩
theorem suits1EG (oa : Option Addr) (on oc : Nat) (p : PatR) (g : Int) (tr : Bool) (n f : Int) (i0 i1 : InfR) (h1 : p.from_ = i1.ver) (h2 : f ≤ p.to_) (w : World) : Calls Tryz.prog 59 #[.agg (jbC oa on oc p), .agg (rcC ⟨g, 1, tr, n, f, i0, i1⟩)] w fun e w' => e = .returned (.bool (decide (p.from_ = i1.ver ∧ f ≤ p.to_))) ∧ Below w.heap.size w w' := by
 have t1 : (p.from_ == i1.ver) = true := by simp [h1]
 have t2 : decide (p.to_ ≥ f) = true := by simp; omega
 have t3 : decide (f ≤ p.to_) = true := by simp; omega
 have hres : Hid (true = decide (p.from_ = i1.ver ∧ f ≤ p.to_)) := by show _ = _; simp [h1, h2]
 clear h1 h2
 obtain ⟨P1, hP1⟩ : ∃ P, w.heap.size = P := ⟨_, rfl⟩
 have HS := LH (((((MS.start w).alloc (p := P1) (by simp [hP1]) (jbC oa on oc p) 35)).alloc (p := (P1 + 1)) (by simp [hP1]) (rcC ⟨g, 1, tr, n, f, i0, i1⟩) 28))
 go_enter Tryz.func59, Tryz.ntmps59
 go_upto_region 1 with fail
 refine wp_gen HS.out (fun V0 HS1 => ?_)
 replace HS := LH HS1
 clear HS1 hP1
 have cP1_0 := cAt (k := 0) (v := .int .i64 p.from_) (HS.out.get 1 rfl) rfl
 simp only at cP1_0
 have cP1p1_1 := cAt (k := 1) (v := .int .i64 1) (HS.out.get 0 rfl) rfl
 simp only at cP1p1_1
 have cP1p1_8 := cAt (k := 8) (v := .int .i64 i1.ver) (HS.out.get 0 rfl) rfl
 simp only at cP1p1_8
 have cP1_1 := cAt (k := 1) (v := .int .i64 p.to_) (HS.out.get 1 rfl) rfl
 simp only at cP1_1
 have cP1p1_4 := cAt (k := 4) (v := .int .i64 f) (HS.out.get 0 rfl) rfl
 simp only at cP1p1_4
 go_quiet (fail)
 have HB := HS.out.drewN nq
 go_wp2_with fail
 go_ret
 exact ⟨ret_b hres.out, HB.below⟩
theorem suits1EL (oa : Option Addr) (on oc : Nat) (p : PatR) (g : Int) (tr : Bool) (n f : Int) (i0 i1 : InfR) (h1 : p.from_ = i1.ver) (h2 : ¬ f ≤ p.to_) (w : World) : Calls Tryz.prog 59 #[.agg (jbC oa on oc p), .agg (rcC ⟨g, 1, tr, n, f, i0, i1⟩)] w fun e w' => e = .returned (.bool (decide (p.from_ = i1.ver ∧ f ≤ p.to_))) ∧ Below w.heap.size w w' := by
 have t1 : (p.from_ == i1.ver) = true := by simp [h1]
 have t2 : decide (p.to_ ≥ f) = false := by simp; omega
 have t3 : decide (f ≤ p.to_) = false := by simp; omega
 have hres : Hid (false = decide (p.from_ = i1.ver ∧ f ≤ p.to_)) := by show _ = _; simp [h1, h2]
 clear h1 h2
 obtain ⟨P1, hP1⟩ : ∃ P, w.heap.size = P := ⟨_, rfl⟩
 have HS := LH (((((MS.start w).alloc (p := P1) (by simp [hP1]) (jbC oa on oc p) 35)).alloc (p := (P1 + 1)) (by simp [hP1]) (rcC ⟨g, 1, tr, n, f, i0, i1⟩) 28))
 go_enter Tryz.func59, Tryz.ntmps59
 go_upto_region 1 with fail
 refine wp_gen HS.out (fun V0 HS1 => ?_)
 replace HS := LH HS1
 clear HS1 hP1
 have cP1_0 := cAt (k := 0) (v := .int .i64 p.from_) (HS.out.get 1 rfl) rfl
 simp only at cP1_0
 have cP1p1_1 := cAt (k := 1) (v := .int .i64 1) (HS.out.get 0 rfl) rfl
 simp only at cP1p1_1
 have cP1p1_8 := cAt (k := 8) (v := .int .i64 i1.ver) (HS.out.get 0 rfl) rfl
 simp only at cP1p1_8
 have cP1_1 := cAt (k := 1) (v := .int .i64 p.to_) (HS.out.get 1 rfl) rfl
 simp only at cP1_1
 have cP1p1_4 := cAt (k := 4) (v := .int .i64 f) (HS.out.get 0 rfl) rfl
 simp only at cP1p1_4
 go_quiet (fail)
 have HB := HS.out.drewN nq
 go_wp2_with fail
 go_ret
 exact ⟨ret_b hres.out, HB.below⟩
theorem suits1N (oa : Option Addr) (on oc : Nat) (p : PatR) (g : Int) (tr : Bool) (n f : Int) (i0 i1 : InfR) (h1 : p.from_ ≠ i1.ver) (w : World) : Calls Tryz.prog 59 #[.agg (jbC oa on oc p), .agg (rcC ⟨g, 1, tr, n, f, i0, i1⟩)] w fun e w' => e = .returned (.bool (decide (p.from_ = i1.ver ∧ f ≤ p.to_))) ∧ Below w.heap.size w w' := by
 have t1 : (p.from_ == i1.ver) = false := by simp [h1]
 have hres : Hid (false = decide (p.from_ = i1.ver ∧ f ≤ p.to_)) := by show _ = _; simp [h1]
 clear h1
 obtain ⟨P1, hP1⟩ : ∃ P, w.heap.size = P := ⟨_, rfl⟩
 have HS := LH (((((MS.start w).alloc (p := P1) (by simp [hP1]) (jbC oa on oc p) 35)).alloc (p := (P1 + 1)) (by simp [hP1]) (rcC ⟨g, 1, tr, n, f, i0, i1⟩) 28))
 go_enter Tryz.func59, Tryz.ntmps59
 go_upto_region 1 with fail
 refine wp_gen HS.out (fun V0 HS1 => ?_)
 replace HS := LH HS1
 clear HS1 hP1
 have cP1_0 := cAt (k := 0) (v := .int .i64 p.from_) (HS.out.get 1 rfl) rfl
 simp only at cP1_0
 have cP1p1_1 := cAt (k := 1) (v := .int .i64 1) (HS.out.get 0 rfl) rfl
 simp only at cP1p1_1
 have cP1p1_8 := cAt (k := 8) (v := .int .i64 i1.ver) (HS.out.get 0 rfl) rfl
 simp only at cP1p1_8
 have cP1_1 := cAt (k := 1) (v := .int .i64 p.to_) (HS.out.get 1 rfl) rfl
 simp only at cP1_1
 have cP1p1_4 := cAt (k := 4) (v := .int .i64 f) (HS.out.get 0 rfl) rfl
 simp only at cP1p1_4
 go_quiet (fail)
 have HB := HS.out.drewN nq
 go_wp2_with fail
 go_ret
 exact ⟨ret_b hres.out, HB.below⟩
theorem suitsD_any (oa : Option Addr) (on oc : Nat) (p : PatR) (r : RecR) (ha : r.act = 0 ∨ r.act = 1) (w : World) : Calls Tryz.prog 59 #[.agg (jbC oa on oc p), .agg (rcC r)] w fun e w' => e = .returned (.bool (decide (p.from_ = (RecM.inf r r.act).ver ∧ r.floor ≤ p.to_))) ∧ Below w.heap.size w w' := by
 obtain ⟨g, a, tr, n, f, i0, i1⟩ := r
 simp only at ha
 rcases ha with rfl | rfl
 · by_cases h1 : p.from_ = i0.ver
   · by_cases h2 : f ≤ p.to_
     · exact suits0EG oa on oc p g tr n f i0 i1 h1 h2 w
     · exact suits0EL oa on oc p g tr n f i0 i1 h1 h2 w
   · exact suits0N oa on oc p g tr n f i0 i1 h1 w
 · by_cases h1 : p.from_ = i1.ver
   · by_cases h2 : f ≤ p.to_
     · exact suits1EG oa on oc p g tr n f i0 i1 h1 h2 w
     · exact suits1EL oa on oc p g tr n f i0 i1 h1 h2 w
   · exact suits1N oa on oc p g tr n f i0 i1 h1 w
theorem image0 (h : DevH) (d : DevR) (g : Int) (tr : Bool) (n f : Int) (i0 i1 : InfR) (m : Nat) (hm : i0.size = m) (hc : m ≤ h.c0) (w : World) : Calls Tryz.prog 61 #[devV h d, .agg (rcC ⟨g, 0, tr, n, f, i0, i1⟩)] w fun e w' => e = .returned (.slice h.a0 m h.c0) ∧ Below w.heap.size w w' := by
 have hcut := fun W => rCh h.a0 h.n0 h.c0 W m hc
 unfold devV
 obtain ⟨P1, hP1⟩ : ∃ P, w.heap.size = P := ⟨_, rfl⟩
 have HS := LH (((((MS.start w).alloc (p := P1) (by simp [hP1]) (dvC h d) 37)).alloc (p := (P1 + 1)) (by simp [hP1]) (rcC ⟨g, 0, tr, n, f, i0, i1⟩) 28))
 go_enter Tryz.func61, Tryz.ntmps61
 go_upto_region 1 with fail
 refine wp_gen HS.out (fun V0 HS1 => ?_)
 replace HS := LH HS1
 clear HS1 hP1
 have cP1_0 := cAt (k := 0) (v := .slice h.a0 h.n0 h.c0) (HS.out.get 1 rfl) rfl
 simp only at cP1_0
 have cP1p1_1 := cAt (k := 1) (v := .int .i64 0) (HS.out.get 0 rfl) rfl
 simp only at cP1p1_1
 have cP1p1_6 := cAt (k := 6) (v := .int .i64 i0.size) (HS.out.get 0 rfl) rfl
 simp only at cP1p1_6
 rw [hm] at cP1p1_6
 go_quiet (fail)
 have HB := HS.out.drewN nq
 go_wp2_with fail
 go_ret
 exact ⟨rfl, HB.below⟩
theorem image1 (h : DevH) (d : DevR) (g : Int) (tr : Bool) (n f : Int) (i0 i1 : InfR) (m : Nat) (hm : i1.size = m) (hc : m ≤ h.c1) (w : World) : Calls Tryz.prog 61 #[devV h d, .agg (rcC ⟨g, 1, tr, n, f, i0, i1⟩)] w fun e w' => e = .returned (.slice h.a1 m h.c1) ∧ Below w.heap.size w w' := by
 have hcut := fun W => rCh h.a1 h.n1 h.c1 W m hc
 unfold devV
 obtain ⟨P1, hP1⟩ : ∃ P, w.heap.size = P := ⟨_, rfl⟩
 have HS := LH (((((MS.start w).alloc (p := P1) (by simp [hP1]) (dvC h d) 37)).alloc (p := (P1 + 1)) (by simp [hP1]) (rcC ⟨g, 1, tr, n, f, i0, i1⟩) 28))
 go_enter Tryz.func61, Tryz.ntmps61
 go_upto_region 1 with fail
 refine wp_gen HS.out (fun V0 HS1 => ?_)
 replace HS := LH HS1
 clear HS1 hP1
 have cP1_1 := cAt (k := 1) (v := .slice h.a1 h.n1 h.c1) (HS.out.get 1 rfl) rfl
 simp only at cP1_1
 have cP1p1_1 := cAt (k := 1) (v := .int .i64 1) (HS.out.get 0 rfl) rfl
 simp only at cP1p1_1
 have cP1p1_9 := cAt (k := 9) (v := .int .i64 i1.size) (HS.out.get 0 rfl) rfl
 simp only at cP1p1_9
 rw [hm] at cP1p1_9
 go_quiet (fail)
 have HB := HS.out.drewN nq
 go_wp2_with fail
 go_ret
 exact ⟨rfl, HB.below⟩
theorem imageD_any (h : DevH) (d : DevR) (r : RecR) (ha : r.act = 0 ∨ r.act = 1) (m : Nat) (hm : (RecM.inf r r.act).size = m) (hc : m ≤ slC h r.act) (w : World) :
   Calls Tryz.prog 61 #[devV h d, .agg (rcC r)] w fun e w' => e = .returned (.slice (slA h r.act) m (slC h r.act)) ∧ Below w.heap.size w w' := by
 obtain ⟨g, a, tr, n, f, i0, i1⟩ := r
 simp only at ha hm hc ⊢
 rcases ha with rfl | rfl
 · exact image0 h d g tr n f i0 i1 m hm hc w
 · exact image1 h d g tr n f i0 i1 m hm hc w
def DeltaM.stepErr (old : Int) (o : OpR) : Int := if DeltaM.badForm o then 3 else if DeltaM.bdR old o then 2 else 0
theorem DeltaM.good_num {old : Int} {o : OpR} (h : ¬ DeltaM.badForm o) (h2 : ¬ DeltaM.bdR old o) : 0 ≤ o.len ∧ (o.data.length : Int) ≤ 64 ∧ o.len ≤ old := by
 unfold DeltaM.badForm at h
 unfold DeltaM.bdR at h2
 omega
theorem imageSize_any (x : Int) (w : World) :
   Calls Tryz.prog 145 #[.int .i64 x] w fun e w' => e = .returned (.bool (decide (0 ≤ x ∧ x ≤ 64))) ∧ w = w' := by
 by_cases h : 0 ≤ x
 · go_enter Tryz.func145, Tryz.ntmps145
   go_wp2
   go_ret
   exact ⟨by simp [h], rfl⟩
 · go_enter Tryz.func145, Tryz.ntmps145
   go_wp2
   go_ret
   exact ⟨by simp; omega, rfl⟩
theorem checkStep_any (A L : Int) (va : Option Addr) (vn vc : Nat) (D : List Int) (old : Int) (w : World) (hD : D.length = vn) (hA : I64 A) (hL : I64 L) (h0 : 0 ≤ old) (h1 : old ≤ 64) :
   Calls Tryz.prog 146 #[.agg #[.int .i64 A, .int .i64 L, .slice va vn vc], .int .i64 old] w fun e w' => e = .returned (.int .i64 (DeltaM.stepErr old ⟨A, L, D⟩)) ∧ Below w.heap.size w w' := by
 have hB1 := (Below.refl w.heap.size w).alloc (Nat.le_refl _) (.cells #[.int .i64 A, .int .i64 L, .slice va vn vc] 123)
 have HB := LH hB1
 have HV : Hid ((D.length : Int) = vn) := by show (D.length : Int) = vn; omega
 have form : DeltaM.badForm ⟨A, L, D⟩ → 3 = DeltaM.stepErr old ⟨A, L, D⟩ := fun h => by unfold DeltaM.stepErr; rw [if_pos h]
 have range : ¬ DeltaM.badForm ⟨A, L, D⟩ → DeltaM.bdR old ⟨A, L, D⟩ → 2 = DeltaM.stepErr old ⟨A, L, D⟩ := fun h h2 => by unfold DeltaM.stepErr; rw [if_neg h, if_pos h2]
 have fine : ¬ DeltaM.badForm ⟨A, L, D⟩ → ¬ DeltaM.bdR old ⟨A, L, D⟩ → 0 = DeltaM.stepErr old ⟨A, L, D⟩ := fun h h2 => by unfold DeltaM.stepErr; rw [if_neg h, if_neg h2]
 have HF := LH form
 have HR := LH range
 have HN := LH fine
 clear form range fine hB1 hD
 unfold I64 at hA hL
 obtain ⟨a1, a2⟩ := hA
 obtain ⟨l1, l2⟩ := hL
 by_cases hL0 : L = 0
 · subst hL0
   by_cases hA0 : A = 0
   · subst hA0
     by_cases hv0 : vn = 0
     · subst hv0
       have HBF : Hid (DeltaM.badForm ⟨0, 0, D⟩) := by show DeltaM.badForm _; exact .inl ⟨rfl, .inr (by simp only; rw [HV.out]; omega)⟩
       go_enter Tryz.func146, Tryz.ntmps146
       go_wp2
       go_ret
       exact ⟨ret_chk (HF.out HBF.out), HB.out⟩
     · have hvb : ((vn : Int) == 0) = false := by simp; omega
       by_cases hv64 : 64 < (vn : Int)
       · have HBF : Hid (DeltaM.badForm ⟨0, 0, D⟩) := by show DeltaM.badForm _; exact .inl ⟨rfl, .inr (by simp only; rw [HV.out]; omega)⟩
         go_enter Tryz.func146, Tryz.ntmps146
         go_wp2
         go_ret
         exact ⟨ret_chk (HF.out HBF.out), HB.out⟩
       · have HNF : Hid (¬ DeltaM.badForm ⟨0, 0, D⟩) := by show ¬ _; unfold DeltaM.badForm; simp only; rw [HV.out]; omega
         have HNR : Hid (¬ DeltaM.bdR old ⟨0, 0, D⟩) := by show ¬ _; unfold DeltaM.bdR; simp only; omega
         have hno : ¬ old < 0 := by omega
         go_enter Tryz.func146, Tryz.ntmps146
         go_wp2
         go_ret
         exact ⟨ret_chk (HN.out HNF.out HNR.out), HB.out⟩
   · have HBF : Hid (DeltaM.badForm ⟨A, 0, D⟩) := by show DeltaM.badForm _; exact .inl ⟨rfl, .inl hA0⟩
     have hAb : (A != 0) = true := by simp [hA0]
     go_enter Tryz.func146, Tryz.ntmps146
     go_wp2
     go_ret
     exact ⟨ret_chk (HF.out HBF.out), HB.out⟩
 · have hLb : (L == 0) = false := by simp [hL0]
   have hLn : (L != 0) = true := by simp [hL0]
   by_cases hv : vn = 0
   · subst hv
     have HNF : Hid (¬ DeltaM.badForm ⟨A, L, D⟩) := by show ¬ _; unfold DeltaM.badForm; simp only; rw [HV.out]; omega
     by_cases hr1 : L < 0
     · have HBR : Hid (DeltaM.bdR old ⟨A, L, D⟩) := by show DeltaM.bdR _ _; unfold DeltaM.bdR; simp only; omega
       go_enter Tryz.func146, Tryz.ntmps146
       go_wp2
       go_ret
       exact ⟨ret_chk (HR.out HNF.out HBR.out), HB.out⟩
     · by_cases hr2 : A < 0
       · have HBR : Hid (DeltaM.bdR old ⟨A, L, D⟩) := by show DeltaM.bdR _ _; unfold DeltaM.bdR; simp only; omega
         go_enter Tryz.func146, Tryz.ntmps146
         go_wp2
         go_ret
         exact ⟨ret_chk (HR.out HNF.out HBR.out), HB.out⟩
       · obtain ⟨S, hS⟩ : ∃ S : Int, old - A = S := ⟨_, rfl⟩
         by_cases hr5 : S < L
         · have HBR : Hid (DeltaM.bdR old ⟨A, L, D⟩) := by show DeltaM.bdR _ _; unfold DeltaM.bdR; simp only; omega
           go_enter Tryz.func146, Tryz.ntmps146
           go_wp2
           go_ret
           exact ⟨ret_chk (HR.out HNF.out HBR.out), HB.out⟩
         · have HNR : Hid (¬ DeltaM.bdR old ⟨A, L, D⟩) := by show ¬ _; unfold DeltaM.bdR; simp only; omega
           go_enter Tryz.func146, Tryz.ntmps146
           go_wp2
           go_ret
           exact ⟨ret_chk (HN.out HNF.out HNR.out), HB.out⟩
   · have HBF : Hid (DeltaM.badForm ⟨A, L, D⟩) := by show DeltaM.badForm _; unfold DeltaM.badForm; simp only; rw [HV.out]; omega
     have hvb : ((vn : Int) != 0) = true := by simp; omega
     go_enter Tryz.func146, Tryz.ntmps146
     go_wp2
     go_ret
     exact ⟨ret_chk (HF.out HBF.out), HB.out⟩
theorem step_block (W : World) (v0 v1 v2 : Value) : (W.alloc (.cells #[v0, v1, v2] 123)).heap[W.heap.size]? = some (.cells #[v0, v1, v2] 123 (0, 0)) := by rw [hpA, if_pos rfl]
theorem step_cells {W : World} {B : Nat} {v0 v1 v2 : Value} (h : W.heap[B]? = some (.cells #[v0, v1, v2] 123 (0, 0))) : W.cell? ⟨B, 0, none⟩ = some v0 ∧ W.cell? ⟨B, 1, none⟩ = some v1 ∧ W.cell? ⟨B, 2, none⟩ = some v2 := by
 simp [World.cell?, h]
theorem check_any (a : Option Addr) (n c : Nat) (l : List OpR) (old size : Int) (w : World) (hl : OS w a n c l) :
   Calls Tryz.prog 120 #[.slice a n c, .int .i64 old, .int .i64 size] w fun e w' => e = .returned (.int .i64 (DeltaM.check l old size)) ∧ Below w.heap.size w w' := by
 have hlen : n ≤ 9223372036854775807 := by have := hl.le; have := hl.max; omega
 by_cases h40 : 40 < n
 · have he : DeltaM.check l old size = 1 := by unfold DeltaM.check; rw [if_pos (.inl (by rw [hl.len]; exact h40))]
   rw [he]
   clear hl
   go_enter Tryz.func120, Tryz.ntmps120
   go_wp2_with fail
   go_ret
   exact ⟨rfl, Below.refl _ _⟩
 · by_cases hold : 0 ≤ old ∧ old ≤ 64
   · by_cases hsz : 0 ≤ size ∧ size ≤ 64
     · have he : DeltaM.check l old size = DeltaM.chk old size l 0 := by unfold DeltaM.check; rw [if_neg (by rw [hl.len]; omega)]
       rw [he]
       have HL := LH hl
       have HLn := LH hl.len
       obtain ⟨o1, o2⟩ := hold
       obtain ⟨s1, s2⟩ := hsz
       have d1 : decide (0 ≤ old ∧ old ≤ 64) = true := by simp; omega
       have d2 : decide (0 ≤ size ∧ size ≤ 64) = true := by simp; omega
       clear hl he
       go_enter Tryz.func120, Tryz.ntmps120
       go_wp2_with fail
       refine (imageSize_any old _).mono ?_
       rintro e w' ⟨rfl, rfl⟩
       rw [d1]
       go_wp2_with fail
       refine (imageSize_any size _).mono ?_
       rintro e w' ⟨rfl, rfl⟩
       rw [d2]
       go_wp2_with fail
       go_loopw [7, 26] (fun made i wr => ChkRel l old size w made i wr) (fun _ i _ => n - (intOf i).toNat)
       case atStart => exact ⟨0, 0, rfl, rfl, Nat.zero_le _, s1, rfl, Below.refl _ _⟩
       case round =>
         obtain ⟨m, k, rfl, rfl, hk, hm, hc, hB⟩ := hrel
         rw [HLn.out] at hk
         have HC := LH hc
         clear hc
         by_cases hlt : k < n
         · obtain ⟨b, off, rfl, hcs⟩ := (HL.out.later hB).cells (by omega)
           obtain ⟨va, vn, vc, q0, q1, q2, q3, q4, q5⟩ := hcs k hlt
           have HD := LH (drop_op l k (by rw [HLn.out]; exact hlt))
           generalize l.getD k default = o at q0 q1 q2 q3 q4 q5 HD
           obtain ⟨A, L, D⟩ := o
           have HDL := LH q3.len
           clear hcs q3
           have hB1 := hB.alloc hB.size (.cells #[.int .i64 A, .int .i64 L, .slice va vn vc] 123)
           simp only at q0 q1 q2 q4 q5
           have hA64 := LH q4
           have hL64 := LH q5
           clear q4 q5
           have HV : Hid ((D.length : Int) = vn) := by show (D.length : Int) = vn; have := HDL.out; simp only at this; omega
           have HF : Hid (∀ r : Int, DeltaM.chk old size (⟨A, L, D⟩ :: l.drop (k + 1)) m = r → r = DeltaM.chk old size l 0) := by
             show ∀ r : Int, _ → _
             intro r h
             rw [← h, ← HC.out, HD.out]
           have HSZ : Hid (DeltaM.size ⟨A, L, D⟩ = L + vn) := by show DeltaM.size ⟨A, L, D⟩ = L + vn; unfold DeltaM.size; simp only; rw [HV.out]
           have hblk := step_block wr (.int .i64 A) (.int .i64 L) (.slice va vn vc)
           have HB1 := LH hB1
           have HBLK := LH hblk
           clear hblk hB1
           go_wp2_with fail
           refine (checkStep_any A L va vn vc D old _ HDL.out hA64.out hL64.out o1 o2).mono ?_
           rintro e W2 ⟨rfl, hb2⟩
           have hB2 := bTh HB1.out hb2
           have hc2 := step_cells ((hb2.block _ (by simp)).trans HBLK.out)
           obtain ⟨-, r1, r2⟩ := hc2
           have HB2 := LH hB2
           clear hB2 hb2 HB1 HBLK q0 q1 q2
           by_cases hf : DeltaM.badForm ⟨A, L, D⟩
           · have he : DeltaM.stepErr old ⟨A, L, D⟩ = 3 := by unfold DeltaM.stepErr; rw [if_pos hf]
             rw [he]
             have HBF := LH hf
             clear hf he
             go_wp2_with fail
             go_ret
             exact ⟨ret_chk (HF.out 3 (DeltaM.chk_form HBF.out)), HB2.out⟩
           · by_cases hr : DeltaM.bdR old ⟨A, L, D⟩
             · have he : DeltaM.stepErr old ⟨A, L, D⟩ = 2 := by unfold DeltaM.stepErr; rw [if_neg hf, if_pos hr]
               rw [he]
               have HNF := LH hf
               have HBR := LH hr
               clear hf hr he
               go_wp2_with fail
               go_ret
               exact ⟨ret_chk (HF.out 2 (DeltaM.chk_range HNF.out HBR.out)), HB2.out⟩
             · have he : DeltaM.stepErr old ⟨A, L, D⟩ = 0 := by unfold DeltaM.stepErr; rw [if_neg hf, if_neg hr]
               rw [he]
               have hg := DeltaM.good_num hf hr
               simp only at hg
               rw [HV.out] at hg
               obtain ⟨g1, g2, g3⟩ := hg
               have HNF := LH hf
               have HNR := LH hr
               clear hf hr he
               obtain ⟨M, hM⟩ : ∃ M : Nat, (m : Int) + (L + vn) = M := ⟨m + (L + vn).toNat, by omega⟩
               obtain ⟨S, hS⟩ : ∃ S : Int, L + (vn : Int) = S := ⟨_, rfl⟩
               rw [hS] at hM
               by_cases hmany : size < (M : Int)
               · go_wp2_with fail
                 go_ret
                 exact ⟨ret_chk (HF.out 1 (DeltaM.chk_many HNF.out HNR.out (by rw [HSZ.out]; omega))), HB2.out⟩
               · go_wp2_with fail
                 go_roundw
                 case rel =>
                   refine ⟨M, k + 1, rfl, rfl, by rw [HLn.out]; omega, by omega, ?_, HB2.out⟩
                   have e2 : (m : Int) + DeltaM.size ⟨A, L, D⟩ = M := by rw [HSZ.out]; omega
                   rw [← HC.out, HD.out, DeltaM.chk_on HNF.out HNR.out (by rw [e2]; omega), e2]
                 case measure => simp [intOf]; omega
         · have hkl : l.drop k = [] := List.drop_eq_nil_of_le (by rw [HLn.out]; omega)
           have HE := LH hkl
           clear hkl
           by_cases hf : (m : Int) < size
           · go_wp2_with fail
             go_ret
             exact ⟨ret_chk (by rw [← HC.out, HE.out]; simp [DeltaM.chk, hf]), hB⟩
           · go_wp2_with fail
             go_ret
             exact ⟨ret_chk (by rw [← HC.out, HE.out]; simp [DeltaM.chk, hf]), hB⟩
     · have he : DeltaM.check l old size = 1 := by unfold DeltaM.check; rw [if_pos (.inr (.inr hsz))]
       rw [he]
       have d1 : decide (0 ≤ old ∧ old ≤ 64) = true := by simp only [decide_eq_true_eq]; exact hold
       have d2 : decide (0 ≤ size ∧ size ≤ 64) = false := by simp only [decide_eq_false_iff_not]; exact hsz
       clear hl he hold hsz
       go_enter Tryz.func120, Tryz.ntmps120
       go_wp2_with fail
       refine (imageSize_any old _).mono ?_
       rintro e w' ⟨rfl, rfl⟩
       rw [d1]
       go_wp2_with fail
       refine (imageSize_any size _).mono ?_
       rintro e w' ⟨rfl, rfl⟩
       rw [d2]
       go_wp2_with fail
       go_ret
       exact ⟨rfl, Below.refl _ _⟩
   · have he : DeltaM.check l old size = 1 := by unfold DeltaM.check; rw [if_pos (.inr (.inl hold))]
     rw [he]
     have d1 : decide (0 ≤ old ∧ old ≤ 64) = false := by simp only [decide_eq_false_iff_not]; exact hold
     clear hl he hold
     go_enter Tryz.func120, Tryz.ntmps120
     go_wp2_with fail
     refine (imageSize_any old _).mono ?_
     rintro e w' ⟨rfl, rfl⟩
     rw [d1]
     go_wp2_with fail
     go_ret
     exact ⟨rfl, Below.refl _ _⟩
theorem step_copy_run {P : Program} {ops : Array Oper} {o : Oper} {a : Act} {w : World} {K : Act → World → Prop} {Q : Exit → Act → World → Prop} {E : Prop} (hgd : o.guard = none) (d s : Operand) (dT sT : TypeId)
   (ho : o.op = .call { callee := .builtin .copy, args := #[d, s], argTypes := #[dT, sT] }) (vd vs : Value) (hd : a.eval d = vd) (hs : a.eval s = vs)
   (v' : Value) (w' : World) (hr : (Builtin.copy_ #[dT, sT] o.type #[vd, vs]).run P w = .ok v' w') (h : K (a.put o.dst v') w') :
   if Region.wanted o (yielded ops a.tmps) = true then Oper.wp P o a w K Q else E := by
 have hw : Region.wanted o (yielded ops a.tmps) = true := by simp [Region.wanted, hgd]
 rw [if_pos hw]
 unfold Oper.wp
 simp [execOp, ho, resolve, invoke, builtin, hd, hs, hr, Result.andThen]
 exact h
structure MSt (w0 : World) (g S : Nat) (dn : List Int) (W : World) : Prop where
 row : ∃ cur : List Value, W.heap[g]? = some (.cells cur.toArray 5 (0, 0)) ∧ cur.length = S ∧ cur.take dn.length = dn.map (Value.int .u8)
 fit : dn.length ≤ S
 below : Below w0.heap.size w0 W
 le : w0.heap.size ≤ g
section
variable {w0 : World} {g S : Nat} {dn : List Int} {W W' : World}
theorem MSt.lt (h : MSt w0 g S dn W) : g < W.heap.size := by
 obtain ⟨cur, h1, _⟩ := h.row
 exact lt_blk h1
theorem MSt.later (h : MSt w0 g S dn W) (hb : Below W.heap.size W W') : MSt w0 g S dn W' := by
 have hlt := h.lt
 obtain ⟨cur, h1, h2, h3⟩ := h.row
 exact ⟨⟨cur, (hb.block _ hlt).trans h1, h2, h3⟩, h.fit, bTh h.below hb, h.le⟩
theorem MSt.copy (h : MSt w0 g S dn W) {a : Option Addr} {m c : Nat} {l : List Int} (hs : BS W a m c l) (hm : dn.length + m ≤ S) :
   ∃ W', (Builtin.copy_ #[22, 22] 3 #[.slice (cutA (some ⟨g, 0, none⟩) S dn.length) (S - dn.length) (S - dn.length), .slice a m c]).run Tryz.prog W = .ok (.int .i64 (m : Int)) W' ∧
     Hid (MSt w0 g S (dn ++ l) W') ∧ ∀ k, k ≠ g → W'.heap[k]? = W.heap[k]? := by
 have hsz : (Tryz.prog.info? 5).map (·.size) = some 1 := by
   obtain ⟨i0, hi, hz0, hz1, hz2⟩ := info_parts Tryz.info_u8
   rw [hi]; simp [hz1]
 have hlen := hs.len
 by_cases h0 : m = 0
 · subst h0
   obtain rfl : l = [] := List.eq_nil_of_length_eq_zero hs.len
   refine ⟨W, run_copy_none (P := Tryz.prog) W 22 22 3 5 _ _ _ _ _ _ Tryz.underlying22 hsz (by simp), ?_, fun _ _ => rfl⟩
   rw [List.append_nil]
   exact h
 · obtain ⟨cur, h1, h2, h3⟩ := h.row
   obtain ⟨b, off, rfl, hc⟩ := hs.cells (by omega)
   have hcut : cutA (some ⟨g, 0, none⟩) S dn.length = some ⟨g, dn.length, none⟩ := by
     unfold cutA
     rw [if_neg (by omega), Option.map_some, addr_add, Nat.zero_add]
   have hr := run_copy_row (P := Tryz.prog) W 22 22 3 5 g dn.length (S - dn.length) (S - dn.length) ⟨b, off, none⟩ m c cur.toArray 5 (l.map (Value.int .u8)) Tryz.underlying22 hsz h1
     (by rw [List.length_map, hlen]; show m = min m (S - dn.length); omega) hs.news (by rw [List.length_map, hlen, List.size_toArray, h2]; exact hm) (oneCell_u8 _)
   rw [List.length_map, hlen] at hr
   rw [hcut]
   refine ⟨_, hr, ⟨⟨_, setRow_heap W g _ _ 5 _ h1, ?_, ?_⟩, ?_, below_setRow h.below h.le _, h.le⟩, fun k hk => setRow_other W g k _ hk⟩
   · simp only [List.length_append, List.length_take, List.length_map, List.length_drop]
     omega
   · simp only [List.length_append, List.map_append, h3]
     rw [List.take_append_of_le_length (by simp), List.take_of_length_le (by simp)]
   · rw [List.length_append]; omega
theorem MSt.bs (h : MSt w0 g S dn W) (hS : dn.length = S) (hm : S ≤ 1000) (hb : ∀ v ∈ dn, 0 ≤ v ∧ v ≤ 255) : BS W (some ⟨g, 0, none⟩) S S dn := by
 obtain ⟨cur, h1, h2, h3⟩ := h.row
 refine ⟨hS, Nat.le_refl _, by omega, hb, fun _ => ⟨g, 0, rfl, fun i hi => ?_⟩, fun e => by cases e⟩
 have hi2 : i < dn.length := by omega
 have := congrArg (·[i]?) h3
 simp only [List.getElem?_map, List.getElem?_take_of_lt hi2, List.getElem?_eq_getElem hi2, Option.map_some] at this
 simp only [World.cell?, h1, Nat.zero_add, List.getElem?_toArray, this, List.getElem?_eq_getElem hi2, Option.getD_some]
 rfl
end
def AplRel (old : List Int) (l : List OpR) (w : World) (g S : Nat) (n i : Value) (wr : World) : Prop :=
 ∃ (k d : Nat) (dn : List Int), i = .int .i64 k ∧ n = .int .i64 d ∧ dn.length = d ∧ k ≤ l.length ∧ MSt w g S dn wr ∧ dn ++ DeltaM.makes old (l.drop k) = DeltaM.makes old l
theorem apply_any (a : Option Addr) (n c : Nat) (old : List Int) (a' : Option Addr) (n' c' : Nat) (l : List OpR) (s : Int) (w : World) (hx : BS w a n c old) (hl : OS w a' n' c' l) :
   Calls Tryz.prog 110 #[.slice a n c, .slice a' n' c', .int .i64 s] w (GivesA old l s w) := by
 have HX := LH hx
 have HL := LH hl
 have HLn := LH hl.len
 have HXn := LH hx.len
 have hlen : n' ≤ 9223372036854775807 := by have := hl.le; have := hl.max; omega
 obtain ⟨E, hE⟩ : ∃ E, DeltaM.check l n s = E := ⟨_, rfl⟩
 have HE : Hid (DeltaM.check l old.length s = E) := by show DeltaM.check l old.length s = E; rw [hx.len]; exact hE
 have hck := check_any a' n' c' l n s
 rw [hE] at hck
 have HCK := LH hck
 have HXc := LH hx.le
 clear hck hx hl
 by_cases h0 : E = 0
 · subst h0
   obtain ⟨h40, o1, o2, s1, s2, hgood, htot⟩ := DeltaM.check_zero hE
   obtain ⟨S, rfl⟩ : ∃ S : Nat, s = S := ⟨s.toNat, by omega⟩
   have HG : Hid (DeltaM.Good old.length l) := by show DeltaM.Good old.length l; rw [HXn.out]; exact hgood
   have hml := DeltaM.makes_length (old := old) HG.out
   rw [htot] at hml
   have HML : Hid ((DeltaM.makes old l).length = S) := by show _ = S; omega
   have HAP : Hid (DeltaM.applied old l S = DeltaM.makes old l) := by show DeltaM.applied old l S = _; unfold DeltaM.applied; rw [if_pos HE.out]
   clear hgood htot hml hE h40
   obtain ⟨i0, hi, hz0, hz1, hz2⟩ := info_parts Tryz.info_u8
   have hmk : ∀ W, (Instr.makeSlice 22 (.int .i64 (S : Int)) (.int .i64 (S : Int))).run Tryz.prog W = .ok (.slice (some ⟨W.heap.size, 0, none⟩) S S) (W.alloc (.cells (madeCells (Value.int .u8 0).cells S) 5)) := by
     intro W
     have := run_make (P := Tryz.prog) W 22 5 i0 _ Tryz.underlying22 hi hz0 .i64 .i64 S S (by omega) (Int.le_refl _) (by rw [hz2]; omega) (by omega)
     simpa [hz1] using this
   have hms : (madeCells (Value.int .u8 0).cells S).size = S := size_madeCells _ _
   generalize madeCells (Value.int .u8 0).cells S = Z at hmk hms
   have HZ := LH hms
   clear hi hz0 hz1 hz2 i0 hms
   go_enter Tryz.func110, Tryz.ntmps110
   go_wp2_with fail
   refine (HCK.out _ HL.out).mono ?_
   rintro e W0 ⟨rfl, b0⟩
   obtain ⟨g, hg⟩ : ∃ g, W0.heap.size = g := ⟨_, rfl⟩
   have hst : Hid (MSt w g S [] (W0.alloc (.cells Z 5))) := by
     subst hg
     refine ⟨⟨Z.toList, by rw [hpA, if_pos rfl], by simpa using HZ.out, by simp⟩, by simp, b0.alloc b0.size _, b0.size⟩
   clear b0 HCK
   go_wp2_with fail
   generalize W0.alloc (.cells Z 5) = W1 at hst ⊢
   go_loopw [10, 25] (fun n i wr => AplRel old l w g S n i wr) (fun _ i _ => n' - (intOf i).toNat)
   case atStart => exact ⟨0, 0, [], rfl, rfl, rfl, Nat.zero_le _, hst.out, rfl⟩
   case round =>
     clear hst hmk
     obtain ⟨k, d, dn, rfl, rfl, hdl, hk, hs, hu⟩ := hrel
     rw [HLn.out] at hk
     have HS := LH hs
     have HU := LH hu
     have HDL := LH hdl
     clear hs hu hdl
     by_cases hlt : k < n'
     · obtain ⟨b, off, rfl, hcs⟩ := (HL.out.later HS.out.below).cells (by omega)
       obtain ⟨va, vn, vc, q0, q1, q2, q3, -, -⟩ := hcs k hlt
       have HD := LH (drop_op l k (by rw [HLn.out]; exact hlt))
       have hg := HG.out (l.getD k default) (by have : l.getD k default ∈ l.drop k := by rw [HD.out]; simp
                                                exact List.mem_of_mem_drop this)
       generalize l.getD k default = o at q0 q1 q2 q3 HD hg
       obtain ⟨A, L, D⟩ := o
       simp only at q0 q1 q2 q3
       obtain ⟨r1, r2, r3⟩ := DeltaM.good_len hg.2
       simp only at r1 r2 r3
       obtain ⟨N, rfl⟩ : ∃ N : Nat, A = N := ⟨A.toNat, by omega⟩
       obtain ⟨M, rfl⟩ : ∃ M : Nat, L = M := ⟨L.toNat, by omega⟩
       have hNM : N + M ≤ old.length := by omega
       have HP : Hid (DeltaM.makes old (l.drop k) = D ++ ((old.drop N).take M ++ DeltaM.makes old (l.drop (k + 1)))) := by
         show _ = _
         rw [HD.out]
         simp [DeltaM.makes, DeltaM.part]
       have hDn := q3.len
       have hle : d + vn + M ≤ S := by
         have h1 := congrArg List.length HU.out
         rw [HP.out] at h1
         simp only [List.length_append, List.length_take, List.length_drop] at h1
         have := HML.out
         have := HDL.out
         omega
       clear hg hcs r1 r2 r3
       obtain ⟨B, hBB⟩ : ∃ B, wr.heap.size = B := ⟨_, rfl⟩
       have hbl : Below wr.heap.size wr (wr.alloc (.cells #[.int .i64 (N : Int), .int .i64 (M : Int), .slice va vn vc] 123)) := (Below.refl _ _).alloc (Nat.le_refl _) _
       have hgB : g < B := by rw [← hBB]; exact HS.out.lt
       have hb0 : (wr.alloc (.cells #[.int .i64 (N : Int), .int .i64 (M : Int), .slice va vn vc] 123)).heap[B]? = some (.cells #[.int .i64 (N : Int), .int .i64 (M : Int), .slice va vn vc] 123 (0, 0)) := by rw [hpA, if_pos hBB.symm]
       obtain ⟨W5, hrun, HS5, hf5⟩ := (HS.out.later (hbl.drew)).copy (q3.later hbl.drew) (by rw [HDL.out]; omega)
       rw [HDL.out] at hrun
       have hb5 := (hf5 B (by omega)).trans hb0
       have c5 := step_cells hb5
       obtain ⟨e0, e1, -⟩ := c5
       have hl5 : (dn ++ D).length = d + vn := by rw [List.length_append, HDL.out, hDn]
       obtain ⟨F, hF⟩ : ∃ F : Nat, (d : Int) + vn = F := ⟨d + vn, by omega⟩
       have hF2 : d + vn = F := by omega
       obtain ⟨T, hT⟩ : ∃ T : Nat, (N : Int) + M = T := ⟨N + M, by omega⟩
       have hT2 : T - N = M := by omega
       have hTn : T ≤ n := by have := HXn.out; omega
       have hcut1 : ∀ W, (Instr.slice 22 (.slice (some ⟨g, 0, none⟩) S S) (some (.int .i64 d)) none none).run Tryz.prog W = .ok (.slice (cutA (some ⟨g, 0, none⟩) S d) (S - d) (S - d)) W := fun W => run_cut_l (some ⟨g, 0, none⟩) S S W d (by omega)
       have hcut2 : ∀ W, (Instr.slice 22 (.slice (some ⟨g, 0, none⟩) S S) (some (.int .i64 F)) none none).run Tryz.prog W = .ok (.slice (cutA (some ⟨g, 0, none⟩) S F) (S - F) (S - F)) W := fun W => run_cut_l (some ⟨g, 0, none⟩) S S W F (by omega)
       have hcut3 : ∀ W, (Instr.slice 22 (.slice a n c) (some (.int .i64 N)) (some (.int .i64 T)) none).run Tryz.prog W = .ok (.slice (cutA a c N) M (c - N)) W := fun W => by
         have := run_cut_lh a n c W N T (by omega) (by have := HXc.out; omega)
         rwa [hT2] at this
       have hsrc := (HX.out.mid N T (by omega) hTn)
       rw [hT2] at hsrc
       rw [hF2] at hl5
       have hsrc5 := hsrc.later (HS5.out.below.drew)
       obtain ⟨W7, hrun2, HS7, hf7⟩ := (HS5.out.later (Below.refl _ _).drew).copy hsrc5 (by rw [hl5]; omega)
       rw [hl5] at hrun2
       generalize cutA (some ⟨g, 0, none⟩) S d = A1 at hcut1 hrun
       generalize cutA (some ⟨g, 0, none⟩) S F = A2 at hcut2 hrun2
       generalize cutA a c N = A3 at hcut3 hrun2
       generalize c - N = C3 at hcut3 hrun2
       generalize S - d = Sd at hcut1 hrun
       generalize S - F = SF at hcut2 hrun2
       obtain ⟨G, hG⟩ : ∃ G : Nat, (F : Int) + M = G := ⟨F + M, by omega⟩
       have hw1 : IntKind.i64.wrap (F : Int) = F := IntWalk.i64_in _ (by omega)
       have hw2 : IntKind.i64.wrap (G : Int) = G := IntWalk.i64_in _ (by omega)
       have hw3 : IntKind.i64.wrap (T : Int) = T := IntWalk.i64_in _ (by omega)
       have HS7' := HS7
       have HLE := LH hle
       clear HS7 hf7 hf5 hsrc hsrc5 hb5 hb0 hbl HS5 HS hgB hle q3
       go_wp2_with fail
       go_region_law (refine step_copy_run rfl (.tmp 32) (.tmp 34) 22 22 rfl (.slice A1 Sd Sd) (.slice va vn vc) (by simp [Act.eval]) (by simp [Act.eval]) _ _ hrun ?_)
       clear hrun q0 q1 q2 hcut1
       go_wp2_with fail
       go_region_law (refine step_copy_run rfl (.tmp 40) (.tmp 49) 22 22 rfl (.slice A2 SF SF) (.slice A3 M C3) (by simp [Act.eval, Act.put]) (by simp [Act.eval, Act.put]) _ _ hrun2 ?_)
       all_goals
         go_wp2_with fail
         go_roundw
         case rel =>
           refine ⟨k + 1, G, _, by go_num, rfl, ?_, by rw [HLn.out]; omega, HS7'.out, ?_⟩
           · rw [List.length_append, hl5, List.length_take, List.length_drop]
             omega
           · rw [← HU.out, HP.out]
             simp
         case measure => simp [intOf]; omega
     · go_wp2_with fail
       go_ret2
       have hdr : l.drop k = [] := List.drop_eq_nil_of_le (by rw [HLn.out]; omega)
       have hu := HU.out
       rw [hdr] at hu
       simp only [DeltaM.makes, List.append_nil] at hu
       refine ⟨some ⟨g, 0, none⟩, S, S, tup_a HE.out.symm, ?_, HS.out.below⟩
       rw [HAP.out, ← hu]
       exact HS.out.bs (by rw [hu]; exact HML.out) (by omega) (by rw [hu]; exact DeltaM.makes_bytes HX.out.bytes (OS.bytes HL.out))
 · have HAP : Hid (DeltaM.applied old l s = []) := by show DeltaM.applied old l s = _; unfold DeltaM.applied; rw [if_neg (by rw [HE.out]; exact h0)]
   have hne : (E != 0) = true := by simp [h0]
   clear hE
   go_enter Tryz.func110, Tryz.ntmps110
   go_wp2_with fail
   refine (HCK.out _ HL.out).mono ?_
   rintro e W0 ⟨rfl, b0⟩
   go_wp2_with fail
   go_ret2
   exact ⟨none, 0, 0, tup_a HE.out.symm, by rw [HAP.out]; exact BS.nil_ _, b0⟩
def fillC (l : List Int) : Array Value := ((DevM.fill l).map (Value.int .u8)).toArray
theorem madeCells64 : madeCells (Value.int .u8 0).cells 64 = (List.replicate 64 (Value.int .u8 0)).toArray := by kernel_rfl
theorem fillC_is {l : List Int} {n : Nat} (hl : l.length = n) : ((List.replicate 64 (Value.int .u8 0)).toArray.toList.take 0 ++ l.map (Value.int .u8) ++ (List.replicate 64 (Value.int .u8 0)).toArray.toList.drop (0 + (l.map (Value.int .u8)).length)).toArray = fillC l := by
 unfold fillC DevM.fill
 simp only [List.take_zero, List.nil_append, List.length_map, Nat.zero_add, hl, List.drop_replicate, List.map_append, List.map_replicate]
theorem fillC_bs {W : World} {l : List Int} {g : Nat} (h : W.heap[g]? = some (.cells (fillC l) 5 (0, 0))) (hn : l.length ≤ 64) (hb : ∀ x ∈ l, 0 ≤ x ∧ x ≤ 255) : BS W (some ⟨g, 0, none⟩) 64 64 (DevM.fill l) := by
 have hl := DevM.fill_len hn
 refine ⟨hl, Nat.le_refl _, by omega, fun x hx => ?_, fun _ => ⟨g, 0, rfl, fun i hi => ?_⟩, fun q => by cases q⟩
 · unfold DevM.fill at hx
   rcases List.mem_append.1 hx with q | q
   · exact hb x q
   · rw [(List.mem_replicate.1 q).2]
     omega
 · rw [Nat.zero_add]
   simp only [World.cell?, h]
   unfold fillC
   simp [List.getElem?_eq_getElem (show i < (DevM.fill l).length by omega)]
theorem filledD_any (a : Option Addr) (n c : Nat) (l : List Int) (w : World) (hs : BS w a n c l) (hn : n ≤ 64) :
   Calls Tryz.prog 37 #[.slice a n c] w fun e w' => e = .returned (.slice (some ⟨w.heap.size, 0, none⟩) 64 64) ∧ w' = w.alloc (.cells (fillC l) 5) := by
 obtain ⟨i0, hi, hz0, hz1, hz2⟩ := info_parts Tryz.info_u8
 have hmk : ∀ W, (Instr.makeSlice 22 (.int .i64 64) (.int .i64 64)).run Tryz.prog W = .ok (.slice (some ⟨W.heap.size, 0, none⟩) 64 64) (W.alloc (.cells (madeCells (Value.int .u8 0).cells 64) 5)) := by
   intro W
   have := run_make (P := Tryz.prog) W 22 5 i0 _ Tryz.underlying22 hi hz0 .i64 .i64 64 64 (by omega) (Int.le_refl _) (by rw [hz2]; omega) (by omega)
   simpa [hz1] using this
 rw [madeCells64] at hmk
 have hsz : (Tryz.prog.info? 5).map (·.size) = some 1 := by kernel_rfl
 have hlen := hs.len
 have hrun : ∃ v, (Builtin.copy_ #[22, 22] 3 #[.slice (some ⟨w.heap.size, 0, none⟩) 64 64, .slice a n c]).run Tryz.prog (w.alloc (.cells (List.replicate 64 (Value.int .u8 0)).toArray 5)) = .ok v (w.alloc (.cells (fillC l) 5)) := by
   cases a with
   | none =>
     have hc := hs.none_ rfl
     subst hc
     obtain rfl : n = 0 := by have := hs.le; omega
     obtain rfl : l = [] := List.eq_nil_of_length_eq_zero hs.len
     refine ⟨goInt 0, ?_⟩
     rw [run_copy_nil (P := Tryz.prog) _ 22 22 3 5 _ _ _ Tryz.underlying22 (by rw [hsz]; rfl)]
     rfl
   | some ad =>
     refine ⟨goInt (l.map (Value.int .u8)).length, ?_⟩
     rw [run_copy_row (P := Tryz.prog) _ 22 22 3 5 w.heap.size 0 64 64 ad n c (List.replicate 64 (Value.int .u8 0)).toArray 5 (l.map (Value.int .u8)) Tryz.underlying22 hsz (by rw [hpA, if_pos rfl])
       (by rw [List.length_map, hlen]; exact (Nat.min_eq_left hn).symm) (fun j v hj => ?_) (by simp [hlen]; omega) (oneCell_u8 l)]
     · rw [fillC_is hlen, World.setRow_alloc_new]
     · have hjl : j < l.length := by
         rcases Nat.lt_or_ge j l.length with q | q
         · exact q
         · rw [List.getElem?_eq_none (by simpa using q)] at hj; cases hj
       rw [List.getElem?_map, List.getElem?_eq_getElem hjl, Option.map_some, Option.some.injEq] at hj
       have := (hs.later ((Below.refl _ _).alloc (Nat.le_refl _) (.cells (List.replicate 64 (Value.int .u8 0)).toArray 5))).cellsAt j (by omega)
       rw [this, ← hj, List.getD_eq_getElem?_getD, List.getElem?_eq_getElem hjl]
       rfl
 obtain ⟨v, hrun⟩ := hrun
 generalize (List.replicate 64 (Value.int .u8 0)).toArray = Z at hmk hrun
 clear hs hz0 hz1 hz2 hi hlen
 go_enter Tryz.func37, Tryz.ntmps37
 go_wp2_with (at_builtin; refine wpList_copy_runD rfl (.tmp 5) (.tmp 6) 22 22 rfl _ _ rfl rfl _ _ hrun ?_)
 go_ret
 exact ⟨rfl, rfl⟩
def GivesFl (l : List Int) (w : World) (e : Ending) (w' : World) : Prop :=
 ∃ F, e = .returned (.slice (some ⟨F, 0, none⟩) 64 64) ∧ w'.heap[F]? = some (.cells (fillC l) 5 (0, 0)) ∧ BS w' (some ⟨F, 0, none⟩) 64 64 (DevM.fill l) ∧ w.heap.size ≤ F ∧ F < w'.heap.size ∧ Below w.heap.size w w'
theorem GivesFl.of {l : List Int} {w : World} (hn : l.length ≤ 64) (hb : ∀ x ∈ l, 0 ≤ x ∧ x ≤ 255) : GivesFl l w (.returned (.slice (some ⟨w.heap.size, 0, none⟩) 64 64)) (w.alloc (.cells (fillC l) 5)) := by
 have hg : (w.alloc (.cells (fillC l) 5)).heap[w.heap.size]? = some (.cells (fillC l) 5 (0, 0)) := by rw [hpA, if_pos rfl]
 exact ⟨w.heap.size, rfl, hg, fillC_bs hg hn hb, Nat.le_refl _, bLQ hg, (Below.refl _ _).alloc (Nat.le_refl _) _⟩
theorem filledD_gives (a : Option Addr) (n c : Nat) (l : List Int) (w : World) (hs : BS w a n c l) (hn : n ≤ 64) : Calls Tryz.prog 37 #[.slice a n c] w (GivesFl l w) := by
 refine (filledD_any a n c l w hs hn).mono ?_
 rintro e w' ⟨rfl, rfl⟩
 exact GivesFl.of (by have := hs.len; omega) hs.bytes
theorem isVersion_any (x : Int) (w : World) :
   Calls Tryz.prog 118 #[.int .i64 x] w fun e w' => e = .returned (.bool (decide (1 ≤ x ∧ x ≤ 30))) ∧ w = w' := by
 by_cases h : 1 ≤ x
 · go_enter Tryz.func118, Tryz.ntmps118
   go_wp2
   go_ret
   exact ⟨by simp [h], rfl⟩
 · go_enter Tryz.func118, Tryz.ntmps118
   go_wp2
   go_ret
   exact ⟨by simp; omega, rfl⟩
theorem isSum_any (x : Int) (w : World) :
   Calls Tryz.prog 119 #[.int .i64 x] w fun e w' => e = .returned (.bool (decide (0 ≤ x ∧ x ≤ 65535))) ∧ w = w' := by
 by_cases h : 0 ≤ x
 · go_enter Tryz.func119, Tryz.ntmps119
   go_wp2
   go_ret
   exact ⟨by simp [h], rfl⟩
 · go_enter Tryz.func119, Tryz.ntmps119
   go_wp2
   go_ret
   exact ⟨by simp; omega, rfl⟩
theorem checkP_any (v : Value) (p : PatR) (w : World) (hp : PV w v p) :
   Calls Tryz.prog 76 #[v] w fun e w' => e = .returned (.int .i64 (PatM.check p)) ∧ Below w.heap.size w w' := by
 obtain ⟨a, n, c, rfl, ho, -⟩ := hp
 obtain ⟨f, t, o, nw, s, ops⟩ := p
 simp only at ho ⊢
 have hb : Below w.heap.size w (w.alloc (.cells #[.int .i64 f, .int .i64 t, .int .i64 o, .int .i64 nw, .int .i64 s, .slice a n c] 35)) := (Below.refl _ _).alloc (Nat.le_refl _) _
 by_cases h1 : 1 ≤ f ∧ f ≤ 30
 · have d1 : decide (1 ≤ f ∧ f ≤ 30) = true := decide_eq_true h1
   by_cases h2 : 1 ≤ t ∧ t ≤ 30
   · have d2 : decide (1 ≤ t ∧ t ≤ 30) = true := decide_eq_true h2
     by_cases h3 : 0 ≤ o ∧ o ≤ 65535
     · have d3 : decide (0 ≤ o ∧ o ≤ 65535) = true := decide_eq_true h3
       by_cases h4 : 0 ≤ nw ∧ nw ≤ 65535
       · have d4 : decide (0 ≤ nw ∧ nw ≤ 65535) = true := decide_eq_true h4
         have HE : Hid (PatM.check ⟨f, t, o, nw, s, ops⟩ = DeltaM.check ops 64 s) := by
           show _ = _
           unfold PatM.check
           rw [if_neg (by unfold PatM.badHead; simp only; omega)]
         have HO := LH (ho.later hb)
         have HB := LH hb
         clear h1 h2 h3 h4 ho hb
         go_enter Tryz.func76, Tryz.ntmps76
         go_wp2_with fail
         refine (isVersion_any f _).mono ?_
         rintro e w' ⟨rfl, rfl⟩
         rw [d1]
         go_wp2_with fail
         refine (isVersion_any t _).mono ?_
         rintro e w' ⟨rfl, rfl⟩
         rw [d2]
         go_wp2_with fail
         refine (isSum_any o _).mono ?_
         rintro e w' ⟨rfl, rfl⟩
         rw [d3]
         go_wp2_with fail
         refine (isSum_any nw _).mono ?_
         rintro e w' ⟨rfl, rfl⟩
         rw [d4]
         go_wp2_with fail
         refine (check_any a n c ops 64 s _ HO.out).mono ?_
         rintro e w' ⟨rfl, hb2⟩
         have hb3 := bTh HB.out hb2
         go_wp2_with fail
         go_ret
         exact ⟨ret_chk HE.out.symm, hb3⟩
       · have d4 : decide (0 ≤ nw ∧ nw ≤ 65535) = false := decide_eq_false h4
         have HE : Hid (PatM.check ⟨f, t, o, nw, s, ops⟩ = 2) := by
           show _ = _
           unfold PatM.check
           rw [if_pos (by unfold PatM.badHead; simp only; omega)]
         clear h1 h2 h3 h4 ho
         go_enter Tryz.func76, Tryz.ntmps76
         go_wp2_with fail
         refine (isVersion_any f _).mono ?_
         rintro e w' ⟨rfl, rfl⟩
         rw [d1]
         go_wp2_with fail
         refine (isVersion_any t _).mono ?_
         rintro e w' ⟨rfl, rfl⟩
         rw [d2]
         go_wp2_with fail
         refine (isSum_any o _).mono ?_
         rintro e w' ⟨rfl, rfl⟩
         rw [d3]
         go_wp2_with fail
         refine (isSum_any nw _).mono ?_
         rintro e w' ⟨rfl, rfl⟩
         rw [d4]
         go_wp2_with fail
         go_ret
         exact ⟨ret_chk HE.out.symm, hb⟩
     · have d3 : decide (0 ≤ o ∧ o ≤ 65535) = false := decide_eq_false h3
       have HE : Hid (PatM.check ⟨f, t, o, nw, s, ops⟩ = 2) := by
         show _ = _
         unfold PatM.check
         rw [if_pos (by unfold PatM.badHead; simp only; omega)]
       clear h1 h2 h3 ho
       go_enter Tryz.func76, Tryz.ntmps76
       go_wp2_with fail
       refine (isVersion_any f _).mono ?_
       rintro e w' ⟨rfl, rfl⟩
       rw [d1]
       go_wp2_with fail
       refine (isVersion_any t _).mono ?_
       rintro e w' ⟨rfl, rfl⟩
       rw [d2]
       go_wp2_with fail
       refine (isSum_any o _).mono ?_
       rintro e w' ⟨rfl, rfl⟩
       rw [d3]
       go_wp2_with fail
       go_ret
       exact ⟨ret_chk HE.out.symm, hb⟩
   · have d2 : decide (1 ≤ t ∧ t ≤ 30) = false := decide_eq_false h2
     have HE : Hid (PatM.check ⟨f, t, o, nw, s, ops⟩ = 2) := by
       show _ = _
       unfold PatM.check
       rw [if_pos (by unfold PatM.badHead; simp only; omega)]
     clear h1 h2 ho
     go_enter Tryz.func76, Tryz.ntmps76
     go_wp2_with fail
     refine (isVersion_any f _).mono ?_
     rintro e w' ⟨rfl, rfl⟩
     rw [d1]
     go_wp2_with fail
     refine (isVersion_any t _).mono ?_
     rintro e w' ⟨rfl, rfl⟩
     rw [d2]
     go_wp2_with fail
     go_ret
     exact ⟨ret_chk HE.out.symm, hb⟩
 · have d1 : decide (1 ≤ f ∧ f ≤ 30) = false := decide_eq_false h1
   have HE : Hid (PatM.check ⟨f, t, o, nw, s, ops⟩ = 2) := by
     show _ = _
     unfold PatM.check
     rw [if_pos (by unfold PatM.badHead; simp only; omega)]
   clear h1 ho
   go_enter Tryz.func76, Tryz.ntmps76
   go_wp2_with fail
   refine (isVersion_any f _).mono ?_
   rintro e w' ⟨rfl, rfl⟩
   rw [d1]
   go_wp2_with fail
   go_ret
   exact ⟨ret_chk HE.out.symm, hb⟩
end Go.Proofs.YtmpmaljkmfgagacGreat
namespace Go.Proofs.YtmpmaljkmfgagacGreat
open Go.RowKit
open SumM
theorem take_snoc (zs : List Int) (k : Nat) (h : k < zs.length) : zs.take (k + 1) = zs.take k ++ [zs[k]?.getD 0] := by
 rw [List.take_succ_eq_append_getElem h]; simp [List.getElem?_eq_getElem h]
theorem add_any (s : Int) (a : Option Addr) (n c : Nat) (l : List Int) (w : World) (hs0 : 0 ≤ s) (hs1 : s ≤ 65520) (hr : BS w a n c l) :
   Calls Tryz.prog 81 #[.int .i64 s, .slice a n c] w fun e w' => e = .returned (.int .i64 (addL s l)) ∧ w = w' := by
 have hlen : n ≤ 9223372036854775807 := by have := hr.le; have := hr.max; omega
 have hl := LH hr.len
 have hbyte := hr.byte
 have hcells := hr.cells
 clear hr
 go_enter Tryz.func81, Tryz.ntmps81
 go_wp2
 go_loop [0, 9] (fun t i => ∃ k : Nat, k ≤ n ∧ i = .int .i64 k ∧ t = .int .i64 (addL s (l.take k))) (fun _ i => n - (intOf i).toNat)
 case atStart => exact ⟨0, Nat.zero_le _, rfl, by simp [addL]⟩
 case round =>
   obtain ⟨k, hk, rfl, rfl⟩ := hrel
   have hb := addL_bd (l.take k) s hs0 hs1
   by_cases hlt : k < n
   · obtain ⟨b, off, rfl, hc⟩ := hcells (by omega)
     have hck := hc k (by omega)
     have hby := hbyte k
     have hsn := LH (take_snoc l k (by rw [hl.out]; omega))
     clear hc hbyte hcells
     go_wp2
     go_round
     case rel => exact ⟨k + 1, by omega, by go_num, by rw [hsn.out, addL_snoc]⟩
     case measure => simp [intOf]; omega
   · clear hbyte hcells
     go_wp2
     go_ret
     exact ⟨ret_int (by rw [List.take_of_length_le (by rw [hl.out]; omega)]), rfl⟩
theorem of_any (a : Option Addr) (n c : Nat) (l : List Int) (w : World) (hr : BS w a n c l) :
   Calls Tryz.prog 36 #[.slice a n c] w fun e w' => e = .returned (.int .i64 (addL 1 l)) ∧ w = w' := by
 go_enter Tryz.func36, Tryz.ntmps36
 go_wp2_with (go_at_call 81; refine (add_any 1 a n c l _ (by omega) (by omega) hr).mono ?_; rintro e w' ⟨rfl, rfl⟩)
 go_ret
 exact ⟨rfl, rfl⟩
end Go.Proofs.YtmpmaljkmfgagacGreat
namespace Go.Proofs.YtmpmaljkmfgagacGreat
open Go.RowKit
theorem doP_any (v : Value) (p : PatR) (a : Option Addr) (n c : Nat) (old : List Int) (w : World) (hp : PV w v p) (hx : BS w a n c old) :
   Calls Tryz.prog 60 #[v, .slice a n c] w (GivesBE (doneOf p old) w) := by
 have hp' := hp
 obtain ⟨ao, no, co, rfl, ho, -⟩ := hp
 obtain ⟨f, t, o, nw, s, ops⟩ := p
 simp only at ho
 have HLn := LH hx.len
 have hb : Below w.heap.size w (w.alloc (.cells #[.int .i64 f, .int .i64 t, .int .i64 o, .int .i64 nw, .int .i64 s, .slice ao no co] 35)) := (Below.refl _ _).alloc (Nat.le_refl _) _
 obtain ⟨B, hBw⟩ : ∃ B, w.heap.size = B := ⟨_, rfl⟩
 have hB0 : (w.alloc (.cells #[.int .i64 f, .int .i64 t, .int .i64 o, .int .i64 nw, .int .i64 s, .slice ao no co] 35)).heap[B]? = some (.cells #[.int .i64 f, .int .i64 t, .int .i64 o, .int .i64 nw, .int .i64 s, .slice ao no co] 35 (0, 0)) := by rw [hpA, if_pos hBw.symm]
 replace hp' := hp'.later hb
 replace ho := ho.later hb
 replace hx := hx.later hb
 obtain ⟨E, hE⟩ : ∃ E, PatM.check ⟨f, t, o, nw, s, ops⟩ = E := ⟨_, rfl⟩
 have HE := LH hE
 clear hE
 go_enter Tryz.func60, Tryz.ntmps60
 go_wp2_with fail
 generalize w.alloc (.cells #[.int .i64 f, .int .i64 t, .int .i64 o, .int .i64 nw, .int .i64 s, .slice ao no co] 35) = W0 at hb hB0 hp' ho hx ⊢
 refine (checkP_any _ _ _ hp').mono ?_
 rintro e W1 ⟨rfl, b1⟩
 rw [HE.out]
 replace hB0 := (b1.block B (lt_blk hB0)).trans hB0
 replace ho := ho.later b1
 replace hx := hx.later b1
 replace b1 := bTh hb b1
 clear hb hp' hBw W0
 by_cases h0 : E = 0
 · subst h0
   by_cases h64 : 64 < n
   · have HK : Hid (doneOf ⟨f, t, o, nw, s, ops⟩ old = ([], 1)) := by
       show _ = _
       unfold doneOf
       rw [if_neg (by rw [HE.out]; simp), if_pos (by rw [HLn.out]; exact h64)]
     go_wp2_with fail
     go_ret2
     exact ⟨none, 0, 0, tup_a (by rw [HK.out]), by rw [HK.out]; exact BS.nil_ _, b1⟩
   · obtain ⟨r0, r1, r2, r3, r4, r5, -⟩ := pat_cells hB0
     have hq := fun m => of_any a n c old (W1.drewN m) (hx.drewN m)
     have HQ := LH hq
     clear hq
     obtain ⟨S, hS⟩ : ∃ S, SumM.addL 1 old = S := ⟨_, rfl⟩
     have HSu := LH hS
     rw [hS] at HQ
     clear hS
     by_cases hs : S = o
     · subst hs
       have hsb : (S != S) = false := by simp
       go_wp2_with fail
       go_quiet (exact quiet_eq (HQ.out _))
       have bq : Below W1.heap.size W1 (W1.drewN nq) := below_drewN (Below.refl _ _) nq
       have hB2 := (bq.block B (lt_blk hB0)).trans hB0
       have ho2 := ho.later bq
       have hx2 := hx.later bq
       have b2 := bTh b1 bq
       clear bq r0 r1 r2 r3 r4 r5 hB0 ho hx b1 HQ
       generalize W1.drewN nq = W2 at hB2 ho2 hx2 b2 ⊢
       obtain ⟨r0, r1, r2, r3, r4, r5, -⟩ := pat_cells hB2
       go_wp2_with fail
       refine (apply_any a n c old ao no co ops s _ hx2 ho2).mono ?_
       rintro e W3 ⟨ar, nr, cr, rfl, sr, b3⟩
       have hB3 := (b3.block B (lt_blk hB2)).trans hB2
       replace b3 := bTh b2 b3
       obtain ⟨F, hF⟩ : ∃ F, DeltaM.check ops old.length s = F := ⟨_, rfl⟩
       have HF := LH hF
       rw [hF]
       clear hF b2 hB2 ho2 hx2 r0 r1 r2 r3 r4 r5
       obtain ⟨r0, r1, r2, r3, r4, r5, -⟩ := pat_cells hB3
       obtain ⟨R, hR⟩ : ∃ R, DeltaM.applied old ops s = R := ⟨_, rfl⟩
       have HR := LH hR
       rw [hR] at sr
       clear hR
       by_cases hf0 : F = 0
       · subst hf0
         obtain ⟨S2, hS2⟩ : ∃ S, SumM.addL 1 R = S := ⟨_, rfl⟩
         have HS2 := LH hS2
         have HQ2 : Hid (∀ m, Calls Tryz.prog 36 #[.slice ar nr cr] (W3.drewN m) fun e w' => e = .returned (.int .i64 S2) ∧ W3.drewN m = w') := by
           show ∀ m, _
           intro m
           have := of_any ar nr cr R (W3.drewN m) (sr.drewN m)
           rwa [hS2] at this
         clear hS2
         by_cases hs2 : S2 = nw
         · subst hs2
           have hsb2 : (S2 != S2) = false := by simp
           have HK : Hid (doneOf ⟨f, t, S, S2, s, ops⟩ old = (R, 0)) := by
             show _ = _
             unfold doneOf
             rw [if_neg (by rw [HE.out]; simp), if_neg (by rw [HLn.out]; exact h64), if_neg (by simp only [HSu.out]; simp), if_neg (by simp only [HF.out]; simp)]
             simp only [HR.out, HS2.out]
             simp
           go_wp2_with fail
           go_quiet (exact quiet_eq (HQ2.out _))
           have b4 := below_drewN b3 nq
           have s4 := sr.drewN nq
           go_wp2_with fail
           go_ret2
           exact ⟨ar, nr, cr, tup_a (by rw [HK.out]), by rw [HK.out]; exact s4, b4⟩
         · have hsb2 : (S2 != nw) = true := by simp [hs2]
           have HK : Hid (doneOf ⟨f, t, S, nw, s, ops⟩ old = ([], 6)) := by
             show _ = _
             unfold doneOf
             rw [if_neg (by rw [HE.out]; simp), if_neg (by rw [HLn.out]; exact h64), if_neg (by simp only [HSu.out]; simp), if_neg (by simp only [HF.out]; simp)]
             simp only [HR.out, HS2.out]
             rw [if_pos hs2]
           go_wp2_with fail
           go_quiet (exact quiet_eq (HQ2.out _))
           have b4 := below_drewN b3 nq
           go_wp2_with fail
           go_ret2
           exact ⟨none, 0, 0, tup_a (by rw [HK.out]), by rw [HK.out]; exact BS.nil_ _, b4⟩
       · have hfb : (F == 0) = false := by simp [hf0]
         have hfn : (F != 0) = true := by simp [hf0]
         have HK : Hid (doneOf ⟨f, t, S, nw, s, ops⟩ old = ([], F)) := by
           show _ = _
           unfold doneOf
           rw [if_neg (by rw [HE.out]; simp), if_neg (by rw [HLn.out]; exact h64), if_neg (by simp only [HSu.out]; simp), if_pos (by simp only [HF.out]; exact hf0)]
           simp only [HF.out]
         go_wp2_with fail
         go_ret2
         exact ⟨none, 0, 0, tup_a (by rw [HK.out]), by rw [HK.out]; exact BS.nil_ _, b3⟩
     · have hsb : (S != o) = true := by simp [hs]
       have HK : Hid (doneOf ⟨f, t, o, nw, s, ops⟩ old = ([], 6)) := by
         show _ = _
         unfold doneOf
         rw [if_neg (by rw [HE.out]; simp), if_neg (by rw [HLn.out]; exact h64), if_pos (by simp only [HSu.out]; exact hs)]
       go_wp2_with fail
       go_quiet (exact quiet_eq (HQ.out _))
       have b4 := below_drewN b1 nq
       go_wp2_with fail
       go_ret2
       exact ⟨none, 0, 0, tup_a (by rw [HK.out]), by rw [HK.out]; exact BS.nil_ _, b4⟩
 · have hnb : (E != 0) = true := by simp [h0]
   have HK : Hid (doneOf ⟨f, t, o, nw, s, ops⟩ old = ([], E)) := by
     show _ = _
     unfold doneOf
     rw [if_pos (by rw [HE.out]; exact h0), HE.out]
   go_wp2_with fail
   go_ret2
   exact ⟨none, 0, 0, tup_a (by rw [HK.out]), by rw [HK.out]; exact BS.nil_ _, b1⟩
section
variable {P : Program} {ops : Array Oper} {rest : List Oper} {o : Oper} {a : Act} {w : World} {Q : Exit → Act → World → Prop}
theorem wLW (hw : Region.wanted o (yielded ops a.tmps) = true) (ty : TypeId) (x : Operand) (ho : o.op = .load ty x)
   (g : Nat) (hx : a.eval x = .pointer (some ⟨g, 0, none⟩)) (t : TypeId) (cs : Array Value) (fr : Nat × Nat) (d : TypeDesc) (hg : w.heap[g]? = some (.cells cs t fr))
   (hu : P.underlying ty = some d) (hd : (match d with | .struct _ | .array _ _ => true | _ => false) = true) (hi : (P.info? ty).map (·.size) = some cs.size)
   (h : wpList P ops Q rest (a.put o.dst (.agg cs)) w) : wpList P ops Q (o :: rest) a w :=
 wpList_step fun K hK => by
   rw [if_pos hw]
   exact wp_load_row ty x ho g hx t cs fr d hg hu hd hi (hK _ _ h)
end
namespace DevM
def busyE (d : DevR) (r : RecR) : Int :=
 if r.trying = true ∨ d.job.to_ < r.floor ∨ d.job.from_ ≠ (RecM.inf r r.act).ver ∨ (RecM.inf r (1 - r.act)).ver ≠ 0 then 3
 else if (doneOf d.job ((slot d r.act).take (RecM.inf r r.act).size.toNat)).2 ≠ 0 then (doneOf d.job ((slot d r.act).take (RecM.inf r r.act).size.toNat)).2
 else if ¬ (0 ≤ d.done ∧ d.done ≤ 64 ∧ d.done < d.job.size + 8) ∨ d.done % 8 ≠ 0 then 2
 else if (slot d (1 - r.act)).take d.done.toNat ≠ (fill (doneOf d.job ((slot d r.act).take (RecM.inf r r.act).size.toNat)).1).take d.done.toNat then 3 else 0
end DevM
theorem RecM.inf_none {i : InfR} (h : RecM.infErr i = 0) : i.ver = 0 ↔ i = RecM.noInf := by
 constructor
 · intro hv
   obtain ⟨-, h2⟩ := RecM.infErr_zero.1 h
   rw [InfR.eq_iff]
   refine ⟨hv, ?_, ?_⟩
   · rcases Classical.em (i.size = 0) with q | q
     · exact q
     · exact absurd ⟨hv, .inl q⟩ h2
   · rcases Classical.em (i.sum = 0) with q | q
     · exact q
     · exact absurd ⟨hv, .inr q⟩ h2
 · rintro rfl
   rfl
section
variable {P : Program}
end
theorem busyT0 (h : DevH) (d : DevR) (g n f : Int) (i0 i1 : InfR)  (w : World) (HD : DH w h d) : Calls Tryz.prog 94 #[devV h d, .agg (rcC ⟨g, 0, true, n, f, i0, i1⟩)] w fun e w' => e = .returned (.int .i64 3) ∧ Below w.heap.size w w' := by
 have HO : Hid (∀ W, Calls Tryz.prog 62 #[.int .i64 0] W fun e w' => e = .returned (.int .i64 1) ∧ W = w') := fun W => by simpa using otherD_any 0 W (by decide)
 unfold devV
 obtain ⟨P1, hP1⟩ : ∃ P, w.heap.size = P := ⟨_, rfl⟩
 have HS := LH ((((((MS.start w).arg HD.argR).alloc (p := P1) (by simp [hP1]) (dvC h d) 37)).alloc (p := (P1 + 1)) (by simp [hP1]) (rcC ⟨g, 0, true, n, f, i0, i1⟩) 28))
 go_enter Tryz.func94, Tryz.ntmps94
 go_upto_region 1 with fail
 refine wp_gen HS.out (fun V0 HS1 => ?_)
 replace HS := LH HS1
 clear HS1 hP1
 have cP1p1_1 := cAt (k := 1) (v := .int .i64 0) (HS.out.get 0 rfl) rfl
 simp only at cP1p1_1
 go_wp2_with fail
 clear cP1p1_1
 refine (HO.out _).mono ?_
 rintro e W0 ⟨rfl, rfl⟩
 have cP1p1_2 := cAt (k := 2) (v := .bool true) (HS.out.get 0 rfl) rfl
 simp only at cP1p1_2
 go_wp2_with fail
 go_ret
 exact ⟨rfl, HS.out.below⟩
theorem busyS0 (h : DevH) (d : DevR) (g n f : Int) (i0 i1 : InfR) (hs : ¬ (d.job.from_ = (RecM.inf (⟨g, 0, false, n, f, i0, i1⟩ : RecR) 0).ver ∧ f ≤ d.job.to_)) (w : World) (HD : DH w h d) : Calls Tryz.prog 94 #[devV h d, .agg (rcC ⟨g, 0, false, n, f, i0, i1⟩)] w fun e w' => e = .returned (.int .i64 3) ∧ Below w.heap.size w w' := by
 have HO : Hid (∀ W, Calls Tryz.prog 62 #[.int .i64 0] W fun e w' => e = .returned (.int .i64 1) ∧ W = w') := fun W => by simpa using otherD_any 0 W (by decide)
 have HSu : Hid (∀ W, Calls Tryz.prog 59 #[.agg (jbC h.oa h.on h.oc d.job), .agg (rcC ⟨g, 0, false, n, f, i0, i1⟩)] W fun e w' => e = .returned (.bool false) ∧ Below W.heap.size W w') := fun W => by
   have := suitsD_any h.oa h.on h.oc d.job ⟨g, 0, false, n, f, i0, i1⟩ (.inl rfl) W
   rw [decide_eq_false hs] at this
   exact this
 unfold jbC at HSu
 clear hs
 unfold devV
 obtain ⟨P1, hP1⟩ : ∃ P, w.heap.size = P := ⟨_, rfl⟩
 have HS := LH ((((((MS.start w).arg HD.argR).alloc (p := P1) (by simp [hP1]) (dvC h d) 37)).alloc (p := (P1 + 1)) (by simp [hP1]) (rcC ⟨g, 0, false, n, f, i0, i1⟩) 28))
 go_enter Tryz.func94, Tryz.ntmps94
 go_upto_region 1 with fail
 refine wp_gen HS.out (fun V0 HS1 => ?_)
 replace HS := LH HS1
 clear HS1 hP1
 have cP1p1_1 := cAt (k := 1) (v := .int .i64 0) (HS.out.get 0 rfl) rfl
 simp only at cP1p1_1
 go_wp2_with fail
 clear cP1p1_1
 refine (HO.out _).mono ?_
 rintro e W0 ⟨rfl, rfl⟩
 have cP1p1_2 := cAt (k := 2) (v := .bool false) (HS.out.get 0 rfl) rfl
 simp only at cP1p1_2
 have cP1_30 := cAt (k := 30) (v := .int .i64 d.job.from_) (HS.out.get 1 rfl) rfl
 simp only at cP1_30
 have cP1_31 := cAt (k := 31) (v := .int .i64 d.job.to_) (HS.out.get 1 rfl) rfl
 simp only at cP1_31
 have cP1_32 := cAt (k := 32) (v := .int .i64 d.job.old) (HS.out.get 1 rfl) rfl
 simp only at cP1_32
 have cP1_33 := cAt (k := 33) (v := .int .i64 d.job.new) (HS.out.get 1 rfl) rfl
 simp only at cP1_33
 have cP1_34 := cAt (k := 34) (v := .int .i64 d.job.size) (HS.out.get 1 rfl) rfl
 simp only at cP1_34
 have cP1_35 := cAt (k := 35) (v := .slice h.oa h.on h.oc) (HS.out.get 1 rfl) rfl
 simp only at cP1_35
 have bP1p1 := HS.out.get 0 rfl
 simp only at bP1p1
 go_wp2_with (first
   | (refine wLW (by rfl) 28 (.tmp 3) rfl (P1 + 1) rfl 28 (rcC ⟨g, 0, false, n, f, i0, i1⟩) (0, 0) _ bP1p1 Tryz.underlying28 rfl (sRc ⟨g, 0, false, n, f, i0, i1⟩) ?_))
 clear cP1p1_2 cP1_30 cP1_31 cP1_32 cP1_33 cP1_34 cP1_35 bP1p1
 refine (HSu.out _).mono ?_
 rintro e W1 ⟨rfl, hb⟩
 replace HS := LH (HS.out.later hb)
 clear hb
 go_wp2_with fail
 go_ret
 exact ⟨rfl, HS.out.below⟩
theorem busyI0 (h : DevH) (d : DevR) (g n f : Int) (i0 i1 : InfR) (hs : d.job.from_ = (RecM.inf (⟨g, 0, false, n, f, i0, i1⟩ : RecR) 0).ver ∧ f ≤ d.job.to_) (hi : i1 ≠ RecM.noInf) (w : World) (HD : DH w h d) : Calls Tryz.prog 94 #[devV h d, .agg (rcC ⟨g, 0, false, n, f, i0, i1⟩)] w fun e w' => e = .returned (.int .i64 3) ∧ Below w.heap.size w w' := by
 have HO : Hid (∀ W, Calls Tryz.prog 62 #[.int .i64 0] W fun e w' => e = .returned (.int .i64 1) ∧ W = w') := fun W => by simpa using otherD_any 0 W (by decide)
 have HSu : Hid (∀ W, Calls Tryz.prog 59 #[.agg (jbC h.oa h.on h.oc d.job), .agg (rcC ⟨g, 0, false, n, f, i0, i1⟩)] W fun e w' => e = .returned (.bool true) ∧ Below W.heap.size W w') := fun W => by
   have := suitsD_any h.oa h.on h.oc d.job ⟨g, 0, false, n, f, i0, i1⟩ (.inl rfl) W
   rw [decide_eq_true hs] at this
   exact this
 unfold jbC at HSu
 clear hs
 have hq : ∀ W, (binOp .neq 25 (.agg #[.int .i64 i1.ver, .int .i64 i1.size, .int .i64 i1.sum]) (.agg #[.int .i64 0, .int .i64 0, .int .i64 0])).run Tryz.prog W = .ok (.bool true) W := fun W => by
   have := inf_neq i1 RecM.noInf W
   rw [decide_eq_false hi] at this
   exact this
 clear hi
 unfold devV
 obtain ⟨P1, hP1⟩ : ∃ P, w.heap.size = P := ⟨_, rfl⟩
 have HS := LH ((((((MS.start w).arg HD.argR).alloc (p := P1) (by simp [hP1]) (dvC h d) 37)).alloc (p := (P1 + 1)) (by simp [hP1]) (rcC ⟨g, 0, false, n, f, i0, i1⟩) 28))
 go_enter Tryz.func94, Tryz.ntmps94
 go_upto_region 1 with fail
 refine wp_gen HS.out (fun V0 HS1 => ?_)
 replace HS := LH HS1
 clear HS1 hP1
 have cP1p1_1 := cAt (k := 1) (v := .int .i64 0) (HS.out.get 0 rfl) rfl
 simp only at cP1p1_1
 go_wp2_with fail
 clear cP1p1_1
 refine (HO.out _).mono ?_
 rintro e W0 ⟨rfl, rfl⟩
 have cP1p1_2 := cAt (k := 2) (v := .bool false) (HS.out.get 0 rfl) rfl
 simp only at cP1p1_2
 have cP1_30 := cAt (k := 30) (v := .int .i64 d.job.from_) (HS.out.get 1 rfl) rfl
 simp only at cP1_30
 have cP1_31 := cAt (k := 31) (v := .int .i64 d.job.to_) (HS.out.get 1 rfl) rfl
 simp only at cP1_31
 have cP1_32 := cAt (k := 32) (v := .int .i64 d.job.old) (HS.out.get 1 rfl) rfl
 simp only at cP1_32
 have cP1_33 := cAt (k := 33) (v := .int .i64 d.job.new) (HS.out.get 1 rfl) rfl
 simp only at cP1_33
 have cP1_34 := cAt (k := 34) (v := .int .i64 d.job.size) (HS.out.get 1 rfl) rfl
 simp only at cP1_34
 have cP1_35 := cAt (k := 35) (v := .slice h.oa h.on h.oc) (HS.out.get 1 rfl) rfl
 simp only at cP1_35
 have bP1p1 := HS.out.get 0 rfl
 simp only at bP1p1
 go_wp2_with (first
   | (refine wLW (by rfl) 28 (.tmp 3) rfl (P1 + 1) rfl 28 (rcC ⟨g, 0, false, n, f, i0, i1⟩) (0, 0) _ bP1p1 Tryz.underlying28 rfl (sRc ⟨g, 0, false, n, f, i0, i1⟩) ?_))
 clear cP1p1_2 cP1_30 cP1_31 cP1_32 cP1_33 cP1_34 cP1_35 bP1p1
 refine (HSu.out _).mono ?_
 rintro e W1 ⟨rfl, hb⟩
 replace HS := LH (HS.out.later hb)
 clear hb
 have cP1p1_8 := cAt (k := 8) (v := .int .i64 i1.ver) (HS.out.get 0 rfl) rfl
 simp only at cP1p1_8
 have cP1p1_9 := cAt (k := 9) (v := .int .i64 i1.size) (HS.out.get 0 rfl) rfl
 simp only at cP1p1_9
 have cP1p1_10 := cAt (k := 10) (v := .int .i64 i1.sum) (HS.out.get 0 rfl) rfl
 simp only at cP1p1_10
 go_wp2_with fail
 go_ret
 exact ⟨rfl, HS.out.below⟩
theorem busyB0 (h : DevH) (d : DevR) (g n f : Int) (i0 i1 : InfR) (hs : d.job.from_ = (RecM.inf (⟨g, 0, false, n, f, i0, i1⟩ : RecR) 0).ver ∧ f ≤ d.job.to_) (hi : i1 = RecM.noInf) (m : Nat) (hm : i0.size = m) (hmn : m ≤ h.n0) (hc : h.n0 ≤ h.c0) (hno : h.n1 = 64) (hco : h.n1 ≤ h.c1) (w : World) (HD : DH w h d) : Calls Tryz.prog 94 #[devV h d, .agg (rcC ⟨g, 0, false, n, f, i0, i1⟩)] w fun e w' => e = .returned (.int .i64 (DevM.busyE d ⟨g, 0, false, n, f, i0, i1⟩)) ∧ Below w.heap.size w w' := by
 have HO : Hid (∀ W, Calls Tryz.prog 62 #[.int .i64 0] W fun e w' => e = .returned (.int .i64 1) ∧ W = w') := fun W => by simpa using otherD_any 0 W (by decide)
 have HSu : Hid (∀ W, Calls Tryz.prog 59 #[.agg (jbC h.oa h.on h.oc d.job), .agg (rcC ⟨g, 0, false, n, f, i0, i1⟩)] W fun e w' => e = .returned (.bool true) ∧ Below W.heap.size W w') := fun W => by
   have := suitsD_any h.oa h.on h.oc d.job ⟨g, 0, false, n, f, i0, i1⟩ (.inl rfl) W
   rw [decide_eq_true hs] at this
   exact this
 unfold jbC at HSu
 have HSh := hs
 clear hs
 have hq : ∀ W, (binOp .neq 25 (.agg #[.int .i64 i1.ver, .int .i64 i1.size, .int .i64 i1.sum]) (.agg #[.int .i64 0, .int .i64 0, .int .i64 0])).run Tryz.prog W = .ok (.bool false) W := fun W => by
   have := inf_neq i1 RecM.noInf W
   rw [decide_eq_true hi] at this
   exact this
 obtain ⟨X, hX⟩ : ∃ X, doneOf d.job ((DevM.slot d 0).take m) = X := ⟨_, rfl⟩
 have HB : Hid (DevM.busyE d ⟨g, 0, false, n, f, i0, i1⟩ = if X.2 ≠ 0 then X.2 else if ¬ (0 ≤ d.done ∧ d.done ≤ 64 ∧ d.done < d.job.size + 8) ∨ d.done % 8 ≠ 0 then 2 else if (DevM.slot d 1).take d.done.toNat ≠ (DevM.fill X.1).take d.done.toNat then 3 else 0) := by
   show _ = _
   have ht : (RecM.inf (⟨g, 0, false, n, f, i0, i1⟩ : RecR) 0).size.toNat = m := by
     have : (RecM.inf (⟨g, 0, false, n, f, i0, i1⟩ : RecR) 0).size = m := hm
     omega
   unfold DevM.busyE
   rw [if_neg, ht, hX]
   · rfl
   · rintro (q | q | q | q)
     · cases q
     · have := HSh.2
       simp only at q
       omega
     · exact q HSh.1
     · apply q
       show i1.ver = 0
       rw [hi]
       rfl
 clear hi HSh
 have HI : Hid (∀ W, Calls Tryz.prog 61 #[.agg (dvC h d), .agg (rcC ⟨g, 0, false, n, f, i0, i1⟩)] W fun e w' => e = .returned (.slice h.a0 m h.c0) ∧ Below W.heap.size W w') := fun W => imageD_any h d ⟨g, 0, false, n, f, i0, i1⟩ (.inl rfl) m hm (Nat.le_trans hmn hc) W
 have HDo : Hid (∀ W, DH W h d → Calls Tryz.prog 60 #[.agg (jbC h.oa h.on h.oc d.job), .slice h.a0 m h.c0] W (GivesBE X W)) := fun W hd => by
   have := doP_any _ _ _ _ _ _ W hd.job (hd.b0.head m hmn)
   rw [show d.s0 = DevM.slot d 0 from rfl, hX] at this
   exact this
 have hsz0 : X.2 = 0 → 0 ≤ d.job.size ∧ d.job.size ≤ 64 := fun q => DevM.size_le (DevM.done_ok (by rw [hX]; exact q)).1
 have HLx0 : X.2 = 0 → X.1.length ≤ 64 := fun q => by
   have h1 := DevM.done_ok (by rw [hX]; exact q)
   have h2 := DevM.size_le h1.1
   have h3 := h1.2.2.2.1
   rw [hX] at h3
   omega
 have HNo := LH hno
 have HCo := LH hco
 clear hm hmn hc hX hno hco
 unfold devV
 obtain ⟨P1, hP1⟩ : ∃ P, w.heap.size = P := ⟨_, rfl⟩
 have HS := LH ((((((MS.start w).arg HD.argR).alloc (p := P1) (by simp [hP1]) (dvC h d) 37)).alloc (p := (P1 + 1)) (by simp [hP1]) (rcC ⟨g, 0, false, n, f, i0, i1⟩) 28))
 go_enter Tryz.func94, Tryz.ntmps94
 go_upto_region 1 with fail
 refine wp_gen HS.out (fun V0 HS1 => ?_)
 replace HS := LH HS1
 clear HS1 hP1
 have cP1p1_1 := cAt (k := 1) (v := .int .i64 0) (HS.out.get 0 rfl) rfl
 simp only at cP1p1_1
 go_wp2_with fail
 clear cP1p1_1
 refine (HO.out _).mono ?_
 rintro e W0 ⟨rfl, rfl⟩
 have cP1p1_2 := cAt (k := 2) (v := .bool false) (HS.out.get 0 rfl) rfl
 simp only at cP1p1_2
 have cP1_30 := cAt (k := 30) (v := .int .i64 d.job.from_) (HS.out.get 1 rfl) rfl
 simp only at cP1_30
 have cP1_31 := cAt (k := 31) (v := .int .i64 d.job.to_) (HS.out.get 1 rfl) rfl
 simp only at cP1_31
 have cP1_32 := cAt (k := 32) (v := .int .i64 d.job.old) (HS.out.get 1 rfl) rfl
 simp only at cP1_32
 have cP1_33 := cAt (k := 33) (v := .int .i64 d.job.new) (HS.out.get 1 rfl) rfl
 simp only at cP1_33
 have cP1_34 := cAt (k := 34) (v := .int .i64 d.job.size) (HS.out.get 1 rfl) rfl
 simp only at cP1_34
 have cP1_35 := cAt (k := 35) (v := .slice h.oa h.on h.oc) (HS.out.get 1 rfl) rfl
 simp only at cP1_35
 have bP1p1 := HS.out.get 0 rfl
 simp only at bP1p1
 go_wp2_with (first
   | (refine wLW (by rfl) 28 (.tmp 3) rfl (P1 + 1) rfl 28 (rcC ⟨g, 0, false, n, f, i0, i1⟩) (0, 0) _ bP1p1 Tryz.underlying28 rfl (sRc ⟨g, 0, false, n, f, i0, i1⟩) ?_))
 clear cP1p1_2 cP1_30 cP1_31 cP1_32 cP1_33 cP1_34 cP1_35 bP1p1
 refine (HSu.out _).mono ?_
 rintro e W1 ⟨rfl, hb⟩
 replace HS := LH (HS.out.later hb)
 clear hb
 have cP1p1_8 := cAt (k := 8) (v := .int .i64 i1.ver) (HS.out.get 0 rfl) rfl
 simp only at cP1p1_8
 have cP1p1_9 := cAt (k := 9) (v := .int .i64 i1.size) (HS.out.get 0 rfl) rfl
 simp only at cP1p1_9
 have cP1p1_10 := cAt (k := 10) (v := .int .i64 i1.sum) (HS.out.get 0 rfl) rfl
 simp only at cP1p1_10
 go_wp2_with fail
 clear cP1p1_8 cP1p1_9 cP1p1_10
 refine rTu (S := MS w [((P1 + 1), (rcC ⟨g, 0, false, n, f, i0, i1⟩), 28), (P1, (dvC h d), 37)] [(fun W => DH W h d)] []) [(0, false), (1, false), (2, false), (3, false), (4, true), (5, true), (6, false), (7, false), (8, false), (9, false), (10, false)] false 9999 (by kernel_rfl) (by kernel_rfl) HS.out.drew ?_
 simp only [turned, gA, gB, gC]
 replace HS := LH HS.out.drew
 repeat (first
   | ((refine turn_part (by rfl) 35 (.tmp 29) rfl P1 30 rfl 37 (dvC h d) (fun W hW => hW.get 1 rfl) (jbC h.oa h.on h.oc d.job) (part_job h d) _ Tryz.underlying35 rfl (sJb _ _ _ _) ?_); simp only [Act.put, sA, sB, sC])
   | ((refine turn_row (by rfl) 37 (.tmp 2) rfl P1 rfl 37 (dvC h d) _ (fun W hW => hW.get 1 rfl) Tryz.underlying37 rfl (sDv h d) ?_); simp only [Act.put, sA, sB, sC])
   | ((refine turn_row (by rfl) 28 (.tmp 3) rfl (P1 + 1) rfl 28 (rcC ⟨g, 0, false, n, f, i0, i1⟩) _ (fun W hW => hW.get 0 rfl) Tryz.underlying28 rfl (sRc ⟨g, 0, false, n, f, i0, i1⟩) ?_); simp only [Act.put, sA, sB, sC])
   | (refine tSt ?_ (by rfl) (fun W9 hW9 => ?_) ?_
      rotate_left
      · (go_simp <;> with_reducible rfl)
      simp only [Act.put, sA, sB, sC])
   | (refine tSk (by rfl) ?_; simp only [Act.put, sA, sB, sC]))
 refine tCa (fun K hK => ?_)
 go_simp
 go_at_call 61
 with_reducible refine (HI.out _).mono ?_
 rintro e W2 ⟨rfl, hb⟩
 replace HS := LH (HS.out.later hb)
 clear hb
 try go_wp2_with fail
 refine hK.out _ _ HS.out ?_
 clear hK K
 try simp only [Act.put, sA, sB, sC]
 refine tCa (fun K hK => ?_)
 go_simp
 go_at_call 60
 with_reducible refine (HDo.out _ (HS.out.read 0 rfl)).mono ?_
 rintro e W3 ⟨ab, nb, cb, rfl, hbs, hb⟩
 replace HS := LH (HS.out.later hb)
 have HBS := LH hbs
 clear hbs
 clear hb
 try go_wp2_with fail
 refine hK.out _ _ HS.out ?_
 clear hK K
 try simp only [Act.put, sA, sB, sC]
 repeat (first
   | (refine tSt ?_ (by rfl) (fun W9 hW9 => ?_) ?_
      rotate_left
      · (go_simp <;> with_reducible rfl)
      simp only [Act.put, sA, sB, sC])
   | (refine tSk (by rfl) ?_; simp only [Act.put, sA, sB, sC]))
 refine tEn ?_
 obtain ⟨xb, xe⟩ := X
 simp only at HB HBS ⊢
 by_cases hE : xe = 0
 case neg =>
   have t0 : (xe != 0) = true := by simp [hE]
   have HR := LH (HB.out.trans (if_pos hE))
   go_wp2_with fail
   go_ret
   exact ⟨ret_i HR.out.symm, HS.out.below⟩
 subst hE
 replace HB := LH (HB.out.trans (if_neg (fun q => q rfl)))
 replace hsz0 := hsz0 rfl
 have HLx : Hid (xb.length ≤ 64) := HLx0 rfl
 clear HLx0
 have hsz : 0 ≤ d.job.size ∧ d.job.size ≤ 64 := hsz0
 have hw8 : IntKind.i64.wrap (d.job.size + 8) = d.job.size + 8 := IntWalk.i64_in _ (by omega)
 clear hsz0
 by_cases r1 : d.done < 0
 case pos =>
   have HR := LH (HB.out.trans (if_pos (.inl (by omega))))
   have cP1_36 := cAt (k := 36) (v := .int .i64 d.done) (HS.out.get 1 rfl) rfl
   simp only at cP1_36
   have cP1_34 := cAt (k := 34) (v := .int .i64 d.job.size) (HS.out.get 1 rfl) rfl
   simp only at cP1_34
   clear hw8 hsz
   go_wp2_with fail
   clear cP1_36 cP1_34
   go_ret
   exact ⟨ret_i HR.out.symm, HS.out.below⟩
 have n1 : decide (d.done < 0) = false := by simp; omega
 by_cases r2 : 64 < d.done
 case pos =>
   have HR := LH (HB.out.trans (if_pos (.inl (by omega))))
   have cP1_36 := cAt (k := 36) (v := .int .i64 d.done) (HS.out.get 1 rfl) rfl
   simp only at cP1_36
   have cP1_34 := cAt (k := 34) (v := .int .i64 d.job.size) (HS.out.get 1 rfl) rfl
   simp only at cP1_34
   clear hw8 hsz
   go_wp2_with fail
   clear cP1_36 cP1_34
   go_ret
   exact ⟨ret_i HR.out.symm, HS.out.below⟩
 have n2 : decide (64 < d.done) = false := by simp; omega
 obtain ⟨M, hM⟩ : ∃ M : Nat, d.done = M := ⟨d.done.toNat, by omega⟩
 have hM64 : M ≤ 64 := by omega
 have hmod : (M : Int).tmod 8 = ((M % 8 : Nat) : Int) := by rw [Int.tmod_eq_emod_of_nonneg (by omega)]; rfl
 by_cases r3 : M % 8 = 0
 case neg =>
   have n3 : (((M % 8 : Nat) : Int) != 0) = true := by simp; omega
   have HR := LH (HB.out.trans (if_pos (.inr (by omega))))
   have cP1_36 := cAt (k := 36) (v := .int .i64 d.done) (HS.out.get 1 rfl) rfl
   simp only at cP1_36
   have cP1_34 := cAt (k := 34) (v := .int .i64 d.job.size) (HS.out.get 1 rfl) rfl
   simp only at cP1_34
   rw [hM] at cP1_36 n1 n2 r1 r2
   clear hw8 hsz hM
   go_wp2_with fail
   clear cP1_36 cP1_34
   go_ret
   exact ⟨ret_i HR.out.symm, HS.out.below⟩
 have n3 : (((M % 8 : Nat) : Int) != 0) = false := by simp; omega
 by_cases r4 : d.job.size + 8 ≤ (M : Int)
 case pos =>
   have HR := LH (HB.out.trans (if_pos (.inl (by omega))))
   have cP1_36 := cAt (k := 36) (v := .int .i64 d.done) (HS.out.get 1 rfl) rfl
   simp only at cP1_36
   have cP1_34 := cAt (k := 34) (v := .int .i64 d.job.size) (HS.out.get 1 rfl) rfl
   simp only at cP1_34
   rw [hM] at cP1_36 n1 n2 r1 r2
   clear hsz hM
   go_wp2_with fail
   clear cP1_36 cP1_34
   go_ret
   exact ⟨ret_i HR.out.symm, HS.out.below⟩
 have n4 : decide (d.job.size + 8 ≤ (M : Int)) = false := by simp; omega
 replace HB := LH (HB.out.trans (if_neg (by omega)))
 have hTN : d.done.toNat = M := by omega
 rw [hTN] at HB
 clear hTN
 have cP1_36 := cAt (k := 36) (v := .int .i64 d.done) (HS.out.get 1 rfl) rfl
 simp only at cP1_36
 have cP1_34 := cAt (k := 34) (v := .int .i64 d.job.size) (HS.out.get 1 rfl) rfl
 simp only at cP1_34
 rw [hM] at cP1_36 n1 n2 r1 r2
 go_wp2_with fail
 clear cP1_36 cP1_34
 clear hw8 hsz n1 n2 n3 n4 r1 r2 r3 r4 hmod
 have hcl := fun W => rCh h.a1 h.n1 h.c1 W M (Nat.le_trans (by rw [HNo.out]; exact hM64) HCo.out)
 have hcr := fun F W => rCh (some ⟨F, 0, none⟩) 64 64 W M hM64
 have hM0 : (0 : Int) ≤ (M : Int) := by omega
 have HFl := LH (fun W (hb : BS W ab nb cb xb) => filledD_gives ab nb cb xb W hb (by rw [← hb.len]; exact HLx.out))
 have HBy := LH HBS.out.bytes
 by_cases hq2 : (DevM.slot d 1).take M = (DevM.fill xb).take M
 case pos =>
   have HEq : Hid (∀ W F, DH W h d → BS W (some ⟨F, 0, none⟩) 64 64 (DevM.fill xb) → Calls Tryz.prog 27 #[.slice h.a1 M h.c1, .slice (some ⟨F, 0, none⟩) M 64] W fun e w' => e = .returned (.bool true) ∧ Below W.heap.size W w') := fun W F hd hb => by
     refine (eqB _ _ _ _ _ _ _ _ W (hd.b1.head M (by rw [HNo.out]; exact hM64)) (hb.head M hM64)).mono ?_
     rintro e w' ⟨rfl, rfl⟩
     refine ⟨?_, Below.refl _ _⟩
     rw [decide_eq_true (show d.s1.take M = _ from hq2)]
   have HR := LH (HB.out.trans (if_neg (fun q => q hq2)))
   clear hq2
   refine rTu (S := MS w [((P1 + 1), (rcC ⟨g, 0, false, n, f, i0, i1⟩), 28), (P1, (dvC h d), 37)] [(fun W => DH W h d)] []) [(0, false), (1, false), (2, false), (3, false), (4, false), (5, false), (6, false), (7, false), (9, false), (10, false), (8, true), (11, false), (12, true), (13, false)] false 9999 (by kernel_rfl) (by kernel_rfl) HS.out.drew ?_
   simp only [turned, gA, gB, gC]
   replace HS := LH HS.out.drew
   have uP1_1 : ∀ W, MS w [((P1 + 1), (rcC ⟨g, 0, false, n, f, i0, i1⟩), 28), (P1, (dvC h d), 37)] [(fun W => DH W h d)] [] W → W.cell? ⟨P1, 1, none⟩ = some (.slice h.a1 h.n1 h.c1) := fun W hW => cAt (hW.get 1 rfl) rfl
   have uP1_36 : ∀ W, MS w [((P1 + 1), (rcC ⟨g, 0, false, n, f, i0, i1⟩), 28), (P1, (dvC h d), 37)] [(fun W => DH W h d)] [] W → W.cell? ⟨P1, 36, none⟩ = some (.int .i64 (M : Int)) := fun W hW => by
     have := cAt (k := 36) (v := .int .i64 d.done) (hW.get 1 rfl) rfl
     rwa [hM] at this
   repeat (first
     | (refine tSt ?_ (by rfl) (fun W9 hW9 => ?_) ?_
        rotate_left
        · (go_simp <;> with_reducible rfl)
        simp only [Act.put, sA, sB, sC])
     | (refine tSk (by rfl) ?_; simp only [Act.put, sA, sB, sC]))
   refine tCa (fun K hK => ?_)
   go_simp
   go_at_call 37
   with_reducible refine (HFl.out _ (HBS.out.later (Below.refl _ _).drew)).mono ?_
   rintro e W4 ⟨F, rfl, -, hbf, -, -, hb⟩
   replace HS := LH (HS.out.later hb)
   have HBF := LH hbf
   clear hbf
   clear hb
   try go_wp2_with fail
   refine hK.out _ _ HS.out ?_
   clear hK K
   try simp only [Act.put, sA, sB, sC]
   repeat (first
     | (refine tSt ?_ (by rfl) (fun W9 hW9 => ?_) ?_
        rotate_left
        · (go_simp <;> with_reducible rfl)
        simp only [Act.put, sA, sB, sC])
     | (refine tSk (by rfl) ?_; simp only [Act.put, sA, sB, sC]))
   refine tCa (fun K hK => ?_)
   go_simp
   go_at_call 27
   with_reducible refine (HEq.out _ _ (HS.out.read 0 rfl) HBF.out).mono ?_
   rintro e W5 ⟨rfl, hb⟩
   replace HS := LH (HS.out.later hb)
   clear hb
   try go_wp2_with fail
   refine hK.out _ _ HS.out ?_
   clear hK K
   try simp only [Act.put, sA, sB, sC]
   repeat (first
     | (refine tSt ?_ (by rfl) (fun W9 hW9 => ?_) ?_
        rotate_left
        · (go_simp <;> with_reducible rfl)
        simp only [Act.put, sA, sB, sC])
     | (refine tSk (by rfl) ?_; simp only [Act.put, sA, sB, sC]))
   clear uP1_1 uP1_36
   refine tEn ?_
   go_wp2_with fail
   go_ret
   exact ⟨ret_i HR.out.symm, HS.out.below⟩
 -- otherwise
 have HEq : Hid (∀ W F, DH W h d → BS W (some ⟨F, 0, none⟩) 64 64 (DevM.fill xb) → Calls Tryz.prog 27 #[.slice h.a1 M h.c1, .slice (some ⟨F, 0, none⟩) M 64] W fun e w' => e = .returned (.bool false) ∧ Below W.heap.size W w') := fun W F hd hb => by
   refine (eqB _ _ _ _ _ _ _ _ W (hd.b1.head M (by rw [HNo.out]; exact hM64)) (hb.head M hM64)).mono ?_
   rintro e w' ⟨rfl, rfl⟩
   refine ⟨?_, Below.refl _ _⟩
   rw [decide_eq_false (show ¬ d.s1.take M = _ from hq2)]
 have HR := LH (HB.out.trans (if_pos hq2))
 clear hq2
 refine rTu (S := MS w [((P1 + 1), (rcC ⟨g, 0, false, n, f, i0, i1⟩), 28), (P1, (dvC h d), 37)] [(fun W => DH W h d)] []) [(0, false), (1, false), (2, false), (3, false), (4, false), (5, false), (6, false), (7, false), (9, false), (10, false), (8, true), (11, false), (12, true), (13, false)] false 9999 (by kernel_rfl) (by kernel_rfl) HS.out.drew ?_
 simp only [turned, gA, gB, gC]
 replace HS := LH HS.out.drew
 have uP1_1 : ∀ W, MS w [((P1 + 1), (rcC ⟨g, 0, false, n, f, i0, i1⟩), 28), (P1, (dvC h d), 37)] [(fun W => DH W h d)] [] W → W.cell? ⟨P1, 1, none⟩ = some (.slice h.a1 h.n1 h.c1) := fun W hW => cAt (hW.get 1 rfl) rfl
 have uP1_36 : ∀ W, MS w [((P1 + 1), (rcC ⟨g, 0, false, n, f, i0, i1⟩), 28), (P1, (dvC h d), 37)] [(fun W => DH W h d)] [] W → W.cell? ⟨P1, 36, none⟩ = some (.int .i64 (M : Int)) := fun W hW => by
   have := cAt (k := 36) (v := .int .i64 d.done) (hW.get 1 rfl) rfl
   rwa [hM] at this
 repeat (first
   | (refine tSt ?_ (by rfl) (fun W9 hW9 => ?_) ?_
      rotate_left
      · (go_simp <;> with_reducible rfl)
      simp only [Act.put, sA, sB, sC])
   | (refine tSk (by rfl) ?_; simp only [Act.put, sA, sB, sC]))
 refine tCa (fun K hK => ?_)
 go_simp
 go_at_call 37
 with_reducible refine (HFl.out _ (HBS.out.later (Below.refl _ _).drew)).mono ?_
 rintro e W4 ⟨F, rfl, -, hbf, -, -, hb⟩
 replace HS := LH (HS.out.later hb)
 have HBF := LH hbf
 clear hbf
 clear hb
 try go_wp2_with fail
 refine hK.out _ _ HS.out ?_
 clear hK K
 try simp only [Act.put, sA, sB, sC]
 repeat (first
   | (refine tSt ?_ (by rfl) (fun W9 hW9 => ?_) ?_
      rotate_left
      · (go_simp <;> with_reducible rfl)
      simp only [Act.put, sA, sB, sC])
   | (refine tSk (by rfl) ?_; simp only [Act.put, sA, sB, sC]))
 refine tCa (fun K hK => ?_)
 go_simp
 go_at_call 27
 with_reducible refine (HEq.out _ _ (HS.out.read 0 rfl) HBF.out).mono ?_
 rintro e W5 ⟨rfl, hb⟩
 replace HS := LH (HS.out.later hb)
 clear hb
 try go_wp2_with fail
 refine hK.out _ _ HS.out ?_
 clear hK K
 try simp only [Act.put, sA, sB, sC]
 repeat (first
   | (refine tSt ?_ (by rfl) (fun W9 hW9 => ?_) ?_
      rotate_left
      · (go_simp <;> with_reducible rfl)
      simp only [Act.put, sA, sB, sC])
   | (refine tSk (by rfl) ?_; simp only [Act.put, sA, sB, sC]))
 clear uP1_1 uP1_36
 refine tEn ?_
 go_wp2_with fail
 go_ret
 exact ⟨ret_i HR.out.symm, HS.out.below⟩
theorem busyT1 (h : DevH) (d : DevR) (g n f : Int) (i0 i1 : InfR)  (w : World) (HD : DH w h d) : Calls Tryz.prog 94 #[devV h d, .agg (rcC ⟨g, 1, true, n, f, i0, i1⟩)] w fun e w' => e = .returned (.int .i64 3) ∧ Below w.heap.size w w' := by
 have HO : Hid (∀ W, Calls Tryz.prog 62 #[.int .i64 1] W fun e w' => e = .returned (.int .i64 0) ∧ W = w') := fun W => by simpa using otherD_any 1 W (by decide)
 unfold devV
 obtain ⟨P1, hP1⟩ : ∃ P, w.heap.size = P := ⟨_, rfl⟩
 have HS := LH ((((((MS.start w).arg HD.argR).alloc (p := P1) (by simp [hP1]) (dvC h d) 37)).alloc (p := (P1 + 1)) (by simp [hP1]) (rcC ⟨g, 1, true, n, f, i0, i1⟩) 28))
 go_enter Tryz.func94, Tryz.ntmps94
 go_upto_region 1 with fail
 refine wp_gen HS.out (fun V0 HS1 => ?_)
 replace HS := LH HS1
 clear HS1 hP1
 have cP1p1_1 := cAt (k := 1) (v := .int .i64 1) (HS.out.get 0 rfl) rfl
 simp only at cP1p1_1
 go_wp2_with fail
 clear cP1p1_1
 refine (HO.out _).mono ?_
 rintro e W0 ⟨rfl, rfl⟩
 have cP1p1_2 := cAt (k := 2) (v := .bool true) (HS.out.get 0 rfl) rfl
 simp only at cP1p1_2
 go_wp2_with fail
 go_ret
 exact ⟨rfl, HS.out.below⟩
theorem busyS1 (h : DevH) (d : DevR) (g n f : Int) (i0 i1 : InfR) (hs : ¬ (d.job.from_ = (RecM.inf (⟨g, 1, false, n, f, i0, i1⟩ : RecR) 1).ver ∧ f ≤ d.job.to_)) (w : World) (HD : DH w h d) : Calls Tryz.prog 94 #[devV h d, .agg (rcC ⟨g, 1, false, n, f, i0, i1⟩)] w fun e w' => e = .returned (.int .i64 3) ∧ Below w.heap.size w w' := by
 have HO : Hid (∀ W, Calls Tryz.prog 62 #[.int .i64 1] W fun e w' => e = .returned (.int .i64 0) ∧ W = w') := fun W => by simpa using otherD_any 1 W (by decide)
 have HSu : Hid (∀ W, Calls Tryz.prog 59 #[.agg (jbC h.oa h.on h.oc d.job), .agg (rcC ⟨g, 1, false, n, f, i0, i1⟩)] W fun e w' => e = .returned (.bool false) ∧ Below W.heap.size W w') := fun W => by
   have := suitsD_any h.oa h.on h.oc d.job ⟨g, 1, false, n, f, i0, i1⟩ (.inr rfl) W
   rw [decide_eq_false hs] at this
   exact this
 unfold jbC at HSu
 clear hs
 unfold devV
 obtain ⟨P1, hP1⟩ : ∃ P, w.heap.size = P := ⟨_, rfl⟩
 have HS := LH ((((((MS.start w).arg HD.argR).alloc (p := P1) (by simp [hP1]) (dvC h d) 37)).alloc (p := (P1 + 1)) (by simp [hP1]) (rcC ⟨g, 1, false, n, f, i0, i1⟩) 28))
 go_enter Tryz.func94, Tryz.ntmps94
 go_upto_region 1 with fail
 refine wp_gen HS.out (fun V0 HS1 => ?_)
 replace HS := LH HS1
 clear HS1 hP1
 have cP1p1_1 := cAt (k := 1) (v := .int .i64 1) (HS.out.get 0 rfl) rfl
 simp only at cP1p1_1
 go_wp2_with fail
 clear cP1p1_1
 refine (HO.out _).mono ?_
 rintro e W0 ⟨rfl, rfl⟩
 have cP1p1_2 := cAt (k := 2) (v := .bool false) (HS.out.get 0 rfl) rfl
 simp only at cP1p1_2
 have cP1_30 := cAt (k := 30) (v := .int .i64 d.job.from_) (HS.out.get 1 rfl) rfl
 simp only at cP1_30
 have cP1_31 := cAt (k := 31) (v := .int .i64 d.job.to_) (HS.out.get 1 rfl) rfl
 simp only at cP1_31
 have cP1_32 := cAt (k := 32) (v := .int .i64 d.job.old) (HS.out.get 1 rfl) rfl
 simp only at cP1_32
 have cP1_33 := cAt (k := 33) (v := .int .i64 d.job.new) (HS.out.get 1 rfl) rfl
 simp only at cP1_33
 have cP1_34 := cAt (k := 34) (v := .int .i64 d.job.size) (HS.out.get 1 rfl) rfl
 simp only at cP1_34
 have cP1_35 := cAt (k := 35) (v := .slice h.oa h.on h.oc) (HS.out.get 1 rfl) rfl
 simp only at cP1_35
 have bP1p1 := HS.out.get 0 rfl
 simp only at bP1p1
 go_wp2_with (first
   | (refine wLW (by rfl) 28 (.tmp 3) rfl (P1 + 1) rfl 28 (rcC ⟨g, 1, false, n, f, i0, i1⟩) (0, 0) _ bP1p1 Tryz.underlying28 rfl (sRc ⟨g, 1, false, n, f, i0, i1⟩) ?_))
 clear cP1p1_2 cP1_30 cP1_31 cP1_32 cP1_33 cP1_34 cP1_35 bP1p1
 refine (HSu.out _).mono ?_
 rintro e W1 ⟨rfl, hb⟩
 replace HS := LH (HS.out.later hb)
 clear hb
 go_wp2_with fail
 go_ret
 exact ⟨rfl, HS.out.below⟩
theorem busyI1 (h : DevH) (d : DevR) (g n f : Int) (i0 i1 : InfR) (hs : d.job.from_ = (RecM.inf (⟨g, 1, false, n, f, i0, i1⟩ : RecR) 1).ver ∧ f ≤ d.job.to_) (hi : i0 ≠ RecM.noInf) (w : World) (HD : DH w h d) : Calls Tryz.prog 94 #[devV h d, .agg (rcC ⟨g, 1, false, n, f, i0, i1⟩)] w fun e w' => e = .returned (.int .i64 3) ∧ Below w.heap.size w w' := by
 have HO : Hid (∀ W, Calls Tryz.prog 62 #[.int .i64 1] W fun e w' => e = .returned (.int .i64 0) ∧ W = w') := fun W => by simpa using otherD_any 1 W (by decide)
 have HSu : Hid (∀ W, Calls Tryz.prog 59 #[.agg (jbC h.oa h.on h.oc d.job), .agg (rcC ⟨g, 1, false, n, f, i0, i1⟩)] W fun e w' => e = .returned (.bool true) ∧ Below W.heap.size W w') := fun W => by
   have := suitsD_any h.oa h.on h.oc d.job ⟨g, 1, false, n, f, i0, i1⟩ (.inr rfl) W
   rw [decide_eq_true hs] at this
   exact this
 unfold jbC at HSu
 clear hs
 have hq : ∀ W, (binOp .neq 25 (.agg #[.int .i64 i0.ver, .int .i64 i0.size, .int .i64 i0.sum]) (.agg #[.int .i64 0, .int .i64 0, .int .i64 0])).run Tryz.prog W = .ok (.bool true) W := fun W => by
   have := inf_neq i0 RecM.noInf W
   rw [decide_eq_false hi] at this
   exact this
 clear hi
 unfold devV
 obtain ⟨P1, hP1⟩ : ∃ P, w.heap.size = P := ⟨_, rfl⟩
 have HS := LH ((((((MS.start w).arg HD.argR).alloc (p := P1) (by simp [hP1]) (dvC h d) 37)).alloc (p := (P1 + 1)) (by simp [hP1]) (rcC ⟨g, 1, false, n, f, i0, i1⟩) 28))
 go_enter Tryz.func94, Tryz.ntmps94
 go_upto_region 1 with fail
 refine wp_gen HS.out (fun V0 HS1 => ?_)
 replace HS := LH HS1
 clear HS1 hP1
 have cP1p1_1 := cAt (k := 1) (v := .int .i64 1) (HS.out.get 0 rfl) rfl
 simp only at cP1p1_1
 go_wp2_with fail
 clear cP1p1_1
 refine (HO.out _).mono ?_
 rintro e W0 ⟨rfl, rfl⟩
 have cP1p1_2 := cAt (k := 2) (v := .bool false) (HS.out.get 0 rfl) rfl
 simp only at cP1p1_2
 have cP1_30 := cAt (k := 30) (v := .int .i64 d.job.from_) (HS.out.get 1 rfl) rfl
 simp only at cP1_30
 have cP1_31 := cAt (k := 31) (v := .int .i64 d.job.to_) (HS.out.get 1 rfl) rfl
 simp only at cP1_31
 have cP1_32 := cAt (k := 32) (v := .int .i64 d.job.old) (HS.out.get 1 rfl) rfl
 simp only at cP1_32
 have cP1_33 := cAt (k := 33) (v := .int .i64 d.job.new) (HS.out.get 1 rfl) rfl
 simp only at cP1_33
 have cP1_34 := cAt (k := 34) (v := .int .i64 d.job.size) (HS.out.get 1 rfl) rfl
 simp only at cP1_34
 have cP1_35 := cAt (k := 35) (v := .slice h.oa h.on h.oc) (HS.out.get 1 rfl) rfl
 simp only at cP1_35
 have bP1p1 := HS.out.get 0 rfl
 simp only at bP1p1
 go_wp2_with (first
   | (refine wLW (by rfl) 28 (.tmp 3) rfl (P1 + 1) rfl 28 (rcC ⟨g, 1, false, n, f, i0, i1⟩) (0, 0) _ bP1p1 Tryz.underlying28 rfl (sRc ⟨g, 1, false, n, f, i0, i1⟩) ?_))
 clear cP1p1_2 cP1_30 cP1_31 cP1_32 cP1_33 cP1_34 cP1_35 bP1p1
 refine (HSu.out _).mono ?_
 rintro e W1 ⟨rfl, hb⟩
 replace HS := LH (HS.out.later hb)
 clear hb
 have cP1p1_5 := cAt (k := 5) (v := .int .i64 i0.ver) (HS.out.get 0 rfl) rfl
 simp only at cP1p1_5
 have cP1p1_6 := cAt (k := 6) (v := .int .i64 i0.size) (HS.out.get 0 rfl) rfl
 simp only at cP1p1_6
 have cP1p1_7 := cAt (k := 7) (v := .int .i64 i0.sum) (HS.out.get 0 rfl) rfl
 simp only at cP1p1_7
 go_wp2_with fail
 go_ret
 exact ⟨rfl, HS.out.below⟩
theorem busyB1 (h : DevH) (d : DevR) (g n f : Int) (i0 i1 : InfR) (hs : d.job.from_ = (RecM.inf (⟨g, 1, false, n, f, i0, i1⟩ : RecR) 1).ver ∧ f ≤ d.job.to_) (hi : i0 = RecM.noInf) (m : Nat) (hm : i1.size = m) (hmn : m ≤ h.n1) (hc : h.n1 ≤ h.c1) (hno : h.n0 = 64) (hco : h.n0 ≤ h.c0) (w : World) (HD : DH w h d) : Calls Tryz.prog 94 #[devV h d, .agg (rcC ⟨g, 1, false, n, f, i0, i1⟩)] w fun e w' => e = .returned (.int .i64 (DevM.busyE d ⟨g, 1, false, n, f, i0, i1⟩)) ∧ Below w.heap.size w w' := by
 have HO : Hid (∀ W, Calls Tryz.prog 62 #[.int .i64 1] W fun e w' => e = .returned (.int .i64 0) ∧ W = w') := fun W => by simpa using otherD_any 1 W (by decide)
 have HSu : Hid (∀ W, Calls Tryz.prog 59 #[.agg (jbC h.oa h.on h.oc d.job), .agg (rcC ⟨g, 1, false, n, f, i0, i1⟩)] W fun e w' => e = .returned (.bool true) ∧ Below W.heap.size W w') := fun W => by
   have := suitsD_any h.oa h.on h.oc d.job ⟨g, 1, false, n, f, i0, i1⟩ (.inr rfl) W
   rw [decide_eq_true hs] at this
   exact this
 unfold jbC at HSu
 have HSh := hs
 clear hs
 have hq : ∀ W, (binOp .neq 25 (.agg #[.int .i64 i0.ver, .int .i64 i0.size, .int .i64 i0.sum]) (.agg #[.int .i64 0, .int .i64 0, .int .i64 0])).run Tryz.prog W = .ok (.bool false) W := fun W => by
   have := inf_neq i0 RecM.noInf W
   rw [decide_eq_true hi] at this
   exact this
 obtain ⟨X, hX⟩ : ∃ X, doneOf d.job ((DevM.slot d 1).take m) = X := ⟨_, rfl⟩
 have HB : Hid (DevM.busyE d ⟨g, 1, false, n, f, i0, i1⟩ = if X.2 ≠ 0 then X.2 else if ¬ (0 ≤ d.done ∧ d.done ≤ 64 ∧ d.done < d.job.size + 8) ∨ d.done % 8 ≠ 0 then 2 else if (DevM.slot d 0).take d.done.toNat ≠ (DevM.fill X.1).take d.done.toNat then 3 else 0) := by
   show _ = _
   have ht : (RecM.inf (⟨g, 1, false, n, f, i0, i1⟩ : RecR) 1).size.toNat = m := by
     have : (RecM.inf (⟨g, 1, false, n, f, i0, i1⟩ : RecR) 1).size = m := hm
     omega
   unfold DevM.busyE
   rw [if_neg, ht, hX]
   · rfl
   · rintro (q | q | q | q)
     · cases q
     · have := HSh.2
       simp only at q
       omega
     · exact q HSh.1
     · apply q
       show i0.ver = 0
       rw [hi]
       rfl
 clear hi HSh
 have HI : Hid (∀ W, Calls Tryz.prog 61 #[.agg (dvC h d), .agg (rcC ⟨g, 1, false, n, f, i0, i1⟩)] W fun e w' => e = .returned (.slice h.a1 m h.c1) ∧ Below W.heap.size W w') := fun W => imageD_any h d ⟨g, 1, false, n, f, i0, i1⟩ (.inr rfl) m hm (Nat.le_trans hmn hc) W
 have HDo : Hid (∀ W, DH W h d → Calls Tryz.prog 60 #[.agg (jbC h.oa h.on h.oc d.job), .slice h.a1 m h.c1] W (GivesBE X W)) := fun W hd => by
   have := doP_any _ _ _ _ _ _ W hd.job (hd.b1.head m hmn)
   rw [show d.s1 = DevM.slot d 1 from rfl, hX] at this
   exact this
 have hsz0 : X.2 = 0 → 0 ≤ d.job.size ∧ d.job.size ≤ 64 := fun q => DevM.size_le (DevM.done_ok (by rw [hX]; exact q)).1
 have HLx0 : X.2 = 0 → X.1.length ≤ 64 := fun q => by
   have h1 := DevM.done_ok (by rw [hX]; exact q)
   have h2 := DevM.size_le h1.1
   have h3 := h1.2.2.2.1
   rw [hX] at h3
   omega
 have HNo := LH hno
 have HCo := LH hco
 clear hm hmn hc hX hno hco
 unfold devV
 obtain ⟨P1, hP1⟩ : ∃ P, w.heap.size = P := ⟨_, rfl⟩
 have HS := LH ((((((MS.start w).arg HD.argR).alloc (p := P1) (by simp [hP1]) (dvC h d) 37)).alloc (p := (P1 + 1)) (by simp [hP1]) (rcC ⟨g, 1, false, n, f, i0, i1⟩) 28))
 go_enter Tryz.func94, Tryz.ntmps94
 go_upto_region 1 with fail
 refine wp_gen HS.out (fun V0 HS1 => ?_)
 replace HS := LH HS1
 clear HS1 hP1
 have cP1p1_1 := cAt (k := 1) (v := .int .i64 1) (HS.out.get 0 rfl) rfl
 simp only at cP1p1_1
 go_wp2_with fail
 clear cP1p1_1
 refine (HO.out _).mono ?_
 rintro e W0 ⟨rfl, rfl⟩
 have cP1p1_2 := cAt (k := 2) (v := .bool false) (HS.out.get 0 rfl) rfl
 simp only at cP1p1_2
 have cP1_30 := cAt (k := 30) (v := .int .i64 d.job.from_) (HS.out.get 1 rfl) rfl
 simp only at cP1_30
 have cP1_31 := cAt (k := 31) (v := .int .i64 d.job.to_) (HS.out.get 1 rfl) rfl
 simp only at cP1_31
 have cP1_32 := cAt (k := 32) (v := .int .i64 d.job.old) (HS.out.get 1 rfl) rfl
 simp only at cP1_32
 have cP1_33 := cAt (k := 33) (v := .int .i64 d.job.new) (HS.out.get 1 rfl) rfl
 simp only at cP1_33
 have cP1_34 := cAt (k := 34) (v := .int .i64 d.job.size) (HS.out.get 1 rfl) rfl
 simp only at cP1_34
 have cP1_35 := cAt (k := 35) (v := .slice h.oa h.on h.oc) (HS.out.get 1 rfl) rfl
 simp only at cP1_35
 have bP1p1 := HS.out.get 0 rfl
 simp only at bP1p1
 go_wp2_with (first
   | (refine wLW (by rfl) 28 (.tmp 3) rfl (P1 + 1) rfl 28 (rcC ⟨g, 1, false, n, f, i0, i1⟩) (0, 0) _ bP1p1 Tryz.underlying28 rfl (sRc ⟨g, 1, false, n, f, i0, i1⟩) ?_))
 clear cP1p1_2 cP1_30 cP1_31 cP1_32 cP1_33 cP1_34 cP1_35 bP1p1
 refine (HSu.out _).mono ?_
 rintro e W1 ⟨rfl, hb⟩
 replace HS := LH (HS.out.later hb)
 clear hb
 have cP1p1_5 := cAt (k := 5) (v := .int .i64 i0.ver) (HS.out.get 0 rfl) rfl
 simp only at cP1p1_5
 have cP1p1_6 := cAt (k := 6) (v := .int .i64 i0.size) (HS.out.get 0 rfl) rfl
 simp only at cP1p1_6
 have cP1p1_7 := cAt (k := 7) (v := .int .i64 i0.sum) (HS.out.get 0 rfl) rfl
 simp only at cP1p1_7
 go_wp2_with fail
 clear cP1p1_5 cP1p1_6 cP1p1_7
 refine rTu (S := MS w [((P1 + 1), (rcC ⟨g, 1, false, n, f, i0, i1⟩), 28), (P1, (dvC h d), 37)] [(fun W => DH W h d)] []) [(0, false), (1, false), (2, false), (3, false), (4, true), (5, true), (6, false), (7, false), (8, false), (9, false), (10, false)] false 9999 (by kernel_rfl) (by kernel_rfl) HS.out.drew ?_
 simp only [turned, gA, gB, gC]
 replace HS := LH HS.out.drew
 repeat (first
   | ((refine turn_part (by rfl) 35 (.tmp 29) rfl P1 30 rfl 37 (dvC h d) (fun W hW => hW.get 1 rfl) (jbC h.oa h.on h.oc d.job) (part_job h d) _ Tryz.underlying35 rfl (sJb _ _ _ _) ?_); simp only [Act.put, sA, sB, sC])
   | ((refine turn_row (by rfl) 37 (.tmp 2) rfl P1 rfl 37 (dvC h d) _ (fun W hW => hW.get 1 rfl) Tryz.underlying37 rfl (sDv h d) ?_); simp only [Act.put, sA, sB, sC])
   | ((refine turn_row (by rfl) 28 (.tmp 3) rfl (P1 + 1) rfl 28 (rcC ⟨g, 1, false, n, f, i0, i1⟩) _ (fun W hW => hW.get 0 rfl) Tryz.underlying28 rfl (sRc ⟨g, 1, false, n, f, i0, i1⟩) ?_); simp only [Act.put, sA, sB, sC])
   | (refine tSt ?_ (by rfl) (fun W9 hW9 => ?_) ?_
      rotate_left
      · (go_simp <;> with_reducible rfl)
      simp only [Act.put, sA, sB, sC])
   | (refine tSk (by rfl) ?_; simp only [Act.put, sA, sB, sC]))
 refine tCa (fun K hK => ?_)
 go_simp
 go_at_call 61
 with_reducible refine (HI.out _).mono ?_
 rintro e W2 ⟨rfl, hb⟩
 replace HS := LH (HS.out.later hb)
 clear hb
 try go_wp2_with fail
 refine hK.out _ _ HS.out ?_
 clear hK K
 try simp only [Act.put, sA, sB, sC]
 refine tCa (fun K hK => ?_)
 go_simp
 go_at_call 60
 with_reducible refine (HDo.out _ (HS.out.read 0 rfl)).mono ?_
 rintro e W3 ⟨ab, nb, cb, rfl, hbs, hb⟩
 replace HS := LH (HS.out.later hb)
 have HBS := LH hbs
 clear hbs
 clear hb
 try go_wp2_with fail
 refine hK.out _ _ HS.out ?_
 clear hK K
 try simp only [Act.put, sA, sB, sC]
 repeat (first
   | (refine tSt ?_ (by rfl) (fun W9 hW9 => ?_) ?_
      rotate_left
      · (go_simp <;> with_reducible rfl)
      simp only [Act.put, sA, sB, sC])
   | (refine tSk (by rfl) ?_; simp only [Act.put, sA, sB, sC]))
 refine tEn ?_
 obtain ⟨xb, xe⟩ := X
 simp only at HB HBS ⊢
 by_cases hE : xe = 0
 case neg =>
   have t0 : (xe != 0) = true := by simp [hE]
   have HR := LH (HB.out.trans (if_pos hE))
   go_wp2_with fail
   go_ret
   exact ⟨ret_i HR.out.symm, HS.out.below⟩
 subst hE
 replace HB := LH (HB.out.trans (if_neg (fun q => q rfl)))
 replace hsz0 := hsz0 rfl
 have HLx : Hid (xb.length ≤ 64) := HLx0 rfl
 clear HLx0
 have hsz : 0 ≤ d.job.size ∧ d.job.size ≤ 64 := hsz0
 have hw8 : IntKind.i64.wrap (d.job.size + 8) = d.job.size + 8 := IntWalk.i64_in _ (by omega)
 clear hsz0
 by_cases r1 : d.done < 0
 case pos =>
   have HR := LH (HB.out.trans (if_pos (.inl (by omega))))
   have cP1_36 := cAt (k := 36) (v := .int .i64 d.done) (HS.out.get 1 rfl) rfl
   simp only at cP1_36
   have cP1_34 := cAt (k := 34) (v := .int .i64 d.job.size) (HS.out.get 1 rfl) rfl
   simp only at cP1_34
   clear hw8 hsz
   go_wp2_with fail
   clear cP1_36 cP1_34
   go_ret
   exact ⟨ret_i HR.out.symm, HS.out.below⟩
 have n1 : decide (d.done < 0) = false := by simp; omega
 by_cases r2 : 64 < d.done
 case pos =>
   have HR := LH (HB.out.trans (if_pos (.inl (by omega))))
   have cP1_36 := cAt (k := 36) (v := .int .i64 d.done) (HS.out.get 1 rfl) rfl
   simp only at cP1_36
   have cP1_34 := cAt (k := 34) (v := .int .i64 d.job.size) (HS.out.get 1 rfl) rfl
   simp only at cP1_34
   clear hw8 hsz
   go_wp2_with fail
   clear cP1_36 cP1_34
   go_ret
   exact ⟨ret_i HR.out.symm, HS.out.below⟩
 have n2 : decide (64 < d.done) = false := by simp; omega
 obtain ⟨M, hM⟩ : ∃ M : Nat, d.done = M := ⟨d.done.toNat, by omega⟩
 have hM64 : M ≤ 64 := by omega
 have hmod : (M : Int).tmod 8 = ((M % 8 : Nat) : Int) := by rw [Int.tmod_eq_emod_of_nonneg (by omega)]; rfl
 by_cases r3 : M % 8 = 0
 case neg =>
   have n3 : (((M % 8 : Nat) : Int) != 0) = true := by simp; omega
   have HR := LH (HB.out.trans (if_pos (.inr (by omega))))
   have cP1_36 := cAt (k := 36) (v := .int .i64 d.done) (HS.out.get 1 rfl) rfl
   simp only at cP1_36
   have cP1_34 := cAt (k := 34) (v := .int .i64 d.job.size) (HS.out.get 1 rfl) rfl
   simp only at cP1_34
   rw [hM] at cP1_36 n1 n2 r1 r2
   clear hw8 hsz hM
   go_wp2_with fail
   clear cP1_36 cP1_34
   go_ret
   exact ⟨ret_i HR.out.symm, HS.out.below⟩
 have n3 : (((M % 8 : Nat) : Int) != 0) = false := by simp; omega
 by_cases r4 : d.job.size + 8 ≤ (M : Int)
 case pos =>
   have HR := LH (HB.out.trans (if_pos (.inl (by omega))))
   have cP1_36 := cAt (k := 36) (v := .int .i64 d.done) (HS.out.get 1 rfl) rfl
   simp only at cP1_36
   have cP1_34 := cAt (k := 34) (v := .int .i64 d.job.size) (HS.out.get 1 rfl) rfl
   simp only at cP1_34
   rw [hM] at cP1_36 n1 n2 r1 r2
   clear hsz hM
   go_wp2_with fail
   clear cP1_36 cP1_34
   go_ret
   exact ⟨ret_i HR.out.symm, HS.out.below⟩
 have n4 : decide (d.job.size + 8 ≤ (M : Int)) = false := by simp; omega
 replace HB := LH (HB.out.trans (if_neg (by omega)))
 have hTN : d.done.toNat = M := by omega
 rw [hTN] at HB
 clear hTN
 have cP1_36 := cAt (k := 36) (v := .int .i64 d.done) (HS.out.get 1 rfl) rfl
 simp only at cP1_36
 have cP1_34 := cAt (k := 34) (v := .int .i64 d.job.size) (HS.out.get 1 rfl) rfl
 simp only at cP1_34
 rw [hM] at cP1_36 n1 n2 r1 r2
 go_wp2_with fail
 clear cP1_36 cP1_34
 clear hw8 hsz n1 n2 n3 n4 r1 r2 r3 r4 hmod
 have hcl := fun W => rCh h.a0 h.n0 h.c0 W M (Nat.le_trans (by rw [HNo.out]; exact hM64) HCo.out)
 have hcr := fun F W => rCh (some ⟨F, 0, none⟩) 64 64 W M hM64
 have hM0 : (0 : Int) ≤ (M : Int) := by omega
 have HFl := LH (fun W (hb : BS W ab nb cb xb) => filledD_gives ab nb cb xb W hb (by rw [← hb.len]; exact HLx.out))
 have HBy := LH HBS.out.bytes
 by_cases hq2 : (DevM.slot d 0).take M = (DevM.fill xb).take M
 case pos =>
   have HEq : Hid (∀ W F, DH W h d → BS W (some ⟨F, 0, none⟩) 64 64 (DevM.fill xb) → Calls Tryz.prog 27 #[.slice h.a0 M h.c0, .slice (some ⟨F, 0, none⟩) M 64] W fun e w' => e = .returned (.bool true) ∧ Below W.heap.size W w') := fun W F hd hb => by
     refine (eqB _ _ _ _ _ _ _ _ W (hd.b0.head M (by rw [HNo.out]; exact hM64)) (hb.head M hM64)).mono ?_
     rintro e w' ⟨rfl, rfl⟩
     refine ⟨?_, Below.refl _ _⟩
     rw [decide_eq_true (show d.s0.take M = _ from hq2)]
   have HR := LH (HB.out.trans (if_neg (fun q => q hq2)))
   clear hq2
   refine rTu (S := MS w [((P1 + 1), (rcC ⟨g, 1, false, n, f, i0, i1⟩), 28), (P1, (dvC h d), 37)] [(fun W => DH W h d)] []) [(0, false), (1, false), (2, false), (3, false), (4, false), (5, false), (6, false), (7, false), (9, false), (10, false), (8, true), (11, false), (12, true), (13, false)] false 9999 (by kernel_rfl) (by kernel_rfl) HS.out.drew ?_
   simp only [turned, gA, gB, gC]
   replace HS := LH HS.out.drew
   have uP1_0 : ∀ W, MS w [((P1 + 1), (rcC ⟨g, 1, false, n, f, i0, i1⟩), 28), (P1, (dvC h d), 37)] [(fun W => DH W h d)] [] W → W.cell? ⟨P1, 0, none⟩ = some (.slice h.a0 h.n0 h.c0) := fun W hW => cAt (hW.get 1 rfl) rfl
   have uP1_36 : ∀ W, MS w [((P1 + 1), (rcC ⟨g, 1, false, n, f, i0, i1⟩), 28), (P1, (dvC h d), 37)] [(fun W => DH W h d)] [] W → W.cell? ⟨P1, 36, none⟩ = some (.int .i64 (M : Int)) := fun W hW => by
     have := cAt (k := 36) (v := .int .i64 d.done) (hW.get 1 rfl) rfl
     rwa [hM] at this
   repeat (first
     | (refine tSt ?_ (by rfl) (fun W9 hW9 => ?_) ?_
        rotate_left
        · (go_simp <;> with_reducible rfl)
        simp only [Act.put, sA, sB, sC])
     | (refine tSk (by rfl) ?_; simp only [Act.put, sA, sB, sC]))
   refine tCa (fun K hK => ?_)
   go_simp
   go_at_call 37
   with_reducible refine (HFl.out _ (HBS.out.later (Below.refl _ _).drew)).mono ?_
   rintro e W4 ⟨F, rfl, -, hbf, -, -, hb⟩
   replace HS := LH (HS.out.later hb)
   have HBF := LH hbf
   clear hbf
   clear hb
   try go_wp2_with fail
   refine hK.out _ _ HS.out ?_
   clear hK K
   try simp only [Act.put, sA, sB, sC]
   repeat (first
     | (refine tSt ?_ (by rfl) (fun W9 hW9 => ?_) ?_
        rotate_left
        · (go_simp <;> with_reducible rfl)
        simp only [Act.put, sA, sB, sC])
     | (refine tSk (by rfl) ?_; simp only [Act.put, sA, sB, sC]))
   refine tCa (fun K hK => ?_)
   go_simp
   go_at_call 27
   with_reducible refine (HEq.out _ _ (HS.out.read 0 rfl) HBF.out).mono ?_
   rintro e W5 ⟨rfl, hb⟩
   replace HS := LH (HS.out.later hb)
   clear hb
   try go_wp2_with fail
   refine hK.out _ _ HS.out ?_
   clear hK K
   try simp only [Act.put, sA, sB, sC]
   repeat (first
     | (refine tSt ?_ (by rfl) (fun W9 hW9 => ?_) ?_
        rotate_left
        · (go_simp <;> with_reducible rfl)
        simp only [Act.put, sA, sB, sC])
     | (refine tSk (by rfl) ?_; simp only [Act.put, sA, sB, sC]))
   clear uP1_0 uP1_36
   refine tEn ?_
   go_wp2_with fail
   go_ret
   exact ⟨ret_i HR.out.symm, HS.out.below⟩
 -- otherwise
 have HEq : Hid (∀ W F, DH W h d → BS W (some ⟨F, 0, none⟩) 64 64 (DevM.fill xb) → Calls Tryz.prog 27 #[.slice h.a0 M h.c0, .slice (some ⟨F, 0, none⟩) M 64] W fun e w' => e = .returned (.bool false) ∧ Below W.heap.size W w') := fun W F hd hb => by
   refine (eqB _ _ _ _ _ _ _ _ W (hd.b0.head M (by rw [HNo.out]; exact hM64)) (hb.head M hM64)).mono ?_
   rintro e w' ⟨rfl, rfl⟩
   refine ⟨?_, Below.refl _ _⟩
   rw [decide_eq_false (show ¬ d.s0.take M = _ from hq2)]
 have HR := LH (HB.out.trans (if_pos hq2))
 clear hq2
 refine rTu (S := MS w [((P1 + 1), (rcC ⟨g, 1, false, n, f, i0, i1⟩), 28), (P1, (dvC h d), 37)] [(fun W => DH W h d)] []) [(0, false), (1, false), (2, false), (3, false), (4, false), (5, false), (6, false), (7, false), (9, false), (10, false), (8, true), (11, false), (12, true), (13, false)] false 9999 (by kernel_rfl) (by kernel_rfl) HS.out.drew ?_
 simp only [turned, gA, gB, gC]
 replace HS := LH HS.out.drew
 have uP1_0 : ∀ W, MS w [((P1 + 1), (rcC ⟨g, 1, false, n, f, i0, i1⟩), 28), (P1, (dvC h d), 37)] [(fun W => DH W h d)] [] W → W.cell? ⟨P1, 0, none⟩ = some (.slice h.a0 h.n0 h.c0) := fun W hW => cAt (hW.get 1 rfl) rfl
 have uP1_36 : ∀ W, MS w [((P1 + 1), (rcC ⟨g, 1, false, n, f, i0, i1⟩), 28), (P1, (dvC h d), 37)] [(fun W => DH W h d)] [] W → W.cell? ⟨P1, 36, none⟩ = some (.int .i64 (M : Int)) := fun W hW => by
   have := cAt (k := 36) (v := .int .i64 d.done) (hW.get 1 rfl) rfl
   rwa [hM] at this
 repeat (first
   | (refine tSt ?_ (by rfl) (fun W9 hW9 => ?_) ?_
      rotate_left
      · (go_simp <;> with_reducible rfl)
      simp only [Act.put, sA, sB, sC])
   | (refine tSk (by rfl) ?_; simp only [Act.put, sA, sB, sC]))
 refine tCa (fun K hK => ?_)
 go_simp
 go_at_call 37
 with_reducible refine (HFl.out _ (HBS.out.later (Below.refl _ _).drew)).mono ?_
 rintro e W4 ⟨F, rfl, -, hbf, -, -, hb⟩
 replace HS := LH (HS.out.later hb)
 have HBF := LH hbf
 clear hbf
 clear hb
 try go_wp2_with fail
 refine hK.out _ _ HS.out ?_
 clear hK K
 try simp only [Act.put, sA, sB, sC]
 repeat (first
   | (refine tSt ?_ (by rfl) (fun W9 hW9 => ?_) ?_
      rotate_left
      · (go_simp <;> with_reducible rfl)
      simp only [Act.put, sA, sB, sC])
   | (refine tSk (by rfl) ?_; simp only [Act.put, sA, sB, sC]))
 refine tCa (fun K hK => ?_)
 go_simp
 go_at_call 27
 with_reducible refine (HEq.out _ _ (HS.out.read 0 rfl) HBF.out).mono ?_
 rintro e W5 ⟨rfl, hb⟩
 replace HS := LH (HS.out.later hb)
 clear hb
 try go_wp2_with fail
 refine hK.out _ _ HS.out ?_
 clear hK K
 try simp only [Act.put, sA, sB, sC]
 repeat (first
   | (refine tSt ?_ (by rfl) (fun W9 hW9 => ?_) ?_
      rotate_left
      · (go_simp <;> with_reducible rfl)
      simp only [Act.put, sA, sB, sC])
   | (refine tSk (by rfl) ?_; simp only [Act.put, sA, sB, sC]))
 clear uP1_0 uP1_36
 refine tEn ?_
 go_wp2_with fail
 go_ret
 exact ⟨ret_i HR.out.symm, HS.out.below⟩
theorem checkBusyD_any (h : DevH) (d : DevR) (r : RecR) (w : World) (HD : DH w h d) (hr : RecM.check r = 0) (l0 : d.s0.length = 64) (l1 : d.s1.length = 64) :
   Calls Tryz.prog 94 #[devV h d, .agg (rcC r)] w fun e w' => e = .returned (.int .i64 (DevM.busyE d r)) ∧ Below w.heap.size w w' := by
 have hn := RecM.check_nums hr
 have ha := hn.2.1
 have hi0 := RecM.check_inf hr 0
 have hi1 := RecM.check_inf hr 1
 have n0 : h.n0 = 64 := by have := HD.b0.len; omega
 have n1 : h.n1 = 64 := by have := HD.b1.len; omega
 have e0 := HD.b0.le
 have e1 := HD.b1.le
 obtain ⟨g, a, tr, n, f, i0, i1⟩ := r
 simp only at ha
 clear hr hn
 have hs0 := (RecM.inf_nums (show RecM.infErr i0 = 0 from hi0)).2.1
 have hs1 := (RecM.inf_nums (show RecM.infErr i1 = 0 from hi1)).2.1
 have z0 : i0.ver = 0 ↔ i0 = RecM.noInf := RecM.inf_none hi0
 have z1 : i1.ver = 0 ↔ i1 = RecM.noInf := RecM.inf_none hi1
 rcases ha with rfl | rfl
 · cases tr with
   | true =>
     rw [show DevM.busyE d ⟨g, 0, true, n, f, i0, i1⟩ = 3 from if_pos (.inl rfl)]
     exact busyT0 h d g n f i0 i1 w HD
   | false =>
     by_cases hs : d.job.from_ = (RecM.inf (⟨g, 0, false, n, f, i0, i1⟩ : RecR) 0).ver ∧ f ≤ d.job.to_
     · by_cases hi : i1 = RecM.noInf
       · exact busyB0 h d g n f i0 i1 hs hi i0.size.toNat (by omega) (by omega) (by omega) n1 (by omega) w HD
       · rw [show DevM.busyE d ⟨g, 0, false, n, f, i0, i1⟩ = 3 from if_pos (.inr (.inr (.inr (fun q => hi (z1.1 q)))))]
         exact busyI0 h d g n f i0 i1 hs hi w HD
     · rw [show DevM.busyE d ⟨g, 0, false, n, f, i0, i1⟩ = 3 from if_pos (by
         by_cases q : d.job.from_ = (RecM.inf (⟨g, 0, false, n, f, i0, i1⟩ : RecR) 0).ver
         · exact .inr (.inl (by simp only; omega))
         · exact .inr (.inr (.inl q)))]
       exact busyS0 h d g n f i0 i1 hs w HD
 · cases tr with
   | true =>
     rw [show DevM.busyE d ⟨g, 1, true, n, f, i0, i1⟩ = 3 from if_pos (.inl rfl)]
     exact busyT1 h d g n f i0 i1 w HD
   | false =>
     by_cases hs : d.job.from_ = (RecM.inf (⟨g, 1, false, n, f, i0, i1⟩ : RecR) 1).ver ∧ f ≤ d.job.to_
     · by_cases hi : i0 = RecM.noInf
       · exact busyB1 h d g n f i0 i1 hs hi i1.size.toNat (by omega) (by omega) (by omega) n0 (by omega) w HD
       · rw [show DevM.busyE d ⟨g, 1, false, n, f, i0, i1⟩ = 3 from if_pos (.inr (.inr (.inr (fun q => hi (z0.1 q)))))]
         exact busyI1 h d g n f i0 i1 hs hi w HD
     · rw [show DevM.busyE d ⟨g, 1, false, n, f, i0, i1⟩ = 3 from if_pos (by
         by_cases q : d.job.from_ = (RecM.inf (⟨g, 1, false, n, f, i0, i1⟩ : RecR) 1).ver
         · exact .inr (.inl (by simp only; omega))
         · exact .inr (.inr (.inl q)))]
       exact busyS1 h d g n f i0 i1 hs w HD
def GivesCs (p : PatR) (w : World) (e : Ending) (w' : World) : Prop :=
 ∃ cs err a n c, ChunkM.CutIs p cs err ∧ e = .returned (.tuple #[.slice a n c, .int .i64 err]) ∧ CS w' a n c cs ∧ Below w.heap.size w w'
def CheckCC : Prop := ∀ (v : Value) (r : ChR) (w : World), CV w v r →
 Calls Tryz.prog 101 #[v] w fun e w' => e = .returned (.int .i64 (ChunkM.check r)) ∧ Below w.heap.size w w'
def ListCC : Prop := ∀ (a : Option Addr) (n c : Nat) (l : List ChR) (w : World), CS w a n c l →
 Calls Tryz.prog 93 #[.slice a n c] w fun e w' => e = .returned (.int .i64 (ChunkM.checks l)) ∧ Below w.heap.size w w'
def SameCC : Prop := ∀ (a a' : Option Addr) (n c n' c' : Nat) (x y : List ChR) (w : World), CS w a n c x → CS w a' n' c' y →
 Calls Tryz.prog 51 #[.slice a n c, .slice a' n' c'] w fun e w' => e = .returned (.bool (decide (x = y))) ∧ Below w.heap.size w w'
theorem isVersionC_any (x : Int) (w : World) :
   Calls Tryz.prog 133 #[.int .i64 x] w fun e w' => e = .returned (.bool (decide (1 ≤ x ∧ x ≤ 30))) ∧ w = w' := by
 by_cases h : 1 ≤ x
 · go_enter Tryz.func133, Tryz.ntmps133
   go_wp2
   go_ret
   exact ⟨by simp [h], rfl⟩
 · go_enter Tryz.func133, Tryz.ntmps133
   go_wp2
   go_ret
   exact ⟨by simp; omega, rfl⟩
theorem checkC_ok : CheckCC := by
 intro v r w hv
 obtain ⟨a, m, c, rfl, hd, h1, h2, h3, h4⟩ := hv
 obtain ⟨f, t, n, o, D⟩ := r
 simp only at hd h1 h2 h3 h4 ⊢
 have HDL := LH hd.len
 have hm : m ≤ 9223372036854775807 := by have := hd.le; have := hd.max; omega
 have HB := LH ((Below.refl w.heap.size w).alloc (Nat.le_refl _) (.cells #[.int .i64 f, .int .i64 t, .int .i64 n, .int .i64 o, .slice a m c] 39))
 have HBad : Hid (ChunkM.badNums ⟨f, t, n, o, D⟩ → ChunkM.check ⟨f, t, n, o, D⟩ = 2) := by
   show _ → _
   intro h
   unfold ChunkM.check
   rw [if_pos h]
 unfold I64 at h1 h2 h3 h4
 clear hd
 go_enter Tryz.func101, Tryz.ntmps101
 go_wp2_with fail
 refine (isVersionC_any f _).mono ?_
 rintro e w' ⟨rfl, rfl⟩
 by_cases c1 : 1 ≤ f ∧ f ≤ 30
 · rw [decide_eq_true c1]
   go_wp2_with fail
   refine (isVersionC_any t _).mono ?_
   rintro e w' ⟨rfl, rfl⟩
   by_cases c2 : 1 ≤ t ∧ t ≤ 30
   · rw [decide_eq_true c2]
     by_cases c3 : o < 1
     · have HE := LH (HBad.out (.inr (.inr (.inl (fun h => absurd h.1 (by simp only; omega))))))
       go_wp2_with fail
       go_ret
       exact ⟨ret_chk HE.out.symm, HB.out⟩
     by_cases c3' : 52 < o
     · have HE := LH (HBad.out (.inr (.inr (.inl (fun h => absurd h.2 (by simp only; omega))))))
       go_wp2_with fail
       go_ret
       exact ⟨ret_chk HE.out.symm, HB.out⟩
     by_cases c4 : n < 0
     · have HE := LH (HBad.out (.inr (.inr (.inr (.inl c4)))))
       go_wp2_with fail
       go_ret
       exact ⟨ret_chk HE.out.symm, HB.out⟩
     by_cases c5 : o ≤ n
     · have HE := LH (HBad.out (.inr (.inr (.inr (.inr c5)))))
       go_wp2_with fail
       go_ret
       exact ⟨ret_chk HE.out.symm, HB.out⟩
     have HG : Hid (¬ ChunkM.badNums ⟨f, t, n, o, D⟩) := by
       show ¬ _
       unfold ChunkM.badNums
       simp only
       omega
     obtain ⟨O1, hO1⟩ : ∃ O1, o - 1 = O1 := ⟨_, rfl⟩
     by_cases c6 : n = O1
     · subst c6
       have t6 : (n == n) = true := by simp
       have HE : Hid (ChunkM.check ⟨f, t, n, o, D⟩ = if ¬ (1 ≤ (m : Int) ∧ (m : Int) ≤ 16) then 3 else 0) := by
         show _ = _
         rw [ChunkM.check_last HG.out hO1.symm]
         simp only [HDL.out]
       by_cases c7 : (m : Int) < 1
       · go_wp2_with fail
         go_ret
         exact ⟨ret_chk (by rw [HE.out, if_pos (by omega)]), HB.out⟩
       by_cases c8 : (16 : Int) < m
       · have c8' : 16 < m := by omega
         go_wp2_with fail
         go_ret
         exact ⟨ret_chk (by rw [HE.out, if_pos (by omega)]), HB.out⟩
       · have c8' : ¬ 16 < m := by omega
         go_wp2_with fail
         go_ret
         exact ⟨ret_chk (by rw [HE.out, if_neg (by omega)]), HB.out⟩
     · have t6 : (n == O1) = false := by simp [c6]
       have HE : Hid (ChunkM.check ⟨f, t, n, o, D⟩ = if ¬ (16 ≤ (m : Int) ∧ (m : Int) ≤ 16) then 3 else 0) := by
         show _ = _
         rw [ChunkM.check_mid HG.out (by simp only; rw [hO1]; exact c6)]
         simp only [HDL.out]
       by_cases c7 : (m : Int) < 16
       · have c7' : m < 16 := by omega
         go_wp2_with fail
         go_ret
         exact ⟨ret_chk (by rw [HE.out, if_pos (by omega)]), HB.out⟩
       have c7' : ¬ m < 16 := by omega
       by_cases c8 : (16 : Int) < m
       · have c8' : 16 < m := by omega
         go_wp2_with fail
         go_ret
         exact ⟨ret_chk (by rw [HE.out, if_pos (by omega)]), HB.out⟩
       · have c8' : ¬ 16 < m := by omega
         go_wp2_with fail
         go_ret
         exact ⟨ret_chk (by rw [HE.out, if_neg (by omega)]), HB.out⟩
   · rw [decide_eq_false c2]
     have HE := LH (HBad.out (.inr (.inl c2)))
     go_wp2_with fail
     go_ret
     exact ⟨ret_chk HE.out.symm, HB.out⟩
 · rw [decide_eq_false c1]
   have HE := LH (HBad.out (.inl c1))
   go_wp2_with fail
   go_ret
   exact ⟨ret_chk HE.out.symm, HB.out⟩
theorem two_chs (w : World) (A B C E A' B' C' E' : Int) (v v' : Value) : ∀ W, Below ((w.alloc (.cells #[.int .i64 A, .int .i64 B, .int .i64 C, .int .i64 E, v] 39)).alloc (.cells #[.int .i64 A', .int .i64 B', .int .i64 C', .int .i64 E', v'] 39)).heap.size ((w.alloc (.cells #[.int .i64 A, .int .i64 B, .int .i64 C, .int .i64 E, v] 39)).alloc (.cells #[.int .i64 A', .int .i64 B', .int .i64 C', .int .i64 E', v'] 39)) W →
   W.cell? ⟨w.heap.size, 2, none⟩ = some (.int .i64 C) ∧ W.cell? ⟨w.heap.size, 4, none⟩ = some v ∧ W.cell? ⟨w.heap.size + 1, 2, none⟩ = some (.int .i64 C') ∧ W.cell? ⟨w.heap.size + 1, 4, none⟩ = some v' := by
 intro W hb
 have e1 : (w.alloc (.cells #[.int .i64 A, .int .i64 B, .int .i64 C, .int .i64 E, v] 39)).heap.size = w.heap.size + 1 := by simp
 have h0 : ((w.alloc (.cells #[.int .i64 A, .int .i64 B, .int .i64 C, .int .i64 E, v] 39)).alloc (.cells #[.int .i64 A', .int .i64 B', .int .i64 C', .int .i64 E', v'] 39)).heap[w.heap.size]? = some (.cells #[.int .i64 A, .int .i64 B, .int .i64 C, .int .i64 E, v] 39 (0, 0)) := by
   rw [hpA, if_neg (by rw [e1]; omega), hpA, if_pos rfl]
 have h1 : ((w.alloc (.cells #[.int .i64 A, .int .i64 B, .int .i64 C, .int .i64 E, v] 39)).alloc (.cells #[.int .i64 A', .int .i64 B', .int .i64 C', .int .i64 E', v'] 39)).heap[w.heap.size + 1]? = some (.cells #[.int .i64 A', .int .i64 B', .int .i64 C', .int .i64 E', v'] 39 (0, 0)) := by
   rw [hpA, if_pos e1.symm]
 refine ⟨cell_later hb ?_, cell_later hb ?_, cell_later hb ?_, cell_later hb ?_⟩
 · simp only [World.cell?, h0]; rfl
 · simp only [World.cell?, h0]; rfl
 · simp only [World.cell?, h1]; rfl
 · simp only [World.cell?, h1]; rfl
theorem kinC_any (v v' : Value) (x y : ChR) (w : World) (h : CV w v x) (h' : CV w v' y) :
   Calls Tryz.prog 97 #[v, v'] w fun e w' => e = .returned (.bool (decide (ChunkM.kin x y))) ∧ Below w.heap.size w w' := by
 obtain ⟨va, vn, vc, rfl, hd, -⟩ := h
 obtain ⟨va', vn', vc', rfl, hd', -⟩ := h'
 obtain ⟨A, B, C, E, D⟩ := x
 obtain ⟨A', B', C', E', D'⟩ := y
 simp only at hd hd' ⊢
 have hB1 := (Below.refl w.heap.size w).alloc (Nat.le_refl _) (.cells #[.int .i64 A, .int .i64 B, .int .i64 C, .int .i64 E, .slice va vn vc] 39)
 have HB := LH (hB1.alloc (by simp) (.cells #[.int .i64 A', .int .i64 B', .int .i64 C', .int .i64 E', .slice va' vn' vc'] 39))
 clear hB1 hd hd'
 by_cases h1 : A = A'
 · subst h1
   have t1 : (A == A) = true := by simp
   by_cases h2 : B = B'
   · subst h2
     have t2 : (B == B) = true := by simp
     by_cases h4 : E = E'
     · subst h4
       have t4 : (E == E) = true := by simp
       go_enter Tryz.func97, Tryz.ntmps97
       go_wp2_with fail
       go_ret
       exact ⟨ret_bool (by simp [ChunkM.kin]), HB.out⟩
     · have t4 : (E == E') = false := by simp [h4]
       go_enter Tryz.func97, Tryz.ntmps97
       go_wp2_with fail
       go_ret
       exact ⟨ret_bool (by simp [ChunkM.kin, h4]), HB.out⟩
   · have t2 : (B == B') = false := by simp [h2]
     go_enter Tryz.func97, Tryz.ntmps97
     go_wp2_with fail
     go_ret
     exact ⟨ret_bool (by simp [ChunkM.kin, h2]), HB.out⟩
 · have t1 : (A == A') = false := by simp [h1]
   go_enter Tryz.func97, Tryz.ntmps97
   go_wp2_with fail
   go_ret
   exact ⟨ret_bool (by simp [ChunkM.kin, h1]), HB.out⟩
structure KinW (w : World) (b o C : Nat) (x y : ChR) (xa : Option Addr) (xm xc : Nat) (ya : Option Addr) (ym yc : Nat) (W : World) : Prop where
 x0 : W.cell? ⟨b, o, none⟩ = some (.int .i64 x.fr)
 x1 : W.cell? ⟨b, o + 1, none⟩ = some (.int .i64 x.to_)
 x2 : W.cell? ⟨b, o + 2, none⟩ = some (.int .i64 x.n)
 x3 : W.cell? ⟨b, o + 3, none⟩ = some (.int .i64 x.of_)
 x4 : W.cell? ⟨b, o + 4, none⟩ = some (.slice xa xm xc)
 blk : W.heap[C]? = some (.cells #[.int .i64 y.fr, .int .i64 y.to_, .int .i64 y.n, .int .i64 y.of_, .slice ya ym yc] 39 (0, 0))
 cx : CV W (.agg #[.int .i64 x.fr, .int .i64 x.to_, .int .i64 x.n, .int .i64 x.of_, .slice xa xm xc]) x
 cy : CV W (.agg #[.int .i64 y.fr, .int .i64 y.to_, .int .i64 y.n, .int .i64 y.of_, .slice ya ym yc]) y
 below : Below w.heap.size w W
section
variable {w : World} {b o C : Nat} {x y : ChR} {xa : Option Addr} {xm xc : Nat} {ya : Option Addr} {ym yc : Nat} {W W' : World}
theorem KinW.later (h : KinW w b o C x y xa xm xc ya ym yc W) (hb : Below W.heap.size W W') : KinW w b o C x y xa xm xc ya ym yc W' :=
 ⟨cell_later hb h.x0, cell_later hb h.x1, cell_later hb h.x2, cell_later hb h.x3, cell_later hb h.x4, (hb.block C (lt_blk h.blk)).trans h.blk, h.cx.later hb, h.cy.later hb, bTh h.below hb⟩
theorem KinW.cells (h : KinW w b o C x y xa xm xc ya ym yc W) : W.cell? ⟨b, o, none⟩ = some (.int .i64 x.fr) ∧ W.cell? ⟨b, o + 1, none⟩ = some (.int .i64 x.to_) ∧ W.cell? ⟨b, o + 2, none⟩ = some (.int .i64 x.n) ∧ W.cell? ⟨b, o + 3, none⟩ = some (.int .i64 x.of_) ∧ W.cell? ⟨b, o + 4, none⟩ = some (.slice xa xm xc) ∧
   W.cell? ⟨C, 0, none⟩ = some (.int .i64 y.fr) ∧ W.cell? ⟨C, 1, none⟩ = some (.int .i64 y.to_) ∧ W.cell? ⟨C, 2, none⟩ = some (.int .i64 y.n) ∧ W.cell? ⟨C, 3, none⟩ = some (.int .i64 y.of_) ∧ W.cell? ⟨C, 4, none⟩ = some (.slice ya ym yc) := by
 refine ⟨h.x0, h.x1, h.x2, h.x3, h.x4, ?_⟩
 simp [World.cell?, h.blk]
end
theorem ch_cells {W : World} {B : Nat} {v0 v1 v2 v3 v4 : Value} (h : W.heap[B]? = some (.cells #[v0, v1, v2, v3, v4] 39 (0, 0))) : W.cell? ⟨B, 0, none⟩ = some v0 ∧ W.cell? ⟨B, 1, none⟩ = some v1 ∧ W.cell? ⟨B, 2, none⟩ = some v2 ∧ W.cell? ⟨B, 3, none⟩ = some v3 ∧ W.cell? ⟨B, 4, none⟩ = some v4 := by
 simp [World.cell?, h]
theorem drop_ch (l : List ChR) (k : Nat) (h : k < l.length) : l.drop k = l.getD k default :: l.drop (k + 1) := by
 rw [List.drop_eq_getElem_cons h]; simp [List.getD_eq_getElem?_getD, List.getElem?_eq_getElem h]
def lastOf (l : List ChR) (k : Nat) : Int := if k = 0 then -1 else (l.getD (k - 1) default).n
theorem lastOf_succ (l : List ChR) (k : Nat) : lastOf l (k + 1) = (l.getD k default).n := by unfold lastOf; rw [if_neg (by omega)]; rfl
def ListRel (l : List ChR) (w : World) (i : Value) (wr : World) : Prop :=
 ∃ k : Nat, i = .int .i64 k ∧ k ≤ l.length ∧ ChunkM.chks (l.getD 0 default) (l.drop k) (lastOf l k) = ChunkM.checks l ∧ (0 < k → ChunkM.kin (l.getD (k - 1) default) (l.getD 0 default)) ∧ Below w.heap.size w wr
theorem kin_via {p x z : ChR} (h : ChunkM.kin p z) : ChunkM.kin x z ↔ ChunkM.kin p x := by
 obtain ⟨h1, h2, h3⟩ := h
 unfold ChunkM.kin
 rw [h1, h2, h3]
 exact ⟨fun q => ⟨q.1.symm, q.2.1.symm, q.2.2.symm⟩, fun q => ⟨q.1.symm, q.2.1.symm, q.2.2.symm⟩⟩
theorem listC_ok : ListCC := by
 intro a n c l w hl
 have HL := LH hl
 have HLn := LH hl.len
 have hlen : n ≤ 9223372036854775807 := by have := hl.le; have := hl.max; omega
 clear hl
 go_enter Tryz.func93, Tryz.ntmps93
 go_wp2_with fail
 go_loopw [8] (fun i wr => ListRel l w i wr) (fun i _ => n - (intOf i).toNat)
 case atStart => exact ⟨0, rfl, Nat.zero_le _, by cases l <;> rfl, fun h => absurd h (by omega), Below.refl _ _⟩
 case round =>
   obtain ⟨k, rfl, hk, hc, hkin, hB⟩ := hrel
   rw [HLn.out] at hk
   have HC := LH hc
   have HB := LH hB
   have HKin := LH hkin
   clear hc hB hkin
   by_cases hlt : k < n
   · obtain ⟨b, off, rfl, hcs⟩ := (HL.out.later HB.out).cells (by omega)
     have hqk := hcs k hlt
     have HD := LH (drop_ch l k (by rw [HLn.out]; exact hlt))
     have HLs := LH (lastOf_succ l k)
     have HZ0 : Hid (k = 0 → l.getD k default = l.getD 0 default) := by
       show _ → _
       rintro rfl
       rfl
     obtain ⟨x, hx⟩ : ∃ x, l.getD k default = x := ⟨_, rfl⟩
     rw [hx] at hqk HD HLs HZ0
     clear hx
     obtain ⟨va, vm, vc, q0, q1, q2, q3, q4, q5, qI⟩ := hqk
     obtain ⟨F, T, N, O, D⟩ := x
     simp only at q0 q1 q2 q3 q4 q5 HLs
     have hbl : Below wr.heap.size wr (wr.alloc (.cells #[.int .i64 F, .int .i64 T, .int .i64 N, .int .i64 O, .slice va vm vc] 39)) := (Below.refl _ _).alloc (Nat.le_refl _) _
     have HCV : Hid (CV (wr.alloc (.cells #[.int .i64 F, .int .i64 T, .int .i64 N, .int .i64 O, .slice va vm vc] 39)) (.agg #[.int .i64 F, .int .i64 T, .int .i64 N, .int .i64 O, .slice va vm vc]) ⟨F, T, N, O, D⟩) := ⟨va, vm, vc, rfl, q5.later hbl, qI⟩
     have HBL := LH (bTh HB.out hbl)
     obtain ⟨C, hCC⟩ : ∃ C, wr.heap.size = C := ⟨_, rfl⟩
     have hblk : (wr.alloc (.cells #[.int .i64 F, .int .i64 T, .int .i64 N, .int .i64 O, .slice va vm vc] 39)).heap[C]? = some (.cells #[.int .i64 F, .int .i64 T, .int .i64 N, .int .i64 O, .slice va vm vc] 39 (0, 0)) := by rw [hpA, if_pos hCC.symm]
     have HBlk := LH hblk
     have HBl := LH hbl
     have HCS : Hid (∀ i, i < n → ChAt wr b (off + i * 5) (l.getD i default)) := hcs
     clear hcs q5 qI hbl hblk
     go_wp2_with fail
     refine (checkC_ok _ _ _ HCV.out).mono ?_
     rintro e W2 ⟨rfl, hb2⟩
     have hb02 := bTh HBl.out hb2
     have HB2 := LH (bTh HBL.out hb2)
     have hblk2 := (hb2.block _ (lt_blk HBlk.out)).trans HBlk.out
     have HCV2 := LH (HCV.out.later hb2)
     have HB02 := LH hb02
     have HBlk2 := LH hblk2
     obtain ⟨p0, p1, p2, p3, p4⟩ := ch_cells hblk2
     clear hb2 HBlk HBL HCV HBl q0 q1 q2 q3 q4 hb02 hblk2
     by_cases e0 : ChunkM.check ⟨F, T, N, O, D⟩ = 0
     · have HE0 := LH e0
       rw [e0]
       have hgood := ChunkM.check_good e0
       simp only at hgood
       obtain ⟨-, -, go, gn, -⟩ := hgood
       clear e0
       by_cases hk0 : 0 < k
       · obtain ⟨J, hJ⟩ : ∃ J : Nat, (k : Int) - 1 = J := ⟨k - 1, by omega⟩
         have hJk : k - 1 = J := by omega
         have hJn : J < n := by omega
         have hJ0 : (0 : Int) ≤ (J : Int) := by omega
         have hJn' : (J : Int) < (n : Int) := by omega
         have hk0' : (0 : Int) < (k : Int) := by omega
         have dk0 : decide (0 < k) = true := by simp [hk0]
         have hw1 : IntKind.i64.wrap ((k : Int) - 1) = J := by rw [hJ]; exact IntWalk.i64_in _ (by omega)
         have hw2 : IntKind.i64.wrap (J : Int) = J := IntWalk.i64_in _ (by omega)
         have hqj := HCS.out J hJn
         have HKz := LH (HKin.out hk0)
         have HLast : Hid (lastOf l k = (l.getD J default).n) := by
           show _ = _
           unfold lastOf
           rw [if_neg (by omega), hJk]
         rw [hJk] at HKz
         generalize l.getD J default = pv at hqj HKz HLast
         obtain ⟨ua, um, uc, u0, u1, u2, u3, u4, u5, uI⟩ := hqj
         obtain ⟨PF, PT, PN, PO, PD⟩ := pv
         simp only at u0 u1 u2 u3 u4 u5 HLast
         have HW : Hid (KinW w b (off + J * 5) C ⟨PF, PT, PN, PO, PD⟩ ⟨F, T, N, O, D⟩ ua um uc va vm vc W2) :=
           ⟨cell_later HB02.out u0, cell_later HB02.out u1, cell_later HB02.out u2, cell_later HB02.out u3, cell_later HB02.out u4, HBlk2.out, ⟨ua, um, uc, rfl, u5.later HB02.out, uI⟩, HCV2.out, HB2.out⟩
         obtain ⟨J5, hJ5⟩ : ∃ J5, off + J * 5 = J5 := ⟨_, rfl⟩
         rw [hJ5] at HW
         clear u0 u1 u2 u3 u4 u5 uI HCV2 HBlk2 HB02 HB2 p0 p1 p2 p3 p4 hJk
         have HF3 : Hid (¬ ChunkM.kin ⟨PF, PT, PN, PO, PD⟩ ⟨F, T, N, O, D⟩ ∨ N ≤ PN → ChunkM.checks l = 3) := by
           show _ → _
           intro h
           rw [← HC.out, HD.out, HLast.out]
           refine ChunkM.chks_form HE0.out ?_
           rw [kin_via HKz.out]
           exact h
         obtain ⟨c0, c1, c2, c3, c4, d0, d1, d2, d3, d4⟩ := HW.out.cells
         simp only at c0 c1 c2 c3 c4 d0 d1 d2 d3 d4
         by_cases hkk : ChunkM.kin ⟨PF, PT, PN, PO, PD⟩ ⟨F, T, N, O, D⟩
         · have HKK : Hid (∀ W, CV W (.agg #[.int .i64 PF, .int .i64 PT, .int .i64 PN, .int .i64 PO, .slice ua um uc]) ⟨PF, PT, PN, PO, PD⟩ → CV W (.agg #[.int .i64 F, .int .i64 T, .int .i64 N, .int .i64 O, .slice va vm vc]) ⟨F, T, N, O, D⟩ → Calls Tryz.prog 97 #[.agg #[.int .i64 PF, .int .i64 PT, .int .i64 PN, .int .i64 PO, .slice ua um uc], .agg #[.int .i64 F, .int .i64 T, .int .i64 N, .int .i64 O, .slice va vm vc]] W fun e w' => e = .returned (.bool true) ∧ Below W.heap.size W w') := by
             show ∀ W, _
             intro W h1 h2
             have := kinC_any _ _ _ _ W h1 h2
             rwa [decide_eq_true hkk] at this
           have HKn := LH hkk
           clear hkk
           by_cases e4 : N ≤ PN
           · have t4 : decide (N ≤ PN) = true := by simp [e4]
             have HR := LH (HF3.out (.inr e4))
             go_wp2_with fail
             replace HW := LH (HW.out.later (Below.refl _ _).drew)
             go_region_held3 (fun W => W.cell? ⟨b, J5, none⟩ = some (.int .i64 PF) ∧ W.cell? ⟨b, J5 + 1, none⟩ = some (.int .i64 PT) ∧ W.cell? ⟨b, J5 + 2, none⟩ = some (.int .i64 PN) ∧ W.cell? ⟨b, J5 + 3, none⟩ = some (.int .i64 PO) ∧ W.cell? ⟨b, J5 + 4, none⟩ = some (.slice ua um uc) ∧
               W.cell? ⟨C, 0, none⟩ = some (.int .i64 F) ∧ W.cell? ⟨C, 1, none⟩ = some (.int .i64 T) ∧ W.cell? ⟨C, 2, none⟩ = some (.int .i64 N) ∧ W.cell? ⟨C, 3, none⟩ = some (.int .i64 O) ∧ W.cell? ⟨C, 4, none⟩ = some (.slice va vm vc))
               (exact HW.out.cells)
               (first | (go_at_call 97; refine (HKK.out _ HW.out.cx HW.out.cy).mono ?_; rintro e Wa ⟨rfl, da⟩; replace HW := LH (HW.out.later da); clear da))
             all_goals
               go_wp2_with fail
               go_ret
               exact ⟨ret_chk HR.out.symm, HW.out.below⟩
           · have t4 : decide (N ≤ PN) = false := by simp; omega
             go_wp2_with fail
             replace HW := LH (HW.out.later (Below.refl _ _).drew)
             go_region_held3 (fun W => W.cell? ⟨b, J5, none⟩ = some (.int .i64 PF) ∧ W.cell? ⟨b, J5 + 1, none⟩ = some (.int .i64 PT) ∧ W.cell? ⟨b, J5 + 2, none⟩ = some (.int .i64 PN) ∧ W.cell? ⟨b, J5 + 3, none⟩ = some (.int .i64 PO) ∧ W.cell? ⟨b, J5 + 4, none⟩ = some (.slice ua um uc) ∧
               W.cell? ⟨C, 0, none⟩ = some (.int .i64 F) ∧ W.cell? ⟨C, 1, none⟩ = some (.int .i64 T) ∧ W.cell? ⟨C, 2, none⟩ = some (.int .i64 N) ∧ W.cell? ⟨C, 3, none⟩ = some (.int .i64 O) ∧ W.cell? ⟨C, 4, none⟩ = some (.slice va vm vc))
               (exact HW.out.cells)
               (first | (go_at_call 97; refine (HKK.out _ HW.out.cx HW.out.cy).mono ?_; rintro e Wa ⟨rfl, da⟩; replace HW := LH (HW.out.later da); clear da))
             all_goals
               go_wp2_with fail
               go_roundw
               case rel =>
                 refine ⟨k + 1, by go_num, by rw [HLn.out]; omega, ?_, fun _ => ?_, HW.out.below⟩
                 · rw [HLs.out, ← HC.out, HD.out, HLast.out]
                   exact (ChunkM.chks_on (last := PN) HE0.out ((kin_via HKz.out).2 HKn.out) (by simp only; omega)).symm
                 · have := (kin_via HKz.out).2 HKn.out
                   have h9 := congrArg (·.getD 0 default) HD.out
                   simp only [List.getD_cons_zero] at h9
                   rw [Nat.add_sub_cancel]
                   rw [List.getD_eq_getElem?_getD, List.getElem?_drop, Nat.add_zero, ← List.getD_eq_getElem?_getD] at h9
                   rw [h9]
                   exact this
               case measure => simp [intOf]; omega
         · have HKK : Hid (∀ W, CV W (.agg #[.int .i64 PF, .int .i64 PT, .int .i64 PN, .int .i64 PO, .slice ua um uc]) ⟨PF, PT, PN, PO, PD⟩ → CV W (.agg #[.int .i64 F, .int .i64 T, .int .i64 N, .int .i64 O, .slice va vm vc]) ⟨F, T, N, O, D⟩ → Calls Tryz.prog 97 #[.agg #[.int .i64 PF, .int .i64 PT, .int .i64 PN, .int .i64 PO, .slice ua um uc], .agg #[.int .i64 F, .int .i64 T, .int .i64 N, .int .i64 O, .slice va vm vc]] W fun e w' => e = .returned (.bool false) ∧ Below W.heap.size W w') := by
             show ∀ W, _
             intro W h1 h2
             have := kinC_any _ _ _ _ W h1 h2
             rwa [decide_eq_false hkk] at this
           have HR := LH (HF3.out (.inl hkk))
           clear hkk
           go_wp2_with fail
           refine wp_region_quiet (C := fun W => KinW w b J5 C ⟨PF, PT, PN, PO, PD⟩ ⟨F, T, N, O, D⟩ ua um uc va vm vc W) (by kernel_rfl) (by kernel_rfl) (HW.out.later (Below.refl _ _).drew) ?_
           clear c0 c1 c2 c3 c4 d0 d1 d2 d3 d4
           dsimp only
           repeat (first
             | go_big_quiet_skip
             | (go_big_quiet_want
                first
                  | (go_big_quiet_op
                     go_big_quiet_on)
                  | (unfold Oper.quiet
                     apply Exists.intro
                     refine ⟨fun W9 hW9 => ?_, ?_⟩
                     · obtain ⟨c0, c1, c2, c3, c4, d0, d1, d2, d3, d4⟩ := hW9.cells
                       simp only at c0 c1 c2 c3 c4 d0 d1 d2 d3 d4
                       go_simp
                       first
                         | with_reducible rfl
                         | (go_at_call 97; exact (HKK.out _ hW9.cx hW9.cy).mono (fun _ _ h => ⟨h.1, hW9.later h.2⟩))
                     simp only [Act.put, sA, sB, sC]
                     go_big_quiet_on)))
           refine wpQuiet_nil ?_
           intro W9 hW9
           go_wp2_with fail
           go_ret
           exact ⟨ret_chk HR.out.symm, hW9.below⟩
       · obtain rfl : k = 0 := by omega
         have HZ := LH (HZ0.out rfl)
         clear HCV2 HBlk2 HB02 HCS
         go_wp2_with fail
         go_quiet (fail)
         have HB4 := LH (below_drewN HB2.out nq)
         go_wp2_with fail
         go_roundw
         case rel =>
           refine ⟨1, by go_num, by rw [HLn.out]; omega, ?_, fun _ => ?_, HB4.out⟩
           · rw [HLs.out, ← HC.out, HD.out, ← HZ.out]
             exact (ChunkM.chks_on (z := ⟨F, T, N, O, D⟩) (last := -1) HE0.out ⟨rfl, rfl, rfl⟩ (by simp only; omega)).symm
           · exact ⟨rfl, rfl, rfl⟩
         case measure => simp [intOf]; omega
     · obtain ⟨E, hE⟩ : ∃ E, ChunkM.check ⟨F, T, N, O, D⟩ = E := ⟨_, rfl⟩
       have HE : Hid (ChunkM.checks l = E) := by
         show _ = _
         rw [← HC.out, HD.out, ChunkM.chks_bad e0, hE]
       rw [hE] at e0 ⊢
       have t0 : (E != 0) = true := by simp [e0]
       clear hE
       go_wp2_with fail
       go_ret
       exact ⟨ret_chk HE.out.symm, HB2.out⟩
   · have hdr : l.drop k = [] := List.drop_eq_nil_of_le (by rw [HLn.out]; omega)
     have HE : Hid (ChunkM.checks l = 0) := by
       show _ = _
       rw [← HC.out, hdr]
       rfl
     go_wp2_with fail
     go_ret
     exact ⟨ret_chk HE.out.symm, HB.out⟩
def SameRelC (x y : List ChR) (w : World) (i : Value) (wr : World) : Prop :=
 ∃ k : Nat, i = .int .i64 k ∧ k ≤ x.length ∧ x.take k = y.take k ∧ Below w.heap.size w wr
theorem take_moreC {x y : List ChR} {k : Nat} (h : x.take k = y.take k) (hx : k < x.length) (hy : k < y.length) (he : x.getD k default = y.getD k default) : x.take (k + 1) = y.take (k + 1) := by
 rw [List.take_add_one, List.take_add_one, h]
 simp only [List.getD_eq_getElem?_getD, List.getElem?_eq_getElem hx, List.getElem?_eq_getElem hy, Option.getD_some] at he
 simp [List.getElem?_eq_getElem hx, List.getElem?_eq_getElem hy, he]
theorem ne_of_atC {x y : List ChR} {k : Nat} (h : x.getD k default ≠ y.getD k default) : decide (x = y) = false := by
 rw [decide_eq_false]
 rintro rfl
 exact h rfl
theorem sameC1_any (v v' : Value) (x y : ChR) (w : World) (h : CV w v x) (h' : CV w v' y) :
   Calls Tryz.prog 96 #[v, v'] w fun e w' => e = .returned (.bool (decide (x = y))) ∧ Below w.heap.size w w' := by
 obtain ⟨va, vn, vc, rfl, hd, hI⟩ := h
 obtain ⟨va', vn', vc', rfl, hd', hI'⟩ := h'
 obtain ⟨A, B, C, E, D⟩ := x
 obtain ⟨A', B', C', E', D'⟩ := y
 simp only at hd hd' ⊢
 have hB1 := (Below.refl w.heap.size w).alloc (Nat.le_refl _) (.cells #[.int .i64 A, .int .i64 B, .int .i64 C, .int .i64 E, .slice va vn vc] 39)
 have hB2 := hB1.alloc (by simp) (.cells #[.int .i64 A', .int .i64 B', .int .i64 C', .int .i64 E', .slice va' vn' vc'] 39)
 have HX : Hid (CV ((w.alloc (.cells #[.int .i64 A, .int .i64 B, .int .i64 C, .int .i64 E, .slice va vn vc] 39)).alloc (.cells #[.int .i64 A', .int .i64 B', .int .i64 C', .int .i64 E', .slice va' vn' vc'] 39)) (.agg #[.int .i64 A, .int .i64 B, .int .i64 C, .int .i64 E, .slice va vn vc]) ⟨A, B, C, E, D⟩) := ⟨va, vn, vc, rfl, hd.later hB2, hI⟩
 have HY : Hid (CV ((w.alloc (.cells #[.int .i64 A, .int .i64 B, .int .i64 C, .int .i64 E, .slice va vn vc] 39)).alloc (.cells #[.int .i64 A', .int .i64 B', .int .i64 C', .int .i64 E', .slice va' vn' vc'] 39)) (.agg #[.int .i64 A', .int .i64 B', .int .i64 C', .int .i64 E', .slice va' vn' vc']) ⟨A', B', C', E', D'⟩) := ⟨va', vn', vc', rfl, hd'.later hB2, hI'⟩
 have HQ := LH (hd.later hB2)
 have HP := LH (hd'.later hB2)
 have HB := LH hB2
 have HEQ := LH (eqB va va' vn vc vn' vc' D D')
 have HBk := LH (two_chs w A B C E A' B' C' E' (.slice va vn vc) (.slice va' vn' vc'))
 obtain ⟨B0, hB0⟩ : ∃ B0, w.heap.size = B0 := ⟨_, rfl⟩
 clear hB1 hB2 hd hd'
 go_enter Tryz.func96, Tryz.ntmps96
 go_wp2_with fail
 refine (kinC_any _ _ _ _ _ HX.out HY.out).mono ?_
 rintro e W2 ⟨rfl, b2⟩
 have HB2 := LH (bTh HB.out b2)
 have HQ2 := LH (HQ.out.later b2)
 have HP2 := LH (HP.out.later b2)
 obtain ⟨p2, p4, q2, q4⟩ := HBk.out _ b2
 rw [hB0] at p2 p4 q2 q4
 clear b2 HX HY HQ HP HBk
 by_cases hk : ChunkM.kin ⟨A, B, C, E, D⟩ ⟨A', B', C', E', D'⟩
 · rw [decide_eq_true hk]
   obtain ⟨k1, k2, k3⟩ := hk
   simp only at k1 k2 k3
   subst k1 k2 k3
   by_cases h3 : C = C'
   · subst h3
     have t3 : (C == C) = true := by simp
     go_wp2_with fail
     refine (HEQ.out _ HQ2.out HP2.out).mono ?_
     rintro e w' ⟨rfl, rfl⟩
     go_wp2_with fail
     go_ret
     exact ⟨ret_bool (by simp), HB2.out⟩
   · have t3 : (C == C') = false := by simp [h3]
     go_wp2_with fail
     go_ret
     exact ⟨ret_bool (by simp [h3]), HB2.out⟩
 · rw [decide_eq_false hk]
   have hne : decide ((⟨A, B, C, E, D⟩ : ChR) = ⟨A', B', C', E', D'⟩) = false := by
     rw [decide_eq_false]
     intro h
     rw [h] at hk
     exact hk ⟨rfl, rfl, rfl⟩
   have HNE := LH hne
   clear hne hk
   go_wp2_with fail
   go_ret
   exact ⟨ret_bool HNE.out.symm, HB2.out⟩
theorem equalCs_any (a a' : Option Addr) (n c n' c' : Nat) (x y : List ChR) (w : World) (hx : CS w a n c x) (hy : CS w a' n' c' y) :
   Calls Tryz.prog 95 #[.slice a n c, .slice a' n' c', .func (.func 96) #[] #[]] w fun e w' => e = .returned (.bool (decide (x = y))) ∧ Below w.heap.size w w' := by
 have hlen : n ≤ 9223372036854775807 := by have := hx.le; have := hx.max; omega
 have hlen' : n' ≤ 9223372036854775807 := by have := hy.le; have := hy.max; omega
 have HX := LH hx
 have HY := LH hy
 have HLX := LH hx.len
 have HLY := LH hy.len
 clear hx hy
 by_cases hnn : n = n'
 · subst hnn
   have hb : ((n : Int) != n) = false := by simp
   go_enter Tryz.func95, Tryz.ntmps95
   go_wp2_with fail
   go_loopw [17] (fun i wr => SameRelC x y w i wr) (fun i _ => n - (intOf i).toNat)
   case atStart => exact ⟨0, rfl, Nat.zero_le _, rfl, Below.refl _ _⟩
   case round =>
     obtain ⟨k, rfl, hk, ht, hB⟩ := hrel
     rw [HLX.out] at hk
     have HT := LH ht
     have HB := LH hB
     clear ht hB
     by_cases hlt : k < n
     · obtain ⟨b, off, rfl, hcs⟩ := (HX.out.later HB.out).cells (by omega)
       obtain ⟨b', off', rfl, hcs'⟩ := (HY.out.later HB.out).cells (by omega)
       have HN := LH (fun h => ne_of_atC (x := x) (y := y) (k := k) h)
       have HM : Hid (x.getD k default = y.getD k default → x.take (k + 1) = y.take (k + 1)) := by
         show _ → _
         exact take_moreC HT.out (by rw [HLX.out]; exact hlt) (by rw [HLY.out]; exact hlt)
       have hqx := hcs k hlt
       have hqy := hcs' k hlt
       generalize x.getD k default = o at HN HM hqx
       generalize y.getD k default = o' at HN HM hqy
       obtain ⟨va, vn, vc, q0, q1, q2, q3, q4, q5, qI⟩ := hqx
       obtain ⟨A, B, C, E, D⟩ := o
       simp only at q0 q1 q2 q3 q4 q5
       have hbx : Below wr.heap.size wr (wr.alloc (.cells #[.int .i64 A, .int .i64 B, .int .i64 C, .int .i64 E, .slice va vn vc] 39)) := (Below.refl _ _).alloc (Nat.le_refl _) _
       obtain ⟨va', vn', vc', p0, p1, p2, p3, p4, p5, pI⟩ := hqy.keep (fun _ _ hc => cell_later hbx hc)
       obtain ⟨A', B', C', E', D'⟩ := o'
       simp only at p0 p1 p2 p3 p4 p5
       have hby := (Below.refl _ (wr.alloc (.cells #[.int .i64 A, .int .i64 B, .int .i64 C, .int .i64 E, .slice va vn vc] 39))).alloc (Nat.le_refl _) (.cells #[.int .i64 A', .int .i64 B', .int .i64 C', .int .i64 E', .slice va' vn' vc'] 39)
       have HQ := LH ((q5.later hbx).later hby)
       have HP := LH (p5.later hby)
       have HB2 := LH (bTh HB.out (bTh hbx hby))
       have HQI := LH qI
       have HPI := LH pI
       clear hcs hcs' hbx hby q5 p5 qI pI hqy
       go_wp2_with fail
       refine (sameC1_any _ _ ⟨A, B, C, E, D⟩ ⟨A', B', C', E', D'⟩ _ ⟨va, vn, vc, rfl, HQ.out, HQI.out⟩ ⟨va', vn', vc', rfl, HP.out, HPI.out⟩).mono ?_
       rintro e W2 ⟨rfl, hb2⟩
       have HB3 := LH (bTh HB2.out hb2)
       clear hb2 HB2 HQ HP
       by_cases he : (⟨A, B, C, E, D⟩ : ChR) = ⟨A', B', C', E', D'⟩
       · rw [decide_eq_true he]
         have HE := LH he
         clear he
         go_wp2_with fail
         go_roundw
         case rel => exact ⟨k + 1, by go_num, by rw [HLX.out]; omega, HM.out HE.out, HB3.out⟩
         case measure => simp [intOf]; omega
       · rw [decide_eq_false he]
         have HE := LH he
         clear he
         go_wp2_with fail
         go_ret
         exact ⟨ret_bool (HN.out HE.out).symm, HB3.out⟩
     · have hkn : k = n := by omega
       go_wp2_with fail
       go_ret
       have e1 : x.take k = x := List.take_of_length_le (by rw [HLX.out]; omega)
       have e2 : y.take k = y := List.take_of_length_le (by rw [HLY.out]; omega)
       have e3 := HT.out
       rw [e1, e2] at e3
       exact ⟨ret_bool (by rw [e3]; simp), HB.out⟩
 · have he : decide (x = y) = false := by
     rw [decide_eq_false]
     rintro rfl
     exact hnn (HLX.out.symm.trans HLY.out)
   have hb : ((n : Int) != n') = true := by simp; omega
   rw [he]
   go_enter Tryz.func95, Tryz.ntmps95
   go_wp2_with fail
   go_ret
   exact ⟨rfl, Below.refl _ _⟩
theorem sameC_ok : SameCC := by
 intro a a' n c n' c' x y w hx hy
 go_enter Tryz.func51, Tryz.ntmps51
 go_wp2_with fail
 refine (equalCs_any a a' n c n' c' x y _ hx hy).mono ?_
 rintro e w' ⟨rfl, hb⟩
 go_wp2_with fail
 go_ret
 exact ⟨rfl, hb⟩
theorem sameStep_any (A L A' L' : Int) (va va' : Option Addr) (vn vc vn' vc' : Nat) (D D' : List Int) (w : World) (h : BS w va vn vc D) (h' : BS w va' vn' vc' D') :
   Calls Tryz.prog 132 #[.agg #[.int .i64 A, .int .i64 L, .slice va vn vc], .agg #[.int .i64 A', .int .i64 L', .slice va' vn' vc']] w fun e w' => e = .returned (.bool (decide ((⟨A, L, D⟩ : OpR) = ⟨A', L', D'⟩))) ∧ Below w.heap.size w w' := by
 have hB1 := (Below.refl w.heap.size w).alloc (Nat.le_refl _) (.cells #[.int .i64 A, .int .i64 L, .slice va vn vc] 123)
 have hB2 := hB1.alloc (by simp) (.cells #[.int .i64 A', .int .i64 L', .slice va' vn' vc'] 123)
 have HQ := LH (h.later hB2)
 have HP := LH (h'.later hB2)
 have HB := LH hB2
 clear hB1 hB2 h h'
 by_cases hA : A = A'
 · subst hA
   by_cases hL : L = L'
   · subst hL
     have ba : (A == A) = true := by simp
     have bl : (L == L) = true := by simp
     have HEQ := LH (eqB va va' vn vc vn' vc' D D')
     go_enter Tryz.func132, Tryz.ntmps132
     go_wp2_with fail
     refine (HEQ.out _ HQ.out HP.out).mono ?_
     rintro e w' ⟨rfl, rfl⟩
     go_wp2_with fail
     go_ret
     exact ⟨ret_bool (by simp), HB.out⟩
   · have ba : (A == A) = true := by simp
     have bl : (L == L') = false := by simp [hL]
     go_enter Tryz.func132, Tryz.ntmps132
     go_wp2_with fail
     go_ret
     exact ⟨ret_bool (by simp [hL]), HB.out⟩
 · have ba : (A == A') = false := by simp [hA]
   go_enter Tryz.func132, Tryz.ntmps132
   go_wp2_with fail
   go_ret
   exact ⟨ret_bool (by simp [hA]), HB.out⟩
theorem equalSteps_any (a a' : Option Addr) (n c n' c' : Nat) (x y : List OpR) (w : World) (hx : OS w a n c x) (hy : OS w a' n' c' y) :
   Calls Tryz.prog 131 #[.slice a n c, .slice a' n' c', .func (.func 132) #[] #[]] w fun e w' => e = .returned (.bool (decide (x = y))) ∧ Below w.heap.size w w' := by
 have hlen : n ≤ 9223372036854775807 := by have := hx.le; have := hx.max; omega
 have hlen' : n' ≤ 9223372036854775807 := by have := hy.le; have := hy.max; omega
 have HX := LH hx
 have HY := LH hy
 have HLX := LH hx.len
 have HLY := LH hy.len
 clear hx hy
 by_cases hnn : n = n'
 · subst hnn
   have hb : ((n : Int) != n) = false := by simp
   go_enter Tryz.func131, Tryz.ntmps131
   go_wp2_with fail
   go_loopw [17] (fun i wr => SameRel x y w i wr) (fun i _ => n - (intOf i).toNat)
   case atStart => exact ⟨0, rfl, Nat.zero_le _, rfl, Below.refl _ _⟩
   case round =>
     obtain ⟨k, rfl, hk, ht, hB⟩ := hrel
     rw [HLX.out] at hk
     have HT := LH ht
     clear ht
     by_cases hlt : k < n
     · obtain ⟨b, off, rfl, hcs⟩ := (HX.out.later hB).cells (by omega)
       obtain ⟨b', off', rfl, hcs'⟩ := (HY.out.later hB).cells (by omega)
       obtain ⟨va, vn, vc, q0, q1, q2, q3, -, -⟩ := hcs k hlt
       have hB1 := hB.alloc hB.size (.cells #[.int .i64 (x.getD k default).at_, .int .i64 (x.getD k default).len, .slice va vn vc] 123)
       have hbx : Below wr.heap.size wr (wr.alloc (.cells #[.int .i64 (x.getD k default).at_, .int .i64 (x.getD k default).len, .slice va vn vc] 123)) := (Below.refl _ _).alloc (Nat.le_refl _) _
       obtain ⟨va', vn', vc', p0, p1, p2, p3, -, -⟩ := (hcs' k hlt).keep (fun _ _ hc => cell_later hbx hc)
       replace q3 := q3.later hbx
       have hB2 := hB1.alloc hB1.size (.cells #[.int .i64 (y.getD k default).at_, .int .i64 (y.getD k default).len, .slice va' vn' vc'] 123)
       have hby := (Below.refl _ (wr.alloc (.cells #[.int .i64 (x.getD k default).at_, .int .i64 (x.getD k default).len, .slice va vn vc] 123))).alloc (Nat.le_refl _) (.cells #[.int .i64 (y.getD k default).at_, .int .i64 (y.getD k default).len, .slice va' vn' vc'] 123)
       have HN := LH (fun h => ne_of_at (x := x) (y := y) (k := k) h)
       have HM : Hid (x.getD k default = y.getD k default → x.take (k + 1) = y.take (k + 1)) := by
         show _ → _
         exact take_more HT.out (by rw [HLX.out]; exact hlt) (by rw [HLY.out]; exact hlt)
       have HQ := LH (q3.later hby)
       have HP := LH (p3.later hby)
       clear hcs hcs' hbx hby q3 p3
       generalize x.getD k default = o at *
       generalize y.getD k default = o' at *
       obtain ⟨A, L, D⟩ := o
       obtain ⟨A', L', D'⟩ := o'
       simp only at q0 q1 q2 p0 p1 p2 hB1 hB2
       have HB2 := LH hB2
       clear hB1 hB2
       go_wp2_with fail
       refine (sameStep_any A L A' L' va va' vn vc vn' vc' D D' _ HQ.out HP.out).mono ?_
       rintro e W2 ⟨rfl, hb2⟩
       have HB3 := LH (bTh HB2.out hb2)
       clear hb2 HB2 HQ HP
       by_cases he : (⟨A, L, D⟩ : OpR) = ⟨A', L', D'⟩
       · rw [decide_eq_true he]
         have HE := LH he
         clear he
         go_wp2_with fail
         go_roundw
         case rel => exact ⟨k + 1, by go_num, by rw [HLX.out]; omega, HM.out HE.out, HB3.out⟩
         case measure => simp [intOf]; omega
       · rw [decide_eq_false he]
         have HE := LH he
         clear he
         go_wp2_with fail
         go_ret
         exact ⟨ret_bool (HN.out HE.out).symm, HB3.out⟩
     · have hkn : k = n := by omega
       go_wp2_with fail
       go_ret
       have e1 : x.take k = x := List.take_of_length_le (by rw [HLX.out]; omega)
       have e2 : y.take k = y := List.take_of_length_le (by rw [HLY.out]; omega)
       have e3 := HT.out
       rw [e1, e2] at e3
       exact ⟨ret_bool (by rw [e3]; simp), hB⟩
 · have he : decide (x = y) = false := by
     rw [decide_eq_false]
     rintro rfl
     exact hnn (HLX.out.symm.trans HLY.out)
   have hb : ((n : Int) != n') = true := by simp; omega
   rw [he]
   go_enter Tryz.func131, Tryz.ntmps131
   go_wp2_with fail
   go_ret
   exact ⟨rfl, Below.refl _ _⟩
theorem same_any (a a' : Option Addr) (n c n' c' : Nat) (x y : List OpR) (w : World) (hx : OS w a n c x) (hy : OS w a' n' c' y) :
   Calls Tryz.prog 98 #[.slice a n c, .slice a' n' c'] w fun e w' => e = .returned (.bool (decide (x = y))) ∧ Below w.heap.size w w' := by
 go_enter Tryz.func98, Tryz.ntmps98
 go_wp2_with fail
 refine (equalSteps_any a a' n c n' c' x y _ hx hy).mono ?_
 rintro e w' ⟨rfl, hb⟩
 go_wp2_with fail
 go_ret
 exact ⟨rfl, hb⟩
theorem ret_decP {a b : PatR} (h : a ≠ b) : Ending.returned (.bool false) = .returned (.bool (decide (a = b))) := by rw [decide_eq_false h]
theorem sameP_any (v v' : Value) (p q : PatR) (w : World) (hp : PV w v p) (hq : PV w v' q) :
   Calls Tryz.prog 52 #[v, v'] w fun e w' => e = .returned (.bool (decide (p = q))) ∧ Below w.heap.size w w' := by
 obtain ⟨a, n, c, rfl, ho, -⟩ := hp
 obtain ⟨a', n', c', rfl, ho', -⟩ := hq
 obtain ⟨f, t, o, nw, s, ops⟩ := p
 obtain ⟨f', t', o', nw', s', ops'⟩ := q
 simp only at ho ho' ⊢
 have hb1 : Below w.heap.size w (w.alloc (.cells #[.int .i64 f, .int .i64 t, .int .i64 o, .int .i64 nw, .int .i64 s, .slice a n c] 35)) := (Below.refl _ _).alloc (Nat.le_refl _) _
 have hb := hb1.alloc hb1.size (.cells #[.int .i64 f', .int .i64 t', .int .i64 o', .int .i64 nw', .int .i64 s', .slice a' n' c'] 35)
 have HO := LH (ho.later hb)
 have HO' := LH (ho'.later hb)
 clear ho ho' hb1
 by_cases h1 : f = f'
 · subst h1
   have b1 : (f == f) = true := by simp
   by_cases h2 : t = t'
   · subst h2
     have b2 : (t == t) = true := by simp
     by_cases h3 : o = o'
     · subst h3
       have b3 : (o == o) = true := by simp
       by_cases h4 : nw = nw'
       · subst h4
         have b4 : (nw == nw) = true := by simp
         by_cases h5 : s = s'
         · subst h5
           have b5 : (s == s) = true := by simp
           have HB := LH hb
           clear hb
           rw [show decide ((⟨f, t, o, nw, s, ops⟩ : PatR) = ⟨f, t, o, nw, s, ops'⟩) = decide (ops = ops') by simp]
           go_enter Tryz.func52, Tryz.ntmps52
           go_wp2_with fail
           refine (same_any a a' n c n' c' ops ops' _ HO.out HO'.out).mono ?_
           rintro e w' ⟨rfl, hb2⟩
           have hb3 := bTh HB.out hb2
           go_wp2_with fail
           go_ret
           exact ⟨by simp, hb3⟩
         · have b5 : (s == s') = false := by simp [h5]
           go_enter Tryz.func52, Tryz.ntmps52
           go_wp2_with fail
           go_ret
           exact ⟨ret_decP (by simp [h5]), hb⟩
       · have b4 : (nw == nw') = false := by simp [h4]
         go_enter Tryz.func52, Tryz.ntmps52
         go_wp2_with fail
         go_ret
         exact ⟨ret_decP (by simp [h4]), hb⟩
     · have b3 : (o == o') = false := by simp [h3]
       go_enter Tryz.func52, Tryz.ntmps52
       go_wp2_with fail
       go_ret
       exact ⟨ret_decP (by simp [h3]), hb⟩
   · have b2 : (t == t') = false := by simp [h2]
     go_enter Tryz.func52, Tryz.ntmps52
     go_wp2_with fail
     go_ret
     exact ⟨ret_decP (by simp [h2]), hb⟩
 · have b1 : (f == f') = false := by simp [h1]
   go_enter Tryz.func52, Tryz.ntmps52
   go_wp2_with fail
   go_ret
   exact ⟨ret_decP (by simp [h1]), hb⟩
end Go.Proofs.YtmpmaljkmfgagacGreat
