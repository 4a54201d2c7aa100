/-
  Texts put into one: PatL, DvInst, WayMem, Line, DvBegin, DvBits, DeltaCheck, DeltaApply, DvFill, RfFil, DvSlot, PatchC, PCheck, SumP, PDo, DvBusy, ChunkC, CCheck, CKin, ChL, CList, SameChL, CSame, DeltaSame, PSame.
-/
import Derived.Test.YtnnmpoknghbdnacGreatRowToChSt
import Derived.Test.YtnnmpoknghbdnacGreatCopyStToDifThree
import Derived.Laws.CopyOwn
import Derived.Laws.MakeOwn
import Derived.Handy
import Derived.Deep.DeepCutAuto
import Derived.Deep.RegionHeld3
import Derived.BigQuiet
set_option maxRecDepth 100000
set_option maxHeartbeats 4000000
namespace Go.Proofs.YtnnmpoknghbdnacGreat
open Go.RowKit
def patL : PatR := ⟨1, 2, 33012, 46707, 9, stepsL⟩
theorem patL_check : PatM.check patL = 0 := by decide
theorem patL_made : madeOf 1 2 [97, 98, 99, 100, 101, 102, 103, 104] [120, 101, 102, 103, 104, 97, 98, 99, 100] stepsL 0 = (patL, 0) := by decide
theorem patL_put : PatM.putL patL = [1, 2, 128, 244, 182, 115, 9, 3, 255, 1, 120, 4, 4, 0, 4] := by decide
namespace Inst
def im0 : List Int := [97, 98, 99, 100, 101, 102, 103, 104]
def im1 : List Int := [120, 101, 102, 103, 104, 97, 98, 99, 100]
def packL : List Int := [15, 1, 2, 128, 244, 182, 115, 9, 3, 255, 1, 120, 4, 4, 0, 4]
theorem packL_packs : PackM.Packs (PatM.putL patL) packL := by
 rw [patL_put]; refine .lit [1, 2, 128, 244, 182, 115, 9, 3, 255, 1, 120, 4, 4, 0, 4] [] 15 (by omega) (by omega) (by simp) ?_ (.inl rfl) .nil; decide
theorem packL_unp : PackM.Unp 400 packL [] (PatM.putL patL, 0) := by
 have := packL_packs.back 400 [] [] (PatM.putL patL, 0) (by rw [patL_put]; simp) (by simpa using PackM.Unp.done (PatM.putL patL))
 simpa using this
def chL : ChR := ⟨1, 2, 0, 1, packL⟩
theorem chL_cut : ChunkM.cutL patL.from_ patL.to_ packL = [chL] := by decide
theorem cut_patL {cs : List ChR} {err : Int} (h : ChunkM.CutIs patL cs err) : cs = [chL] ∧ err = 0 :=
 h.det (.inr ⟨patL_check, packL, packL_packs, chL_cut.symm, rfl⟩)
theorem join_chL {r : PatR × Int} (h : ChunkM.JoinIs [chL] r) : r = (patL, 0) := by
 refine h.det (.inr ⟨by decide, (PatM.putL patL, 0), ?_, ?_⟩)
 · have : ChunkM.flatD [chL] = packL := by decide
   rw [this]; exact packL_unp
 · unfold ChunkM.joinEnd
   simp only; rw [PatM.read_put patL_check]; decide
def d0 : DevR := (DevM.newOf im0).1
def d1 : DevR := { d0 with got := [chL] }
def d2 : DevR := { d0 with c := (RecM.writeOf d0.c (DevM.put (DevM.rc d0) RecM.noInf) false).1, busy := true, job := patL, done := 0, got := [] }
def d3 : DevR := (DevM.write d2 false 0).1
def d4 : DevR := (DevM.write d3 false 0).1
def d5 : DevR := (DevM.finish d4 false).1
def d6 : DevR := DevM.off d5
def d7 : DevR := (DevM.boot d6).1
def d8 : DevR := (DevM.confirm d7).1
theorem st0 : DevM.newOf im0 = (d0, 0) := by kernel_rfl
theorem st1 : DevM.told d0 true (DevM.hear d0 chL) = (d1, 0) := by kernel_rfl
theorem st2 : DevM.told d1 true (DevM.open_ d1) = (d2, 0) := by
 have h : ChunkM.joinOf d1.got = (patL, 0) := join_chL (ChunkM.joinOf_is [chL]); unfold DevM.open_; rw [h]; show _ = (d2, 0)
 kernel_rfl
theorem st3 : DevM.told d2 true (DevM.write d2 false 0) = (d3, 0) := by kernel_rfl
theorem stL : DevM.told d3 true (DevM.finish d3 false) = (DevM.noDev, 5) := by kernel_rfl
theorem st4 : DevM.told d3 true (DevM.write d3 false 0) = (d4, 0) := by kernel_rfl
theorem st5 : DevM.told d4 true (DevM.finish d4 false) = (d5, 0) := by kernel_rfl
theorem st6 : DevM.told d5 true (DevM.crash d5) = (d6, 0) := by kernel_rfl
theorem st7 : DevM.told d6 false (DevM.boot d6) = (d7, 0) := by kernel_rfl
theorem st8 : DevM.told d7 true (DevM.confirm d7) = (d8, 0) := by kernel_rfl
theorem ck8 : DevM.check d8 = 0 := by decide +kernel
theorem run7 : d7.run = 1 := by decide +kernel
theorem slot7 : d7.s1.take 9 = im1 := by decide +kernel
theorem len7 : d7.s1.length = 64 := by decide +kernel
end Inst
theorem gnY {P : Program} {ops : Array Oper} {Q : Exit → Act → World → Prop} {S : World → Prop} {r : WayO} {a : Act} {W : World} (X : World → Prop) (h : X W) (k : ∀ V, X V → zbs P ops Q r S a V) : zbs P ops Q r S a W := k W h
theorem MH.sub {w W : World} {L : List (Nat × Array Value × TypeId)} {H H' : Hlds} (h : MH w L H W) (hs : ∀ q ∈ H', q ∈ H) : MH w L H' W :=
 ⟨h.ms, fun q hq => h.has q (hs q hq), fun q hq => h.lo q (hs q hq), fun p hp q hq => h.sep p hp q (hs q hq)⟩
theorem MS.block {w W W' : World} {L : List (Nat × Array Value × TypeId)} (h : MS w L [] [] W) (hb : Below W.heap.size W W') {B : Nat} {c : Array Value} {t : TypeId} (hB : W'.heap[B]? = some (.cells c t (0, 0))) (hlo : W.heap.size ≤ B) : MS w ((B, c, t) :: L) [] [] W' := by
 have h' := h.later hb; refine ⟨fun q hq => ?_, ?_, fun q hq => ?_, h'.below, (fun _ q => by cases q), (fun _ q => by cases q)⟩
 · rcases List.mem_cons.1 hq with rfl | hq
   · exact hB
   · exact h'.has q hq
 · exact List.Pairwise.cons (fun q hq => by have := h.lt hq; simp only; omega) h.srt
 · rcases List.mem_cons.1 hq with rfl | hq
   · have := h.below.size; simp only; omega
   · exact h.base q hq
theorem MH.block {w W W' : World} {L : List (Nat × Array Value × TypeId)} {H : Hlds} (h : MH w L H W) (hb : Below W.heap.size W W') {B : Nat} {c : Array Value} {t : TypeId} (hB : W'.heap[B]? = some (.cells c t (0, 0))) (hlo : W.heap.size ≤ B) : MH w ((B, c, t) :: L) H W' := by
 refine ⟨h.ms.block hb hB hlo, fun q hq => (h.has q hq).below hb, h.lo, fun p hp q hq => ?_⟩; rcases List.mem_cons.1 hp with rfl | hp
 · have := (h.has q hq).1
   exact .inr (by simp only; omega)
 · exact h.sep p hp q hq
theorem MH.subL {w W : World} {L L' : List (Nat × Array Value × TypeId)} {H : Hlds} (h : MH w L H W) (hs : L'.Sublist L) : MH w L' H W :=
 ⟨h.ms.sub hs, h.has, h.lo, fun p hp q hq => h.sep p (hs.subset hp) q hq⟩
def zPat : Array Value := jbC none 0 0 zap
theorem put_zpat (oa : Option Addr) (on oc : Nat) (p : PatR) : putAt zPat 0 (jbC oa on oc p).toList = jbC oa on oc p := by kernel_rfl
def GivesPatL (w : World) (e : Ending) (w' : World) : Prop :=
 ∃ ap np cp, e = .returned (.tuple #[.agg (jbC ap np cp patL), .int .i64 0]) ∧ Below w.heap.size w w' ∧ NewR w.heap.size w' (fun V => OS V ap np cp patL.ops)
theorem jobCells_inj {oa oa' : Option Addr} {on oc on' oc' : Nat} {p : PatR} (h : jbC oa on oc p = jbC oa' on' oc' p) : oa = oa' ∧ on = on' ∧ oc = oc' := by
 have := congrArg (fun a : Array Value => a[5]?) h; simp [jbC] at this; exact this
theorem madeL_any (a0 a1 : Option Addr) (c0 c1 : Nat) (w : World) (h0 : BS w a0 8 c0 Inst.im0) (h1 : BS w a1 9 c1 Inst.im1) (hM : MaxCell w) :
 Calls Tryz.prog 67 #[.int .i64 1, .int .i64 2, .slice a0 8 c0, .slice a1 9 c1] w (GivesPatL w) := by
 refine (made_n 1 2 a0 a1 8 c0 9 c1 Inst.im0 Inst.im1 w h0 h1 (by omega) (by omega) hM (by unfold I64; omega) (by unfold I64; omega)).mono ?_; rintro e w' ⟨ops, hdif, hg⟩; obtain rfl := hdif.det dif_three; have hm : madeOf 1 2 Inst.im0 Inst.im1 _ 0 = (patL, 0) := patL_made; rw [hm] at hg; obtain ⟨v, he, hb, hn⟩ := hg; obtain ⟨ap, np, cp, hv, -, -⟩ := hn w' (Nat.le_refl _) (fun _ _ _ => rfl) trivial; subst hv; refine ⟨ap, np, cp, he, hb, fun V v1 v2 => ?_⟩; obtain ⟨ap', np', cp', hv', ho, -⟩ := hn V v1 v2 trivial
 have hj : jbC ap np cp patL = jbC ap' np' cp' patL := by
  have := hv'; injection this
 obtain ⟨rfl, rfl, rfl⟩ := jobCells_inj hj; exact ho
structure LnW (P : Program) (ops : Array Oper) (Q : Exit → Act → World → Prop) (l : List Oper) (a : Act) (w : World) : Prop where
 out : wpList P ops Q l a w
section
variable {P : Program} {ops : Array Oper} {rest : List Oper} {o : Oper} {a : Act} {w : World} {Q : Exit → Act → World → Prop}
theorem zaj {id : Nat} {l : List Oper} (h : LnW P l.toArray Q l a w) : (Code.region id l.toArray false).wp P Q a w := wp_region_lit h.out
theorem zal (h : Q .normal a w) : LnW P ops Q [] a w := ⟨wpList_nil h⟩
theorem zae (v : Value) (hw : Region.wanted o (yielded ops a.tmps) = true) (hy : (execOp a.eval o).run P w = .ok (.value v) w) (h : LnW P ops Q rest (a.put o.dst v) w) : LnW P ops Q (o :: rest) a w :=
 ⟨wpList_step fun K hK => by
  rw [if_pos hw]
  unfold Oper.wp
  rw [hy]
  exact hK _ _ h.out⟩
theorem zaa (hg : o.guard = none) : Region.wanted o (yielded ops a.tmps) = true := by simp [Region.wanted, hg]
theorem zab {j : Nat} {b : Bool} (hg : o.guard = some (j, b)) (hy : yielded ops a.tmps j = some b) : Region.wanted o (yielded ops a.tmps) = true := by simp [Region.wanted, hg, hy]
theorem zaf {j : Nat} {b b' : Bool} (hg : o.guard = some (j, b)) (hy : yielded ops a.tmps j = some b') (hb : (b == b') = false) : Region.wanted o (yielded ops a.tmps) = false := by
 have : ¬ b' = b := fun q => by simp [q] at hb
 simp [Region.wanted, hg, hy, this]
theorem zad {j : Nat} {b : Bool} (hg : o.guard = some (j, b)) (hy : yielded ops a.tmps j = none) : Region.wanted o (yielded ops a.tmps) = false := by simp [Region.wanted, hg, hy]
theorem zag (hw : Region.wanted o (yielded ops a.tmps) = false) (h : LnW P ops Q rest (a.put o.dst undef) w) : LnW P ops Q (o :: rest) a w :=
 ⟨wpList_step fun K hK => by
  rw [if_neg (by rw [hw]; decide)]
  exact hK _ _ h.out⟩
theorem zar (h : ∀ K' : Act → World → Prop, Hid (∀ a w, LnW P ops Q rest a w → K' a w) → if Region.wanted o (yielded ops a.tmps) = true then Oper.wp P o a w K' Q else K' (a.put o.dst undef) w) : LnW P ops Q (o :: rest) a w :=
 ⟨wpList_step fun K hK => h K (show ∀ a w, LnW P ops Q rest a w → K a w from fun a w h => hK a w h.out)⟩
theorem zbX (hw : Region.wanted o (yielded ops a.tmps) = true) (ty : TypeId) (x : Operand) (ho : o.op = .load ty x) (g : Nat) (hx : a.eval x = .pointer (some ⟨g, 0, none⟩)) (t : TypeId) (cs : Array Value) (d : TypeDesc) (hg : w.heap[g]? = some (.cells cs t (0, 0)))
 (hu : P.underlying ty = some d) (hd : (match d with | .struct _ | .array _ _ => true | _ => false) = true) (hi : (P.info? ty).map (·.size) = some cs.size) (h : LnW P ops Q rest (a.put o.dst (.agg cs)) w) : LnW P ops Q (o :: rest) a w := by
 refine zae (.agg cs) hw ?_ h; unfold execOp; simp only [ho, hx, Instr.loadAt, Instr.sureAddr, Sem.run_bind, Sem.run_pure, Result.andThen_ok, run_loadVar_row w g t ty cs (0, 0) d hg hu hd hi]
theorem zah (hw : Region.wanted o (yielded ops a.tmps) = true) (ty : TypeId) (x : Operand) (ho : o.op = .load ty x) (g k : Nat) (hx : a.eval x = .pointer (some ⟨g, k, none⟩)) (t : TypeId) (C : Array Value) (hg : w.heap[g]? = some (.cells C t (0, 0))) (cs : Array Value) (hcs : C.extract k (k + cs.size) = cs) (d : TypeDesc)
 (hu : P.underlying ty = some d) (hd : d.isRow = true) (hi : (P.info? ty).map (·.size) = some cs.size) (h : LnW P ops Q rest (a.put o.dst (.agg cs)) w) : LnW P ops Q (o :: rest) a w := by
 refine zae (.agg cs) hw ?_ h; have hr := World.rangeAt_of_block hg k cs.size; rw [hcs] at hr; unfold execOp; simp only [ho, hx, Instr.loadAt, Instr.sureAddr, Sem.run_bind, Sem.run_pure, Result.andThen_ok, run_loadVar_mid w g k ty cs.toList d hr hu hd (by simpa using hi)]
end
section
variable {prog : Program} {ops : Array Oper} {rest : List Oper} {Q : Exit → Act → World → Prop} {a : Act} {W w : World} {L : List (Nat × Array Value × TypeId)} {H : Hlds} {R N : List (World → Prop)}
theorem zaF (h : MH w L H W) (k : ∀ V, MH w L H V → LnW prog ops Q rest a V) : LnW prog ops Q rest a W := k W h
end
theorem begin_bad (HCh : CheckDC) (h : DevH) (d : DevR) (up : Bool) (E : Int) (w : World) (HD : DH w h d) (hE : DevM.check d = E) (h0 : E ≠ 0) : Calls Tryz.prog 74 #[devV h d, .bool up] w fun e w' => e = .returned (.tuple #[recV RecM.noRec, .int .i64 E]) ∧ Below w.heap.size w w' := by
 have HCk : Hid (∀ W, DH W h d → Calls Tryz.prog 14 #[.agg (dvC h d)] W fun e w' => e = .returned (.int .i64 E) ∧ Below W.heap.size W w') := fun W hd => by
  have := HCh h d W hd; rw [hE] at this; exact this
 have t0 : (E != 0) = true := by simp [h0]
 clear hE h0; unfold devV; obtain ⟨P1, hP1⟩ : ∃ P, w.heap.size = P := ⟨_, rfl⟩; have HS := LH ((((((MS.start w).arg HD.argR).alloc (p := P1) (by simp [hP1]) (dvC h d) 37)).alloc (p := (P1 + 1)) (by simp [hP1]) zaL 28)); go_enter Tryz.func74, Tryz.ntmps74; go_upto_region 1 with fail; refine zau HS.out (fun V0 HS1 => ?_); replace HS := LH HS1; clear HS1 hP1; have bP1 := HS.out.gt 1 rfl
 go_wp2_with (first
  | (refine wpList_load_row rfl 37 (.tmp 2) rfl P1 rfl 37 (dvC h d) (0, 0) _ bP1 U37 rfl (sDv h d) ?_))
 clear bP1; refine (HCk.out _ (HS.out.read 0 rfl)).mono ?_; rintro e W1 ⟨rfl, hb⟩; replace HS := LH (HS.out.later hb); clear hb; have HG := LH (HS.out.set 0 rfl zaL); have bP1p1 := HS.out.gt 0 rfl
 go_wp2_with (first
  | (refine wpList_store_row rfl 28 (.tmp 4) (.tmp 14) rfl (P1 + 1) zaL rfl rfl 28 _ bP1p1 za8 rfl one_zero ?_))
 clear bP1p1; refine bodyPost_ret (v := .tuple #[.agg zaL, .int .i64 E]) ?_ rfl ?_
 · exact zam (fn := Tryz.f74) (p := 4) (a := 5) rfl rfl rfl (HG.out.get 0 rfl) U28 rfl za8
 · exact ⟨rfl, HG.out.below⟩
theorem begin_late (HCh : CheckDC) (h : DevH) (d : DevR) (up : Bool) (w : World) (HD : DH w h d) (hE : DevM.check d = 0) (h0 : d.up ≠ up) : Calls Tryz.prog 74 #[devV h d, .bool up] w fun e w' => e = .returned (.tuple #[recV RecM.noRec, .int .i64 5]) ∧ Below w.heap.size w w' := by
 have HCk : Hid (∀ W, DH W h d → Calls Tryz.prog 14 #[.agg (dvC h d)] W fun e w' => e = .returned (.int .i64 0) ∧ Below W.heap.size W w') := fun W hd => by
  have := HCh h d W hd; rw [hE] at this; exact this
 have t1 : (d.up != up) = true := by simpa using h0
 have t2 : (d.up == up) = false := by simpa using h0
 clear hE h0; unfold devV; obtain ⟨P1, hP1⟩ : ∃ P, w.heap.size = P := ⟨_, rfl⟩; have HS := LH ((((((MS.start w).arg HD.argR).alloc (p := P1) (by simp [hP1]) (dvC h d) 37)).alloc (p := (P1 + 1)) (by simp [hP1]) zaL 28)); go_enter Tryz.func74, Tryz.ntmps74; go_upto_region 1 with fail; refine zau HS.out (fun V0 HS1 => ?_); replace HS := LH HS1; clear HS1 hP1; have bP1 := HS.out.gt 1 rfl
 go_wp2_with (first
  | (refine wpList_load_row rfl 37 (.tmp 2) rfl P1 rfl 37 (dvC h d) (0, 0) _ bP1 U37 rfl (sDv h d) ?_))
 clear bP1; refine (HCk.out _ (HS.out.read 0 rfl)).mono ?_; rintro e W1 ⟨rfl, hb⟩; replace HS := LH (HS.out.later hb); clear hb; have HG := LH (HS.out.set 0 rfl zaL); have cP1_26 := HS.out.cel 1 26 (v := .bool d.up) rfl rfl; have bP1p1 := HS.out.gt 0 rfl
 go_wp2_with (first
  | (refine wpList_store_row rfl 28 (.tmp 4) (.tmp 20) rfl (P1 + 1) zaL rfl rfl 28 _ bP1p1 za8 rfl one_zero ?_))
 clear cP1_26 bP1p1; refine bodyPost_ret (v := .tuple #[.agg zaL, .int .i64 5]) ?_ rfl ?_
 · exact zam (fn := Tryz.f74) (p := 4) (a := 5) rfl rfl rfl (HG.out.get 0 rfl) U28 rfl za8
 · exact ⟨rfl, HG.out.below⟩
theorem like_zrec (r : RecR) : zaL.size = (rcC r).size := by kernel_rfl
theorem begin_ok (HCh : CheckDC) (h : DevH) (d : DevR) (up : Bool) (w : World) (HD : DH w h d) (hE : DevM.check d = 0) (h0 : d.up = up) : Calls Tryz.prog 74 #[devV h d, .bool up] w fun e w' => e = .returned (.tuple #[recV (DevM.rc d), .int .i64 0]) ∧ Below w.heap.size w w' := by
 have HCk : Hid (∀ W, DH W h d → Calls Tryz.prog 14 #[.agg (dvC h d)] W fun e w' => e = .returned (.int .i64 0) ∧ Below W.heap.size W w') := fun W hd => by
  have := HCh h d W hd; rw [hE] at this; exact this
 have HRd : Hid (∀ W, Calls Tryz.prog 32 #[.agg (cpC d.c)] W fun e w' => e = .returned (.tuple #[.agg (rcC (DevM.rc d)), .int .i64 (RecM.newest d.c), .int .i64 0]) ∧ Below W.heap.size W w') := fun W => by
  have := rdR d.c W; have hc : RecM.copies d.c = 0 := (DevM.ok_iff.1 hE).cops; have hr : RecM.readOf d.c = (RecM.cur d.c, RecM.newest d.c, 0) := if_neg (fun q => q hc); rw [hr] at this; exact this
 have HRC : Hid (recV (DevM.rc d) = .agg (rcC (DevM.rc d))) := rfl; rw [HRC.out]; have t1 : (up != up) = false := by simp
 have t2 : (up == up) = true := by simp
 clear hE; unfold devV; obtain ⟨P1, hP1⟩ : ∃ P, w.heap.size = P := ⟨_, rfl⟩; have HS := LH ((((((MS.start w).arg HD.argR).alloc (p := P1) (by simp [hP1]) (dvC h d) 37)).alloc (p := (P1 + 1)) (by simp [hP1]) zaL 28)); go_enter Tryz.func74, Tryz.ntmps74; go_upto_region 1 with fail; refine zau HS.out (fun V0 HS1 => ?_); replace HS := LH HS1; clear HS1 hP1; have bP1 := HS.out.gt 1 rfl
 go_wp2_with (first
  | (refine wpList_load_row rfl 37 (.tmp 2) rfl P1 rfl 37 (dvC h d) (0, 0) _ bP1 U37 rfl (sDv h d) ?_))
 clear bP1; refine (HCk.out _ (HS.out.read 0 rfl)).mono ?_; rintro e W1 ⟨rfl, hb⟩; replace HS := LH (HS.out.later hb); clear hb; have cP1_26 := HS.out.cel 1 26 (v := .bool d.up) rfl rfl; rw [h0] at cP1_26; have bP1 := HS.out.gt 1 rfl
 go_wp2_with (first
  | (refine wLP rfl 31 (.tmp 22) rfl P1 2 rfl (dvC h d) 37 (0, 0) bP1 (cpC d.c) (zai h d) _ U31 rfl (sCp d.c) ?_))
 clear cP1_26 bP1; refine (HRd.out _).mono ?_; rintro e W2 ⟨rfl, hb⟩; replace HS := LH (HS.out.later hb); clear hb; obtain ⟨P3, hP3⟩ : ∃ P, W2.heap.size = P := ⟨_, rfl⟩; replace HS := LH (HS.out.alloc hP3 (rcC (DevM.rc d)) 28); have HG := LH (HS.out.set 1 rfl (rcC (DevM.rc d))); have bP3 := HS.out.gt 0 rfl; have bP1p1 := HS.out.gt 1 rfl
 go_wp2_with (first
  | (refine wSN rfl 28 (.tmp 7) (.tmp 25) rfl P3 (rcC (DevM.rc d)) rfl rfl 28 _ hP3.symm (sRc (DevM.rc d)) (lRc (DevM.rc d)) (oRc (DevM.rc d)) ?_)
  | (refine wpList_load_row rfl 28 (.tmp 7) rfl P3 rfl 28 (rcC (DevM.rc d)) (0, 0) _ bP3 U28 rfl (sRc (DevM.rc d)) ?_)
  | (refine wpList_store_row rfl 28 (.tmp 4) (.tmp 28) rfl (P1 + 1) (rcC (DevM.rc d)) rfl rfl 28 _ bP1p1 (sRc (DevM.rc d)) (like_zrec (DevM.rc d)) (oRc (DevM.rc d)) ?_))
 clear bP3 bP1p1; refine bodyPost_ret (v := .tuple #[.agg (rcC (DevM.rc d)), .int .i64 0]) ?_ rfl ?_
 · exact zam (fn := Tryz.f74) (p := 4) (a := 5) rfl rfl rfl (HG.out.get 1 rfl) U28 rfl (sRc _)
 · exact ⟨rfl, HG.out.below⟩
theorem zbn (HCh : CheckDC) (h : DevH) (d : DevR) (up : Bool) (w : World) (HD : DH w h d) : Calls Tryz.prog 74 #[devV h d, .bool up] w fun e w' => e = .returned (.tuple #[recV (DevM.beg d up).1, .int .i64 (DevM.beg d up).2]) ∧ Below w.heap.size w w' := by
 unfold DevM.beg; by_cases h1 : DevM.check d = 0
 · rw [if_neg (fun q => q h1)]
   by_cases h2 : d.up = up
   · rw [if_neg (fun q => q h2)]
     exact begin_ok HCh h d up w HD h1 h2
   · rw [if_pos h2]
     exact begin_late HCh h d up w HD h1 h2
 · rw [if_pos h1]
   exact begin_bad HCh h d up _ w HD rfl h1
def slA (h : DevH) (k : Int) : Option Addr := if k = 0 then h.a0 else h.a1
def slN (h : DevH) (k : Int) : Nat := if k = 0 then h.n0 else h.n1
def slC (h : DevH) (k : Int) : Nat := if k = 0 then h.c0 else h.c1
theorem DH.slot {w : World} {h : DevH} {d : DevR} (x : DH w h d) (k : Int) : BS w (slA h k) (slN h k) (slC h k) (DevM.slot d k) := by
 unfold slA slN slC DevM.slot; split
 · exact x.b0
 · exact x.b1
theorem otherD_any (x : Int) (w : World) (h : x = 0 ∨ x = 1) :
 Calls Tryz.prog 81 #[.int .i64 x] w fun e w' => e = .returned (.int .i64 (1 - x)) ∧ w = w' := by
 rcases h with rfl | rfl
 · go_enter Tryz.func81, Tryz.ntmps81
   go_wp2; go_ret; exact ⟨rfl, rfl⟩
 · go_enter Tryz.func81, Tryz.ntmps81
   go_wp2; go_ret; exact ⟨rfl, rfl⟩
theorem suits0EG (oa : Option Addr) (on oc : Nat) (p : PatR) (g : Int) (tr : Bool) (n f : Int) (i0 i1 : InfR) (h1 : p.from_ = i0.ver) (h2 : f ≤ p.to_) (w : World) : Calls Tryz.prog 78 #[.agg (jbC oa on oc p), .agg (rcC ⟨g, 0, tr, n, f, i0, i1⟩)] w fun e w' => e = .returned (.bool (decide (p.from_ = i0.ver ∧ f ≤ p.to_))) ∧ Below w.heap.size w w' := by
 have t1 : (p.from_ == i0.ver) = true := by simp [h1]
 have t2 : decide (p.to_ ≥ f) = true := by simp; omega
 have t3 : decide (f ≤ p.to_) = true := by simp; omega
 have hres : Hid (true = decide (p.from_ = i0.ver ∧ f ≤ p.to_)) := by show _ = _; simp [h1, h2]
 clear h1 h2; obtain ⟨P1, hP1⟩ : ∃ P, w.heap.size = P := ⟨_, rfl⟩; have HS := LH (((((MS.start w).alloc (p := P1) (by simp [hP1]) (jbC oa on oc p) 35)).alloc (p := (P1 + 1)) (by simp [hP1]) (rcC ⟨g, 0, tr, n, f, i0, i1⟩) 28)); go_enter Tryz.func78, Tryz.ntmps78; go_upto_region 1 with fail; refine zau HS.out (fun V0 HS1 => ?_); replace HS := LH HS1; clear HS1 hP1; have cP1_0 := HS.out.cel 1 0 (v := .int .i64 p.from_) rfl rfl; have cP1p1_1 := HS.out.cel 0 1 (v := .int .i64 0) rfl rfl; have cP1p1_5 := HS.out.cel 0 5 (v := .int .i64 i0.ver) rfl rfl; have cP1_1 := HS.out.cel 1 1 (v := .int .i64 p.to_) rfl rfl; have cP1p1_4 := HS.out.cel 0 4 (v := .int .i64 f) rfl rfl; go_quiet (fail); have HB := HS.out.drewN nq; go_wp2_with fail; go_ret; exact ⟨ret_b hres.out, HB.below⟩
theorem suits0EL (oa : Option Addr) (on oc : Nat) (p : PatR) (g : Int) (tr : Bool) (n f : Int) (i0 i1 : InfR) (h1 : p.from_ = i0.ver) (h2 : ¬ f ≤ p.to_) (w : World) : Calls Tryz.prog 78 #[.agg (jbC oa on oc p), .agg (rcC ⟨g, 0, tr, n, f, i0, i1⟩)] w fun e w' => e = .returned (.bool (decide (p.from_ = i0.ver ∧ f ≤ p.to_))) ∧ Below w.heap.size w w' := by
 have t1 : (p.from_ == i0.ver) = true := by simp [h1]
 have t2 : decide (p.to_ ≥ f) = false := by simp; omega
 have t3 : decide (f ≤ p.to_) = false := by simp; omega
 have hres : Hid (false = decide (p.from_ = i0.ver ∧ f ≤ p.to_)) := by show _ = _; simp [h1, h2]
 clear h1 h2; obtain ⟨P1, hP1⟩ : ∃ P, w.heap.size = P := ⟨_, rfl⟩; have HS := LH (((((MS.start w).alloc (p := P1) (by simp [hP1]) (jbC oa on oc p) 35)).alloc (p := (P1 + 1)) (by simp [hP1]) (rcC ⟨g, 0, tr, n, f, i0, i1⟩) 28)); go_enter Tryz.func78, Tryz.ntmps78; go_upto_region 1 with fail; refine zau HS.out (fun V0 HS1 => ?_); replace HS := LH HS1; clear HS1 hP1; have cP1_0 := HS.out.cel 1 0 (v := .int .i64 p.from_) rfl rfl; have cP1p1_1 := HS.out.cel 0 1 (v := .int .i64 0) rfl rfl; have cP1p1_5 := HS.out.cel 0 5 (v := .int .i64 i0.ver) rfl rfl; have cP1_1 := HS.out.cel 1 1 (v := .int .i64 p.to_) rfl rfl; have cP1p1_4 := HS.out.cel 0 4 (v := .int .i64 f) rfl rfl; go_quiet (fail); have HB := HS.out.drewN nq; go_wp2_with fail; go_ret; exact ⟨ret_b hres.out, HB.below⟩
theorem suits0N (oa : Option Addr) (on oc : Nat) (p : PatR) (g : Int) (tr : Bool) (n f : Int) (i0 i1 : InfR) (h1 : p.from_ ≠ i0.ver) (w : World) : Calls Tryz.prog 78 #[.agg (jbC oa on oc p), .agg (rcC ⟨g, 0, tr, n, f, i0, i1⟩)] w fun e w' => e = .returned (.bool (decide (p.from_ = i0.ver ∧ f ≤ p.to_))) ∧ Below w.heap.size w w' := by
 have t1 : (p.from_ == i0.ver) = false := by simp [h1]
 have hres : Hid (false = decide (p.from_ = i0.ver ∧ f ≤ p.to_)) := by show _ = _; simp [h1]
 clear h1; obtain ⟨P1, hP1⟩ : ∃ P, w.heap.size = P := ⟨_, rfl⟩; have HS := LH (((((MS.start w).alloc (p := P1) (by simp [hP1]) (jbC oa on oc p) 35)).alloc (p := (P1 + 1)) (by simp [hP1]) (rcC ⟨g, 0, tr, n, f, i0, i1⟩) 28)); go_enter Tryz.func78, Tryz.ntmps78; go_upto_region 1 with fail; refine zau HS.out (fun V0 HS1 => ?_); replace HS := LH HS1; clear HS1 hP1; have cP1_0 := HS.out.cel 1 0 (v := .int .i64 p.from_) rfl rfl; have cP1p1_1 := HS.out.cel 0 1 (v := .int .i64 0) rfl rfl; have cP1p1_5 := HS.out.cel 0 5 (v := .int .i64 i0.ver) rfl rfl; have cP1_1 := HS.out.cel 1 1 (v := .int .i64 p.to_) rfl rfl; have cP1p1_4 := HS.out.cel 0 4 (v := .int .i64 f) rfl rfl; go_quiet (fail); have HB := HS.out.drewN nq; go_wp2_with fail; go_ret; exact ⟨ret_b hres.out, HB.below⟩
theorem suits1EG (oa : Option Addr) (on oc : Nat) (p : PatR) (g : Int) (tr : Bool) (n f : Int) (i0 i1 : InfR) (h1 : p.from_ = i1.ver) (h2 : f ≤ p.to_) (w : World) : Calls Tryz.prog 78 #[.agg (jbC oa on oc p), .agg (rcC ⟨g, 1, tr, n, f, i0, i1⟩)] w fun e w' => e = .returned (.bool (decide (p.from_ = i1.ver ∧ f ≤ p.to_))) ∧ Below w.heap.size w w' := by
 have t1 : (p.from_ == i1.ver) = true := by simp [h1]
 have t2 : decide (p.to_ ≥ f) = true := by simp; omega
 have t3 : decide (f ≤ p.to_) = true := by simp; omega
 have hres : Hid (true = decide (p.from_ = i1.ver ∧ f ≤ p.to_)) := by show _ = _; simp [h1, h2]
 clear h1 h2; obtain ⟨P1, hP1⟩ : ∃ P, w.heap.size = P := ⟨_, rfl⟩; have HS := LH (((((MS.start w).alloc (p := P1) (by simp [hP1]) (jbC oa on oc p) 35)).alloc (p := (P1 + 1)) (by simp [hP1]) (rcC ⟨g, 1, tr, n, f, i0, i1⟩) 28)); go_enter Tryz.func78, Tryz.ntmps78; go_upto_region 1 with fail; refine zau HS.out (fun V0 HS1 => ?_); replace HS := LH HS1; clear HS1 hP1; have cP1_0 := HS.out.cel 1 0 (v := .int .i64 p.from_) rfl rfl; have cP1p1_1 := HS.out.cel 0 1 (v := .int .i64 1) rfl rfl; have cP1p1_8 := HS.out.cel 0 8 (v := .int .i64 i1.ver) rfl rfl; have cP1_1 := HS.out.cel 1 1 (v := .int .i64 p.to_) rfl rfl; have cP1p1_4 := HS.out.cel 0 4 (v := .int .i64 f) rfl rfl; go_quiet (fail); have HB := HS.out.drewN nq; go_wp2_with fail; go_ret; exact ⟨ret_b hres.out, HB.below⟩
theorem suits1EL (oa : Option Addr) (on oc : Nat) (p : PatR) (g : Int) (tr : Bool) (n f : Int) (i0 i1 : InfR) (h1 : p.from_ = i1.ver) (h2 : ¬ f ≤ p.to_) (w : World) : Calls Tryz.prog 78 #[.agg (jbC oa on oc p), .agg (rcC ⟨g, 1, tr, n, f, i0, i1⟩)] w fun e w' => e = .returned (.bool (decide (p.from_ = i1.ver ∧ f ≤ p.to_))) ∧ Below w.heap.size w w' := by
 have t1 : (p.from_ == i1.ver) = true := by simp [h1]
 have t2 : decide (p.to_ ≥ f) = false := by simp; omega
 have t3 : decide (f ≤ p.to_) = false := by simp; omega
 have hres : Hid (false = decide (p.from_ = i1.ver ∧ f ≤ p.to_)) := by show _ = _; simp [h1, h2]
 clear h1 h2; obtain ⟨P1, hP1⟩ : ∃ P, w.heap.size = P := ⟨_, rfl⟩; have HS := LH (((((MS.start w).alloc (p := P1) (by simp [hP1]) (jbC oa on oc p) 35)).alloc (p := (P1 + 1)) (by simp [hP1]) (rcC ⟨g, 1, tr, n, f, i0, i1⟩) 28)); go_enter Tryz.func78, Tryz.ntmps78; go_upto_region 1 with fail; refine zau HS.out (fun V0 HS1 => ?_); replace HS := LH HS1; clear HS1 hP1; have cP1_0 := HS.out.cel 1 0 (v := .int .i64 p.from_) rfl rfl; have cP1p1_1 := HS.out.cel 0 1 (v := .int .i64 1) rfl rfl; have cP1p1_8 := HS.out.cel 0 8 (v := .int .i64 i1.ver) rfl rfl; have cP1_1 := HS.out.cel 1 1 (v := .int .i64 p.to_) rfl rfl; have cP1p1_4 := HS.out.cel 0 4 (v := .int .i64 f) rfl rfl; go_quiet (fail); have HB := HS.out.drewN nq; go_wp2_with fail; go_ret; exact ⟨ret_b hres.out, HB.below⟩
theorem suits1N (oa : Option Addr) (on oc : Nat) (p : PatR) (g : Int) (tr : Bool) (n f : Int) (i0 i1 : InfR) (h1 : p.from_ ≠ i1.ver) (w : World) : Calls Tryz.prog 78 #[.agg (jbC oa on oc p), .agg (rcC ⟨g, 1, tr, n, f, i0, i1⟩)] w fun e w' => e = .returned (.bool (decide (p.from_ = i1.ver ∧ f ≤ p.to_))) ∧ Below w.heap.size w w' := by
 have t1 : (p.from_ == i1.ver) = false := by simp [h1]
 have hres : Hid (false = decide (p.from_ = i1.ver ∧ f ≤ p.to_)) := by show _ = _; simp [h1]
 clear h1; obtain ⟨P1, hP1⟩ : ∃ P, w.heap.size = P := ⟨_, rfl⟩; have HS := LH (((((MS.start w).alloc (p := P1) (by simp [hP1]) (jbC oa on oc p) 35)).alloc (p := (P1 + 1)) (by simp [hP1]) (rcC ⟨g, 1, tr, n, f, i0, i1⟩) 28)); go_enter Tryz.func78, Tryz.ntmps78; go_upto_region 1 with fail; refine zau HS.out (fun V0 HS1 => ?_); replace HS := LH HS1; clear HS1 hP1; have cP1_0 := HS.out.cel 1 0 (v := .int .i64 p.from_) rfl rfl; have cP1p1_1 := HS.out.cel 0 1 (v := .int .i64 1) rfl rfl; have cP1p1_8 := HS.out.cel 0 8 (v := .int .i64 i1.ver) rfl rfl; have cP1_1 := HS.out.cel 1 1 (v := .int .i64 p.to_) rfl rfl; have cP1p1_4 := HS.out.cel 0 4 (v := .int .i64 f) rfl rfl; go_quiet (fail); have HB := HS.out.drewN nq; go_wp2_with fail; go_ret; exact ⟨ret_b hres.out, HB.below⟩
theorem suitsD_any (oa : Option Addr) (on oc : Nat) (p : PatR) (r : RecR) (ha : r.act = 0 ∨ r.act = 1) (w : World) : Calls Tryz.prog 78 #[.agg (jbC oa on oc p), .agg (rcC r)] w fun e w' => e = .returned (.bool (decide (p.from_ = (RecM.inf r r.act).ver ∧ r.floor ≤ p.to_))) ∧ Below w.heap.size w w' := by
 obtain ⟨g, a, tr, n, f, i0, i1⟩ := r; simp only at ha; rcases ha with rfl | rfl
 · by_cases h1 : p.from_ = i0.ver
   · by_cases h2 : f ≤ p.to_
     · exact suits0EG oa on oc p g tr n f i0 i1 h1 h2 w
     · exact suits0EL oa on oc p g tr n f i0 i1 h1 h2 w
   · exact suits0N oa on oc p g tr n f i0 i1 h1 w
 · by_cases h1 : p.from_ = i1.ver
   · by_cases h2 : f ≤ p.to_
     · exact suits1EG oa on oc p g tr n f i0 i1 h1 h2 w
     · exact suits1EL oa on oc p g tr n f i0 i1 h1 h2 w
   · exact suits1N oa on oc p g tr n f i0 i1 h1 w
theorem image0 (h : DevH) (d : DevR) (g : Int) (tr : Bool) (n f : Int) (i0 i1 : InfR) (m : Nat) (hm : i0.size = m) (hc : m ≤ h.c0) (w : World) : Calls Tryz.prog 80 #[devV h d, .agg (rcC ⟨g, 0, tr, n, f, i0, i1⟩)] w fun e w' => e = .returned (.slice h.a0 m h.c0) ∧ Below w.heap.size w w' := by
 have hcut := fun W => rCh h.a0 h.n0 h.c0 W m hc; unfold devV; obtain ⟨P1, hP1⟩ : ∃ P, w.heap.size = P := ⟨_, rfl⟩; have HS := LH (((((MS.start w).alloc (p := P1) (by simp [hP1]) (dvC h d) 37)).alloc (p := (P1 + 1)) (by simp [hP1]) (rcC ⟨g, 0, tr, n, f, i0, i1⟩) 28)); go_enter Tryz.func80, Tryz.ntmps80; go_upto_region 1 with fail; refine zau HS.out (fun V0 HS1 => ?_); replace HS := LH HS1; clear HS1 hP1; have cP1_0 := HS.out.cel 1 0 (v := .slice h.a0 h.n0 h.c0) rfl rfl; have cP1p1_1 := HS.out.cel 0 1 (v := .int .i64 0) rfl rfl; have cP1p1_6 := HS.out.cel 0 6 (v := .int .i64 i0.size) rfl rfl; rw [hm] at cP1p1_6; go_quiet (fail); have HB := HS.out.drewN nq; go_wp2_with fail; go_ret; exact ⟨rfl, HB.below⟩
theorem image1 (h : DevH) (d : DevR) (g : Int) (tr : Bool) (n f : Int) (i0 i1 : InfR) (m : Nat) (hm : i1.size = m) (hc : m ≤ h.c1) (w : World) : Calls Tryz.prog 80 #[devV h d, .agg (rcC ⟨g, 1, tr, n, f, i0, i1⟩)] w fun e w' => e = .returned (.slice h.a1 m h.c1) ∧ Below w.heap.size w w' := by
 have hcut := fun W => rCh h.a1 h.n1 h.c1 W m hc; unfold devV; obtain ⟨P1, hP1⟩ : ∃ P, w.heap.size = P := ⟨_, rfl⟩; have HS := LH (((((MS.start w).alloc (p := P1) (by simp [hP1]) (dvC h d) 37)).alloc (p := (P1 + 1)) (by simp [hP1]) (rcC ⟨g, 1, tr, n, f, i0, i1⟩) 28)); go_enter Tryz.func80, Tryz.ntmps80; go_upto_region 1 with fail; refine zau HS.out (fun V0 HS1 => ?_); replace HS := LH HS1; clear HS1 hP1; have cP1_1 := HS.out.cel 1 1 (v := .slice h.a1 h.n1 h.c1) rfl rfl; have cP1p1_1 := HS.out.cel 0 1 (v := .int .i64 1) rfl rfl; have cP1p1_9 := HS.out.cel 0 9 (v := .int .i64 i1.size) rfl rfl; rw [hm] at cP1p1_9; go_quiet (fail); have HB := HS.out.drewN nq; go_wp2_with fail; go_ret; exact ⟨rfl, HB.below⟩
theorem imageD_any (h : DevH) (d : DevR) (r : RecR) (ha : r.act = 0 ∨ r.act = 1) (m : Nat) (hm : (RecM.inf r r.act).size = m) (hc : m ≤ slC h r.act) (w : World) :
 Calls Tryz.prog 80 #[devV h d, .agg (rcC r)] w fun e w' => e = .returned (.slice (slA h r.act) m (slC h r.act)) ∧ Below w.heap.size w w' := by
 obtain ⟨g, a, tr, n, f, i0, i1⟩ := r; simp only at ha hm hc ⊢; rcases ha with rfl | rfl
 · exact image0 h d g tr n f i0 i1 m hm hc w
 · exact image1 h d g tr n f i0 i1 m hm hc w
def DeltaM.stepErr (old : Int) (o : OpR) : Int := if DeltaM.badForm o then 3 else if DeltaM.bdR old o then 2 else 0
theorem DeltaM.good_num {old : Int} {o : OpR} (h : ¬ DeltaM.badForm o) (h2 : ¬ DeltaM.bdR old o) : 0 ≤ o.len ∧ (o.data.length : Int) ≤ 64 ∧ o.len ≤ old := by
 unfold DeltaM.badForm at h; unfold DeltaM.bdR at h2; omega
theorem zbk (x : Int) (w : World) :
 Calls Tryz.prog 192 #[.int .i64 x] w fun e w' => e = .returned (.bool (decide (0 ≤ x ∧ x ≤ 64))) ∧ w = w' := by
 by_cases h : 0 ≤ x
 · go_enter Tryz.func192, Tryz.ntmps192
   go_wp2; go_ret; exact ⟨by simp [h], rfl⟩
 · go_enter Tryz.func192, Tryz.ntmps192
   go_wp2; go_ret; exact ⟨by simp; omega, rfl⟩
theorem checkStep_any (A L : Int) (va : Option Addr) (vn vc : Nat) (D : List Int) (old : Int) (w : World) (hD : D.length = vn) (hA : I64 A) (hL : I64 L) (h0 : 0 ≤ old) (h1 : old ≤ 64) :
 Calls Tryz.prog 193 #[.agg #[.int .i64 A, .int .i64 L, .slice va vn vc], .int .i64 old] w fun e w' => e = .returned (.int .i64 (DeltaM.stepErr old ⟨A, L, D⟩)) ∧ Below w.heap.size w w' := by
 have hB1 := (Below.refl w.heap.size w).alloc (Nat.le_refl _) (.cells #[.int .i64 A, .int .i64 L, .slice va vn vc] 159); have HB := LH hB1; have HV : Hid ((D.length : Int) = vn) := by show (D.length : Int) = vn; omega
 have form : DeltaM.badForm ⟨A, L, D⟩ → 3 = DeltaM.stepErr old ⟨A, L, D⟩ := fun h => by unfold DeltaM.stepErr; rw [if_pos h]
 have range : ¬ DeltaM.badForm ⟨A, L, D⟩ → DeltaM.bdR old ⟨A, L, D⟩ → 2 = DeltaM.stepErr old ⟨A, L, D⟩ := fun h h2 => by unfold DeltaM.stepErr; rw [if_neg h, if_pos h2]
 have fine : ¬ DeltaM.badForm ⟨A, L, D⟩ → ¬ DeltaM.bdR old ⟨A, L, D⟩ → 0 = DeltaM.stepErr old ⟨A, L, D⟩ := fun h h2 => by unfold DeltaM.stepErr; rw [if_neg h, if_neg h2]
 have HF := LH form; have HR := LH range; have HN := LH fine; clear form range fine hB1 hD; unfold I64 at hA hL; obtain ⟨a1, a2⟩ := hA; obtain ⟨l1, l2⟩ := hL; by_cases hL0 : L = 0
 · subst hL0
   by_cases hA0 : A = 0
   · subst hA0
     by_cases hv0 : vn = 0
     · subst hv0
       have HBF : Hid (DeltaM.badForm ⟨0, 0, D⟩) := by show DeltaM.badForm _; exact .inl ⟨rfl, .inr (by simp only; rw [HV.out]; omega)⟩
       go_enter Tryz.func193, Tryz.ntmps193; go_wp2; go_ret; exact ⟨zao (HF.out HBF.out), HB.out⟩
     · have hvb : ((vn : Int) == 0) = false := by simp; omega
       by_cases hv64 : 64 < (vn : Int)
       · have HBF : Hid (DeltaM.badForm ⟨0, 0, D⟩) := by show DeltaM.badForm _; exact .inl ⟨rfl, .inr (by simp only; rw [HV.out]; omega)⟩
         go_enter Tryz.func193, Tryz.ntmps193; go_wp2; go_ret; exact ⟨zao (HF.out HBF.out), HB.out⟩
       · have HNF : Hid (¬ DeltaM.badForm ⟨0, 0, D⟩) := by show ¬ _; unfold DeltaM.badForm; simp only; rw [HV.out]; omega
         have HNR : Hid (¬ DeltaM.bdR old ⟨0, 0, D⟩) := by show ¬ _; unfold DeltaM.bdR; simp only; omega
         have hno : ¬ old < 0 := by omega
         go_enter Tryz.func193, Tryz.ntmps193; go_wp2; go_ret; exact ⟨zao (HN.out HNF.out HNR.out), HB.out⟩
   · have HBF : Hid (DeltaM.badForm ⟨A, 0, D⟩) := by show DeltaM.badForm _; exact .inl ⟨rfl, .inl hA0⟩
     have hAb : (A != 0) = true := by simp [hA0]
     go_enter Tryz.func193, Tryz.ntmps193; go_wp2; go_ret; exact ⟨zao (HF.out HBF.out), HB.out⟩
 · have hLb : (L == 0) = false := by simp [hL0]
   have hLn : (L != 0) = true := by simp [hL0]
   by_cases hv : vn = 0
   · subst hv
     have HNF : Hid (¬ DeltaM.badForm ⟨A, L, D⟩) := by show ¬ _; unfold DeltaM.badForm; simp only; rw [HV.out]; omega
     by_cases hr1 : L < 0
     · have HBR : Hid (DeltaM.bdR old ⟨A, L, D⟩) := by show DeltaM.bdR _ _; unfold DeltaM.bdR; simp only; omega
       go_enter Tryz.func193, Tryz.ntmps193; go_wp2; go_ret; exact ⟨zao (HR.out HNF.out HBR.out), HB.out⟩
     · by_cases hr2 : A < 0
       · have HBR : Hid (DeltaM.bdR old ⟨A, L, D⟩) := by show DeltaM.bdR _ _; unfold DeltaM.bdR; simp only; omega
         go_enter Tryz.func193, Tryz.ntmps193; go_wp2; go_ret; exact ⟨zao (HR.out HNF.out HBR.out), HB.out⟩
       · obtain ⟨S, hS⟩ : ∃ S : Int, old - A = S := ⟨_, rfl⟩
         by_cases hr5 : S < L
         · have HBR : Hid (DeltaM.bdR old ⟨A, L, D⟩) := by show DeltaM.bdR _ _; unfold DeltaM.bdR; simp only; omega
           go_enter Tryz.func193, Tryz.ntmps193; go_wp2; go_ret; exact ⟨zao (HR.out HNF.out HBR.out), HB.out⟩
         · have HNR : Hid (¬ DeltaM.bdR old ⟨A, L, D⟩) := by show ¬ _; unfold DeltaM.bdR; simp only; omega
           go_enter Tryz.func193, Tryz.ntmps193; go_wp2; go_ret; exact ⟨zao (HN.out HNF.out HNR.out), HB.out⟩
   · have HBF : Hid (DeltaM.badForm ⟨A, L, D⟩) := by show DeltaM.badForm _; unfold DeltaM.badForm; simp only; rw [HV.out]; omega
     have hvb : ((vn : Int) != 0) = true := by simp; omega
     go_enter Tryz.func193, Tryz.ntmps193; go_wp2; go_ret; exact ⟨zao (HF.out HBF.out), HB.out⟩
theorem step_block (W : World) (v0 v1 v2 : Value) : (W.alloc (.cells #[v0, v1, v2] 159)).heap[W.heap.size]? = some (.cells #[v0, v1, v2] 159 (0, 0)) := by rw [hpA, if_pos rfl]
theorem step_cells {W : World} {B : Nat} {v0 v1 v2 : Value} (h : W.heap[B]? = some (.cells #[v0, v1, v2] 159 (0, 0))) : W.cell? ⟨B, 0, none⟩ = some v0 ∧ W.cell? ⟨B, 1, none⟩ = some v1 ∧ W.cell? ⟨B, 2, none⟩ = some v2 := by
 simp [World.cell?, h]
theorem check_any (a : Option Addr) (n c : Nat) (l : List OpR) (old size : Int) (w : World) (hl : OS w a n c l) :
 Calls Tryz.prog 152 #[.slice a n c, .int .i64 old, .int .i64 size] w fun e w' => e = .returned (.int .i64 (DeltaM.check l old size)) ∧ Below w.heap.size w w' := by
 have hlen : n ≤ 9223372036854775807 := by have := hl.le; have := hl.max; omega
 by_cases h40 : 40 < n
 · have he : DeltaM.check l old size = 1 := by unfold DeltaM.check; rw [if_pos (.inl (by rw [hl.len]; exact h40))]
   rw [he]; clear hl; go_enter Tryz.func152, Tryz.ntmps152; go_wp2_with fail; go_ret; exact ⟨rfl, Below.refl _ _⟩
 · by_cases hold : 0 ≤ old ∧ old ≤ 64
   · by_cases hsz : 0 ≤ size ∧ size ≤ 64
     · have he : DeltaM.check l old size = DeltaM.chk old size l 0 := by unfold DeltaM.check; rw [if_neg (by rw [hl.len]; omega)]
       rw [he]; have HL := LH hl; have HLn := LH hl.len; obtain ⟨o1, o2⟩ := hold; obtain ⟨s1, s2⟩ := hsz; have d1 : decide (0 ≤ old ∧ old ≤ 64) = true := by simp; omega
       have d2 : decide (0 ≤ size ∧ size ≤ 64) = true := by simp; omega
       clear hl he; go_enter Tryz.func152, Tryz.ntmps152; go_wp2_with fail; refine (zbk old _).mono ?_; rintro e w' ⟨rfl, rfl⟩; rw [d1]; go_wp2_with fail; refine (zbk size _).mono ?_; rintro e w' ⟨rfl, rfl⟩; rw [d2]; go_wp2_with fail; go_loopw [7, 26] (fun made i wr => ChkRel l old size w made i wr) (fun _ i _ => n - (intOf i).toNat)
       case atStart => exact ⟨0, 0, rfl, rfl, Nat.zero_le _, s1, rfl, Below.refl _ _⟩
       case round =>
        obtain ⟨m, k, rfl, rfl, hk, hm, hc, hB⟩ := hrel; rw [HLn.out] at hk; have HC := LH hc; clear hc; by_cases hlt : k < n
        · obtain ⟨b, off, rfl, hcs⟩ := (HL.out.later hB).cells (by omega)
          obtain ⟨va, vn, vc, q0, q1, q2, q3, q4, q5⟩ := hcs k hlt; have HD := LH (drop_op l k (by rw [HLn.out]; exact hlt)); generalize l.getD k default = o at q0 q1 q2 q3 q4 q5 HD; obtain ⟨A, L, D⟩ := o; have HDL := LH q3.len; clear hcs q3; have hB1 := hB.alloc hB.size (.cells #[.int .i64 A, .int .i64 L, .slice va vn vc] 159); simp only at q0 q1 q2 q4 q5; have hA64 := LH q4; have hL64 := LH q5; clear q4 q5; have HV : Hid ((D.length : Int) = vn) := by show (D.length : Int) = vn; have := HDL.out; simp only at this; omega
          have HF : Hid (∀ r : Int, DeltaM.chk old size (⟨A, L, D⟩ :: l.drop (k + 1)) m = r → r = DeltaM.chk old size l 0) := by
           show ∀ r : Int, _ → _; intro r h; rw [← h, ← HC.out, HD.out]
          have HSZ : Hid (DeltaM.size ⟨A, L, D⟩ = L + vn) := by show DeltaM.size ⟨A, L, D⟩ = L + vn; unfold DeltaM.size; simp only; rw [HV.out]
          have hblk := step_block wr (.int .i64 A) (.int .i64 L) (.slice va vn vc); have HB1 := LH hB1; have HBLK := LH hblk; clear hblk hB1; go_wp2_with fail; refine (checkStep_any A L va vn vc D old _ HDL.out hA64.out hL64.out o1 o2).mono ?_; rintro e W2 ⟨rfl, hb2⟩; have hB2 := bTh HB1.out hb2; have hc2 := step_cells ((hb2.block _ (by simp)).trans HBLK.out); obtain ⟨-, r1, r2⟩ := hc2; have HB2 := LH hB2; clear hB2 hb2 HB1 HBLK q0 q1 q2; by_cases hf : DeltaM.badForm ⟨A, L, D⟩
          · have he : DeltaM.stepErr old ⟨A, L, D⟩ = 3 := by unfold DeltaM.stepErr; rw [if_pos hf]
            rw [he]; have HBF := LH hf; clear hf he; go_wp2_with fail; go_ret; exact ⟨zao (HF.out 3 (DeltaM.chk_form HBF.out)), HB2.out⟩
          · by_cases hr : DeltaM.bdR old ⟨A, L, D⟩
            · have he : DeltaM.stepErr old ⟨A, L, D⟩ = 2 := by unfold DeltaM.stepErr; rw [if_neg hf, if_pos hr]
              rw [he]; have HNF := LH hf; have HBR := LH hr; clear hf hr he; go_wp2_with fail; go_ret; exact ⟨zao (HF.out 2 (DeltaM.chk_range HNF.out HBR.out)), HB2.out⟩
            · have he : DeltaM.stepErr old ⟨A, L, D⟩ = 0 := by unfold DeltaM.stepErr; rw [if_neg hf, if_neg hr]
              rw [he]; have hg := DeltaM.good_num hf hr; simp only at hg; rw [HV.out] at hg; obtain ⟨g1, g2, g3⟩ := hg; have HNF := LH hf; have HNR := LH hr; clear hf hr he; obtain ⟨M, hM⟩ : ∃ M : Nat, (m : Int) + (L + vn) = M := ⟨m + (L + vn).toNat, by omega⟩; obtain ⟨S, hS⟩ : ∃ S : Int, L + (vn : Int) = S := ⟨_, rfl⟩; rw [hS] at hM; by_cases hmany : size < (M : Int)
              · go_wp2_with fail
                go_ret; exact ⟨zao (HF.out 1 (DeltaM.chk_many HNF.out HNR.out (by rw [HSZ.out]; omega))), HB2.out⟩
              · go_wp2_with fail
                go_roundw
                case rel =>
                 refine ⟨M, k + 1, rfl, rfl, by rw [HLn.out]; omega, by omega, ?_, HB2.out⟩; have e2 : (m : Int) + DeltaM.size ⟨A, L, D⟩ = M := by rw [HSZ.out]; omega
                 rw [← HC.out, HD.out, DeltaM.chk_on HNF.out HNR.out (by rw [e2]; omega), e2]
                case measure => simp [intOf]; omega
        · have hkl : l.drop k = [] := List.drop_eq_nil_of_le (by rw [HLn.out]; omega)
          have HE := LH hkl; clear hkl; by_cases hf : (m : Int) < size
          · go_wp2_with fail
            go_ret; exact ⟨zao (by rw [← HC.out, HE.out]; simp [DeltaM.chk, hf]), hB⟩
          · go_wp2_with fail
            go_ret; exact ⟨zao (by rw [← HC.out, HE.out]; simp [DeltaM.chk, hf]), hB⟩
     · have he : DeltaM.check l old size = 1 := by unfold DeltaM.check; rw [if_pos (.inr (.inr hsz))]
       rw [he]; have d1 : decide (0 ≤ old ∧ old ≤ 64) = true := by simp only [decide_eq_true_eq]; exact hold
       have d2 : decide (0 ≤ size ∧ size ≤ 64) = false := by simp only [decide_eq_false_iff_not]; exact hsz
       clear hl he hold hsz; go_enter Tryz.func152, Tryz.ntmps152; go_wp2_with fail; refine (zbk old _).mono ?_; rintro e w' ⟨rfl, rfl⟩; rw [d1]; go_wp2_with fail; refine (zbk size _).mono ?_; rintro e w' ⟨rfl, rfl⟩; rw [d2]; go_wp2_with fail; go_ret; exact ⟨rfl, Below.refl _ _⟩
   · have he : DeltaM.check l old size = 1 := by unfold DeltaM.check; rw [if_pos (.inr (.inl hold))]
     rw [he]; have d1 : decide (0 ≤ old ∧ old ≤ 64) = false := by simp only [decide_eq_false_iff_not]; exact hold
     clear hl he hold; go_enter Tryz.func152, Tryz.ntmps152; go_wp2_with fail; refine (zbk old _).mono ?_; rintro e w' ⟨rfl, rfl⟩; rw [d1]; go_wp2_with fail; go_ret; exact ⟨rfl, Below.refl _ _⟩
theorem step_copy_run {P : Program} {ops : Array Oper} {o : Oper} {a : Act} {w : World} {K : Act → World → Prop} {Q : Exit → Act → World → Prop} {E : Prop} (hgd : o.guard = none) (d s : Operand) (dT sT : TypeId)
 (ho : o.op = .call { callee := .builtin .copy, args := #[d, s], argTypes := #[dT, sT] }) (vd vs : Value) (hd : a.eval d = vd) (hs : a.eval s = vs)
 (v' : Value) (w' : World) (hr : (Builtin.copy_ #[dT, sT] o.type #[vd, vs]).run P w = .ok v' w') (h : K (a.put o.dst v') w') :
 if Region.wanted o (yielded ops a.tmps) = true then Oper.wp P o a w K Q else E := by
 have hw : Region.wanted o (yielded ops a.tmps) = true := by simp [Region.wanted, hgd]
 rw [if_pos hw]; unfold Oper.wp; simp [execOp, ho, resolve, invoke, builtin, hd, hs, hr, Result.andThen]; exact h
structure MSt (w0 : World) (g S : Nat) (dn : List Int) (W : World) : Prop where
 row : ∃ cur : List Value, W.heap[g]? = some (.cells cur.toArray 5 (0, 0)) ∧ cur.length = S ∧ cur.take dn.length = dn.map (Value.int .u8)
 fit : dn.length ≤ S
 below : Below w0.heap.size w0 W
 le : w0.heap.size ≤ g
section
variable {w0 : World} {g S : Nat} {dn : List Int} {W W' : World}
theorem MSt.lt (h : MSt w0 g S dn W) : g < W.heap.size := by
 obtain ⟨cur, h1, _⟩ := h.row; exact zax h1
theorem MSt.later (h : MSt w0 g S dn W) (hb : Below W.heap.size W W') : MSt w0 g S dn W' := by
 have hlt := h.lt; obtain ⟨cur, h1, h2, h3⟩ := h.row; exact ⟨⟨cur, (hb.block _ hlt).trans h1, h2, h3⟩, h.fit, bTh h.below hb, h.le⟩
theorem MSt.copy (h : MSt w0 g S dn W) {a : Option Addr} {m c : Nat} {l : List Int} (hs : BS W a m c l) (hm : dn.length + m ≤ S) :
 ∃ W', (Builtin.copy_ #[22, 22] 3 #[.slice (cutA (some ⟨g, 0, none⟩) S dn.length) (S - dn.length) (S - dn.length), .slice a m c]).run Tryz.prog W = .ok (.int .i64 (m : Int)) W' ∧
   Hid (MSt w0 g S (dn ++ l) W') ∧ ∀ k, k ≠ g → W'.heap[k]? = W.heap[k]? := by
 have hsz : (Tryz.prog.info? 5).map (·.size) = some 1 := by
  obtain ⟨i0, hi, hz0, hz1, hz2⟩ := info_parts Tryz.info_u8; rw [hi]; simp [hz1]
 have hlen := hs.len; by_cases h0 : m = 0
 · subst h0
   obtain rfl : l = [] := List.eq_nil_of_length_eq_zero hs.len; refine ⟨W, run_copy_none (P := Tryz.prog) W 22 22 3 5 _ _ _ _ _ _ U22 hsz (by simp), ?_, fun _ _ => rfl⟩; rw [List.append_nil]; exact h
 · obtain ⟨cur, h1, h2, h3⟩ := h.row
   obtain ⟨b, off, rfl, hc⟩ := hs.cells (by omega)
   have hcut : cutA (some ⟨g, 0, none⟩) S dn.length = some ⟨g, dn.length, none⟩ := by
    unfold cutA; rw [if_neg (by omega), Option.map_some, addr_add, Nat.zero_add]
   have hr := run_copy_row (P := Tryz.prog) W 22 22 3 5 g dn.length (S - dn.length) (S - dn.length) ⟨b, off, none⟩ m c cur.toArray 5 (l.map (Value.int .u8)) U22 hsz h1
    (by rw [List.length_map, hlen]; show m = min m (S - dn.length); omega) hs.news (by rw [List.length_map, hlen, List.size_toArray, h2]; exact hm) (zbz _)
   rw [List.length_map, hlen] at hr; rw [hcut]; refine ⟨_, hr, ⟨⟨_, setRow_heap W g _ _ 5 _ h1, ?_, ?_⟩, ?_, below_setRow h.below h.le _, h.le⟩, fun k hk => setRow_other W g k _ hk⟩
   · simp only [List.length_append, List.length_take, List.length_map, List.length_drop]
     omega
   · simp only [List.length_append, List.map_append, h3]
     rw [List.take_append_of_le_length (by simp), List.take_of_length_le (by simp)]
   · rw [List.length_append]; omega
theorem MSt.bs (h : MSt w0 g S dn W) (hS : dn.length = S) (hm : S ≤ 1000) (hb : ∀ v ∈ dn, 0 ≤ v ∧ v ≤ 255) : BS W (some ⟨g, 0, none⟩) S S dn := by
 obtain ⟨cur, h1, h2, h3⟩ := h.row; refine ⟨hS, Nat.le_refl _, by omega, hb, fun _ => ⟨g, 0, rfl, fun i hi => ?_⟩, fun e => by cases e⟩; have hi2 : i < dn.length := by omega
 have := congrArg (·[i]?) h3; simp only [List.getElem?_map, List.getElem?_take_of_lt hi2, List.getElem?_eq_getElem hi2, Option.map_some] at this; simp only [World.cell?, h1, Nat.zero_add, List.getElem?_toArray, this, List.getElem?_eq_getElem hi2, Option.getD_some]
 rfl
end
def AplRel (old : List Int) (l : List OpR) (w : World) (g S : Nat) (n i : Value) (wr : World) : Prop :=
 ∃ (k d : Nat) (dn : List Int), i = .int .i64 k ∧ n = .int .i64 d ∧ dn.length = d ∧ k ≤ l.length ∧ MSt w g S dn wr ∧ dn ++ DeltaM.makes old (l.drop k) = DeltaM.makes old l
theorem apply_any (a : Option Addr) (n c : Nat) (old : List Int) (a' : Option Addr) (n' c' : Nat) (l : List OpR) (s : Int) (w : World) (hx : BS w a n c old) (hl : OS w a' n' c' l) :
 Calls Tryz.prog 142 #[.slice a n c, .slice a' n' c', .int .i64 s] w (GivesA old l s w) := by
 have HX := LH hx; have HL := LH hl; have HLn := LH hl.len; have HXn := LH hx.len; have hlen : n' ≤ 9223372036854775807 := by have := hl.le; have := hl.max; omega
 obtain ⟨E, hE⟩ : ∃ E, DeltaM.check l n s = E := ⟨_, rfl⟩; have HE : Hid (DeltaM.check l old.length s = E) := by show DeltaM.check l old.length s = E; rw [hx.len]; exact hE
 have hck := check_any a' n' c' l n s; rw [hE] at hck; have HCK := LH hck; have HXc := LH hx.le; clear hck hx hl; by_cases h0 : E = 0
 · subst h0
   obtain ⟨h40, o1, o2, s1, s2, hgood, htot⟩ := DeltaM.check_zero hE; obtain ⟨S, rfl⟩ : ∃ S : Nat, s = S := ⟨s.toNat, by omega⟩; have HG : Hid (DeltaM.Good old.length l) := by show DeltaM.Good old.length l; rw [HXn.out]; exact hgood
   have hml := DeltaM.makes_length (old := old) HG.out; rw [htot] at hml; have HML : Hid ((DeltaM.makes old l).length = S) := by show _ = S; omega
   have HAP : Hid (DeltaM.applied old l S = DeltaM.makes old l) := by show DeltaM.applied old l S = _; unfold DeltaM.applied; rw [if_pos HE.out]
   clear hgood htot hml hE h40; obtain ⟨i0, hi, hz0, hz1, hz2⟩ := info_parts Tryz.info_u8
   have hmk : ∀ W, (Instr.makeSlice 22 (.int .i64 (S : Int)) (.int .i64 (S : Int))).run Tryz.prog W = .ok (.slice (some ⟨W.heap.size, 0, none⟩) S S) (W.alloc (.cells (madeCells (Value.int .u8 0).cells S) 5)) := by
    intro W; have := run_make (P := Tryz.prog) W 22 5 i0 _ U22 hi hz0 .i64 .i64 S S (by omega) (Int.le_refl _) (by rw [hz2]; omega) (by omega)
    simpa [hz1] using this
   have hms : (madeCells (Value.int .u8 0).cells S).size = S := size_madeCells _ _; generalize madeCells (Value.int .u8 0).cells S = Z at hmk hms; have HZ := LH hms; clear hi hz0 hz1 hz2 i0 hms; go_enter Tryz.func142, Tryz.ntmps142; go_wp2_with fail; refine (HCK.out _ HL.out).mono ?_; rintro e W0 ⟨rfl, b0⟩; obtain ⟨g, hg⟩ : ∃ g, W0.heap.size = g := ⟨_, rfl⟩
   have hst : Hid (MSt w g S [] (W0.alloc (.cells Z 5))) := by
    subst hg; refine ⟨⟨Z.toList, by rw [hpA, if_pos rfl], by simpa using HZ.out, by simp⟩, by simp, b0.alloc b0.size _, b0.size⟩
   clear b0 HCK; go_wp2_with fail; generalize W0.alloc (.cells Z 5) = W1 at hst ⊢; go_loopw [10, 25] (fun n i wr => AplRel old l w g S n i wr) (fun _ i _ => n' - (intOf i).toNat)
   case atStart => exact ⟨0, 0, [], rfl, rfl, rfl, Nat.zero_le _, hst.out, rfl⟩
   case round =>
    clear hst hmk; obtain ⟨k, d, dn, rfl, rfl, hdl, hk, hs, hu⟩ := hrel; rw [HLn.out] at hk; have HS := LH hs; have HU := LH hu; have HDL := LH hdl; clear hs hu hdl; by_cases hlt : k < n'
    · obtain ⟨b, off, rfl, hcs⟩ := (HL.out.later HS.out.below).cells (by omega)
      obtain ⟨va, vn, vc, q0, q1, q2, q3, -, -⟩ := hcs k hlt; have HD := LH (drop_op l k (by rw [HLn.out]; exact hlt))
      have hg := HG.out (l.getD k default) (by have : l.getD k default ∈ l.drop k := by rw [HD.out]; simp
                                               exact List.mem_of_mem_drop this)
      generalize l.getD k default = o at q0 q1 q2 q3 HD hg; obtain ⟨A, L, D⟩ := o; simp only at q0 q1 q2 q3; obtain ⟨r1, r2, r3⟩ := DeltaM.good_len hg.2; simp only at r1 r2 r3; obtain ⟨N, rfl⟩ : ∃ N : Nat, A = N := ⟨A.toNat, by omega⟩; obtain ⟨M, rfl⟩ : ∃ M : Nat, L = M := ⟨L.toNat, by omega⟩; have hNM : N + M ≤ old.length := by omega
      have HP : Hid (DeltaM.makes old (l.drop k) = D ++ ((old.drop N).take M ++ DeltaM.makes old (l.drop (k + 1)))) := by
       show _ = _; rw [HD.out]; simp [DeltaM.makes, DeltaM.part]
      have hDn := q3.len
      have hle : d + vn + M ≤ S := by
       have h1 := congrArg List.length HU.out; rw [HP.out] at h1; simp only [List.length_append, List.length_take, List.length_drop] at h1; have := HML.out; have := HDL.out; omega
      clear hg hcs r1 r2 r3; obtain ⟨B, hBB⟩ : ∃ B, wr.heap.size = B := ⟨_, rfl⟩; have hbl : Below wr.heap.size wr (wr.alloc (.cells #[.int .i64 (N : Int), .int .i64 (M : Int), .slice va vn vc] 159)) := (Below.refl _ _).alloc (Nat.le_refl _) _; have hgB : g < B := by rw [← hBB]; exact HS.out.lt
      have hb0 : (wr.alloc (.cells #[.int .i64 (N : Int), .int .i64 (M : Int), .slice va vn vc] 159)).heap[B]? = some (.cells #[.int .i64 (N : Int), .int .i64 (M : Int), .slice va vn vc] 159 (0, 0)) := by rw [hpA, if_pos hBB.symm]
      obtain ⟨W5, hrun, HS5, hf5⟩ := (HS.out.later (hbl.drew)).copy (q3.later hbl.drew) (by rw [HDL.out]; omega); rw [HDL.out] at hrun; have hb5 := (hf5 B (by omega)).trans hb0; have c5 := step_cells hb5; obtain ⟨e0, e1, -⟩ := c5; have hl5 : (dn ++ D).length = d + vn := by rw [List.length_append, HDL.out, hDn]
      obtain ⟨F, hF⟩ : ∃ F : Nat, (d : Int) + vn = F := ⟨d + vn, by omega⟩; have hF2 : d + vn = F := by omega
      obtain ⟨T, hT⟩ : ∃ T : Nat, (N : Int) + M = T := ⟨N + M, by omega⟩; have hT2 : T - N = M := by omega
      have hTn : T ≤ n := by have := HXn.out; omega
      have hcut1 : ∀ W, (Instr.slice 22 (.slice (some ⟨g, 0, none⟩) S S) (some (.int .i64 d)) none none).run Tryz.prog W = .ok (.slice (cutA (some ⟨g, 0, none⟩) S d) (S - d) (S - d)) W := fun W => zaU (some ⟨g, 0, none⟩) S S W d (by omega); have hcut2 : ∀ W, (Instr.slice 22 (.slice (some ⟨g, 0, none⟩) S S) (some (.int .i64 F)) none none).run Tryz.prog W = .ok (.slice (cutA (some ⟨g, 0, none⟩) S F) (S - F) (S - F)) W := fun W => zaU (some ⟨g, 0, none⟩) S S W F (by omega)
      have hcut3 : ∀ W, (Instr.slice 22 (.slice a n c) (some (.int .i64 N)) (some (.int .i64 T)) none).run Tryz.prog W = .ok (.slice (cutA a c N) M (c - N)) W := fun W => by
       have := za6 a n c W N T (by omega) (by have := HXc.out; omega)
       rwa [hT2] at this
      have hsrc := (HX.out.mid N T (by omega) hTn); rw [hT2] at hsrc; rw [hF2] at hl5; have hsrc5 := hsrc.later (HS5.out.below.drew); obtain ⟨W7, hrun2, HS7, hf7⟩ := (HS5.out.later (Below.refl _ _).drew).copy hsrc5 (by rw [hl5]; omega); rw [hl5] at hrun2; generalize cutA (some ⟨g, 0, none⟩) S d = A1 at hcut1 hrun; generalize cutA (some ⟨g, 0, none⟩) S F = A2 at hcut2 hrun2; generalize cutA a c N = A3 at hcut3 hrun2; generalize c - N = C3 at hcut3 hrun2; generalize S - d = Sd at hcut1 hrun; generalize S - F = SF at hcut2 hrun2; obtain ⟨G, hG⟩ : ∃ G : Nat, (F : Int) + M = G := ⟨F + M, by omega⟩; have hw1 : IntKind.i64.wrap (F : Int) = F := IntWalk.i64_in _ (by omega); have hw2 : IntKind.i64.wrap (G : Int) = G := IntWalk.i64_in _ (by omega); have hw3 : IntKind.i64.wrap (T : Int) = T := IntWalk.i64_in _ (by omega); have HS7' := HS7; have HLE := LH hle; clear HS7 hf7 hf5 hsrc hsrc5 hb5 hb0 hbl HS5 HS hgB hle q3; go_wp2_with fail; go_region_law (refine step_copy_run rfl (.tmp 32) (.tmp 34) 22 22 rfl (.slice A1 Sd Sd) (.slice va vn vc) (by simp [Act.eval]) (by simp [Act.eval]) _ _ hrun ?_); clear hrun q0 q1 q2 hcut1; go_wp2_with fail; go_region_law (refine step_copy_run rfl (.tmp 40) (.tmp 49) 22 22 rfl (.slice A2 SF SF) (.slice A3 M C3) (by simp [Act.eval, Act.put]) (by simp [Act.eval, Act.put]) _ _ hrun2 ?_)
      all_goals
       go_wp2_with fail; go_roundw
       case rel =>
        refine ⟨k + 1, G, _, by go_num, rfl, ?_, by rw [HLn.out]; omega, HS7'.out, ?_⟩
        · rw [List.length_append, hl5, List.length_take, List.length_drop]
          omega
        · rw [← HU.out, HP.out]
          simp
       case measure => simp [intOf]; omega
    · go_wp2_with fail
      go_ret2; have hdr : l.drop k = [] := List.drop_eq_nil_of_le (by rw [HLn.out]; omega); have hu := HU.out; rw [hdr] at hu; simp only [DeltaM.makes, List.append_nil] at hu; refine ⟨some ⟨g, 0, none⟩, S, S, zbd HE.out.symm, ?_, HS.out.below⟩; rw [HAP.out, ← hu]; exact HS.out.bs (by rw [hu]; exact HML.out) (by omega) (by rw [hu]; exact DeltaM.makes_bytes HX.out.bytes (OS.bytes HL.out))
 · have HAP : Hid (DeltaM.applied old l s = []) := by show DeltaM.applied old l s = _; unfold DeltaM.applied; rw [if_neg (by rw [HE.out]; exact h0)]
   have hne : (E != 0) = true := by simp [h0]
   clear hE; go_enter Tryz.func142, Tryz.ntmps142; go_wp2_with fail; refine (HCK.out _ HL.out).mono ?_; rintro e W0 ⟨rfl, b0⟩; go_wp2_with fail; go_ret2; exact ⟨none, 0, 0, zbd HE.out.symm, by rw [HAP.out]; exact BS.nil_ _, b0⟩
def zaX (l : List Int) : Array Value := ((DevM.fill l).map (Value.int .u8)).toArray
theorem madeCells64 : madeCells (Value.int .u8 0).cells 64 = (List.replicate 64 (Value.int .u8 0)).toArray := by kernel_rfl
theorem fillC_is {l : List Int} {n : Nat} (hl : l.length = n) : ((List.replicate 64 (Value.int .u8 0)).toArray.toList.take 0 ++ l.map (Value.int .u8) ++ (List.replicate 64 (Value.int .u8 0)).toArray.toList.drop (0 + (l.map (Value.int .u8)).length)).toArray = zaX l := by
 unfold zaX DevM.fill; simp only [List.take_zero, List.nil_append, List.length_map, Nat.zero_add, hl, List.drop_replicate, List.map_append, List.map_replicate]
theorem zb8 {W : World} {l : List Int} {g : Nat} (h : W.heap[g]? = some (.cells (zaX l) 5 (0, 0))) (hn : l.length ≤ 64) (hb : ∀ x ∈ l, 0 ≤ x ∧ x ≤ 255) : BS W (some ⟨g, 0, none⟩) 64 64 (DevM.fill l) := by
 have hl := DevM.fill_len hn; refine ⟨hl, Nat.le_refl _, by omega, fun x hx => ?_, fun _ => ⟨g, 0, rfl, fun i hi => ?_⟩, fun q => by cases q⟩
 · unfold DevM.fill at hx
   rcases List.mem_append.1 hx with q | q
   · exact hb x q
   · rw [(List.mem_replicate.1 q).2]
     omega
 · rw [Nat.zero_add]
   simp only [World.cell?, h]; unfold zaX; simp [List.getElem?_eq_getElem (show i < (DevM.fill l).length by omega)]
theorem zbZ (a : Option Addr) (n c : Nat) (l : List Int) (w : World) (hs : BS w a n c l) (hn : n ≤ 64) :
 Calls Tryz.prog 57 #[.slice a n c] w fun e w' => e = .returned (.slice (some ⟨w.heap.size, 0, none⟩) 64 64) ∧ w' = w.alloc (.cells (zaX l) 5) := by
 obtain ⟨i0, hi, hz0, hz1, hz2⟩ := info_parts Tryz.info_u8
 have hmk : ∀ W, (Instr.makeSlice 22 (.int .i64 64) (.int .i64 64)).run Tryz.prog W = .ok (.slice (some ⟨W.heap.size, 0, none⟩) 64 64) (W.alloc (.cells (madeCells (Value.int .u8 0).cells 64) 5)) := by
  intro W; have := run_make (P := Tryz.prog) W 22 5 i0 _ U22 hi hz0 .i64 .i64 64 64 (by omega) (Int.le_refl _) (by rw [hz2]; omega) (by omega)
  simpa [hz1] using this
 rw [madeCells64] at hmk; have hsz : (Tryz.prog.info? 5).map (·.size) = some 1 := by kernel_rfl
 have hlen := hs.len
 have hrun : ∃ v, (Builtin.copy_ #[22, 22] 3 #[.slice (some ⟨w.heap.size, 0, none⟩) 64 64, .slice a n c]).run Tryz.prog (w.alloc (.cells (List.replicate 64 (Value.int .u8 0)).toArray 5)) = .ok v (w.alloc (.cells (zaX l) 5)) := by
  cases a with
  | none =>
    have hc := hs.none_ rfl; subst hc; obtain rfl : n = 0 := by have := hs.le; omega
    obtain rfl : l = [] := List.eq_nil_of_length_eq_zero hs.len; refine ⟨goInt 0, ?_⟩; rw [run_copy_nil (P := Tryz.prog) _ 22 22 3 5 _ _ _ U22 (by rw [hsz]; rfl)]
    rfl
  | some ad =>
    refine ⟨goInt (l.map (Value.int .u8)).length, ?_⟩
    rw [run_copy_row (P := Tryz.prog) _ 22 22 3 5 w.heap.size 0 64 64 ad n c (List.replicate 64 (Value.int .u8 0)).toArray 5 (l.map (Value.int .u8)) U22 hsz (by rw [hpA, if_pos rfl])
     (by rw [List.length_map, hlen]; exact (Nat.min_eq_left hn).symm) (fun j v hj => ?_) (by simp [hlen]; omega) (zbz l)]
    · rw [fillC_is hlen, World.setRow_alloc_new]
    · have hjl : j < l.length := by
       rcases Nat.lt_or_ge j l.length with q | q
       · exact q
       · rw [List.getElem?_eq_none (by simpa using q)] at hj; cases hj
      rw [List.getElem?_map, List.getElem?_eq_getElem hjl, Option.map_some, Option.some.injEq] at hj; have := (hs.later ((Below.refl _ _).alloc (Nat.le_refl _) (.cells (List.replicate 64 (Value.int .u8 0)).toArray 5))).cellsAt j (by omega); rw [this, ← hj, List.getD_eq_getElem?_getD, List.getElem?_eq_getElem hjl]
      rfl
 obtain ⟨v, hrun⟩ := hrun; generalize (List.replicate 64 (Value.int .u8 0)).toArray = Z at hmk hrun; clear hs hz0 hz1 hz2 hi hlen; go_enter Tryz.func57, Tryz.ntmps57; go_wp2_with (at_builtin; refine wpList_copy_runD rfl (.tmp 5) (.tmp 6) 22 22 rfl _ _ rfl rfl _ _ hrun ?_); go_ret; exact ⟨rfl, rfl⟩
def GivesFl (l : List Int) (w : World) (e : Ending) (w' : World) : Prop :=
 ∃ F, e = .returned (.slice (some ⟨F, 0, none⟩) 64 64) ∧ w'.heap[F]? = some (.cells (zaX l) 5 (0, 0)) ∧ BS w' (some ⟨F, 0, none⟩) 64 64 (DevM.fill l) ∧ w.heap.size ≤ F ∧ F < w'.heap.size ∧ Below w.heap.size w w'
theorem GivesFl.of {l : List Int} {w : World} (hn : l.length ≤ 64) (hb : ∀ x ∈ l, 0 ≤ x ∧ x ≤ 255) : GivesFl l w (.returned (.slice (some ⟨w.heap.size, 0, none⟩) 64 64)) (w.alloc (.cells (zaX l) 5)) := by
 have hg : (w.alloc (.cells (zaX l) 5)).heap[w.heap.size]? = some (.cells (zaX l) 5 (0, 0)) := by rw [hpA, if_pos rfl]
 exact ⟨w.heap.size, rfl, hg, zb8 hg hn hb, Nat.le_refl _, bLQ hg, (Below.refl _ _).alloc (Nat.le_refl _) _⟩
theorem filledD_gives (a : Option Addr) (n c : Nat) (l : List Int) (w : World) (hs : BS w a n c l) (hn : n ≤ 64) : Calls Tryz.prog 57 #[.slice a n c] w (GivesFl l w) := by
 refine (zbZ a n c l w hs hn).mono ?_; rintro e w' ⟨rfl, rfl⟩; exact GivesFl.of (by have := hs.len; omega) hs.bytes
theorem fillC_step {l : List Int} {k : Nat} (hk : k < l.length) (hl : l.length ≤ 64) : (zaX (l.take k)).setIfInBounds k (.int .u8 (l[k]?.getD 0)) = zaX (l.take (k + 1)) := by
 unfold zaX DevM.fill; apply Array.ext'; simp only [List.map_append, List.map_replicate, Array.toList_setIfInBounds]; have h1 : (l.take k).length = k := by rw [List.length_take]; omega
 have h2 : (l.take (k + 1)).length = k + 1 := by rw [List.length_take]; omega
 have h3 : l.take (k + 1) = l.take k ++ [l[k]?.getD 0] := by
  rw [List.take_succ_eq_append_getElem hk, List.getElem?_eq_getElem hk, Option.getD_some]
 have h4 : 64 - k = 64 - (k + 1) + 1 := by omega
 rw [h1, h2, h3, h4, List.replicate_succ]; rw [List.set_append_right _ _ (by rw [List.length_map, h1]; exact Nat.le_refl _), List.length_map, h1, Nat.sub_self, List.set_cons_zero]; simp
theorem zbE (a : Option Addr) (n c : Nat) (l : List Int) (w : World) (hs : BS w a n c l) (hn : n ≤ 64) :
 Calls Tryz.prog 65 #[.slice a n c] w (GivesFl l w) := by
 obtain ⟨i0, hi, hz0, hz1, hz2⟩ := info_parts Tryz.info_u8
 have hmk : ∀ W, (Instr.makeSlice 22 (.int .i64 64) (.int .i64 64)).run Tryz.prog W = .ok (.slice (some ⟨W.heap.size, 0, none⟩) 64 64) (W.alloc (.cells (zaX (l.take 0)) 5)) := by
  intro W; have := run_make (P := Tryz.prog) W 22 5 i0 _ U22 hi hz0 .i64 .i64 64 64 (by omega) (Int.le_refl _) (by rw [hz2]; omega) (by omega); rw [show zaX (l.take 0) = madeCells (Value.int .u8 0).cells 64 by rw [madeCells64]; kernel_rfl]
  simpa [hz1] using this
 obtain ⟨F, hF⟩ : ∃ F, w.heap.size = F := ⟨_, rfl⟩; have HS := LH ((MS.start w).alloc (p := F) hF (zaX (l.take 0)) 5); have HB := LH hs; have HLn := LH hs.len; have hmax : n ≤ 64 := hn; clear hs hn hz0 hz1 hz2 hi; go_enter Tryz.func65, Tryz.ntmps65; go_wp2_with fail; refine zau HS.out (fun V0 HS1 => ?_); replace HS := LH HS1; clear HS1 hF hmk; go_loopw [9] (fun i wr => ∃ k : Nat, i = .int .i64 k ∧ k ≤ n ∧ MS w [(F, zaX (l.take k), 5)] [] [] wr) (fun i _ => n - (intOf i).toNat)
 case atStart => exact ⟨0, rfl, Nat.zero_le _, HS.out⟩
 case round =>
  obtain ⟨k, rfl, hk, hms⟩ := hrel; clear HS; have HS := LH hms; clear hms; have hk0 : (0 : Int) ≤ (k : Int) := by omega
  by_cases hlt : k < n
  · have hkI : (k : Int) < (n : Int) := by omega
    have hk64 : (k : Int) < 64 := by omega
    obtain ⟨b, off, rfl, hcs⟩ := (HB.out.later HS.out.below).cells (by omega); have q0 := hcs k hlt; have HX : Hid ((zaX (l.take k)).setIfInBounds k (.int .u8 (l[k]?.getD 0)) = zaX (l.take (k + 1))) := fillC_step (by rw [HLn.out]; exact hlt) (by rw [HLn.out]; exact hmax)
    have hsz : k < (zaX (l.take k)).size := by
     unfold zaX; simp [DevM.fill_len (show (l.take k).length ≤ 64 by rw [List.length_take]; omega)]; omega
    obtain ⟨v0, hv0⟩ : ∃ v, (zaX (l.take k))[k]? = some v := ⟨_, Array.getElem?_eq_getElem hsz⟩; have cF := cAt (k := k) (HS.out.get 0 rfl) hv0; have zF := tAt (k := k) (HS.out.get 0 rfl); simp only at cF zF; generalize l[k]?.getD 0 = x at q0 HX; have HS2 := LH (HS.out.cell 0 rfl HX.out); clear hcs hv0 hsz HS; go_wp2_with fail; go_roundw
    case rel => exact ⟨k + 1, by go_num, by omega, HS2.out⟩
    case measure => simp [intOf]; omega
  · have hkI : ¬ (k : Int) < (n : Int) := by omega
    have hl : l.take k = l := List.take_of_length_le (by rw [HLn.out]; omega); rw [hl] at HS; have HR : Hid (∃ V, V = wr) := ⟨_, rfl⟩; clear hl HR; go_wp2_with fail; go_ret; have hg := HS.out.gt 0 rfl; exact ⟨F, rfl, hg, zb8 hg (by rw [HLn.out]; exact hmax) HB.out.bytes, HS.out.base (F, zaX l, 5) List.mem_cons_self, bLQ hg, HS.out.below⟩
def noU8 (cs : Array Value) : Bool := cs.all fun v => match v with | .int .u8 _ => false | _ => true
theorem noU8_dev (h : DevH) (d : DevR) : noU8 (dvC h d) = true := by kernel_rfl
theorem noU8_zdev : noU8 zDev = true := by kernel_rfl
theorem noU8_rec (r : RecR) : noU8 (rcC r) = true := by kernel_rfl
theorem BS.notIn {W : World} {b off n c : Nat} {l : List Int} (h : BS W (some ⟨b, off, none⟩) n c l) (hn : 0 < n) {cs : Array Value} {t : TypeId} {fz : Nat × Nat} (hg : W.heap[b]? = some (.cells cs t fz)) (hu : noU8 cs = true) : False := by
 obtain ⟨b', off', e, hc⟩ := h.cells hn
 cases e
 have h0 := hc 0 hn; simp only [World.cell?, hg, Nat.add_zero] at h0; simp only [Option.isSome_none, Bool.false_eq_true, if_false] at h0; obtain ⟨hi, he⟩ := Array.getElem?_eq_some_iff.1 h0; have := (Array.all_eq_true.1 hu) off hi; rw [he] at this
 cases this
theorem bs_has {w W : World} {L : List (Nat × Array Value × TypeId)} (h : MS w L [] [] W) {a : Option Addr} {n c : Nat} {l : List Int} (hx : BS W a n c l) (hL : ∀ p ∈ L, noU8 p.2.1 = true) :
 ∃ lo hi, w.heap.size ≤ lo ∧ (∀ p ∈ L, p.1 < lo ∨ hi ≤ p.1) ∧ hi ≤ W.heap.size ∧ Has lo hi W (fun V => Below w.heap.size w V → BS V a n c l) := by
 have hsz := h.below.size; by_cases hn : n = 0
 · refine ⟨W.heap.size, W.heap.size, hsz, fun p hp => .inl (h.lt hp), Nat.le_refl _, Nat.le_refl _, fun V _ _ _ => ⟨hx.len, hx.le, hx.max, hx.bytes, fun q => absurd q (by omega), hx.none_⟩⟩
 · obtain ⟨b, off, rfl, hc⟩ := hx.cells (by omega)
   have hbl : b < W.heap.size := by
    have h0 := hc 0 (by omega); rcases Nat.lt_or_ge b W.heap.size with q | q
    · exact q
    · simp [World.cell?, Array.getElem?_eq_none q] at h0
   have key : ∀ V : World, V.heap[b]? = W.heap[b]? → BS V (some ⟨b, off, none⟩) n c l := fun V hV => hx.keepBlk (fun p hp => by cases hp; exact hV); rcases Nat.lt_or_ge b w.heap.size with q | q
   · refine ⟨W.heap.size, W.heap.size, hsz, fun p hp => .inl (h.lt hp), Nat.le_refl _, Nat.le_refl _, fun V _ _ hV => key V ?_⟩
     rw [hV.block b q, h.below.block b q]
   · refine ⟨b, b + 1, q, fun p hp => ?_, hbl, hbl, fun V _ hV _ => key V (hV b (Nat.le_refl _) (by omega))⟩
     have hne : p.1 ≠ b := by
      rintro rfl; exact hx.notIn (by omega) (h.has p hp) (hL p hp)
     omega
theorem MH.more {w W : World} {L : List (Nat × Array Value × TypeId)} {H : Hlds} (h : MH w L H W) {lo hi : Nat} {r : World → Prop} (hr : Has lo hi W r) (hl : w.heap.size ≤ lo) (hL : ∀ p ∈ L, p.1 < lo ∨ hi ≤ p.1) : MH w L ((lo, hi, r) :: H) W := by
 refine ⟨h.ms, fun q hq => ?_, fun q hq => ?_, fun p hp q hq => ?_⟩
 · rcases List.mem_cons.1 hq with rfl | hq
   · exact hr
   · exact h.has q hq
 · rcases List.mem_cons.1 hq with rfl | hq
   · exact hl
   · exact h.lo q hq
 · rcases List.mem_cons.1 hq with rfl | hq
   · exact hL p hp
   · exact h.sep p hp q hq
theorem MS.wrote {w W : World} {L : List (Nat × Array Value × TypeId)} (h : MS w L [] [] W) {g : Nat} (hw : w.heap.size ≤ g) (hg : ∀ p ∈ L, p.1 ≠ g) (cs : Array Value) : MS w L [] [] (W.setRow g cs) :=
 ⟨fun q hq => (setRow_other W g q.1 cs (hg q hq)).trans (h.has q hq), h.srt, h.base, below_setRow h.below hw cs, (fun _ q => by cases q), (fun _ q => by cases q)⟩
theorem MH.wrote {w W : World} {L : List (Nat × Array Value × TypeId)} {H H' : Hlds} (h : MH w L H W) {g lo hi : Nat} {r : World → Prop} (hw : w.heap.size ≤ lo) (h1 : lo ≤ g) (h2 : g < hi) (hL : ∀ p ∈ L, p.1 < lo ∨ hi ≤ p.1) (hH : ∀ q ∈ H', q ∈ H ∧ (g < q.1 ∨ q.2.1 ≤ g)) (cs : Array Value) (hr : Has lo hi (W.setRow g cs) r) : MH w L ((lo, hi, r) :: H') (W.setRow g cs) := by
 refine ⟨h.ms.wrote (by omega) (fun p hp => by have := hL p hp; omega) cs, fun q hq => ?_, fun q hq => ?_, fun p hp q hq => ?_⟩
 · rcases List.mem_cons.1 hq with rfl | hq
   · exact hr
   · exact (h.has q (hH q hq).1).row (hH q hq).2 cs
 · rcases List.mem_cons.1 hq with rfl | hq
   · exact hw
   · exact h.lo q (hH q hq).1
 · rcases List.mem_cons.1 hq with rfl | hq
   · exact hL p hp
   · exact h.sep p hp q (hH q hq).1
theorem own_lies {m lo hi : Nat} {W : World} {a : Option Addr} {n c : Nat} {l : List Int} (h : Has lo hi W (Own m a n c l)) (hn : 0 < n) :
 ∃ g cur, a = some ⟨g, 0, none⟩ ∧ m ≤ g ∧ (g < lo ∨ g < hi) ∧ W.heap[g]? = some (.cells cur 5 (0, 0)) ∧ n ≤ c ∧ c ≤ 9223372036854775807 ∧ cur.size = c ∧ cur.toList.take n = l.map (Value.int .u8) := by
 have key : ∀ V, Own m a n c l V → ∃ g cur, a = some ⟨g, 0, none⟩ ∧ m ≤ g ∧ V.heap[g]? = some (.cells cur 5 (0, 0)) ∧ n ≤ c ∧ c ≤ maxLen ∧ cur.size = c ∧ cur.toList.take n = l.map (Value.int .u8) := by
  intro V hV; rcases hV.2 with ⟨-, q⟩ | ⟨g, cap, cur, e, k1, k2, k3, k4, k5, k6⟩
  · omega
  · injection e with e1 e2 e3
    subst e3; exact ⟨g, cur, e1, k1, k2, k3, k4, by omega, by rw [← k6, Nat.mul_one]⟩
 obtain ⟨g, cur, e, k1, k2, k3, k4, k5, k6⟩ := key W h.here; refine ⟨g, cur, e, k1, ?_, k2, k3, by unfold maxLen at k4; omega, k5, k6⟩; rcases Nat.lt_or_ge g hi with q | q
 · exact .inr q
 · exfalso
   obtain ⟨g', cur', e', -, k2', k3', -, k5', -⟩ := key (W.setRow g #[]) (h.2 _ (by rw [setRow_size]; exact h.1) (fun k _ hk => setRow_other W g k _ (by omega))); rw [e] at e'; obtain rfl : g = g' := by injection e' with e'; injection e'
   rw [setRow_heap W g _ _ 5 _ k2] at k2'; injection k2' with k2'; injection k2' with k2'; rw [← k2'] at k5'; simp at k5'; omega
def overC (cur : Array Value) (D : Nat) (l : List Int) : Array Value := (cur.toList.take D ++ l.map (Value.int .u8) ++ cur.toList.drop (D + (l.map (Value.int .u8)).length)).toArray
theorem over_bs {V : World} {g n c : Nat} {cur : Array Value} {s l : List Int} {D : Nat} (hc : cur.size = c) (hm : c ≤ 9223372036854775807) (hn : n ≤ c) (hs : cur.toList.take n = s.map (Value.int .u8)) (hsn : s.length = n) (hsb : ∀ x ∈ s, 0 ≤ x ∧ x ≤ 255) (hlb : ∀ x ∈ l, 0 ≤ x ∧ x ≤ 255) (hD : D + l.length ≤ n)
 (h : V.heap[g]? = some (.cells (overC cur D l) 5 (0, 0))) : BS V (some ⟨g, 0, none⟩) n c (s.take D ++ l ++ s.drop (D + l.length)) := by
 have hlen : (s.take D ++ l ++ s.drop (D + l.length)).length = n := by simp; omega
 refine ⟨hlen, hn, hm, fun x hx => ?_, fun _ => ⟨g, 0, rfl, fun i hi => ?_⟩, fun q => by cases q⟩
 · rcases List.mem_append.1 hx with q | q
   · rcases List.mem_append.1 q with q | q
     · exact hsb x (List.mem_of_mem_take q)
     · exact hlb x q
   · exact hsb x (List.mem_of_mem_drop q)
 · have e : ∀ j, j < n → cur.toList[j]? = (s.map (Value.int .u8))[j]? := fun j hj => by
    rw [← hs, List.getElem?_take_of_lt hj]
   have hcl : cur.toList.length = c := by simpa using hc
   rw [Nat.zero_add]; simp only [World.cell?, h]; simp only [Option.isSome_none, Bool.false_eq_true, if_false, overC, List.getElem?_toArray]
   have e2 : (cur.toList.take D ++ l.map (Value.int .u8) ++ cur.toList.drop (D + (l.map (Value.int .u8)).length))[i]? = ((s.take D ++ l ++ s.drop (D + l.length)).map (Value.int .u8))[i]? := by
    simp only [List.map_append, List.length_map]; simp only [List.getElem?_append, List.length_take, List.length_map, List.length_append, hcl, hsn, List.getElem?_take, List.getElem?_drop, List.map_take, List.map_drop]; rw [show min D c = D by omega, show min D n = D by omega]; by_cases q1 : i < D + l.length
    · rw [if_pos q1, if_pos q1]
      by_cases q2 : i < D
      · rw [if_pos q2, if_pos q2, if_pos q2, if_pos q2, e i hi]
      · rw [if_neg q2, if_neg q2]
    · rw [if_neg q1, if_neg q1, e _ (by omega)]
   rw [e2, List.getElem?_map, List.getElem?_eq_getElem (by omega)]
   rfl
theorem cut_copy (W : World) (g D n c : Nat) (cur : Array Value) (F sn sc : Nat) (l : List Int) (hg : W.heap[g]? = some (.cells cur 5 (0, 0))) (hcs : cur.size = c) (hnc : n ≤ c) (hs : BS W (some ⟨F, D, none⟩) sn sc l) (hD : D + sn ≤ n) :
 (Builtin.copy_ #[22, 22] 3 #[.slice (some ⟨g, D, none⟩) (n - D) (c - D), .slice (some ⟨F, D, none⟩) sn sc]).run Tryz.prog W = .ok (goInt (l.map (Value.int .u8)).length) (W.setRow g (overC cur D l)) := by
 have hsz : (Tryz.prog.info? 5).map (·.size) = some 1 := by kernel_rfl
 have hl := hs.len; exact run_copy_row (P := Tryz.prog) W 22 22 3 5 g D (n - D) (c - D) ⟨F, D, none⟩ sn sc cur 5 (l.map (Value.int .u8)) U22 hsz hg (by rw [List.length_map, hl]; show sn = min sn (n - D); omega) hs.news (by rw [List.length_map, hl]; omega) (zbz _)
theorem cutA_pos {g c D : Nat} (h : D < c) : cutA (some ⟨g, 0, none⟩) c D = some ⟨g, D, none⟩ := by
 unfold cutA; rw [if_neg (by omega), Option.map_some, addr_add, Nat.zero_add]
theorem wp_copyO {P : Program} {o : Oper} {a : Act} {w : World} {K : Act → World → Prop} {Q : Exit → Act → World → Prop} {E : Prop} {ops : Array Oper} (hw : Region.wanted o (yielded ops a.tmps) = true) (d s : Operand) (dT sT : TypeId)
 (ho : o.op = .call { callee := .builtin .copy, args := #[d, s], argTypes := #[dT, sT] }) (vd vs : Value) (hd : a.eval d = vd) (hs : a.eval s = vs) (v' : Value) (w' : World) (hr : (Builtin.copy_ #[dT, sT] o.type #[vd, vs]).run P w = .ok v' w') (h : K (a.put o.dst v') w') : if Region.wanted o (yielded ops a.tmps) = true then Oper.wp P o a w K Q else E := by
 rw [if_pos hw]; unfold Oper.wp; simp [execOp, ho, resolve, invoke, builtin, hd, hs, hr, Result.andThen]; exact h
theorem zaO (x : Int) (w : World) :
 Calls Tryz.prog 150 #[.int .i64 x] w fun e w' => e = .returned (.bool (decide (1 ≤ x ∧ x ≤ 30))) ∧ w = w' := by
 by_cases h : 1 ≤ x
 · go_enter Tryz.func150, Tryz.ntmps150
   go_wp2; go_ret; exact ⟨by simp [h], rfl⟩
 · go_enter Tryz.func150, Tryz.ntmps150
   go_wp2; go_ret; exact ⟨by simp; omega, rfl⟩
theorem isSum_any (x : Int) (w : World) :
 Calls Tryz.prog 151 #[.int .i64 x] w fun e w' => e = .returned (.bool (decide (0 ≤ x ∧ x ≤ 65535))) ∧ w = w' := by
 by_cases h : 0 ≤ x
 · go_enter Tryz.func151, Tryz.ntmps151
   go_wp2; go_ret; exact ⟨by simp [h], rfl⟩
 · go_enter Tryz.func151, Tryz.ntmps151
   go_wp2; go_ret; exact ⟨by simp; omega, rfl⟩
theorem checkP_any (v : Value) (p : PatR) (w : World) (hp : PV w v p) :
 Calls Tryz.prog 95 #[v] w fun e w' => e = .returned (.int .i64 (PatM.check p)) ∧ Below w.heap.size w w' := by
 obtain ⟨a, n, c, rfl, ho, -⟩ := hp; obtain ⟨f, t, o, nw, s, ops⟩ := p; simp only at ho ⊢; have hb : Below w.heap.size w (w.alloc (.cells #[.int .i64 f, .int .i64 t, .int .i64 o, .int .i64 nw, .int .i64 s, .slice a n c] 35)) := (Below.refl _ _).alloc (Nat.le_refl _) _; by_cases h1 : 1 ≤ f ∧ f ≤ 30
 · have d1 : decide (1 ≤ f ∧ f ≤ 30) = true := decide_eq_true h1
   by_cases h2 : 1 ≤ t ∧ t ≤ 30
   · have d2 : decide (1 ≤ t ∧ t ≤ 30) = true := decide_eq_true h2
     by_cases h3 : 0 ≤ o ∧ o ≤ 65535
     · have d3 : decide (0 ≤ o ∧ o ≤ 65535) = true := decide_eq_true h3
       by_cases h4 : 0 ≤ nw ∧ nw ≤ 65535
       · have d4 : decide (0 ≤ nw ∧ nw ≤ 65535) = true := decide_eq_true h4
         have HE : Hid (PatM.check ⟨f, t, o, nw, s, ops⟩ = DeltaM.check ops 64 s) := by
          show _ = _; unfold PatM.check; rw [if_neg (by unfold PatM.badHead; simp only; omega)]
         have HO := LH (ho.later hb); have HB := LH hb; clear h1 h2 h3 h4 ho hb; go_enter Tryz.func95, Tryz.ntmps95; go_wp2_with fail; refine (zaO f _).mono ?_; rintro e w' ⟨rfl, rfl⟩; rw [d1]; go_wp2_with fail; refine (zaO t _).mono ?_; rintro e w' ⟨rfl, rfl⟩; rw [d2]; go_wp2_with fail; refine (isSum_any o _).mono ?_; rintro e w' ⟨rfl, rfl⟩; rw [d3]; go_wp2_with fail; refine (isSum_any nw _).mono ?_; rintro e w' ⟨rfl, rfl⟩; rw [d4]; go_wp2_with fail; refine (check_any a n c ops 64 s _ HO.out).mono ?_; rintro e w' ⟨rfl, hb2⟩; have hb3 := bTh HB.out hb2; go_wp2_with fail; go_ret; exact ⟨zao HE.out.symm, hb3⟩
       · have d4 : decide (0 ≤ nw ∧ nw ≤ 65535) = false := decide_eq_false h4
         have HE : Hid (PatM.check ⟨f, t, o, nw, s, ops⟩ = 2) := by
          show _ = _; unfold PatM.check; rw [if_pos (by unfold PatM.badHead; simp only; omega)]
         clear h1 h2 h3 h4 ho; go_enter Tryz.func95, Tryz.ntmps95; go_wp2_with fail; refine (zaO f _).mono ?_; rintro e w' ⟨rfl, rfl⟩; rw [d1]; go_wp2_with fail; refine (zaO t _).mono ?_; rintro e w' ⟨rfl, rfl⟩; rw [d2]; go_wp2_with fail; refine (isSum_any o _).mono ?_; rintro e w' ⟨rfl, rfl⟩; rw [d3]; go_wp2_with fail; refine (isSum_any nw _).mono ?_; rintro e w' ⟨rfl, rfl⟩; rw [d4]; go_wp2_with fail; go_ret; exact ⟨zao HE.out.symm, hb⟩
     · have d3 : decide (0 ≤ o ∧ o ≤ 65535) = false := decide_eq_false h3
       have HE : Hid (PatM.check ⟨f, t, o, nw, s, ops⟩ = 2) := by
        show _ = _; unfold PatM.check; rw [if_pos (by unfold PatM.badHead; simp only; omega)]
       clear h1 h2 h3 ho; go_enter Tryz.func95, Tryz.ntmps95; go_wp2_with fail; refine (zaO f _).mono ?_; rintro e w' ⟨rfl, rfl⟩; rw [d1]; go_wp2_with fail; refine (zaO t _).mono ?_; rintro e w' ⟨rfl, rfl⟩; rw [d2]; go_wp2_with fail; refine (isSum_any o _).mono ?_; rintro e w' ⟨rfl, rfl⟩; rw [d3]; go_wp2_with fail; go_ret; exact ⟨zao HE.out.symm, hb⟩
   · have d2 : decide (1 ≤ t ∧ t ≤ 30) = false := decide_eq_false h2
     have HE : Hid (PatM.check ⟨f, t, o, nw, s, ops⟩ = 2) := by
      show _ = _; unfold PatM.check; rw [if_pos (by unfold PatM.badHead; simp only; omega)]
     clear h1 h2 ho; go_enter Tryz.func95, Tryz.ntmps95; go_wp2_with fail; refine (zaO f _).mono ?_; rintro e w' ⟨rfl, rfl⟩; rw [d1]; go_wp2_with fail; refine (zaO t _).mono ?_; rintro e w' ⟨rfl, rfl⟩; rw [d2]; go_wp2_with fail; go_ret; exact ⟨zao HE.out.symm, hb⟩
 · have d1 : decide (1 ≤ f ∧ f ≤ 30) = false := decide_eq_false h1
   have HE : Hid (PatM.check ⟨f, t, o, nw, s, ops⟩ = 2) := by
    show _ = _; unfold PatM.check; rw [if_pos (by unfold PatM.badHead; simp only; omega)]
   clear h1 ho; go_enter Tryz.func95, Tryz.ntmps95; go_wp2_with fail; refine (zaO f _).mono ?_; rintro e w' ⟨rfl, rfl⟩; rw [d1]; go_wp2_with fail; go_ret; exact ⟨zao HE.out.symm, hb⟩
end Go.Proofs.YtnnmpoknghbdnacGreat
namespace Go.Proofs.YtnnmpoknghbdnacGreat
open Go.RowKit
open SumM
theorem take_snoc (zs : List Int) (k : Nat) (h : k < zs.length) : zs.take (k + 1) = zs.take k ++ [zs[k]?.getD 0] := by
 rw [List.take_succ_eq_append_getElem h]; simp [List.getElem?_eq_getElem h]
theorem add_any (s : Int) (a : Option Addr) (n c : Nat) (l : List Int) (w : World) (hs0 : 0 ≤ s) (hs1 : s ≤ 65520) (hr : BS w a n c l) :
 Calls Tryz.prog 119 #[.int .i64 s, .slice a n c] w fun e w' => e = .returned (.int .i64 (addL s l)) ∧ w = w' := by
 have hlen : n ≤ 9223372036854775807 := by have := hr.le; have := hr.max; omega
 have hl := LH hr.len; have hbyte := hr.byte; have hcells := hr.cells; clear hr; go_enter Tryz.func119, Tryz.ntmps119; go_wp2; go_loop [0, 9] (fun t i => ∃ k : Nat, k ≤ n ∧ i = .int .i64 k ∧ t = .int .i64 (addL s (l.take k))) (fun _ i => n - (intOf i).toNat)
 case atStart => exact ⟨0, Nat.zero_le _, rfl, by simp [addL]⟩
 case round =>
  obtain ⟨k, hk, rfl, rfl⟩ := hrel; have hb := addL_bd (l.take k) s hs0 hs1; by_cases hlt : k < n
  · obtain ⟨b, off, rfl, hc⟩ := hcells (by omega)
    have hck := hc k (by omega); have hby := hbyte k; have hsn := LH (take_snoc l k (by rw [hl.out]; omega)); clear hc hbyte hcells; go_wp2; go_round
    case rel => exact ⟨k + 1, by omega, by go_num, by rw [hsn.out, addL_snoc]⟩
    case measure => simp [intOf]; omega
  · clear hbyte hcells
    go_wp2; go_ret; exact ⟨ret_int (by rw [List.take_of_length_le (by rw [hl.out]; omega)]), rfl⟩
theorem of_any (a : Option Addr) (n c : Nat) (l : List Int) (w : World) (hr : BS w a n c l) :
 Calls Tryz.prog 56 #[.slice a n c] w fun e w' => e = .returned (.int .i64 (addL 1 l)) ∧ w = w' := by
 go_enter Tryz.func56, Tryz.ntmps56; go_wp2_with (go_at_call 119; refine (add_any 1 a n c l _ (by omega) (by omega) hr).mono ?_; rintro e w' ⟨rfl, rfl⟩); go_ret; exact ⟨rfl, rfl⟩
end Go.Proofs.YtnnmpoknghbdnacGreat
namespace Go.Proofs.YtnnmpoknghbdnacGreat
open Go.RowKit
theorem doP_any (v : Value) (p : PatR) (a : Option Addr) (n c : Nat) (old : List Int) (w : World) (hp : PV w v p) (hx : BS w a n c old) :
 Calls Tryz.prog 79 #[v, .slice a n c] w (zb1 (zaz p old) w) := by
 have hp' := hp; obtain ⟨ao, no, co, rfl, ho, -⟩ := hp; obtain ⟨f, t, o, nw, s, ops⟩ := p; simp only at ho; have HLn := LH hx.len; have hb : Below w.heap.size w (w.alloc (.cells #[.int .i64 f, .int .i64 t, .int .i64 o, .int .i64 nw, .int .i64 s, .slice ao no co] 35)) := (Below.refl _ _).alloc (Nat.le_refl _) _; obtain ⟨B, hBw⟩ : ∃ B, w.heap.size = B := ⟨_, rfl⟩; have hB0 : (w.alloc (.cells #[.int .i64 f, .int .i64 t, .int .i64 o, .int .i64 nw, .int .i64 s, .slice ao no co] 35)).heap[B]? = some (.cells #[.int .i64 f, .int .i64 t, .int .i64 o, .int .i64 nw, .int .i64 s, .slice ao no co] 35 (0, 0)) := by rw [hpA, if_pos hBw.symm]
 replace hp' := hp'.later hb; replace ho := ho.later hb; replace hx := hx.later hb; obtain ⟨E, hE⟩ : ∃ E, PatM.check ⟨f, t, o, nw, s, ops⟩ = E := ⟨_, rfl⟩; have HE := LH hE; clear hE; go_enter Tryz.func79, Tryz.ntmps79; go_wp2_with fail; generalize w.alloc (.cells #[.int .i64 f, .int .i64 t, .int .i64 o, .int .i64 nw, .int .i64 s, .slice ao no co] 35) = W0 at hb hB0 hp' ho hx ⊢; refine (checkP_any _ _ _ hp').mono ?_; rintro e W1 ⟨rfl, b1⟩; rw [HE.out]; replace hB0 := (b1.block B (zax hB0)).trans hB0; replace ho := ho.later b1; replace hx := hx.later b1; replace b1 := bTh hb b1; clear hb hp' hBw W0; by_cases h0 : E = 0
 · subst h0
   by_cases h64 : 64 < n
   · have HK : Hid (zaz ⟨f, t, o, nw, s, ops⟩ old = ([], 1)) := by
      show _ = _; unfold zaz; rw [if_neg (by rw [HE.out]; simp), if_pos (by rw [HLn.out]; exact h64)]
     go_wp2_with fail; go_ret2; exact ⟨none, 0, 0, zbd (by rw [HK.out]), by rw [HK.out]; exact BS.nil_ _, b1⟩
   · obtain ⟨r0, r1, r2, r3, r4, r5, -⟩ := zak hB0
     have hq := fun m => of_any a n c old (W1.drewN m) (hx.drewN m); have HQ := LH hq; clear hq; obtain ⟨S, hS⟩ : ∃ S, SumM.addL 1 old = S := ⟨_, rfl⟩; have HSu := LH hS; rw [hS] at HQ; clear hS; by_cases hs : S = o
     · subst hs
       have hsb : (S != S) = false := by simp
       go_wp2_with fail; go_quiet (exact zba (HQ.out _)); have bq : Below W1.heap.size W1 (W1.drewN nq) := below_drewN (Below.refl _ _) nq; have hB2 := (bq.block B (zax hB0)).trans hB0; have ho2 := ho.later bq; have hx2 := hx.later bq; have b2 := bTh b1 bq; clear bq r0 r1 r2 r3 r4 r5 hB0 ho hx b1 HQ; generalize W1.drewN nq = W2 at hB2 ho2 hx2 b2 ⊢; obtain ⟨r0, r1, r2, r3, r4, r5, -⟩ := zak hB2; go_wp2_with fail; refine (apply_any a n c old ao no co ops s _ hx2 ho2).mono ?_; rintro e W3 ⟨ar, nr, cr, rfl, sr, b3⟩; have hB3 := (b3.block B (zax hB2)).trans hB2; replace b3 := bTh b2 b3; obtain ⟨F, hF⟩ : ∃ F, DeltaM.check ops old.length s = F := ⟨_, rfl⟩; have HF := LH hF; rw [hF]; clear hF b2 hB2 ho2 hx2 r0 r1 r2 r3 r4 r5; obtain ⟨r0, r1, r2, r3, r4, r5, -⟩ := zak hB3; obtain ⟨R, hR⟩ : ∃ R, DeltaM.applied old ops s = R := ⟨_, rfl⟩; have HR := LH hR; rw [hR] at sr; clear hR; by_cases hf0 : F = 0
       · subst hf0
         obtain ⟨S2, hS2⟩ : ∃ S, SumM.addL 1 R = S := ⟨_, rfl⟩; have HS2 := LH hS2
         have HQ2 : Hid (∀ m, Calls Tryz.prog 56 #[.slice ar nr cr] (W3.drewN m) fun e w' => e = .returned (.int .i64 S2) ∧ W3.drewN m = w') := by
          show ∀ m, _; intro m; have := of_any ar nr cr R (W3.drewN m) (sr.drewN m)
          rwa [hS2] at this
         clear hS2; by_cases hs2 : S2 = nw
         · subst hs2
           have hsb2 : (S2 != S2) = false := by simp
           have HK : Hid (zaz ⟨f, t, S, S2, s, ops⟩ old = (R, 0)) := by
            show _ = _; unfold zaz; rw [if_neg (by rw [HE.out]; simp), if_neg (by rw [HLn.out]; exact h64), if_neg (by simp only [HSu.out]; simp), if_neg (by simp only [HF.out]; simp)]; simp only [HR.out, HS2.out]; simp
           go_wp2_with fail; go_quiet (exact zba (HQ2.out _)); have b4 := below_drewN b3 nq; have s4 := sr.drewN nq; go_wp2_with fail; go_ret2; exact ⟨ar, nr, cr, zbd (by rw [HK.out]), by rw [HK.out]; exact s4, b4⟩
         · have hsb2 : (S2 != nw) = true := by simp [hs2]
           have HK : Hid (zaz ⟨f, t, S, nw, s, ops⟩ old = ([], 6)) := by
            show _ = _; unfold zaz; rw [if_neg (by rw [HE.out]; simp), if_neg (by rw [HLn.out]; exact h64), if_neg (by simp only [HSu.out]; simp), if_neg (by simp only [HF.out]; simp)]; simp only [HR.out, HS2.out]; rw [if_pos hs2]
           go_wp2_with fail; go_quiet (exact zba (HQ2.out _)); have b4 := below_drewN b3 nq; go_wp2_with fail; go_ret2; exact ⟨none, 0, 0, zbd (by rw [HK.out]), by rw [HK.out]; exact BS.nil_ _, b4⟩
       · have hfb : (F == 0) = false := by simp [hf0]
         have hfn : (F != 0) = true := by simp [hf0]
         have HK : Hid (zaz ⟨f, t, S, nw, s, ops⟩ old = ([], F)) := by
          show _ = _; unfold zaz; rw [if_neg (by rw [HE.out]; simp), if_neg (by rw [HLn.out]; exact h64), if_neg (by simp only [HSu.out]; simp), if_pos (by simp only [HF.out]; exact hf0)]; simp only [HF.out]
         go_wp2_with fail; go_ret2; exact ⟨none, 0, 0, zbd (by rw [HK.out]), by rw [HK.out]; exact BS.nil_ _, b3⟩
     · have hsb : (S != o) = true := by simp [hs]
       have HK : Hid (zaz ⟨f, t, o, nw, s, ops⟩ old = ([], 6)) := by
        show _ = _; unfold zaz; rw [if_neg (by rw [HE.out]; simp), if_neg (by rw [HLn.out]; exact h64), if_pos (by simp only [HSu.out]; exact hs)]
       go_wp2_with fail; go_quiet (exact zba (HQ.out _)); have b4 := below_drewN b1 nq; go_wp2_with fail; go_ret2; exact ⟨none, 0, 0, zbd (by rw [HK.out]), by rw [HK.out]; exact BS.nil_ _, b4⟩
 · have hnb : (E != 0) = true := by simp [h0]
   have HK : Hid (zaz ⟨f, t, o, nw, s, ops⟩ old = ([], E)) := by
    show _ = _; unfold zaz; rw [if_pos (by rw [HE.out]; exact h0), HE.out]
   go_wp2_with fail; go_ret2; exact ⟨none, 0, 0, zbd (by rw [HK.out]), by rw [HK.out]; exact BS.nil_ _, b1⟩
namespace DevM
def busyE (d : DevR) (r : RecR) : Int :=
 if r.trying = true ∨ d.job.to_ < r.floor ∨ d.job.from_ ≠ (RecM.inf r r.act).ver ∨ (RecM.inf r (1 - r.act)).ver ≠ 0 then 3
 else if (zaz d.job ((slot d r.act).take (RecM.inf r r.act).size.toNat)).2 ≠ 0 then (zaz d.job ((slot d r.act).take (RecM.inf r r.act).size.toNat)).2
 else if ¬ (0 ≤ d.done ∧ d.done ≤ 64 ∧ d.done < d.job.size + 8) ∨ d.done % 8 ≠ 0 then 2
 else if (slot d (1 - r.act)).take d.done.toNat ≠ (fill (zaz d.job ((slot d r.act).take (RecM.inf r r.act).size.toNat)).1).take d.done.toNat then 3 else 0
end DevM
theorem RecM.inf_none {i : InfR} (h : RecM.infErr i = 0) : i.ver = 0 ↔ i = RecM.noInf := by
 constructor
 · intro hv
   obtain ⟨-, h2⟩ := RecM.infErr_zero.1 h; rw [InfR.eq_iff]; refine ⟨hv, ?_, ?_⟩
   · rcases Classical.em (i.size = 0) with q | q
     · exact q
     · exact absurd ⟨hv, .inl q⟩ h2
   · rcases Classical.em (i.sum = 0) with q | q
     · exact q
     · exact absurd ⟨hv, .inr q⟩ h2
 · rintro rfl
   rfl
section
variable {P : Program}
end
theorem if_bool {α : Type} {p : Prop} [Decidable p] {b : Bool} (x y : α) (h : p ↔ b = true) : (if p then x else y) = if b = true then x else y := by
 by_cases c : p
 · rw [if_pos c, if_pos (h.1 c)]
 · rw [if_neg c, if_neg (fun q => c (h.2 q))]
theorem zbQ (h : DevH) (d : DevR) (O : Nat) (hO : O < 2) : (dvC h d)[O]? = some (.slice (slA h (O : Int)) (slN h (O : Int)) (slC h (O : Int))) := by
 rcases (show O = 0 ∨ O = 1 by omega) with rfl | rfl <;> rfl
theorem part_infO (r : RecR) (O : Nat) (hO : O < 2) : (rcC r).extract (5 + O * 3) (5 + O * 3 + 3) = #[.int .i64 (RecM.inf r (O : Int)).ver, .int .i64 (RecM.inf r (O : Int)).size, .int .i64 (RecM.inf r (O : Int)).sum] := by
 rcases (show O = 0 ∨ O = 1 by omega) with rfl | rfl <;> kernel_rfl
theorem othN_any (r : RecR) (O : Nat) (ha : 1 - r.act = (O : Int)) (ha01 : r.act = 0 ∨ r.act = 1) : Hid (∀ W, Calls Tryz.prog 81 #[.int .i64 r.act] W fun e w' => e = .returned (.int .i64 (O : Int)) ∧ Below W.heap.size W w') := fun W => by
 have := otherD_any r.act W ha01
 rw [ha] at this
 exact this.mono fun _ _ ⟨h1, h2⟩ => ⟨h1, h2 ▸ Below.refl _ _⟩
theorem zb9 {r : RecR} (h : r.act = 0 ∨ r.act = 1) : ∃ O : Nat, 1 - r.act = (O : Int) ∧ O < 2 := ⟨(1 - r.act).toNat, by omega, by omega⟩
theorem checkBusyD_any (h : DevH) (d : DevR) (r : RecR) (w : World) (HD : DH w h d) (hr : RecM.check r = 0) (l0 : d.s0.length = 64) (l1 : d.s1.length = 64) :
 Calls Tryz.prog 131 #[devV h d, .agg (rcC r)] w fun e w' => e = .returned (.int .i64 (DevM.busyE d r)) ∧ Below w.heap.size w w' := by
 have ha := (RecM.check_nums hr).2.1
 have hn : ∀ k, slN h k = 64 := fun k => by
  have := HD.b0.len; have := HD.b1.len; unfold slN; split <;> omega
 obtain ⟨O, hO, hO2⟩ := zb9 ha; have HO := othN_any _ O hO ha; have hO0 : (0 : Int) ≤ (O : Int) := by omega
 have hOI : (O : Int) < 2 := by omega
 have hms := (RecM.inf_nums (RecM.check_inf hr r.act)).2.1; obtain ⟨m, hm⟩ : ∃ m : Nat, (RecM.inf r r.act).size = m := ⟨(RecM.inf r r.act).size.toNat, by omega⟩; have hm64 : m ≤ 64 := by omega
 have hz := RecM.inf_none (RecM.check_inf hr (O : Int)); obtain ⟨sb, hsb⟩ : ∃ b, decide (d.job.from_ = (RecM.inf r r.act).ver ∧ r.floor ≤ d.job.to_) = b := ⟨_, rfl⟩; obtain ⟨q, hq⟩ : ∃ b, decide (RecM.inf r (O : Int) = RecM.noInf) = b := ⟨_, rfl⟩; obtain ⟨X, hX⟩ : ∃ X, zaz d.job ((DevM.slot d r.act).take m) = X := ⟨_, rfl⟩; obtain ⟨c7, h7⟩ : ∃ b, decide (¬ (0 ≤ d.done ∧ d.done ≤ 64 ∧ d.done < d.job.size + 8) ∨ d.done % 8 ≠ 0) = b := ⟨_, rfl⟩; obtain ⟨c9, h9⟩ : ∃ b, decide ((DevM.slot d (O : Int)).take d.done.toNat = (DevM.fill X.1).take d.done.toNat) = b := ⟨_, rfl⟩; obtain ⟨XR, hXR⟩ : ∃ X, DevM.busyE d r = X := ⟨_, rfl⟩; rw [hXR]; obtain ⟨tr, ht⟩ : ∃ t, r.trying = t := ⟨_, rfl⟩
 have HB : Hid (XR = if (tr || !sb || !q) = true then 3 else if X.2 ≠ 0 then X.2 else if c7 = true then 2 else if c9 = true then 0 else 3) := by
  show _ = _; rw [← hXR]; unfold DevM.busyE; rw [hm, Int.toNat_natCast, hX, hO]
  rw [if_bool (b := tr || !sb || !q) (p := r.trying = true ∨ d.job.to_ < r.floor ∨ d.job.from_ ≠ (RecM.inf r r.act).ver ∨ (RecM.inf r (O : Int)).ver ≠ 0) _ _ (by
   rw [← ht, ← hsb, ← hq]; simp only [Bool.or_eq_true, Bool.not_eq_true', decide_eq_false_iff_not, ne_eq, hz]
   constructor
   · rintro (p | p | p | p)
     · exact .inl (.inl p)
     · exact .inl (.inr (fun x => by omega))
     · exact .inl (.inr (fun x => p x.1))
     · exact .inr p
   · rintro ((p | p) | p)
     · exact .inl p
     · by_cases x : d.job.from_ = (RecM.inf r r.act).ver
       · exact .inr (.inl (by have : ¬ r.floor ≤ d.job.to_ := fun y => p ⟨x, y⟩; omega))
       · exact .inr (.inr (.inl x))
     · exact .inr (.inr (.inr p)))]
  rw [if_bool (b := c7) (p := ¬ (0 ≤ d.done ∧ d.done ≤ 64 ∧ d.done < d.job.size + 8) ∨ d.done % 8 ≠ 0) _ _ (by rw [← h7, decide_eq_true_iff])]; rw [if_bool (b := !c9) (p := (DevM.slot d (O : Int)).take d.done.toNat ≠ (DevM.fill X.1).take d.done.toNat) _ _ (by rw [← h9]; simp)]
  cases c9 <;> rfl
 have HSu : Hid (∀ W, Calls Tryz.prog 78 #[.agg (jbC h.oa h.on h.oc d.job), .agg (rcC r)] W fun e w' => e = .returned (.bool sb) ∧ Below W.heap.size W w') := fun W => by
  have := suitsD_any h.oa h.on h.oc d.job r ha W
  rwa [hsb] at this
 have hIq : ∀ W, (binOp .neq 25 (.agg #[.int .i64 (RecM.inf r (O : Int)).ver, .int .i64 (RecM.inf r (O : Int)).size, .int .i64 (RecM.inf r (O : Int)).sum]) (.agg #[.int .i64 0, .int .i64 0, .int .i64 0])).run Tryz.prog W = .ok (.bool (!q)) W := fun W => by
  have := inf_neq (RecM.inf r (O : Int)) RecM.noInf W; rw [hq] at this; exact this
 have HI : Hid (∀ W, Calls Tryz.prog 80 #[.agg (dvC h d), .agg (rcC r)] W fun e w' => e = .returned (.slice (slA h r.act) m (slC h r.act)) ∧ Below W.heap.size W w') := fun W => imageD_any h d r ha m hm (by have := (HD.slot r.act).le; have := hn r.act; omega) W
 have HDo : Hid (∀ W, DH W h d → Calls Tryz.prog 79 #[.agg (jbC h.oa h.on h.oc d.job), .slice (slA h r.act) m (slC h r.act)] W (zb1 X W)) := fun W hd => by
  have := doP_any _ _ _ _ _ _ W hd.job ((hd.slot r.act).head m (by rw [hn]; exact hm64))
  rwa [hX] at this
 have HDk : Hid (X.2 = 0 → X.1.length ≤ 64 ∧ 0 ≤ d.job.size ∧ d.job.size ≤ 64) := fun e => by
  have h1 := DevM.done_ok (by rw [hX]; exact e); have h2 := DevM.size_le h1.1; have h3 := h1.2.2.2.1; rw [hX] at h3; exact ⟨by omega, h2⟩
 have HN := LH (hn (O : Int)); have HLe := LH (HD.slot (O : Int)).le; have HT := LH ht; have H7 := LH h7; have H9 := LH h9; have HOr := LH hO; clear hXR ht h7 h9 hX hq hsb hz hms hm hm64 hn hr l0 l1 ha hO; unfold devV; obtain ⟨P1, hP1⟩ : ∃ P, w.heap.size = P := ⟨_, rfl⟩; have HS := LH ((((((MS.start w).arg HD.argR).alloc (p := P1) (by simp [hP1]) (dvC h d) 37)).alloc (p := (P1 + 1)) (by simp [hP1]) (rcC r) 28)); go_enter Tryz.func131, Tryz.ntmps131; go_upto_region 1 with fail; refine zau HS.out (fun V0 HS1 => ?_); replace HS := LH HS1; clear HS1 hP1; have cP1p1_1 := HS.out.cel 0 1 (v := .int .i64 r.act) rfl rfl; go_wp2_with fail; clear cP1p1_1; refine (HO.out _).mono ?_; rintro e W1 ⟨rfl, hb⟩; replace HS := LH (HS.out.later hb); clear hb HO; go_upto_region 2 with fail; go_cut [27] (fun s27 wx => s27 = .bool (tr || !sb || !q) ∧ MS w [((P1 + 1), (rcC r), 28), (P1, (dvC h d), 37)] [(fun W => DH W h d)] [] wx)
 case first =>
  cases tr
  · refine zaj ?_
    have cP1p1_2 := HS.out.cel 0 2 (v := .bool r.trying) rfl rfl; rw [HT.out] at cP1p1_2
    repeat (first
     | ((refine zah ?hw 35 (.tmp 14) rfl P1 30 rfl 37 (dvC h d) (HS.out.get 1 rfl) (jbC h.oa h.on h.oc d.job) (zay h d) _ U35 rfl (sJb _ _ _ _) ?_); (case hw => first | exact zaa rfl | exact zab rfl rfl); simp only [Act.put, sA, sB, sC])
     | ((refine zbX ?hw 28 (.tmp 3) rfl (P1 + 1) rfl 28 (rcC r) _ (HS.out.get 0 rfl) U28 rfl (sRc r) ?_); (case hw => first | exact zaa rfl | exact zab rfl rfl); simp only [Act.put, sA, sB, sC])
     | (refine zag (by first | exact zaf rfl rfl rfl | exact zad rfl rfl) ?_; simp only [Act.put, sA, sB, sC])
     | (refine zae ?_ ?_ ?_ ?_
        rotate_left
        · first | exact zaa rfl | exact zab rfl rfl
        · (go_simp <;> with_reducible rfl)
        simp only [Act.put, sA, sB, sC]))
    clear cP1p1_2; refine zar (fun K hK => ?_); go_simp; go_at_call 78; with_reducible refine (HSu.out _).mono ?_
    rintro e W2 ⟨rfl, hb⟩; replace HS := LH (HS.out.later hb); clear hb
    try go_wp2_with fail
    refine hK.out _ _ ?_; clear hK K
    try simp only [Act.put, sA, sB, sC]
    cases sb
    · repeat (first
       | (refine zag (by first | exact zaf rfl rfl rfl | exact zad rfl rfl) ?_; simp only [Act.put, sA, sB, sC])
       | (refine zae ?_ ?_ ?_ ?_
          rotate_left
          · first | exact zaa rfl | exact zab rfl rfl
          · (go_simp <;> with_reducible rfl)
          simp only [Act.put, sA, sB, sC]))
      refine zal ?_; go_wp2_with fail; go_meet; exact ⟨rfl, HS.out⟩
    · repeat (first
       | ((refine zah ?hw 25 (.tmp 23) rfl (P1 + 1) (5 + O * 3) rfl 28 (rcC r) (HS.out.get 0 rfl) #[.int .i64 (RecM.inf r (O : Int)).ver, .int .i64 (RecM.inf r (O : Int)).size, .int .i64 (RecM.inf r (O : Int)).sum] (part_infO r O hO2) _ U25 rfl (rfl) ?_); (case hw => first | exact zaa rfl | exact zab rfl rfl); simp only [Act.put, sA, sB, sC])
       | (refine zag (by first | exact zaf rfl rfl rfl | exact zad rfl rfl) ?_; simp only [Act.put, sA, sB, sC])
       | (refine zae ?_ ?_ ?_ ?_
          rotate_left
          · first | exact zaa rfl | exact zab rfl rfl
          · (go_simp <;> with_reducible rfl)
          simp only [Act.put, sA, sB, sC]))
      refine zal ?_; go_wp2_with fail; go_meet; exact ⟨rfl, HS.out⟩
  · refine zaj ?_
    have cP1p1_2 := HS.out.cel 0 2 (v := .bool r.trying) rfl rfl; rw [HT.out] at cP1p1_2
    repeat (first
     | (refine zag (by first | exact zaf rfl rfl rfl | exact zad rfl rfl) ?_; simp only [Act.put, sA, sB, sC])
     | (refine zae ?_ ?_ ?_ ?_
        rotate_left
        · first | exact zaa rfl | exact zab rfl rfl
        · (go_simp <;> with_reducible rfl)
        simp only [Act.put, sA, sB, sC]))
    clear cP1p1_2; refine zal ?_; go_wp2_with fail; go_meet; exact ⟨rfl, HS.out⟩
 case' rest =>
  obtain ⟨rfl, hs⟩ := hcut; replace HS := LH hs; clear hs
 obtain ⟨c1, h1⟩ : ∃ b, (tr || !sb || !q) = b := ⟨_, rfl⟩; rw [h1] at HB ⊢; clear h1 hIq HSu HT
 cases c1 with
 | true =>
   have hx := HB.out.trans (if_pos rfl); subst hx; go_wp2_with fail; go_ret; exact ⟨rfl, HS.out.below⟩
 | false =>
   replace HB := LH (HB.out.trans (if_neg (by decide))); go_upto_region 4 with fail; refine rTu (S := MS w [((P1 + 1), (rcC r), 28), (P1, (dvC h d), 37)] [(fun W => DH W h d)] []) [(0, false), (1, false), (2, false), (3, false), (4, true), (5, true), (6, false), (7, false), (8, false), (9, false), (10, false)] false 9999 (by kernel_rfl) (by kernel_rfl) HS.out.drew ?_; simp only [turned, gA, gB, gC]; replace HS := LH HS.out.drew
   repeat (first
    | ((refine turn_part (by rfl) 35 (.tmp 29) rfl P1 30 rfl 37 (dvC h d) (fun W hW => hW.get 1 rfl) (jbC h.oa h.on h.oc d.job) (zay h d) _ U35 rfl (sJb _ _ _ _) ?_); simp only [Act.put, sA, sB, sC])
    | ((refine zaw (by rfl) 37 (.tmp 2) rfl P1 rfl 37 (dvC h d) _ (fun W hW => hW.get 1 rfl) U37 rfl (sDv h d) ?_); simp only [Act.put, sA, sB, sC])
    | ((refine zaw (by rfl) 28 (.tmp 3) rfl (P1 + 1) rfl 28 (rcC r) _ (fun W hW => hW.get 0 rfl) U28 rfl (sRc r) ?_); simp only [Act.put, sA, sB, sC])
    | (refine tSt ?_ (by rfl) (fun W9 hW9 => ?_) ?_
       rotate_left
       · (go_simp <;> with_reducible rfl)
       simp only [Act.put, sA, sB, sC])
    | (refine tSk (by rfl) ?_; simp only [Act.put, sA, sB, sC]))
   refine tCa (fun K hK => ?_); go_simp; go_at_call 80; with_reducible refine (HI.out _).mono ?_
   rintro e W2 ⟨rfl, hb⟩; replace HS := LH (HS.out.later hb); clear hb
   try go_wp2_with fail
   refine hK.out _ _ HS.out ?_; clear hK K
   try simp only [Act.put, sA, sB, sC]
   refine tCa (fun K hK => ?_); go_simp; go_at_call 79; with_reducible refine (HDo.out _ (HS.out.read 0 rfl)).mono ?_
   rintro e W3 ⟨ab, nb, cb, rfl, hbs, hb⟩; replace HS := LH (HS.out.later hb); have HBS := LH hbs; clear hbs; clear hb
   try go_wp2_with fail
   refine hK.out _ _ HS.out ?_; clear hK K
   try simp only [Act.put, sA, sB, sC]
   repeat (first
    | (refine tSt ?_ (by rfl) (fun W9 hW9 => ?_) ?_
       rotate_left
       · (go_simp <;> with_reducible rfl)
       simp only [Act.put, sA, sB, sC])
    | (refine tSk (by rfl) ?_; simp only [Act.put, sA, sB, sC]))
   refine tEn ?_; clear HI HDo; obtain ⟨xb, xe⟩ := X; simp only at HB HBS HDk H9 ⊢; by_cases hE : xe = 0
   case neg =>
    have t0 : (xe != 0) = true := by simp [hE]
    have hx := HB.out.trans (if_pos hE); subst hx; go_wp2_with fail; go_ret; exact ⟨rfl, HS.out.below⟩
   subst hE; replace HB := LH (HB.out.trans (if_neg (fun q => q rfl))); obtain ⟨hl, hsz⟩ := HDk.out rfl; have HLx := LH hl; have hw8 : IntKind.i64.wrap (d.job.size + 8) = d.job.size + 8 := IntWalk.i64_in _ (by omega); clear hl HDk; go_upto_region 7 with fail; go_cut [62] (fun s62 wx => s62 = .bool c7 ∧ wx = W3)
   case first =>
    have cP1_36 := HS.out.cel 1 36 (v := .int .i64 d.done) rfl rfl; have cP1_34 := HS.out.cel 1 34 (v := .int .i64 d.job.size) rfl rfl; by_cases r1 : d.done < 0
    case pos =>
     have n1 : decide (d.done < 0) = true := by simp [r1]
     refine zaj ?_
     repeat (first
      | (refine zag (by first | exact zaf rfl rfl rfl | exact zad rfl rfl) ?_; simp only [Act.put, sA, sB, sC])
      | (refine zae ?_ ?_ ?_ ?_
         rotate_left
         · first | exact zaa rfl | exact zab rfl rfl
         · (go_simp <;> with_reducible rfl)
         simp only [Act.put, sA, sB, sC]))
     refine zal ?_; go_wp2_with fail; go_meet; exact ⟨by rw [← H7.out, decide_eq_true (.inl (by omega))], rfl⟩
    have n1 : decide (d.done < 0) = false := by simp; omega
    by_cases r2 : 64 < d.done
    case pos =>
     have n2 : decide (64 < d.done) = true := by simp [r2]
     refine zaj ?_
     repeat (first
      | (refine zag (by first | exact zaf rfl rfl rfl | exact zad rfl rfl) ?_; simp only [Act.put, sA, sB, sC])
      | (refine zae ?_ ?_ ?_ ?_
         rotate_left
         · first | exact zaa rfl | exact zab rfl rfl
         · (go_simp <;> with_reducible rfl)
         simp only [Act.put, sA, sB, sC]))
     refine zal ?_; go_wp2_with fail; go_meet; exact ⟨by rw [← H7.out, decide_eq_true (.inl (by omega))], rfl⟩
    have n2 : decide (64 < d.done) = false := by simp; omega
    have hmod : d.done.tmod 8 = d.done % 8 := Int.tmod_eq_emod_of_nonneg (by omega); by_cases r3 : d.done % 8 = 0
    case neg =>
     have n3 : (d.done % 8 != 0) = true := by simp [r3]
     refine zaj ?_
     repeat (first
      | (refine zag (by first | exact zaf rfl rfl rfl | exact zad rfl rfl) ?_; simp only [Act.put, sA, sB, sC])
      | (refine zae ?_ ?_ ?_ ?_
         rotate_left
         · first | exact zaa rfl | exact zab rfl rfl
         · (go_simp <;> with_reducible rfl)
         simp only [Act.put, sA, sB, sC]))
     refine zal ?_; go_wp2_with fail; go_meet; exact ⟨by rw [← H7.out, decide_eq_true (.inr r3)], rfl⟩
    have n3 : (d.done % 8 != 0) = false := by simp [r3]
    by_cases r4 : d.job.size + 8 ≤ d.done
    case pos =>
     have n4 : decide (d.done ≥ d.job.size + 8) = true := by simp [r4]
     refine zaj ?_
     repeat (first
      | (refine zag (by first | exact zaf rfl rfl rfl | exact zad rfl rfl) ?_; simp only [Act.put, sA, sB, sC])
      | (refine zae ?_ ?_ ?_ ?_
         rotate_left
         · first | exact zaa rfl | exact zab rfl rfl
         · (go_simp <;> with_reducible rfl)
         simp only [Act.put, sA, sB, sC]))
     refine zal ?_; go_wp2_with fail; go_meet; exact ⟨by rw [← H7.out, decide_eq_true (.inl (by omega))], rfl⟩
    have n4 : decide (d.done ≥ d.job.size + 8) = false := by simp; omega
    refine zaj ?_
    repeat (first
     | (refine zag (by first | exact zaf rfl rfl rfl | exact zad rfl rfl) ?_; simp only [Act.put, sA, sB, sC])
     | (refine zae ?_ ?_ ?_ ?_
        rotate_left
        · first | exact zaa rfl | exact zab rfl rfl
        · (go_simp <;> with_reducible rfl)
        simp only [Act.put, sA, sB, sC]))
    refine zal ?_; go_wp2_with fail; go_meet; exact ⟨by rw [← H7.out, decide_eq_false (by omega)], rfl⟩
   case' rest =>
    obtain ⟨rfl, rfl⟩ := hcut
   cases c7 with
   | true =>
     have hx := HB.out.trans (if_pos rfl); subst hx; go_wp2_with fail; go_ret; exact ⟨rfl, HS.out.below⟩
   | false =>
     replace HB := LH (HB.out.trans (if_neg (by decide))); have h7 := of_decide_eq_false H7.out; obtain ⟨M, hM⟩ : ∃ M : Nat, d.done = M := ⟨d.done.toNat, by omega⟩; have hM64 : M ≤ 64 := by omega
     rw [hM, Int.toNat_natCast] at H9; clear h7 H7 hw8 hsz; have hcl := fun W => rCh (slA h (O : Int)) (slN h (O : Int)) (slC h (O : Int)) W M (Nat.le_trans (by rw [HN.out]; exact hM64) HLe.out); have hcr := fun F W => rCh (some ⟨F, 0, none⟩) 64 64 W M hM64; have hM0 : (0 : Int) ≤ (M : Int) := by omega
     have HFl := LH (fun W (hb : BS W ab nb cb xb) => filledD_gives ab nb cb xb W hb (by rw [← hb.len]; exact HLx.out))
     have HEq : Hid (∀ W F, DH W h d → BS W (some ⟨F, 0, none⟩) 64 64 (DevM.fill xb) → Calls Tryz.prog 31 #[.slice (slA h (O : Int)) M (slC h (O : Int)), .slice (some ⟨F, 0, none⟩) M 64] W fun e w' => e = .returned (.bool c9) ∧ Below W.heap.size W w') := fun W F hd hb => by
      refine (eqB _ _ _ _ _ _ _ _ W ((hd.slot (O : Int)).head M (by rw [HN.out]; exact hM64)) (hb.head M hM64)).mono ?_; rintro e w' ⟨rfl, rfl⟩; exact ⟨by rw [H9.out], Below.refl _ _⟩
     go_upto_region 9 with fail; refine rTu (S := MS w [((P1 + 1), (rcC r), 28), (P1, (dvC h d), 37)] [(fun W => DH W h d)] []) [(0, false), (1, false), (2, false), (3, false), (4, false), (5, false), (6, false), (7, false), (9, false), (10, false), (8, true), (11, false), (12, true), (13, false)] false 9999 (by kernel_rfl) (by kernel_rfl) HS.out.drew ?_; simp only [turned, gA, gB, gC]; replace HS := LH HS.out.drew; have uP1_O : ∀ W, MS w [((P1 + 1), (rcC r), 28), (P1, (dvC h d), 37)] [(fun W => DH W h d)] [] W → W.cell? ⟨P1, O, none⟩ = some (.slice (slA h (O : Int)) (slN h (O : Int)) (slC h (O : Int))) := fun W hW => cAt (hW.get 1 rfl) (zbQ h d O hO2)
     have uP1_36 : ∀ W, MS w [((P1 + 1), (rcC r), 28), (P1, (dvC h d), 37)] [(fun W => DH W h d)] [] W → W.cell? ⟨P1, 36, none⟩ = some (.int .i64 (M : Int)) := fun W hW => by
      have := cAt (k := 36) (v := .int .i64 d.done) (hW.get 1 rfl) rfl
      rwa [hM] at this
     repeat (first
      | (refine tSt ?_ (by rfl) (fun W9 hW9 => ?_) ?_
         rotate_left
         · (go_simp <;> with_reducible rfl)
         simp only [Act.put, sA, sB, sC])
      | (refine tSk (by rfl) ?_; simp only [Act.put, sA, sB, sC]))
     refine tCa (fun K hK => ?_); go_simp; go_at_call 57; with_reducible refine (HFl.out _ (HBS.out.later (Below.refl _ _).drew)).mono ?_
     rintro e W4 ⟨F, rfl, -, hbf, -, -, hb⟩; replace HS := LH (HS.out.later hb); have HBF := LH hbf; clear hbf; clear hb
     try go_wp2_with fail
     refine hK.out _ _ HS.out ?_; clear hK K
     try simp only [Act.put, sA, sB, sC]
     repeat (first
      | (refine tSt ?_ (by rfl) (fun W9 hW9 => ?_) ?_
         rotate_left
         · (go_simp <;> with_reducible rfl)
         simp only [Act.put, sA, sB, sC])
      | (refine tSk (by rfl) ?_; simp only [Act.put, sA, sB, sC]))
     refine tCa (fun K hK => ?_); go_simp; go_at_call 31; with_reducible refine (HEq.out _ _ (HS.out.read 0 rfl) HBF.out).mono ?_
     rintro e W5 ⟨rfl, hb⟩; replace HS := LH (HS.out.later hb); clear hb
     try go_wp2_with fail
     refine hK.out _ _ HS.out ?_; clear hK K
     try simp only [Act.put, sA, sB, sC]
     repeat (first
      | (refine tSt ?_ (by rfl) (fun W9 hW9 => ?_) ?_
         rotate_left
         · (go_simp <;> with_reducible rfl)
         simp only [Act.put, sA, sB, sC])
      | (refine tSk (by rfl) ?_; simp only [Act.put, sA, sB, sC]))
     clear uP1_O uP1_36; refine tEn ?_
     cases c9 with
     | true =>
       have hx := HB.out.trans (if_pos rfl); subst hx; go_wp2_with fail; go_ret; exact ⟨rfl, HS.out.below⟩
     | false =>
       have hx := HB.out.trans (if_neg (by decide)); subst hx; go_wp2_with fail; go_ret; exact ⟨rfl, HS.out.below⟩
def GivesCs (p : PatR) (w : World) (e : Ending) (w' : World) : Prop :=
 ∃ cs err a n c, ChunkM.CutIs p cs err ∧ e = .returned (.tuple #[.slice a n c, .int .i64 err]) ∧ CS w' a n c cs ∧ Below w.heap.size w w'
def CheckCC : Prop := ∀ (v : Value) (r : ChR) (w : World), CV w v r →
 Calls Tryz.prog 112 #[v] w fun e w' => e = .returned (.int .i64 (ChunkM.check r)) ∧ Below w.heap.size w w'
def ListCC : Prop := ∀ (a : Option Addr) (n c : Nat) (l : List ChR) (w : World), CS w a n c l →
 Calls Tryz.prog 130 #[.slice a n c] w fun e w' => e = .returned (.int .i64 (ChunkM.checks l)) ∧ Below w.heap.size w w'
def SameCC : Prop := ∀ (a a' : Option Addr) (n c n' c' : Nat) (x y : List ChR) (w : World), CS w a n c x → CS w a' n' c' y →
 Calls Tryz.prog 52 #[.slice a n c, .slice a' n' c'] w fun e w' => e = .returned (.bool (decide (x = y))) ∧ Below w.heap.size w w'
theorem isVersionC_any (x : Int) (w : World) :
 Calls Tryz.prog 171 #[.int .i64 x] w fun e w' => e = .returned (.bool (decide (1 ≤ x ∧ x ≤ 30))) ∧ w = w' := by
 by_cases h : 1 ≤ x
 · go_enter Tryz.func171, Tryz.ntmps171
   go_wp2; go_ret; exact ⟨by simp [h], rfl⟩
 · go_enter Tryz.func171, Tryz.ntmps171
   go_wp2; go_ret; exact ⟨by simp; omega, rfl⟩
theorem checkC_ok : CheckCC := by
 intro v r w hv; obtain ⟨a, m, c, rfl, hd, h1, h2, h3, h4⟩ := hv; obtain ⟨f, t, n, o, D⟩ := r; simp only at hd h1 h2 h3 h4 ⊢; have HDL := LH hd.len; have hm : m ≤ 9223372036854775807 := by have := hd.le; have := hd.max; omega
 have HB := LH ((Below.refl w.heap.size w).alloc (Nat.le_refl _) (.cells #[.int .i64 f, .int .i64 t, .int .i64 n, .int .i64 o, .slice a m c] 39))
 have HBad : Hid (ChunkM.badNums ⟨f, t, n, o, D⟩ → ChunkM.check ⟨f, t, n, o, D⟩ = 2) := by
  show _ → _; intro h; unfold ChunkM.check; rw [if_pos h]
 unfold I64 at h1 h2 h3 h4; clear hd; go_enter Tryz.func112, Tryz.ntmps112; go_wp2_with fail; refine (isVersionC_any f _).mono ?_; rintro e w' ⟨rfl, rfl⟩; by_cases c1 : 1 ≤ f ∧ f ≤ 30
 · rw [decide_eq_true c1]
   go_wp2_with fail; refine (isVersionC_any t _).mono ?_; rintro e w' ⟨rfl, rfl⟩; by_cases c2 : 1 ≤ t ∧ t ≤ 30
   · rw [decide_eq_true c2]
     by_cases c3 : o < 1
     · have HE := LH (HBad.out (.inr (.inr (.inl (fun h => absurd h.1 (by simp only; omega))))))
       go_wp2_with fail; go_ret; exact ⟨zao HE.out.symm, HB.out⟩
     by_cases c3' : 52 < o
     · have HE := LH (HBad.out (.inr (.inr (.inl (fun h => absurd h.2 (by simp only; omega))))))
       go_wp2_with fail; go_ret; exact ⟨zao HE.out.symm, HB.out⟩
     by_cases c4 : n < 0
     · have HE := LH (HBad.out (.inr (.inr (.inr (.inl c4)))))
       go_wp2_with fail; go_ret; exact ⟨zao HE.out.symm, HB.out⟩
     by_cases c5 : o ≤ n
     · have HE := LH (HBad.out (.inr (.inr (.inr (.inr c5)))))
       go_wp2_with fail; go_ret; exact ⟨zao HE.out.symm, HB.out⟩
     have HG : Hid (¬ ChunkM.badNums ⟨f, t, n, o, D⟩) := by
      show ¬ _; unfold ChunkM.badNums; simp only; omega
     obtain ⟨O1, hO1⟩ : ∃ O1, o - 1 = O1 := ⟨_, rfl⟩; by_cases c6 : n = O1
     · subst c6
       have t6 : (n == n) = true := by simp
       have HE : Hid (ChunkM.check ⟨f, t, n, o, D⟩ = if ¬ (1 ≤ (m : Int) ∧ (m : Int) ≤ 16) then 3 else 0) := by
        show _ = _; rw [ChunkM.check_last HG.out hO1.symm]; simp only [HDL.out]
       by_cases c7 : (m : Int) < 1
       · go_wp2_with fail
         go_ret; exact ⟨zao (by rw [HE.out, if_pos (by omega)]), HB.out⟩
       by_cases c8 : (16 : Int) < m
       · have c8' : 16 < m := by omega
         go_wp2_with fail; go_ret; exact ⟨zao (by rw [HE.out, if_pos (by omega)]), HB.out⟩
       · have c8' : ¬ 16 < m := by omega
         go_wp2_with fail; go_ret; exact ⟨zao (by rw [HE.out, if_neg (by omega)]), HB.out⟩
     · have t6 : (n == O1) = false := by simp [c6]
       have HE : Hid (ChunkM.check ⟨f, t, n, o, D⟩ = if ¬ (16 ≤ (m : Int) ∧ (m : Int) ≤ 16) then 3 else 0) := by
        show _ = _; rw [ChunkM.check_mid HG.out (by simp only; rw [hO1]; exact c6)]; simp only [HDL.out]
       by_cases c7 : (m : Int) < 16
       · have c7' : m < 16 := by omega
         go_wp2_with fail; go_ret; exact ⟨zao (by rw [HE.out, if_pos (by omega)]), HB.out⟩
       have c7' : ¬ m < 16 := by omega
       by_cases c8 : (16 : Int) < m
       · have c8' : 16 < m := by omega
         go_wp2_with fail; go_ret; exact ⟨zao (by rw [HE.out, if_pos (by omega)]), HB.out⟩
       · have c8' : ¬ 16 < m := by omega
         go_wp2_with fail; go_ret; exact ⟨zao (by rw [HE.out, if_neg (by omega)]), HB.out⟩
   · rw [decide_eq_false c2]
     have HE := LH (HBad.out (.inr (.inl c2))); go_wp2_with fail; go_ret; exact ⟨zao HE.out.symm, HB.out⟩
 · rw [decide_eq_false c1]
   have HE := LH (HBad.out (.inl c1)); go_wp2_with fail; go_ret; exact ⟨zao HE.out.symm, HB.out⟩
theorem two_chs (w : World) (A B C E A' B' C' E' : Int) (v v' : Value) : ∀ W, Below ((w.alloc (.cells #[.int .i64 A, .int .i64 B, .int .i64 C, .int .i64 E, v] 39)).alloc (.cells #[.int .i64 A', .int .i64 B', .int .i64 C', .int .i64 E', v'] 39)).heap.size ((w.alloc (.cells #[.int .i64 A, .int .i64 B, .int .i64 C, .int .i64 E, v] 39)).alloc (.cells #[.int .i64 A', .int .i64 B', .int .i64 C', .int .i64 E', v'] 39)) W →
 W.cell? ⟨w.heap.size, 2, none⟩ = some (.int .i64 C) ∧ W.cell? ⟨w.heap.size, 4, none⟩ = some v ∧ W.cell? ⟨w.heap.size + 1, 2, none⟩ = some (.int .i64 C') ∧ W.cell? ⟨w.heap.size + 1, 4, none⟩ = some v' := by
 intro W hb; have e1 : (w.alloc (.cells #[.int .i64 A, .int .i64 B, .int .i64 C, .int .i64 E, v] 39)).heap.size = w.heap.size + 1 := by simp
 have h0 : ((w.alloc (.cells #[.int .i64 A, .int .i64 B, .int .i64 C, .int .i64 E, v] 39)).alloc (.cells #[.int .i64 A', .int .i64 B', .int .i64 C', .int .i64 E', v'] 39)).heap[w.heap.size]? = some (.cells #[.int .i64 A, .int .i64 B, .int .i64 C, .int .i64 E, v] 39 (0, 0)) := by
  rw [hpA, if_neg (by rw [e1]; omega), hpA, if_pos rfl]
 have h1 : ((w.alloc (.cells #[.int .i64 A, .int .i64 B, .int .i64 C, .int .i64 E, v] 39)).alloc (.cells #[.int .i64 A', .int .i64 B', .int .i64 C', .int .i64 E', v'] 39)).heap[w.heap.size + 1]? = some (.cells #[.int .i64 A', .int .i64 B', .int .i64 C', .int .i64 E', v'] 39 (0, 0)) := by
  rw [hpA, if_pos e1.symm]
 refine ⟨cell_later hb ?_, cell_later hb ?_, cell_later hb ?_, cell_later hb ?_⟩
 · simp only [World.cell?, h0]; rfl
 · simp only [World.cell?, h0]; rfl
 · simp only [World.cell?, h1]; rfl
 · simp only [World.cell?, h1]; rfl
theorem kinC_any (v v' : Value) (x y : ChR) (w : World) (h : CV w v x) (h' : CV w v' y) :
 Calls Tryz.prog 117 #[v, v'] w fun e w' => e = .returned (.bool (decide (ChunkM.kin x y))) ∧ Below w.heap.size w w' := by
 obtain ⟨va, vn, vc, rfl, hd, -⟩ := h; obtain ⟨va', vn', vc', rfl, hd', -⟩ := h'; obtain ⟨A, B, C, E, D⟩ := x; obtain ⟨A', B', C', E', D'⟩ := y; simp only at hd hd' ⊢; have hB1 := (Below.refl w.heap.size w).alloc (Nat.le_refl _) (.cells #[.int .i64 A, .int .i64 B, .int .i64 C, .int .i64 E, .slice va vn vc] 39); have HB := LH (hB1.alloc (by simp) (.cells #[.int .i64 A', .int .i64 B', .int .i64 C', .int .i64 E', .slice va' vn' vc'] 39)); clear hB1 hd hd'; by_cases h1 : A = A'
 · subst h1
   have t1 : (A == A) = true := by simp
   by_cases h2 : B = B'
   · subst h2
     have t2 : (B == B) = true := by simp
     by_cases h4 : E = E'
     · subst h4
       have t4 : (E == E) = true := by simp
       go_enter Tryz.func117, Tryz.ntmps117; go_wp2_with fail; go_ret; exact ⟨zaB (by simp [ChunkM.kin]), HB.out⟩
     · have t4 : (E == E') = false := by simp [h4]
       go_enter Tryz.func117, Tryz.ntmps117; go_wp2_with fail; go_ret; exact ⟨zaB (by simp [ChunkM.kin, h4]), HB.out⟩
   · have t2 : (B == B') = false := by simp [h2]
     go_enter Tryz.func117, Tryz.ntmps117; go_wp2_with fail; go_ret; exact ⟨zaB (by simp [ChunkM.kin, h2]), HB.out⟩
 · have t1 : (A == A') = false := by simp [h1]
   go_enter Tryz.func117, Tryz.ntmps117; go_wp2_with fail; go_ret; exact ⟨zaB (by simp [ChunkM.kin, h1]), HB.out⟩
structure KinW (w : World) (b o C : Nat) (x y : ChR) (xa : Option Addr) (xm xc : Nat) (ya : Option Addr) (ym yc : Nat) (W : World) : Prop where
 x0 : W.cell? ⟨b, o, none⟩ = some (.int .i64 x.fr)
 x1 : W.cell? ⟨b, o + 1, none⟩ = some (.int .i64 x.to_)
 x2 : W.cell? ⟨b, o + 2, none⟩ = some (.int .i64 x.n)
 x3 : W.cell? ⟨b, o + 3, none⟩ = some (.int .i64 x.of_)
 x4 : W.cell? ⟨b, o + 4, none⟩ = some (.slice xa xm xc)
 blk : W.heap[C]? = some (.cells #[.int .i64 y.fr, .int .i64 y.to_, .int .i64 y.n, .int .i64 y.of_, .slice ya ym yc] 39 (0, 0))
 cx : CV W (.agg #[.int .i64 x.fr, .int .i64 x.to_, .int .i64 x.n, .int .i64 x.of_, .slice xa xm xc]) x
 cy : CV W (.agg #[.int .i64 y.fr, .int .i64 y.to_, .int .i64 y.n, .int .i64 y.of_, .slice ya ym yc]) y
 below : Below w.heap.size w W
section
variable {w : World} {b o C : Nat} {x y : ChR} {xa : Option Addr} {xm xc : Nat} {ya : Option Addr} {ym yc : Nat} {W W' : World}
theorem KinW.later (h : KinW w b o C x y xa xm xc ya ym yc W) (hb : Below W.heap.size W W') : KinW w b o C x y xa xm xc ya ym yc W' :=
 ⟨cell_later hb h.x0, cell_later hb h.x1, cell_later hb h.x2, cell_later hb h.x3, cell_later hb h.x4, (hb.block C (zax h.blk)).trans h.blk, h.cx.later hb, h.cy.later hb, bTh h.below hb⟩
theorem KinW.cells (h : KinW w b o C x y xa xm xc ya ym yc W) : W.cell? ⟨b, o, none⟩ = some (.int .i64 x.fr) ∧ W.cell? ⟨b, o + 1, none⟩ = some (.int .i64 x.to_) ∧ W.cell? ⟨b, o + 2, none⟩ = some (.int .i64 x.n) ∧ W.cell? ⟨b, o + 3, none⟩ = some (.int .i64 x.of_) ∧ W.cell? ⟨b, o + 4, none⟩ = some (.slice xa xm xc) ∧
 W.cell? ⟨C, 0, none⟩ = some (.int .i64 y.fr) ∧ W.cell? ⟨C, 1, none⟩ = some (.int .i64 y.to_) ∧ W.cell? ⟨C, 2, none⟩ = some (.int .i64 y.n) ∧ W.cell? ⟨C, 3, none⟩ = some (.int .i64 y.of_) ∧ W.cell? ⟨C, 4, none⟩ = some (.slice ya ym yc) := by
 refine ⟨h.x0, h.x1, h.x2, h.x3, h.x4, ?_⟩; simp [World.cell?, h.blk]
end
theorem ch_block (W : World) (v0 v1 v2 v3 v4 : Value) : (W.alloc (.cells #[v0, v1, v2, v3, v4] 39)).heap[W.heap.size]? = some (.cells #[v0, v1, v2, v3, v4] 39 (0, 0)) := by rw [hpA, if_pos rfl]
theorem zbx {W : World} {B : Nat} {v0 v1 v2 v3 v4 : Value} (h : W.heap[B]? = some (.cells #[v0, v1, v2, v3, v4] 39 (0, 0))) : W.cell? ⟨B, 0, none⟩ = some v0 ∧ W.cell? ⟨B, 1, none⟩ = some v1 ∧ W.cell? ⟨B, 2, none⟩ = some v2 ∧ W.cell? ⟨B, 3, none⟩ = some v3 ∧ W.cell? ⟨B, 4, none⟩ = some v4 := by
 simp [World.cell?, h]
theorem drop_ch (l : List ChR) (k : Nat) (h : k < l.length) : l.drop k = l.getD k default :: l.drop (k + 1) := by
 rw [List.drop_eq_getElem_cons h]; simp [List.getD_eq_getElem?_getD, List.getElem?_eq_getElem h]
def lastOf (l : List ChR) (k : Nat) : Int := if k = 0 then -1 else (l.getD (k - 1) default).n
theorem lastOf_succ (l : List ChR) (k : Nat) : lastOf l (k + 1) = (l.getD k default).n := by unfold lastOf; rw [if_neg (by omega)]; rfl
def ListRel (l : List ChR) (w : World) (i : Value) (wr : World) : Prop :=
 ∃ k : Nat, i = .int .i64 k ∧ k ≤ l.length ∧ ChunkM.chks (l.getD 0 default) (l.drop k) (lastOf l k) = ChunkM.checks l ∧ (0 < k → ChunkM.kin (l.getD (k - 1) default) (l.getD 0 default)) ∧ Below w.heap.size w wr
theorem kin_via {p x z : ChR} (h : ChunkM.kin p z) : ChunkM.kin x z ↔ ChunkM.kin p x := by
 obtain ⟨h1, h2, h3⟩ := h; unfold ChunkM.kin; rw [h1, h2, h3]; exact ⟨fun q => ⟨q.1.symm, q.2.1.symm, q.2.2.symm⟩, fun q => ⟨q.1.symm, q.2.1.symm, q.2.2.symm⟩⟩
theorem listC_ok : ListCC := by
 intro a n c l w hl; have HL := LH hl; have HLn := LH hl.len; have hlen : n ≤ 9223372036854775807 := by have := hl.le; have := hl.max; omega
 clear hl; go_enter Tryz.func130, Tryz.ntmps130; go_wp2_with fail; go_loopw [8] (fun i wr => ListRel l w i wr) (fun i _ => n - (intOf i).toNat)
 case atStart => exact ⟨0, rfl, Nat.zero_le _, by cases l <;> rfl, fun h => absurd h (by omega), Below.refl _ _⟩
 case round =>
  obtain ⟨k, rfl, hk, hc, hkin, hB⟩ := hrel; rw [HLn.out] at hk; have HC := LH hc; have HB := LH hB; have HKin := LH hkin; clear hc hB hkin; by_cases hlt : k < n
  · obtain ⟨b, off, rfl, hcs⟩ := (HL.out.later HB.out).cells (by omega)
    have hqk := hcs k hlt; have HD := LH (drop_ch l k (by rw [HLn.out]; exact hlt)); have HLs := LH (lastOf_succ l k)
    have HZ0 : Hid (k = 0 → l.getD k default = l.getD 0 default) := by
     show _ → _; rintro rfl
     rfl
    obtain ⟨x, hx⟩ : ∃ x, l.getD k default = x := ⟨_, rfl⟩; rw [hx] at hqk HD HLs HZ0; clear hx; obtain ⟨va, vm, vc, q0, q1, q2, q3, q4, q5, qI⟩ := hqk; obtain ⟨F, T, N, O, D⟩ := x; simp only at q0 q1 q2 q3 q4 q5 HLs; have hbl : Below wr.heap.size wr (wr.alloc (.cells #[.int .i64 F, .int .i64 T, .int .i64 N, .int .i64 O, .slice va vm vc] 39)) := (Below.refl _ _).alloc (Nat.le_refl _) _; have HCV : Hid (CV (wr.alloc (.cells #[.int .i64 F, .int .i64 T, .int .i64 N, .int .i64 O, .slice va vm vc] 39)) (.agg #[.int .i64 F, .int .i64 T, .int .i64 N, .int .i64 O, .slice va vm vc]) ⟨F, T, N, O, D⟩) := ⟨va, vm, vc, rfl, q5.later hbl, qI⟩; have HBL := LH (bTh HB.out hbl); obtain ⟨C, hCC⟩ : ∃ C, wr.heap.size = C := ⟨_, rfl⟩; have hblk : (wr.alloc (.cells #[.int .i64 F, .int .i64 T, .int .i64 N, .int .i64 O, .slice va vm vc] 39)).heap[C]? = some (.cells #[.int .i64 F, .int .i64 T, .int .i64 N, .int .i64 O, .slice va vm vc] 39 (0, 0)) := by rw [hpA, if_pos hCC.symm]
    have HBlk := LH hblk; have HBl := LH hbl; have HCS : Hid (∀ i, i < n → ChAt wr b (off + i * 5) (l.getD i default)) := hcs; clear hcs q5 qI hbl hblk; go_wp2_with fail; refine (checkC_ok _ _ _ HCV.out).mono ?_; rintro e W2 ⟨rfl, hb2⟩; have hb02 := bTh HBl.out hb2; have HB2 := LH (bTh HBL.out hb2); have hblk2 := (hb2.block _ (zax HBlk.out)).trans HBlk.out; have HCV2 := LH (HCV.out.later hb2); have HB02 := LH hb02; have HBlk2 := LH hblk2; obtain ⟨p0, p1, p2, p3, p4⟩ := zbx hblk2; clear hb2 HBlk HBL HCV HBl q0 q1 q2 q3 q4 hb02 hblk2; by_cases e0 : ChunkM.check ⟨F, T, N, O, D⟩ = 0
    · have HE0 := LH e0
      rw [e0]; have hgood := ChunkM.check_good e0; simp only at hgood; obtain ⟨-, -, go, gn, -⟩ := hgood; clear e0; by_cases hk0 : 0 < k
      · obtain ⟨J, hJ⟩ : ∃ J : Nat, (k : Int) - 1 = J := ⟨k - 1, by omega⟩
        have hJk : k - 1 = J := by omega
        have hJn : J < n := by omega
        have hJ0 : (0 : Int) ≤ (J : Int) := by omega
        have hJn' : (J : Int) < (n : Int) := by omega
        have hk0' : (0 : Int) < (k : Int) := by omega
        have dk0 : decide (0 < k) = true := by simp [hk0]
        have hw1 : IntKind.i64.wrap ((k : Int) - 1) = J := by rw [hJ]; exact IntWalk.i64_in _ (by omega)
        have hw2 : IntKind.i64.wrap (J : Int) = J := IntWalk.i64_in _ (by omega); have hqj := HCS.out J hJn; have HKz := LH (HKin.out hk0)
        have HLast : Hid (lastOf l k = (l.getD J default).n) := by
         show _ = _; unfold lastOf; rw [if_neg (by omega), hJk]
        rw [hJk] at HKz; generalize l.getD J default = pv at hqj HKz HLast; obtain ⟨ua, um, uc, u0, u1, u2, u3, u4, u5, uI⟩ := hqj; obtain ⟨PF, PT, PN, PO, PD⟩ := pv; simp only at u0 u1 u2 u3 u4 u5 HLast
        have HW : Hid (KinW w b (off + J * 5) C ⟨PF, PT, PN, PO, PD⟩ ⟨F, T, N, O, D⟩ ua um uc va vm vc W2) :=
         ⟨cell_later HB02.out u0, cell_later HB02.out u1, cell_later HB02.out u2, cell_later HB02.out u3, cell_later HB02.out u4, HBlk2.out, ⟨ua, um, uc, rfl, u5.later HB02.out, uI⟩, HCV2.out, HB2.out⟩
        obtain ⟨J5, hJ5⟩ : ∃ J5, off + J * 5 = J5 := ⟨_, rfl⟩; rw [hJ5] at HW; clear u0 u1 u2 u3 u4 u5 uI HCV2 HBlk2 HB02 HB2 p0 p1 p2 p3 p4 hJk
        have HF3 : Hid (¬ ChunkM.kin ⟨PF, PT, PN, PO, PD⟩ ⟨F, T, N, O, D⟩ ∨ N ≤ PN → ChunkM.checks l = 3) := by
         show _ → _; intro h; rw [← HC.out, HD.out, HLast.out]; refine ChunkM.chks_form HE0.out ?_; rw [kin_via HKz.out]; exact h
        obtain ⟨c0, c1, c2, c3, c4, d0, d1, d2, d3, d4⟩ := HW.out.cells; simp only at c0 c1 c2 c3 c4 d0 d1 d2 d3 d4; by_cases hkk : ChunkM.kin ⟨PF, PT, PN, PO, PD⟩ ⟨F, T, N, O, D⟩
        · have HKK : Hid (∀ W, CV W (.agg #[.int .i64 PF, .int .i64 PT, .int .i64 PN, .int .i64 PO, .slice ua um uc]) ⟨PF, PT, PN, PO, PD⟩ → CV W (.agg #[.int .i64 F, .int .i64 T, .int .i64 N, .int .i64 O, .slice va vm vc]) ⟨F, T, N, O, D⟩ → Calls Tryz.prog 117 #[.agg #[.int .i64 PF, .int .i64 PT, .int .i64 PN, .int .i64 PO, .slice ua um uc], .agg #[.int .i64 F, .int .i64 T, .int .i64 N, .int .i64 O, .slice va vm vc]] W fun e w' => e = .returned (.bool true) ∧ Below W.heap.size W w') := by
           show ∀ W, _; intro W h1 h2; have := kinC_any _ _ _ _ W h1 h2
           rwa [decide_eq_true hkk] at this
          have HKn := LH hkk; clear hkk; by_cases e4 : N ≤ PN
          · have t4 : decide (N ≤ PN) = true := by simp [e4]
            have HR := LH (HF3.out (.inr e4)); go_wp2_with fail; replace HW := LH (HW.out.later (Below.refl _ _).drew)
            go_region_held3 (fun W => W.cell? ⟨b, J5, none⟩ = some (.int .i64 PF) ∧ W.cell? ⟨b, J5 + 1, none⟩ = some (.int .i64 PT) ∧ W.cell? ⟨b, J5 + 2, none⟩ = some (.int .i64 PN) ∧ W.cell? ⟨b, J5 + 3, none⟩ = some (.int .i64 PO) ∧ W.cell? ⟨b, J5 + 4, none⟩ = some (.slice ua um uc) ∧
             W.cell? ⟨C, 0, none⟩ = some (.int .i64 F) ∧ W.cell? ⟨C, 1, none⟩ = some (.int .i64 T) ∧ W.cell? ⟨C, 2, none⟩ = some (.int .i64 N) ∧ W.cell? ⟨C, 3, none⟩ = some (.int .i64 O) ∧ W.cell? ⟨C, 4, none⟩ = some (.slice va vm vc))
             (exact HW.out.cells)
             (first | (go_at_call 117; refine (HKK.out _ HW.out.cx HW.out.cy).mono ?_; rintro e Wa ⟨rfl, da⟩; replace HW := LH (HW.out.later da); clear da))
            all_goals
             go_wp2_with fail; go_ret; exact ⟨zao HR.out.symm, HW.out.below⟩
          · have t4 : decide (N ≤ PN) = false := by simp; omega
            go_wp2_with fail; replace HW := LH (HW.out.later (Below.refl _ _).drew)
            go_region_held3 (fun W => W.cell? ⟨b, J5, none⟩ = some (.int .i64 PF) ∧ W.cell? ⟨b, J5 + 1, none⟩ = some (.int .i64 PT) ∧ W.cell? ⟨b, J5 + 2, none⟩ = some (.int .i64 PN) ∧ W.cell? ⟨b, J5 + 3, none⟩ = some (.int .i64 PO) ∧ W.cell? ⟨b, J5 + 4, none⟩ = some (.slice ua um uc) ∧
             W.cell? ⟨C, 0, none⟩ = some (.int .i64 F) ∧ W.cell? ⟨C, 1, none⟩ = some (.int .i64 T) ∧ W.cell? ⟨C, 2, none⟩ = some (.int .i64 N) ∧ W.cell? ⟨C, 3, none⟩ = some (.int .i64 O) ∧ W.cell? ⟨C, 4, none⟩ = some (.slice va vm vc))
             (exact HW.out.cells)
             (first | (go_at_call 117; refine (HKK.out _ HW.out.cx HW.out.cy).mono ?_; rintro e Wa ⟨rfl, da⟩; replace HW := LH (HW.out.later da); clear da))
            all_goals
             go_wp2_with fail; go_roundw
             case rel =>
              refine ⟨k + 1, by go_num, by rw [HLn.out]; omega, ?_, fun _ => ?_, HW.out.below⟩
              · rw [HLs.out, ← HC.out, HD.out, HLast.out]
                exact (ChunkM.chks_on (last := PN) HE0.out ((kin_via HKz.out).2 HKn.out) (by simp only; omega)).symm
              · have := (kin_via HKz.out).2 HKn.out
                have h9 := congrArg (·.getD 0 default) HD.out; simp only [List.getD_cons_zero] at h9; rw [Nat.add_sub_cancel]; rw [List.getD_eq_getElem?_getD, List.getElem?_drop, Nat.add_zero, ← List.getD_eq_getElem?_getD] at h9; rw [h9]; exact this
             case measure => simp [intOf]; omega
        · have HKK : Hid (∀ W, CV W (.agg #[.int .i64 PF, .int .i64 PT, .int .i64 PN, .int .i64 PO, .slice ua um uc]) ⟨PF, PT, PN, PO, PD⟩ → CV W (.agg #[.int .i64 F, .int .i64 T, .int .i64 N, .int .i64 O, .slice va vm vc]) ⟨F, T, N, O, D⟩ → Calls Tryz.prog 117 #[.agg #[.int .i64 PF, .int .i64 PT, .int .i64 PN, .int .i64 PO, .slice ua um uc], .agg #[.int .i64 F, .int .i64 T, .int .i64 N, .int .i64 O, .slice va vm vc]] W fun e w' => e = .returned (.bool false) ∧ Below W.heap.size W w') := by
           show ∀ W, _; intro W h1 h2; have := kinC_any _ _ _ _ W h1 h2
           rwa [decide_eq_false hkk] at this
          have HR := LH (HF3.out (.inl hkk)); clear hkk; go_wp2_with fail; refine wp_region_quiet (C := fun W => KinW w b J5 C ⟨PF, PT, PN, PO, PD⟩ ⟨F, T, N, O, D⟩ ua um uc va vm vc W) (by kernel_rfl) (by kernel_rfl) (HW.out.later (Below.refl _ _).drew) ?_; clear c0 c1 c2 c3 c4 d0 d1 d2 d3 d4; dsimp only
          repeat (first
           | go_big_quiet_skip
           | (go_big_quiet_want
              first
               | (go_big_quiet_op
                  go_big_quiet_on)
               | (unfold Oper.quiet
                  apply Exists.intro; refine ⟨fun W9 hW9 => ?_, ?_⟩
                  · obtain ⟨c0, c1, c2, c3, c4, d0, d1, d2, d3, d4⟩ := hW9.cells
                    simp only at c0 c1 c2 c3 c4 d0 d1 d2 d3 d4; go_simp
                    first
                     | with_reducible rfl
                     | (go_at_call 117; exact (HKK.out _ hW9.cx hW9.cy).mono (fun _ _ h => ⟨h.1, hW9.later h.2⟩))
                  simp only [Act.put, sA, sB, sC]
                  go_big_quiet_on)))
          refine wpQuiet_nil ?_; intro W9 hW9; go_wp2_with fail; go_ret; exact ⟨zao HR.out.symm, hW9.below⟩
      · obtain rfl : k = 0 := by omega
        have HZ := LH (HZ0.out rfl); clear HCV2 HBlk2 HB02 HCS; go_wp2_with fail; go_quiet (fail); have HB4 := LH (below_drewN HB2.out nq); go_wp2_with fail; go_roundw
        case rel =>
         refine ⟨1, by go_num, by rw [HLn.out]; omega, ?_, fun _ => ?_, HB4.out⟩
         · rw [HLs.out, ← HC.out, HD.out, ← HZ.out]
           exact (ChunkM.chks_on (z := ⟨F, T, N, O, D⟩) (last := -1) HE0.out ⟨rfl, rfl, rfl⟩ (by simp only; omega)).symm
         · exact ⟨rfl, rfl, rfl⟩
        case measure => simp [intOf]; omega
    · obtain ⟨E, hE⟩ : ∃ E, ChunkM.check ⟨F, T, N, O, D⟩ = E := ⟨_, rfl⟩
      have HE : Hid (ChunkM.checks l = E) := by
       show _ = _; rw [← HC.out, HD.out, ChunkM.chks_bad e0, hE]
      rw [hE] at e0 ⊢; have t0 : (E != 0) = true := by simp [e0]
      clear hE; go_wp2_with fail; go_ret; exact ⟨zao HE.out.symm, HB2.out⟩
  · have hdr : l.drop k = [] := List.drop_eq_nil_of_le (by rw [HLn.out]; omega)
    have HE : Hid (ChunkM.checks l = 0) := by
     show _ = _; rw [← HC.out, hdr]
     rfl
    go_wp2_with fail; go_ret; exact ⟨zao HE.out.symm, HB.out⟩
def SameRelC (x y : List ChR) (w : World) (i : Value) (wr : World) : Prop :=
 ∃ k : Nat, i = .int .i64 k ∧ k ≤ x.length ∧ x.take k = y.take k ∧ Below w.heap.size w wr
theorem take_moreC {x y : List ChR} {k : Nat} (h : x.take k = y.take k) (hx : k < x.length) (hy : k < y.length) (he : x.getD k default = y.getD k default) : x.take (k + 1) = y.take (k + 1) := by
 rw [List.take_add_one, List.take_add_one, h]; simp only [List.getD_eq_getElem?_getD, List.getElem?_eq_getElem hx, List.getElem?_eq_getElem hy, Option.getD_some] at he; simp [List.getElem?_eq_getElem hx, List.getElem?_eq_getElem hy, he]
theorem ne_of_atC {x y : List ChR} {k : Nat} (h : x.getD k default ≠ y.getD k default) : decide (x = y) = false := by
 rw [decide_eq_false]; rintro rfl; exact h rfl
theorem sameC1_any (v v' : Value) (x y : ChR) (w : World) (h : CV w v x) (h' : CV w v' y) :
 Calls Tryz.prog 116 #[v, v'] w fun e w' => e = .returned (.bool (decide (x = y))) ∧ Below w.heap.size w w' := by
 obtain ⟨va, vn, vc, rfl, hd, hI⟩ := h; obtain ⟨va', vn', vc', rfl, hd', hI'⟩ := h'; obtain ⟨A, B, C, E, D⟩ := x; obtain ⟨A', B', C', E', D'⟩ := y; simp only at hd hd' ⊢; have hB1 := (Below.refl w.heap.size w).alloc (Nat.le_refl _) (.cells #[.int .i64 A, .int .i64 B, .int .i64 C, .int .i64 E, .slice va vn vc] 39); have hB2 := hB1.alloc (by simp) (.cells #[.int .i64 A', .int .i64 B', .int .i64 C', .int .i64 E', .slice va' vn' vc'] 39); have HX : Hid (CV ((w.alloc (.cells #[.int .i64 A, .int .i64 B, .int .i64 C, .int .i64 E, .slice va vn vc] 39)).alloc (.cells #[.int .i64 A', .int .i64 B', .int .i64 C', .int .i64 E', .slice va' vn' vc'] 39)) (.agg #[.int .i64 A, .int .i64 B, .int .i64 C, .int .i64 E, .slice va vn vc]) ⟨A, B, C, E, D⟩) := ⟨va, vn, vc, rfl, hd.later hB2, hI⟩; have HY : Hid (CV ((w.alloc (.cells #[.int .i64 A, .int .i64 B, .int .i64 C, .int .i64 E, .slice va vn vc] 39)).alloc (.cells #[.int .i64 A', .int .i64 B', .int .i64 C', .int .i64 E', .slice va' vn' vc'] 39)) (.agg #[.int .i64 A', .int .i64 B', .int .i64 C', .int .i64 E', .slice va' vn' vc']) ⟨A', B', C', E', D'⟩) := ⟨va', vn', vc', rfl, hd'.later hB2, hI'⟩; have HQ := LH (hd.later hB2); have HP := LH (hd'.later hB2); have HB := LH hB2; have HEQ := LH (eqB va va' vn vc vn' vc' D D'); have HBk := LH (two_chs w A B C E A' B' C' E' (.slice va vn vc) (.slice va' vn' vc')); obtain ⟨B0, hB0⟩ : ∃ B0, w.heap.size = B0 := ⟨_, rfl⟩; clear hB1 hB2 hd hd'; go_enter Tryz.func116, Tryz.ntmps116; go_wp2_with fail; refine (kinC_any _ _ _ _ _ HX.out HY.out).mono ?_; rintro e W2 ⟨rfl, b2⟩; have HB2 := LH (bTh HB.out b2); have HQ2 := LH (HQ.out.later b2); have HP2 := LH (HP.out.later b2); obtain ⟨p2, p4, q2, q4⟩ := HBk.out _ b2; rw [hB0] at p2 p4 q2 q4; clear b2 HX HY HQ HP HBk; by_cases hk : ChunkM.kin ⟨A, B, C, E, D⟩ ⟨A', B', C', E', D'⟩
 · rw [decide_eq_true hk]
   obtain ⟨k1, k2, k3⟩ := hk; simp only at k1 k2 k3; subst k1 k2 k3; by_cases h3 : C = C'
   · subst h3
     have t3 : (C == C) = true := by simp
     go_wp2_with fail; refine (HEQ.out _ HQ2.out HP2.out).mono ?_; rintro e w' ⟨rfl, rfl⟩; go_wp2_with fail; go_ret; exact ⟨zaB (by simp), HB2.out⟩
   · have t3 : (C == C') = false := by simp [h3]
     go_wp2_with fail; go_ret; exact ⟨zaB (by simp [h3]), HB2.out⟩
 · rw [decide_eq_false hk]
   have hne : decide ((⟨A, B, C, E, D⟩ : ChR) = ⟨A', B', C', E', D'⟩) = false := by
    rw [decide_eq_false]; intro h; rw [h] at hk; exact hk ⟨rfl, rfl, rfl⟩
   have HNE := LH hne; clear hne hk; go_wp2_with fail; go_ret; exact ⟨zaB HNE.out.symm, HB2.out⟩
theorem equalCs_any (a a' : Option Addr) (n c n' c' : Nat) (x y : List ChR) (w : World) (hx : CS w a n c x) (hy : CS w a' n' c' y) :
 Calls Tryz.prog 115 #[.slice a n c, .slice a' n' c', .func (.func 116) #[] #[]] w fun e w' => e = .returned (.bool (decide (x = y))) ∧ Below w.heap.size w w' := by
 have hlen : n ≤ 9223372036854775807 := by have := hx.le; have := hx.max; omega
 have hlen' : n' ≤ 9223372036854775807 := by have := hy.le; have := hy.max; omega
 have HX := LH hx; have HY := LH hy; have HLX := LH hx.len; have HLY := LH hy.len; clear hx hy; by_cases hnn : n = n'
 · subst hnn
   have hb : ((n : Int) != n) = false := by simp
   go_enter Tryz.func115, Tryz.ntmps115; go_wp2_with fail; go_loopw [17] (fun i wr => SameRelC x y w i wr) (fun i _ => n - (intOf i).toNat)
   case atStart => exact ⟨0, rfl, Nat.zero_le _, rfl, Below.refl _ _⟩
   case round =>
    obtain ⟨k, rfl, hk, ht, hB⟩ := hrel; rw [HLX.out] at hk; have HT := LH ht; have HB := LH hB; clear ht hB; by_cases hlt : k < n
    · obtain ⟨b, off, rfl, hcs⟩ := (HX.out.later HB.out).cells (by omega)
      obtain ⟨b', off', rfl, hcs'⟩ := (HY.out.later HB.out).cells (by omega); have HN := LH (fun h => ne_of_atC (x := x) (y := y) (k := k) h)
      have HM : Hid (x.getD k default = y.getD k default → x.take (k + 1) = y.take (k + 1)) := by
       show _ → _; exact take_moreC HT.out (by rw [HLX.out]; exact hlt) (by rw [HLY.out]; exact hlt)
      have hqx := hcs k hlt; have hqy := hcs' k hlt; generalize x.getD k default = o at HN HM hqx; generalize y.getD k default = o' at HN HM hqy; obtain ⟨va, vn, vc, q0, q1, q2, q3, q4, q5, qI⟩ := hqx; obtain ⟨A, B, C, E, D⟩ := o; simp only at q0 q1 q2 q3 q4 q5; have hbx : Below wr.heap.size wr (wr.alloc (.cells #[.int .i64 A, .int .i64 B, .int .i64 C, .int .i64 E, .slice va vn vc] 39)) := (Below.refl _ _).alloc (Nat.le_refl _) _; obtain ⟨va', vn', vc', p0, p1, p2, p3, p4, p5, pI⟩ := hqy.keep (fun _ _ hc => cell_later hbx hc); obtain ⟨A', B', C', E', D'⟩ := o'; simp only at p0 p1 p2 p3 p4 p5; have hby := (Below.refl _ (wr.alloc (.cells #[.int .i64 A, .int .i64 B, .int .i64 C, .int .i64 E, .slice va vn vc] 39))).alloc (Nat.le_refl _) (.cells #[.int .i64 A', .int .i64 B', .int .i64 C', .int .i64 E', .slice va' vn' vc'] 39); have HQ := LH ((q5.later hbx).later hby); have HP := LH (p5.later hby); have HB2 := LH (bTh HB.out (bTh hbx hby)); have HQI := LH qI; have HPI := LH pI; clear hcs hcs' hbx hby q5 p5 qI pI hqy; go_wp2_with fail; refine (sameC1_any _ _ ⟨A, B, C, E, D⟩ ⟨A', B', C', E', D'⟩ _ ⟨va, vn, vc, rfl, HQ.out, HQI.out⟩ ⟨va', vn', vc', rfl, HP.out, HPI.out⟩).mono ?_; rintro e W2 ⟨rfl, hb2⟩; have HB3 := LH (bTh HB2.out hb2); clear hb2 HB2 HQ HP; by_cases he : (⟨A, B, C, E, D⟩ : ChR) = ⟨A', B', C', E', D'⟩
      · rw [decide_eq_true he]
        have HE := LH he; clear he; go_wp2_with fail; go_roundw
        case rel => exact ⟨k + 1, by go_num, by rw [HLX.out]; omega, HM.out HE.out, HB3.out⟩
        case measure => simp [intOf]; omega
      · rw [decide_eq_false he]
        have HE := LH he; clear he; go_wp2_with fail; go_ret; exact ⟨zaB (HN.out HE.out).symm, HB3.out⟩
    · have hkn : k = n := by omega
      go_wp2_with fail; go_ret; have e1 : x.take k = x := List.take_of_length_le (by rw [HLX.out]; omega); have e2 : y.take k = y := List.take_of_length_le (by rw [HLY.out]; omega); have e3 := HT.out; rw [e1, e2] at e3; exact ⟨zaB (by rw [e3]; simp), HB.out⟩
 · have he : decide (x = y) = false := by
    rw [decide_eq_false]; rintro rfl; exact hnn (HLX.out.symm.trans HLY.out)
   have hb : ((n : Int) != n') = true := by simp; omega
   rw [he]; go_enter Tryz.func115, Tryz.ntmps115; go_wp2_with fail; go_ret; exact ⟨rfl, Below.refl _ _⟩
theorem sameC_ok : SameCC := by
 intro a a' n c n' c' x y w hx hy; go_enter Tryz.func52, Tryz.ntmps52; go_wp2_with fail; refine (equalCs_any a a' n c n' c' x y _ hx hy).mono ?_; rintro e w' ⟨rfl, hb⟩; go_wp2_with fail; go_ret; exact ⟨rfl, hb⟩
theorem sameStep_any (A L A' L' : Int) (va va' : Option Addr) (vn vc vn' vc' : Nat) (D D' : List Int) (w : World) (h : BS w va vn vc D) (h' : BS w va' vn' vc' D') :
 Calls Tryz.prog 180 #[.agg #[.int .i64 A, .int .i64 L, .slice va vn vc], .agg #[.int .i64 A', .int .i64 L', .slice va' vn' vc']] w fun e w' => e = .returned (.bool (decide ((⟨A, L, D⟩ : OpR) = ⟨A', L', D'⟩))) ∧ Below w.heap.size w w' := by
 have hB1 := (Below.refl w.heap.size w).alloc (Nat.le_refl _) (.cells #[.int .i64 A, .int .i64 L, .slice va vn vc] 159); have hB2 := hB1.alloc (by simp) (.cells #[.int .i64 A', .int .i64 L', .slice va' vn' vc'] 159); have HQ := LH (h.later hB2); have HP := LH (h'.later hB2); have HB := LH hB2; clear hB1 hB2 h h'; by_cases hA : A = A'
 · subst hA
   by_cases hL : L = L'
   · subst hL
     have ba : (A == A) = true := by simp
     have bl : (L == L) = true := by simp
     have HEQ := LH (eqB va va' vn vc vn' vc' D D'); go_enter Tryz.func180, Tryz.ntmps180; go_wp2_with fail; refine (HEQ.out _ HQ.out HP.out).mono ?_; rintro e w' ⟨rfl, rfl⟩; go_wp2_with fail; go_ret; exact ⟨zaB (by simp), HB.out⟩
   · have ba : (A == A) = true := by simp
     have bl : (L == L') = false := by simp [hL]
     go_enter Tryz.func180, Tryz.ntmps180; go_wp2_with fail; go_ret; exact ⟨zaB (by simp [hL]), HB.out⟩
 · have ba : (A == A') = false := by simp [hA]
   go_enter Tryz.func180, Tryz.ntmps180; go_wp2_with fail; go_ret; exact ⟨zaB (by simp [hA]), HB.out⟩
theorem equalSteps_any (a a' : Option Addr) (n c n' c' : Nat) (x y : List OpR) (w : World) (hx : OS w a n c x) (hy : OS w a' n' c' y) :
 Calls Tryz.prog 179 #[.slice a n c, .slice a' n' c', .func (.func 180) #[] #[]] w fun e w' => e = .returned (.bool (decide (x = y))) ∧ Below w.heap.size w w' := by
 have hlen : n ≤ 9223372036854775807 := by have := hx.le; have := hx.max; omega
 have hlen' : n' ≤ 9223372036854775807 := by have := hy.le; have := hy.max; omega
 have HX := LH hx; have HY := LH hy; have HLX := LH hx.len; have HLY := LH hy.len; clear hx hy; by_cases hnn : n = n'
 · subst hnn
   have hb : ((n : Int) != n) = false := by simp
   go_enter Tryz.func179, Tryz.ntmps179; go_wp2_with fail; go_loopw [17] (fun i wr => SameRel x y w i wr) (fun i _ => n - (intOf i).toNat)
   case atStart => exact ⟨0, rfl, Nat.zero_le _, rfl, Below.refl _ _⟩
   case round =>
    obtain ⟨k, rfl, hk, ht, hB⟩ := hrel; rw [HLX.out] at hk; have HT := LH ht; clear ht; by_cases hlt : k < n
    · obtain ⟨b, off, rfl, hcs⟩ := (HX.out.later hB).cells (by omega)
      obtain ⟨b', off', rfl, hcs'⟩ := (HY.out.later hB).cells (by omega); obtain ⟨va, vn, vc, q0, q1, q2, q3, -, -⟩ := hcs k hlt; have hB1 := hB.alloc hB.size (.cells #[.int .i64 (x.getD k default).at_, .int .i64 (x.getD k default).len, .slice va vn vc] 159); have hbx : Below wr.heap.size wr (wr.alloc (.cells #[.int .i64 (x.getD k default).at_, .int .i64 (x.getD k default).len, .slice va vn vc] 159)) := (Below.refl _ _).alloc (Nat.le_refl _) _; obtain ⟨va', vn', vc', p0, p1, p2, p3, -, -⟩ := (hcs' k hlt).keep (fun _ _ hc => cell_later hbx hc); replace q3 := q3.later hbx; have hB2 := hB1.alloc hB1.size (.cells #[.int .i64 (y.getD k default).at_, .int .i64 (y.getD k default).len, .slice va' vn' vc'] 159); have hby := (Below.refl _ (wr.alloc (.cells #[.int .i64 (x.getD k default).at_, .int .i64 (x.getD k default).len, .slice va vn vc] 159))).alloc (Nat.le_refl _) (.cells #[.int .i64 (y.getD k default).at_, .int .i64 (y.getD k default).len, .slice va' vn' vc'] 159); have HN := LH (fun h => ne_of_at (x := x) (y := y) (k := k) h)
      have HM : Hid (x.getD k default = y.getD k default → x.take (k + 1) = y.take (k + 1)) := by
       show _ → _; exact take_more HT.out (by rw [HLX.out]; exact hlt) (by rw [HLY.out]; exact hlt)
      have HQ := LH (q3.later hby); have HP := LH (p3.later hby); clear hcs hcs' hbx hby q3 p3; generalize x.getD k default = o at *; generalize y.getD k default = o' at *; obtain ⟨A, L, D⟩ := o; obtain ⟨A', L', D'⟩ := o'; simp only at q0 q1 q2 p0 p1 p2 hB1 hB2; have HB2 := LH hB2; clear hB1 hB2; go_wp2_with fail; refine (sameStep_any A L A' L' va va' vn vc vn' vc' D D' _ HQ.out HP.out).mono ?_; rintro e W2 ⟨rfl, hb2⟩; have HB3 := LH (bTh HB2.out hb2); clear hb2 HB2 HQ HP; by_cases he : (⟨A, L, D⟩ : OpR) = ⟨A', L', D'⟩
      · rw [decide_eq_true he]
        have HE := LH he; clear he; go_wp2_with fail; go_roundw
        case rel => exact ⟨k + 1, by go_num, by rw [HLX.out]; omega, HM.out HE.out, HB3.out⟩
        case measure => simp [intOf]; omega
      · rw [decide_eq_false he]
        have HE := LH he; clear he; go_wp2_with fail; go_ret; exact ⟨zaB (HN.out HE.out).symm, HB3.out⟩
    · have hkn : k = n := by omega
      go_wp2_with fail; go_ret; have e1 : x.take k = x := List.take_of_length_le (by rw [HLX.out]; omega); have e2 : y.take k = y := List.take_of_length_le (by rw [HLY.out]; omega); have e3 := HT.out; rw [e1, e2] at e3; exact ⟨zaB (by rw [e3]; simp), hB⟩
 · have he : decide (x = y) = false := by
    rw [decide_eq_false]; rintro rfl; exact hnn (HLX.out.symm.trans HLY.out)
   have hb : ((n : Int) != n') = true := by simp; omega
   rw [he]; go_enter Tryz.func179, Tryz.ntmps179; go_wp2_with fail; go_ret; exact ⟨rfl, Below.refl _ _⟩
theorem same_any (a a' : Option Addr) (n c n' c' : Nat) (x y : List OpR) (w : World) (hx : OS w a n c x) (hy : OS w a' n' c' y) :
 Calls Tryz.prog 132 #[.slice a n c, .slice a' n' c'] w fun e w' => e = .returned (.bool (decide (x = y))) ∧ Below w.heap.size w w' := by
 go_enter Tryz.func132, Tryz.ntmps132; go_wp2_with fail; refine (equalSteps_any a a' n c n' c' x y _ hx hy).mono ?_; rintro e w' ⟨rfl, hb⟩; go_wp2_with fail; go_ret; exact ⟨rfl, hb⟩
theorem ret_decP {a b : PatR} (h : a ≠ b) : Ending.returned (.bool false) = .returned (.bool (decide (a = b))) := by rw [decide_eq_false h]
theorem sameP_any (v v' : Value) (p q : PatR) (w : World) (hp : PV w v p) (hq : PV w v' q) :
 Calls Tryz.prog 71 #[v, v'] w fun e w' => e = .returned (.bool (decide (p = q))) ∧ Below w.heap.size w w' := by
 obtain ⟨a, n, c, rfl, ho, -⟩ := hp; obtain ⟨a', n', c', rfl, ho', -⟩ := hq; obtain ⟨f, t, o, nw, s, ops⟩ := p; obtain ⟨f', t', o', nw', s', ops'⟩ := q; simp only at ho ho' ⊢; have hb1 : Below w.heap.size w (w.alloc (.cells #[.int .i64 f, .int .i64 t, .int .i64 o, .int .i64 nw, .int .i64 s, .slice a n c] 35)) := (Below.refl _ _).alloc (Nat.le_refl _) _; have hb := hb1.alloc hb1.size (.cells #[.int .i64 f', .int .i64 t', .int .i64 o', .int .i64 nw', .int .i64 s', .slice a' n' c'] 35); have HO := LH (ho.later hb); have HO' := LH (ho'.later hb); clear ho ho' hb1; by_cases h1 : f = f'
 · subst h1
   have b1 : (f == f) = true := by simp
   by_cases h2 : t = t'
   · subst h2
     have b2 : (t == t) = true := by simp
     by_cases h3 : o = o'
     · subst h3
       have b3 : (o == o) = true := by simp
       by_cases h4 : nw = nw'
       · subst h4
         have b4 : (nw == nw) = true := by simp
         by_cases h5 : s = s'
         · subst h5
           have b5 : (s == s) = true := by simp
           have HB := LH hb; clear hb; rw [show decide ((⟨f, t, o, nw, s, ops⟩ : PatR) = ⟨f, t, o, nw, s, ops'⟩) = decide (ops = ops') by simp]; go_enter Tryz.func71, Tryz.ntmps71; go_wp2_with fail; refine (same_any a a' n c n' c' ops ops' _ HO.out HO'.out).mono ?_; rintro e w' ⟨rfl, hb2⟩; have hb3 := bTh HB.out hb2; go_wp2_with fail; go_ret; exact ⟨by simp, hb3⟩
         · have b5 : (s == s') = false := by simp [h5]
           go_enter Tryz.func71, Tryz.ntmps71; go_wp2_with fail; go_ret; exact ⟨ret_decP (by simp [h5]), hb⟩
       · have b4 : (nw == nw') = false := by simp [h4]
         go_enter Tryz.func71, Tryz.ntmps71; go_wp2_with fail; go_ret; exact ⟨ret_decP (by simp [h4]), hb⟩
     · have b3 : (o == o') = false := by simp [h3]
       go_enter Tryz.func71, Tryz.ntmps71; go_wp2_with fail; go_ret; exact ⟨ret_decP (by simp [h3]), hb⟩
   · have b2 : (t == t') = false := by simp [h2]
     go_enter Tryz.func71, Tryz.ntmps71; go_wp2_with fail; go_ret; exact ⟨ret_decP (by simp [h2]), hb⟩
 · have b1 : (f == f') = false := by simp [h1]
   go_enter Tryz.func71, Tryz.ntmps71; go_wp2_with fail; go_ret; exact ⟨ret_decP (by simp [h1]), hb⟩
end Go.Proofs.YtnnmpoknghbdnacGreat
