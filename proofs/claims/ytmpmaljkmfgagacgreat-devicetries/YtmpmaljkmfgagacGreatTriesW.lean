/-
  Texts put into one: TriesW.
-/
import Derived.Test.YtmpmaljkmfgagacGreatDiffedToLawG
import Derived.Test.YtmpmaljkmfgagacGreatRecStartToImage
import Derived.Test.YtmpmaljkmfgagacGreatDvSame1ToDvHear
import Derived.Test.YtmpmaljkmfgagacGreatNewRToStep
import Derived.Deep.DeepCutAuto
import Derived.Deep.LoopGhost
set_option maxRecDepth 100000
set_option maxHeartbeats 4000000
namespace Go.Proofs.YtmpmaljkmfgagacGreat
open Go.RowKit
def TR1 (w : World) (P : Nat) (la : Option Addr) (ln lc : Nat) (cs : List ChR) (X : List Int) (i : Value) (W : World) : Prop := ∃ (k : Nat) (d : DevR), i = .int .i64 k ∧ k ≤ 2 ∧ TSt w P la ln lc cs d W ∧ DevM.Rest X (1 + 6 * (k : Int)) d
def TR2 (w : World) (P : Nat) (la : Option Addr) (ln lc : Nat) (cs : List ChR) (X o : List Int) (g : Int) (i : Value) (W : World) : Prop := ∃ (j : Nat) (d : DevR), i = .int .i64 j ∧ j ≤ ln ∧ TSt w P la ln lc cs d W ∧ DevM.Hears X 2 o g j d
def TR3 (w : World) (P : Nat) (la : Option Addr) (ln lc : Nat) (cs : List ChR) (X Y : List Int) (p : PatR) (g : Int) (gk : Nat) (e : Value) (W : World) : Prop := ∃ (m : Nat) (d : DevR), TSt w P la ln lc cs d W ∧ DevM.Writes X p g m d ∧ ((e = .int .i64 0 ∧ gk + m = 10 ∧ m ≤ 9) ∨ (e = .int .i64 5 ∧ gk = 0 ∧ Y.length ≤ 8 * m))
def TR4 (w : World) (P : Nat) (la : Option Addr) (ln lc : Nat) (cs : List ChR) (X : List Int) (g : Int) (i : Value) (W : World) : Prop := ∃ (k : Nat) (d : DevR), i = .int .i64 k ∧ TSt w P la ln lc cs d W ∧ ((k ≤ 3 ∧ DevM.Tried X (g + k) k d) ∨ (k = 4 ∧ DevM.Rest X (g + 4) d))
theorem tries_walk (a0 : Option Addr) (n0 c0 : Nat) (l0 : List Int) (a1 : Option Addr) (n1 c1 : Nat) (l1 : List Int) (w : World) (w0 : BS w a0 n0 c0 l0) (w1 : BS w a1 n1 c1 l1) (hM : MaxCell w) : Calls Tryz.prog 6 #[.slice a0 n0 c0, .slice a1 n1 c1] w fun e w' => e = .returned (.bool true) ∧ Below w.heap.size w w' := by
 have HIn := LH (fun W hm => installed_any W hm)
 have HMx := LH hM
 clear hM
 obtain ⟨N0, hN0⟩ : ∃ N, min n0 64 = N := ⟨_, rfl⟩
 obtain ⟨N1, hN1⟩ : ∃ N, min n1 64 = N := ⟨_, rfl⟩
 obtain ⟨X, hX⟩ : ∃ X, l0.take N0 = X := ⟨_, rfl⟩
 obtain ⟨Y, hY⟩ : ∃ Y, l1.take N1 = Y := ⟨_, rfl⟩
 have HIm0 : Hid (∀ W, BS W a0 n0 c0 l0 → Calls Tryz.prog 23 #[.slice a0 n0 c0] W fun e w' => e = .returned (.slice a0 N0 c0) ∧ Below W.heap.size W w') := fun W h => (image_any a0 n0 c0 l0 W h).mono fun _ _ ⟨h1, h2⟩ => ⟨by rw [← hN0]; exact h1, h2 ▸ Below.refl _ _⟩
 have HIm1 : Hid (∀ W, BS W a1 n1 c1 l1 → Calls Tryz.prog 23 #[.slice a1 n1 c1] W fun e w' => e = .returned (.slice a1 N1 c1) ∧ Below W.heap.size W w') := fun W h => (image_any a1 n1 c1 l1 W h).mono fun _ _ ⟨h1, h2⟩ => ⟨by rw [← hN1]; exact h1, h2 ▸ Below.refl _ _⟩
 have HB0 := LH (w0.head N0 (by omega))
 have HB1 := LH (w1.head N1 (by omega))
 have HA0 := LH w0
 have HA1 := LH w1
 rw [hX] at HB0
 rw [hY] at HB1
 have h64 : N0 ≤ 64 ∧ N1 ≤ 64 := by omega
 clear w0 w1 hN0 hN1 hX hY
 have hXl := HB0.out.len
 have hYl := HB1.out.len
 obtain ⟨D0, hD0, hR0⟩ := DevM.rest_new (old := X) (by omega)
 obtain ⟨p, hpm, hst, hcut⟩ := DevM.sent_is (old := X) (b := Y) (by omega) (by omega) (show (1 : Int) ≤ 2 ∧ (2 : Int) ≤ 30 by omega)
 have HNw : Hid (∀ W, BS W a0 N0 c0 X → Calls Tryz.prog 7 #[.slice a0 N0 c0] W (GDv (D0, 0) W)) := fun W hb => by
   have := newD_any a0 N0 c0 X W hb
   rwa [hD0] at this
 have HMk : Hid (∀ W, BS W a0 N0 c0 X → BS W a1 N1 c1 Y → Calls Tryz.prog 24 #[.int .i64 1, .int .i64 2, .slice a0 N0 c0, .slice a1 N1 c1] W (GivesPt p W)) := fun W k0 k1 => makeT_any 2 a0 a1 N0 c0 N1 c1 X Y p W k0 k1 h64.1 h64.2 (by unfold I64; omega) hpm
 generalize PackM.packL (PatM.putL p) = o at hst hcut
 have HCt : Hid (∀ ap np cp W, OS W ap np cp p.ops → Calls Tryz.prog 25 #[.agg (jbC ap np cp p)] W fun e w' => ∃ a c, e = .returned (.tuple #[.slice a (ChunkM.parts o) c, .int .i64 0]) ∧ Below W.heap.size W w' ∧ NewR W.heap.size w' (fun V => CS V a (ChunkM.parts o) c (ChunkM.cutL 1 2 o))) := fun ap np cp W ho => cutT_any ap np cp p 2 o W ho hst.ok hcut
 have HSt := LH hst
 have HR0 := LH hR0
 have HX64 : Hid (X.length ≤ 64) := by show X.length ≤ 64; omega
 have HY64 : Hid (Y.length ≤ 64) := by show Y.length ≤ 64; omega
 have HXl := LH hXl
 have hpt := hst.parts
 have hsz0 : N0 ≤ 64 := h64.1
 clear hst hcut hpm hD0 hR0 hXl hYl h64
 obtain ⟨ln, hln⟩ : ∃ ln, ChunkM.parts o = ln := ⟨_, rfl⟩
 have HLn := LH hln
 rw [hln] at HCt hpt
 have HCSl := LH (fun (j : Nat) (hj : j < ln) => ChunkM.cutL_get 1 2 o (k := j) (by rw [hln]; exact hj))
 generalize ChunkM.cutL 1 2 o = cs at HCt HCSl
 clear hln
 have HS := LH (MH.of (MS.start w))
 go_enter Tryz.func6, Tryz.ntmps6
 go_wp2_with fail
 refine (HIm0.out _ HA0.out).mono ?_
 rintro e W1 ⟨rfl, hb⟩
 replace HS := LH (HS.out.later hb)
 clear hb
 go_wp2_with fail
 refine (HIm1.out _ (HA1.out.later HS.out.below)).mono ?_
 rintro e W2 ⟨rfl, hb⟩
 replace HS := LH (HS.out.later hb)
 clear hb HIm0 HIm1
 go_wp2_with fail
 refine (HNw.out _ (HB0.out.later HS.out.below)).mono ?_
 rintro e W3 ⟨h0, rfl, hb, hn⟩
 replace HS := LH (HS.out.gain hb hn)
 clear hb hn HNw
 unfold devV
 try simp only
 obtain ⟨P5, hP5⟩ : ∃ P, W3.heap.size = P := ⟨_, rfl⟩
 replace HS := LH (HS.out.alloc hP5 (dvC h0 D0) 37)
 go_upto_region 3 with ((with_reducible show wpList _ _ _ _ _ _); refine wSN rfl 37 (.tmp 5) (.tmp 25) rfl P5 (dvC h0 D0) rfl rfl 37 _ ?_ ?_ ?_ ?_ ?_; exact hP5.symm; exact (sDv h0 D0); exact (like_zdev _ _); exact (oDv h0 D0))
 refine gnH HS.out (fun V1 HS1 => ?_)
 replace HS := LH HS1
 clear HS1 hP5
 go_wp2_with fail
 refine (HMk.out _ (HB0.out.later HS.out.below) (HB1.out.later HS.out.below)).mono ?_
 rintro e W4 ⟨ap, np, cp, rfl, hb, hn⟩
 replace HS := LH (HS.out.gain hb hn)
 clear hb hn HMk
 obtain ⟨P7, hP7⟩ : ∃ P, W4.heap.size = P := ⟨_, rfl⟩
 replace HS := LH (HS.out.alloc hP7 (jbC ap np cp p) 35)
 go_upto_region 4 with ((with_reducible show wpList _ _ _ _ _ _); refine wSN rfl 35 (.tmp 7) (.tmp 31) rfl P7 (jbC ap np cp p) rfl rfl 35 _ ?_ ?_ ?_ ?_ ?_; exact hP7.symm; exact (sJb ap np cp p); exact rfl; exact (one_job ap np cp p))
 refine gnH HS.out (fun V2 HS1 => ?_)
 replace HS := LH HS1
 clear HS1 hP7
 have bP7 := HS.out.get 0 rfl
 simp only at bP7
 go_wp2_with (first
   | ((with_reducible show wpList _ _ _ _ _ _); refine LR rfl (t := 35) Tryz.underlying35 rfl (.tmp 7) rfl P7 rfl bP7 (sJb ap np cp p) ?_))
 clear bP7
 refine (HCt.out ap np cp _ (HS.out.fact 0 rfl)).mono ?_
 rintro e W5 ⟨la, lc, rfl, hb, hn⟩
 replace HS := LH (HS.out.gain hb hn)
 clear hb hn HCt
 go_wp2_with fail
 refine (HIn.out _ (HMx.out.later HS.out.below)).mono ?_
 rintro e W6 ⟨rfl, hb⟩
 replace HS := LH (HS.out.later hb)
 clear hb HIn HMx
 have HT : Hid (TSt w P5 la ln lc cs D0 W6) := ⟨h0, _, _, _, _, (HS.out.subL (L' := [(P5, dvC h0 D0, 37)]) (by repeat (first | exact List.Sublist.refl _ | apply List.Sublist.cons_cons | apply List.Sublist.cons))).sub (fun q hq => by
   rcases List.mem_cons.1 hq with rfl | hq
   · exact List.mem_cons_of_mem _ (List.mem_cons_of_mem _ List.mem_cons_self)
   · rw [List.mem_singleton] at hq
     subst hq
     exact List.mem_cons_self)⟩
 clear HS
 go_wp2_with fail
 go_loopw [52] (fun i wr => TR1 w P5 la ln lc cs X i wr) (fun i _ => 2 - (intOf i).toNat)
 case atStart => exact ⟨0, D0, rfl, by omega, HT.out, HR0.out⟩
 case round =>
   obtain ⟨k, d, rfl, hk, hts, hrs⟩ := hrel
   clear HT HR0
   obtain ⟨h, lo, hi, lo', hi', hms⟩ := hts
   have HS := LH hms
   clear hms
   have HRs := LH hrs
   clear hrs
   have hk0 : (0 : Int) ≤ (k : Int) := by omega
   by_cases hlt : k < 2
   · have hkI : (k : Int) < 2 := by omega
     have HGb : Hid (1 + 6 * (k : Int) + 20 < 1000000) := by show _ < _; omega
     obtain ⟨G, hG⟩ : ∃ G, 1 + 6 * (k : Int) = G := ⟨_, rfl⟩
     have HG := LH hG
     rw [hG] at HRs HGb
     clear hG
     have HT : Hid (TSt w P5 la ln lc cs d wr) := ⟨h, lo, hi, lo', hi', HS.out⟩
     clear HS
     go_wp2_with fail
     go_loopw [56] (fun i wr => TR2 w P5 la ln lc cs X o G i wr) (fun i _ => ln - (intOf i).toNat)
     case atStart => exact ⟨0, d, rfl, Nat.zero_le _, HT.out, HRs.out.hears⟩
     case round =>
       obtain ⟨j, d, rfl, hj, hts, hhr⟩ := hrel
       clear HT HRs
       obtain ⟨h, lo, hi, lo', hi', hms⟩ := hts
       have HS := LH hms
       have HHr := LH hhr
       clear hms hhr
       have hj0 : (0 : Int) ≤ (j : Int) := by omega
       by_cases hjl : j < ln
       · obtain ⟨x, hx, hx2⟩ := HHr.out.next HSt.out (k := j) (by rw [HLn.out]; exact hjl)
         have hjI : (j : Int) < (ln : Int) := by omega
         obtain ⟨b, off, hla, hcs⟩ := (HS.out.fact 1 rfl).cells (by omega)
         subst hla
         have hqk := hcs j hjl
         rw [HCSl.out j hjl] at hqk
         generalize ChunkM.nth 1 2 o j = c at hx hqk
         obtain ⟨va, vm, vc, q0, q1, q2, q3, q4, q5, qI⟩ := hqk
         have HHe : Hid (∀ h W, DH W h d → BS W va vm vc c.data → Calls Tryz.prog 15 #[.agg (dvC h d), .agg #[.int .i64 c.fr, .int .i64 c.to_, .int .i64 c.n, .int .i64 c.of_, .slice va vm vc]] W (GDv (x, 0) W)) := fun h W hd hb => by
           have := hearD_any h d c va vm vc W hd ⟨va, vm, vc, rfl, hb, qI⟩
           rw [hx] at this
           exact this
         have HX2 := LH hx2
         have HQ5 := LH q5
         clear hx hx2 hcs q5 qI
         obtain ⟨P12, hP12⟩ : ∃ P, wr.heap.size = P := ⟨_, rfl⟩
         replace HS := LH (HS.out.alloc hP12 #[.int .i64 c.fr, .int .i64 c.to_, .int .i64 c.n, .int .i64 c.of_, .slice va vm vc] 39)
         have HQ6 := LH (HQ5.out.later ((Below.refl wr.heap.size wr).alloc (Nat.le_refl _) (.cells #[.int .i64 c.fr, .int .i64 c.to_, .int .i64 c.n, .int .i64 c.of_, .slice va vm vc] 39)))
         clear HQ5
         go_upto_region 12 with fail
         refine gnX (fun V => MH w [(P12, #[.int .i64 c.fr, .int .i64 c.to_, .int .i64 c.n, .int .i64 c.of_, .slice va vm vc], 39), (P5, dvC h d, 37)] [(lo, hi, fun V => DH V h d), (lo', hi', fun V => CS V (some ⟨b, off, none⟩) ln lc cs)] V ∧ BS V va vm vc c.data) ⟨HS.out, HQ6.out⟩ (fun V11 HX1 => ?_)
         clear q0 q1 q2 q3 q4 HQ6 HS
         obtain ⟨HS1, q5⟩ := HX1
         have HS := LH HS1
         have HQ5 := LH q5
         clear HS1 q5 hP12
         have cP12_0 := cAt (k := 0) (v := .int .i64 c.fr) (HS.out.get 0 rfl) rfl
         simp only at cP12_0
         have cP12_1 := cAt (k := 1) (v := .int .i64 c.to_) (HS.out.get 0 rfl) rfl
         simp only at cP12_1
         have cP12_2 := cAt (k := 2) (v := .int .i64 c.n) (HS.out.get 0 rfl) rfl
         simp only at cP12_2
         have cP12_3 := cAt (k := 3) (v := .int .i64 c.of_) (HS.out.get 0 rfl) rfl
         simp only at cP12_3
         have cP12_4 := cAt (k := 4) (v := .slice va vm vc) (HS.out.get 0 rfl) rfl
         simp only at cP12_4
         have bP5 := HS.out.get 1 rfl
         simp only at bP5
         go_wp2_with (first
           | ((with_reducible show wpList _ _ _ _ _ _); refine LR rfl (t := 37) Tryz.underlying37 rfl (.tmp 5) rfl P5 rfl bP5 (sDv h d) ?_))
         clear cP12_0 cP12_1 cP12_2 cP12_3 cP12_4 bP5
         refine (HHe.out _ _ (HS.out.fact 0 rfl) HQ5.out).mono ?_
         rintro e X12 ⟨h12, rfl, hb, hn⟩
         unfold devV
         try simp only
         replace HS := LH (HS.out.gain hb hn)
         clear hb hn
         have HS2 := LH (HS.out.set 1 rfl (dvC h12 x)).drop1
         have bP5 := HS.out.get 1 rfl
         simp only at bP5
         go_upto_region 13 with (first
           | ((with_reducible show wpList _ _ _ _ _ _); refine wpList_store_row rfl 37 (.tmp 5) (.tmp 64) rfl P5 (dvC h12 x) rfl rfl 37 (dvC h d) ?_ ?_ ?_ ?_ ?_; exact bP5; exact (sDv _ _); exact (lDv h h12 d x); exact (oDv _ _)))
         clear bP5
         refine gnH HS2.out (fun V12 HS1 => ?_)
         replace HS := LH HS1
         clear HS1 HS2
         go_wp2_with fail
         go_roundw
         case rel => exact ⟨j + 1, x, by go_num, by omega, ⟨_, _, _, _, _, HS.out.subL (by repeat (first | exact List.Sublist.refl _ | apply List.Sublist.cons_cons | apply List.Sublist.cons))⟩, HX2.out⟩
         case measure => simp [intOf]; omega
       · have hjn : j = ln := by omega
         subst hjn
         have hhr := HHr.out
         rw [← HLn.out] at hhr
         obtain ⟨x, hx, hx2⟩ := hhr.opens HSt.out (by have := HGb.out; omega)
         have HX2 := LH hx2
         clear hhr hx2
         have HOp : Hid (∀ h W, DH W h d → Calls Tryz.prog 16 #[.agg (dvC h d)] W (GDv (x, 0) W)) := fun h W hd => by
           have := openD_any h d W hd
           rw [hx] at this
           exact this
         clear hx
         have bP5 := HS.out.get 0 rfl
         simp only at bP5
         go_wp2_with (first
           | ((with_reducible show wpList _ _ _ _ _ _); refine LR rfl (t := 37) Tryz.underlying37 rfl (.tmp 5) rfl P5 rfl bP5 (sDv h d) ?_))
         clear bP5
         refine (HOp.out _ _ (HS.out.fact 0 rfl)).mono ?_
         rintro e X16 ⟨h16, rfl, hb, hn⟩
         unfold devV
         try simp only
         replace HS := LH (HS.out.gain hb hn)
         clear hb hn
         have HS2 := LH (HS.out.set 0 rfl (dvC h16 x)).drop1
         have bP5 := HS.out.get 0 rfl
         simp only at bP5
         go_upto_region 17 with (first
           | ((with_reducible show wpList _ _ _ _ _ _); refine wpList_store_row rfl 37 (.tmp 5) (.tmp 72) rfl P5 (dvC h16 x) rfl rfl 37 (dvC h d) ?_ ?_ ?_ ?_ ?_; exact bP5; exact (sDv _ _); exact (lDv h h16 d x); exact (oDv _ _)))
         clear bP5
         refine gnH HS2.out (fun V16 HS1 => ?_)
         replace HS := LH HS1
         clear HS1 HS2
         have HT : Hid (TSt w P5 la j lc cs x V16) := ⟨_, _, _, _, _, HS.out⟩
         clear HS HHr HOp hjl
         go_wp2_with fail
         go_loopg [6] 10 (fun gk s6 wr => TR3 w P5 la j lc cs X Y p (G + 1) gk s6 wr)
         case atStart => exact ⟨0, x, HT.out, HX2.out, .inl ⟨rfl, by omega, by omega⟩⟩
         case round =>
           obtain ⟨m, d, hts, hwr, hcase⟩ := hrel
           clear HT HX2
           obtain ⟨h, lo, hi, lo', hi', hms⟩ := hts
           have HS := LH hms
           have HWr := LH hwr
           clear hms hwr
           rcases hcase with ⟨rfl, hgk, hm9⟩ | ⟨rfl, hgk, hge⟩
           · by_cases hml : 8 * m < Y.length
             · obtain ⟨x, hx, hx2⟩ := HWr.out.next HSt.out hml 0
               have HX2 := LH hx2
               clear hx2
               have hm8 : m < 8 := by have := HY64.out; omega
               have HWt : Hid (∀ h W, DH W h d → Calls Tryz.prog 17 #[.agg (dvC h d), .bool false, .int .i64 0] W (GDv (x, 0) W)) := fun h W hd => by
                 have := writeD_any h d false 0 W hd
                 rw [hx] at this
                 exact this
               clear hx
               have bP5 := HS.out.get 0 rfl
               simp only at bP5
               go_wp2_with (first
                 | ((with_reducible show wpList _ _ _ _ _ _); refine LR rfl (t := 37) Tryz.underlying37 rfl (.tmp 5) rfl P5 rfl bP5 (sDv h d) ?_))
               clear bP5
               refine (HWt.out _ _ (HS.out.fact 0 rfl)).mono ?_
               rintro e X20 ⟨h20, rfl, hb, hn⟩
               unfold devV
               try simp only
               replace HS := LH (HS.out.gain hb hn)
               clear hb hn HWt
               obtain ⟨P13, hP13⟩ : ∃ P, X20.heap.size = P := ⟨_, rfl⟩
               replace HS := LH (HS.out.alloc hP13 (dvC h20 x) 37)
               go_upto_region 21 with ((with_reducible show wpList _ _ _ _ _ _); refine wSN rfl 37 (.tmp 13) (.tmp 81) rfl P13 (dvC h20 x) rfl rfl 37 _ ?_ ?_ ?_ ?_ ?_; exact hP13.symm; exact (sDv h20 x); exact (like_zdev _ _); exact (oDv h20 x))
               refine gnH HS.out (fun V20 HS1 => ?_)
               replace HS := LH HS1
               clear HS1 hP13
               have bP13 := HS.out.get 0 rfl
               simp only at bP13
               have bP5 := HS.out.get 1 rfl
               simp only at bP5
               have HS2 := LH ((HS.out.set 1 rfl (dvC h20 x)).drop1.subL (L' := [(P5, dvC h20 x, 37)]) (by repeat (first | exact List.Sublist.refl _ | apply List.Sublist.cons_cons | apply List.Sublist.cons)))
               go_wp2_with (first
                 | ((with_reducible show wpList _ _ _ _ _ _); refine LR rfl (t := 37) Tryz.underlying37 rfl (.tmp 13) rfl P13 rfl bP13 (sDv h20 x) ?_)
                 | ((with_reducible show wpList _ _ _ _ _ _); refine wpList_store_row rfl 37 (.tmp 5) (.tmp 86) rfl P5 (dvC h20 x) rfl rfl 37 (dvC h d) ?_ ?_ ?_ ?_ ?_; exact bP5; exact (sDv h20 x); exact (lDv h h20 d x); exact (oDv h20 x)))
               clear bP13 bP5
               go_roundg (gk - 1)
               case measure => omega
               case rel => exact ⟨m + 1, x, ⟨_, _, _, _, _, HS2.out⟩, HX2.out, .inl ⟨rfl, by omega, by omega⟩⟩
             · have hx := HWr.out.late HSt.out (by omega) false 0
               have HWt : Hid (∀ h W, DH W h d → Calls Tryz.prog 17 #[.agg (dvC h d), .bool false, .int .i64 0] W (GDv (DevM.noDev, 5) W)) := fun h W hd => by
                 have := writeD_any h d false 0 W hd
                 rw [hx] at this
                 exact this
               clear hx
               have bP5 := HS.out.get 0 rfl
               simp only at bP5
               go_wp2_with (first
                 | ((with_reducible show wpList _ _ _ _ _ _); refine LR rfl (t := 37) Tryz.underlying37 rfl (.tmp 5) rfl P5 rfl bP5 (sDv h d) ?_))
               clear bP5
               refine (HWt.out _ _ (HS.out.fact 0 rfl)).mono ?_
               rintro e X20 ⟨h20, rfl, hb, hn⟩
               unfold devV
               try simp only
               replace HS := LH (HS.out.gain hb hn)
               clear hb hn HWt
               obtain ⟨P13, hP13⟩ : ∃ P, X20.heap.size = P := ⟨_, rfl⟩
               replace HS := LH (HS.out.alloc hP13 (dvC h20 DevM.noDev) 37)
               go_upto_region 21 with ((with_reducible show wpList _ _ _ _ _ _); refine wSN rfl 37 (.tmp 13) (.tmp 81) rfl P13 (dvC h20 DevM.noDev) rfl rfl 37 _ ?_ ?_ ?_ ?_ ?_; exact hP13.symm; exact (sDv h20 DevM.noDev); exact (like_zdev _ _); exact (oDv h20 DevM.noDev))
               refine gnH HS.out (fun V20 HS1 => ?_)
               replace HS := LH HS1
               clear HS1 hP13
               have HS2 := LH (HS.out.drop1' (L' := [(P5, dvC h d, 37)]) (by repeat (first | exact List.Sublist.refl _ | apply List.Sublist.cons_cons | apply List.Sublist.cons)))
               go_wp2_with fail
               go_roundg 0
               case measure => omega
               case rel => exact ⟨m, d, ⟨_, _, _, _, _, HS2.out⟩, HWr.out, .inr ⟨rfl, rfl, by omega⟩⟩
           · obtain ⟨x, hx, hx2, -⟩ := HWr.out.fin HSt.out hge (by have := HGb.out; omega)
             have HX2 := LH hx2
             clear hx2
             have HFi : Hid (∀ h W, DH W h d → Calls Tryz.prog 18 #[.agg (dvC h d), .bool false] W (GDv (x, 0) W)) := fun h W hd => by
               have := finishD_any h d false W hd
               rw [hx] at this
               exact this
             clear hx
             have bP5 := HS.out.get 0 rfl
             simp only at bP5
             go_wp2_with (first
               | ((with_reducible show wpList _ _ _ _ _ _); refine LR rfl (t := 37) Tryz.underlying37 rfl (.tmp 5) rfl P5 rfl bP5 (sDv h d) ?_))
             clear bP5
             refine (HFi.out _ _ (HS.out.fact 0 rfl)).mono ?_
             rintro e X24 ⟨h24, rfl, hb, hn⟩
             unfold devV
             try simp only
             replace HS := LH (HS.out.gain hb hn)
             clear hb hn
             have HS2 := LH (HS.out.set 0 rfl (dvC h24 x)).drop1
             have bP5 := HS.out.get 0 rfl
             simp only at bP5
             go_upto_region 25 with (first
               | ((with_reducible show wpList _ _ _ _ _ _); refine wpList_store_row rfl 37 (.tmp 5) (.tmp 90) rfl P5 (dvC h24 x) rfl rfl 37 (dvC h d) ?_ ?_ ?_ ?_ ?_; exact bP5; exact (sDv _ _); exact (lDv h h24 d x); exact (oDv _ _)))
             clear bP5
             refine gnH HS2.out (fun V24 HS1 => ?_)
             replace HS := LH HS1
             clear HS1 HS2
             have HT : Hid (TSt w P5 la j lc cs x V24) := ⟨_, _, _, _, _, HS.out⟩
             clear HS HWr HFi hge hgk
             go_wp2_with fail
             go_loopw [94] (fun i wr => TR4 w P5 la j lc cs X (G + 1 + 1) i wr) (fun i _ => 4 - (intOf i).toNat)
             case atStart => exact ⟨0, x, rfl, HT.out, .inl ⟨by omega, by simpa using HX2.out⟩⟩
             case round =>
               obtain ⟨i, d, rfl, hts, hcase⟩ := hrel
               clear HT HX2
               obtain ⟨h, lo, hi, lo', hi', hms⟩ := hts
               have HS := LH hms
               clear hms
               have hi0 : (0 : Int) ≤ (i : Int) := by omega
               rcases hcase with ⟨hi3, htr⟩ | ⟨rfl, hrs⟩
               · have hi4 : (i : Int) < 4 := by omega
                 obtain ⟨hx, hx2⟩ := htr.crash
                 have HCr : Hid (∀ h W, DH W h d → Calls Tryz.prog 20 #[.agg (dvC h d)] W (GDv (DevM.off d, 0) W)) := fun h W hd => by
                   have := crashD_any h d W hd
                   rw [hx] at this
                   exact this
                 have HFe := LH hx2
                 clear hx hx2 htr
                 have bP5 := HS.out.get 0 rfl
                 simp only at bP5
                 go_wp2_with (first
                   | ((with_reducible show wpList _ _ _ _ _ _); refine LR rfl (t := 37) Tryz.underlying37 rfl (.tmp 5) rfl P5 rfl bP5 (sDv h d) ?_))
                 clear bP5
                 refine (HCr.out _ _ (HS.out.fact 0 rfl)).mono ?_
                 rintro e X30 ⟨h30, rfl, hb, hn⟩
                 unfold devV
                 try simp only
                 replace HS := LH (HS.out.gain hb hn)
                 clear hb hn
                 have HS2 := LH (HS.out.set 0 rfl (dvC h30 (DevM.off d))).drop1
                 have bP5 := HS.out.get 0 rfl
                 simp only at bP5
                 go_upto_region 31 with (first
                   | ((with_reducible show wpList _ _ _ _ _ _); refine wpList_store_row rfl 37 (.tmp 5) (.tmp 100) rfl P5 (dvC h30 (DevM.off d)) rfl rfl 37 (dvC h d) ?_ ?_ ?_ ?_ ?_; exact bP5; exact (sDv _ _); exact (lDv h h30 d (DevM.off d)); exact (oDv _ _)))
                 clear bP5
                 refine gnH HS2.out (fun V30 HS1 => ?_)
                 replace HS := LH HS1
                 clear HS1 HS2
                 clear HCr
                 obtain ⟨df, hdf⟩ : ∃ df, DevM.off d = df := ⟨_, rfl⟩
                 rw [hdf] at HS HFe
                 clear hdf
                 by_cases hi2 : i < 3
                 · obtain ⟨x, hx, hx2, hrun⟩ := HFe.out.boot hi2 (by have := HGb.out; omega)
                   have hi3I : decide ((i : Int) < 3) = true := by simp; omega
                   have HX2 := LH hx2
                   clear hx2
                   have HBo : Hid (∀ h W, DH W h df → Calls Tryz.prog 21 #[.agg (dvC h df)] W (GDv (x, 0) W)) := fun h W hd => by
                     have := bootD_any h df W hd
                     rw [hx] at this
                     exact this
                   clear hx
                   have bP5 := HS.out.get 0 rfl
                   simp only at bP5
                   go_wp2_with (first
                     | ((with_reducible show wpList _ _ _ _ _ _); refine LR rfl (t := 37) Tryz.underlying37 rfl (.tmp 5) rfl P5 rfl bP5 (sDv h30 df) ?_))
                   clear bP5
                   refine (HBo.out _ _ (HS.out.fact 0 rfl)).mono ?_
                   rintro e X33 ⟨h33, rfl, hb, hn⟩
                   unfold devV
                   try simp only
                   replace HS := LH (HS.out.gain hb hn)
                   clear hb hn
                   have HS2 := LH (HS.out.set 0 rfl (dvC h33 x)).drop1
                   have bP5 := HS.out.get 0 rfl
                   simp only at bP5
                   go_upto_region 34 with (first
                     | ((with_reducible show wpList _ _ _ _ _ _); refine wpList_store_row rfl 37 (.tmp 5) (.tmp 107) rfl P5 (dvC h33 x) rfl rfl 37 (dvC h30 df) ?_ ?_ ?_ ?_ ?_; exact bP5; exact (sDv _ _); exact (lDv h30 h33 df x); exact (oDv _ _)))
                   clear bP5
                   refine gnH HS2.out (fun V33 HS1 => ?_)
                   replace HS := LH HS1
                   clear HS1 HS2
                   have c27 := cAt (k := 27) (v := .int .i64 x.run) (HS.out.get 0 rfl) rfl
                   try simp only at c27
                   rw [hrun] at c27
                   clear hrun HBo
                   go_wp2_with fail
                   go_roundw
                   case rel => exact ⟨i + 1, x, by go_num, ⟨_, _, _, _, _, HS.out⟩, .inl ⟨by omega, by have := HX2.out; rw [show G + 1 + 1 + ((i + 1 : Nat) : Int) = G + 1 + 1 + (i : Int) + 1 by omega]; exact this⟩⟩
                   case measure => simp [intOf]; omega
                 · have hi3e : i = 3 := by omega
                   subst hi3e
                   obtain ⟨x, hx, hx2, hrun⟩ := HFe.out.boot3 (by have := HGb.out; omega)
                   have HX2 := LH hx2
                   clear hx2
                   have HBo : Hid (∀ h W, DH W h df → Calls Tryz.prog 21 #[.agg (dvC h df)] W (GDv (x, 0) W)) := fun h W hd => by
                     have := bootD_any h df W hd
                     rw [hx] at this
                     exact this
                   clear hx
                   have bP5 := HS.out.get 0 rfl
                   simp only at bP5
                   go_wp2_with (first
                     | ((with_reducible show wpList _ _ _ _ _ _); refine LR rfl (t := 37) Tryz.underlying37 rfl (.tmp 5) rfl P5 rfl bP5 (sDv h30 df) ?_))
                   clear bP5
                   refine (HBo.out _ _ (HS.out.fact 0 rfl)).mono ?_
                   rintro e X33 ⟨h33, rfl, hb, hn⟩
                   unfold devV
                   try simp only
                   replace HS := LH (HS.out.gain hb hn)
                   clear hb hn
                   have HS2 := LH (HS.out.set 0 rfl (dvC h33 x)).drop1
                   have bP5 := HS.out.get 0 rfl
                   simp only at bP5
                   go_upto_region 34 with (first
                     | ((with_reducible show wpList _ _ _ _ _ _); refine wpList_store_row rfl 37 (.tmp 5) (.tmp 107) rfl P5 (dvC h33 x) rfl rfl 37 (dvC h30 df) ?_ ?_ ?_ ?_ ?_; exact bP5; exact (sDv _ _); exact (lDv h30 h33 df x); exact (oDv _ _)))
                   clear bP5
                   refine gnH HS2.out (fun V33 HS1 => ?_)
                   replace HS := LH HS1
                   clear HS1 HS2
                   have c27 := cAt (k := 27) (v := .int .i64 x.run) (HS.out.get 0 rfl) rfl
                   try simp only at c27
                   rw [hrun] at c27
                   clear hrun HBo
                   go_wp2_with fail
                   go_roundw
                   case rel => exact ⟨4, x, by go_num, ⟨_, _, _, _, _, HS.out⟩, .inr ⟨rfl, by have := HX2.out; rw [show G + 1 + 1 + 4 = G + 1 + 1 + ((3 : Nat) : Int) + 1 by omega]; exact this⟩⟩
                   case measure => simp [intOf]
               · have HRs := LH hrs
                 clear hrs
                 go_wp2_with fail
                 go_roundw
                 case rel => exact ⟨k + 1, d, by go_num, by omega, ⟨_, _, _, _, _, HS.out⟩, by have := HRs.out; rw [show 1 + 6 * ((k + 1 : Nat) : Int) = G + 1 + 1 + 4 by have := HG.out; omega]; exact this⟩
                 case measure => simp [intOf]; omega
   · have hkI : ¬ (k : Int) < 2 := by omega
     have hok := HRs.out.at_.ok
     have HRd : Hid (∀ W, Calls Tryz.prog 28 #[.agg (cpC d.c)] W fun e w' => e = .returned (.tuple #[.agg (rcC (DevM.rc d)), .int .i64 (RecM.newest d.c), .int .i64 0]) ∧ Below W.heap.size W w') := fun W => by
       have := rdR d.c W
       rw [RecM.readOf_ok hok.cops] at this
       exact this
     clear hok
     have bP5 := HS.out.get 0 rfl
     simp only at bP5
     go_wp2_with (first
       | ((with_reducible show wpList _ _ _ _ _ _); refine wLP rfl 31 (.tmp 122) rfl P5 2 rfl (dvC h d) 37 (0, 0) ?_ (cpC d.c) ?_ _ Tryz.underlying31 rfl ?_ ?_; exact bP5; exact (part_cops h d); exact (sCp d.c)))
     clear bP5
     refine (HRd.out _).mono ?_
     rintro e W1 ⟨rfl, hb⟩
     replace HS := LH (HS.out.later hb)
     clear hb
     obtain ⟨P16, hP16⟩ : ∃ P, W1.heap.size = P := ⟨_, rfl⟩
     replace HS := LH (HS.out.alloc hP16 (rcC (DevM.rc d)) 28)
     go_upto_region 39 with ((with_reducible show wpList _ _ _ _ _ _); refine wSN rfl 28 (.tmp 16) (.tmp 125) rfl P16 (rcC (DevM.rc d)) rfl rfl 28 _ ?_ ?_ ?_ ?_ ?_; exact hP16.symm; exact (sRc (DevM.rc d)); exact (lRc (DevM.rc d)); exact (oRc (DevM.rc d)))
     refine gnH HS.out (fun V38 HS1 => ?_)
     replace HS := LH HS1
     clear HS1 hP16 HRd
     have c2 := cAt (k := 2) (v := .bool (DevM.rc d).trying) (HS.out.get 0 rfl) rfl
     have c4 := cAt (k := 4) (v := .int .i64 (DevM.rc d).floor) (HS.out.get 0 rfl) rfl
     have c0 := cAt (k := 0) (v := .slice h.a0 h.n0 h.c0) (HS.out.get 1 rfl) rfl
     try simp only at c2 c4 c0
     rw [HRs.out.still] at c2
     rw [HRs.out.at_.floor] at c4
     have b7 := (HS.out.fact 0 rfl).b0
     have hlg := HRs.out.at_.long
     have hn7 : h.n0 = 64 := by rw [← b7.len]; exact hlg.1
     have hc7 := b7.le
     have hN64 : (0 : Int) ≤ (N0 : Int) := by omega
     have hcut : ∀ W, (Instr.slice 22 (.slice h.a0 h.n0 h.c0) none (some (.int .i64 (N0 : Int))) none).run Tryz.prog W = .ok (.slice h.a0 N0 h.c0) W := fun W => rCh h.a0 h.n0 h.c0 W N0 (by omega)
     have b8 := b7.head N0 (by omega)
     have hbg := HRs.out.at_.begins
     rw [HXl.out] at hbg
     rw [hbg] at b8
     have HEq := LH (eqB _ _ _ _ _ _ _ _ V38 b8 (HB0.out.later HS.out.below))
     rw [decide_eq_true (rfl : X = X)] at HEq
     clear b7 hlg hn7 hc7 b8 hbg
     go_wp2_with fail
     refine HEq.out.mono ?_
     rintro e W39 ⟨rfl, rfl⟩
     go_wp2_with fail
     go_ret
     exact ⟨rfl, HS.out.below⟩
end Go.Proofs.YtmpmaljkmfgagacGreat
