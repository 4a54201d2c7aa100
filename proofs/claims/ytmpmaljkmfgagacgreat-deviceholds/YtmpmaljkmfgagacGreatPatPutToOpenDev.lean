/-
  Texts put into one: PatPut, ChunksR, DvInsW, At, HoldW, OpenRec, OpenDev.
-/
import Derived.Test.YtmpmaljkmfgagacGreatRowToDevT
import Derived.Test.YtmpmaljkmfgagacGreatHeldToStepsL
import Derived.Test.YtmpmaljkmfgagacGreatDifThreeToPSame
import Derived.Test.YtmpmaljkmfgagacGreatDvCrashToPacked
import Derived.Test.YtmpmaljkmfgagacGreatDvHearToPackRes
import Derived.Test.YtmpmaljkmfgagacGreatDvOpenToDvWrite
import Derived.Test.YtmpmaljkmfgagacGreatDvUpToCAdd
import Derived.Deep.DeepCutAuto
import Derived.Deep.Cut
set_option maxRecDepth 100000
set_option maxHeartbeats 4000000
namespace Go.Proofs.YtmpmaljkmfgagacGreat
open Go.RowKit
def PutRel (l : List Int) (w : World) (out i : Value) (wr : World) : Prop :=
 ∃ (k : Nat) (a : Option Addr) (c : Nat), i = .int .i64 k ∧ k ≤ 8 ∧ out = .slice a k c ∧ wr.ownsRow w.heap.size 5 1 (.slice a k c) k ((l.take k).map (Value.int .u8)) ∧ Below w.heap.size w wr
def EncRel (hd : List Int) (ops : List OpR) (w : World) (out i : Value) (wr : World) : Prop :=
 ∃ (k : Nat) (a : Option Addr) (n c : Nat) (outl : List Int), i = .int .i64 k ∧ k ≤ ops.length ∧ out = .slice a n c ∧ outl.length = n ∧ outl = hd ++ PatM.encs (ops.take k) ∧ wr.ownsRow w.heap.size 5 1 (.slice a n c) outl.length (outl.map (Value.int .u8)) ∧ Below w.heap.size w wr
theorem two_lit (W : World) (x y : Int) (hx : 0 ≤ x ∧ x ≤ 255) (hy : 0 ≤ y ∧ y ≤ 255) : BS (W.alloc (.cells #[.int .u8 x, .int .u8 y] 5)) (some ⟨W.heap.size, 0, none⟩) 2 2 [x, y] := by
 refine ⟨rfl, Nat.le_refl _, by omega, by intro v hv; simp at hv; rcases hv with rfl | rfl <;> assumption, fun _ => ⟨W.heap.size, 0, rfl, fun i hi => ?_⟩, fun h => by cases h⟩
 simp only [World.cell?, hpA, if_pos]
 match i, hi with
 | 0, _ | 1, _ => rfl
theorem patPut_any (v : Value) (p : PatR) (w : World) (hp : PV w v p) :
   Calls Tryz.prog 89 #[v] w (GivesBE (PatM.putOf p) w) := by
 have hp' := hp
 obtain ⟨ao, no, co, rfl, ho, -⟩ := hp
 obtain ⟨f, t, o, nw, s, ops⟩ := p
 simp only at ho
 have hb : Below w.heap.size w (w.alloc (.cells #[.int .i64 f, .int .i64 t, .int .i64 o, .int .i64 nw, .int .i64 s, .slice ao no co] 35)) := (Below.refl _ _).alloc (Nat.le_refl _) _
 obtain ⟨B, hBw⟩ : ∃ B, w.heap.size = B := ⟨_, rfl⟩
 have hB0 : (w.alloc (.cells #[.int .i64 f, .int .i64 t, .int .i64 o, .int .i64 nw, .int .i64 s, .slice ao no co] 35)).heap[B]? = some (.cells #[.int .i64 f, .int .i64 t, .int .i64 o, .int .i64 nw, .int .i64 s, .slice ao no co] 35 (0, 0)) := by rw [hpA, if_pos hBw.symm]
 replace hp' := hp'.later hb
 replace ho := ho.later hb
 obtain ⟨E, hE⟩ : ∃ E, PatM.check ⟨f, t, o, nw, s, ops⟩ = E := ⟨_, rfl⟩
 have HE := LH hE
 clear hE
 go_enter Tryz.func89, Tryz.ntmps89
 go_wp2_with fail
 generalize w.alloc (.cells #[.int .i64 f, .int .i64 t, .int .i64 o, .int .i64 nw, .int .i64 s, .slice ao no co] 35) = W0 at hb hB0 hp' ho ⊢
 refine (checkPat_any _ _ _ hp').mono ?_
 rintro e W1 ⟨rfl, b1⟩
 rw [HE.out]
 replace hB0 := (b1.block B (lt_blk hB0)).trans hB0
 replace ho := ho.later b1
 replace b1 := bTh hb b1
 clear hb hp' hBw W0
 by_cases h0 : E = 0
 · subst h0
   have HK : Hid (PatM.putOf ⟨f, t, o, nw, s, ops⟩ = (PatM.putL ⟨f, t, o, nw, s, ops⟩, 0)) := PatM.putOf_ok HE.out
   obtain ⟨hh, h2⟩ := PatM.check_parts HE.out
   obtain ⟨h40, -, -, s1, s2, hg, ht⟩ := DeltaM.check_zero h2
   unfold PatM.badHead at hh
   simp only at hh h40 s1 s2 hg ht
   have v1 : 1 ≤ f ∧ f ≤ 30 := by omega
   have v2 : 1 ≤ t ∧ t ≤ 30 := by omega
   have v3 : 0 ≤ o ∧ o ≤ 65535 := by omega
   have v4 : 0 ≤ nw ∧ nw ≤ 65535 := by omega
   obtain ⟨r0, r1, r2, r3, r4, r5, -⟩ := pat_cells hB0
   have hno := ho.len
   obtain ⟨hd, hhd⟩ : ∃ hd, hd = PatM.head ⟨f, t, o, nw, s, ops⟩ := ⟨_, rfl⟩
   have hb2 : Below W1.heap.size W1 (W1.alloc (.cells #[.int .i64 f, .int .i64 t, .int .i64 (o / 256), .int .i64 (o % 256), .int .i64 (nw / 256), .int .i64 (nw % 256), .int .i64 s, .int .i64 (no : Int)] 3)) := (Below.refl _ _).alloc (Nat.le_refl _) _
   obtain ⟨Br, hBr⟩ : ∃ Br, W1.heap.size = Br := ⟨_, rfl⟩
   have HI : Hid (∀ k, k < 8 → (W1.alloc (.cells #[.int .i64 f, .int .i64 t, .int .i64 (o / 256), .int .i64 (o % 256), .int .i64 (nw / 256), .int .i64 (nw % 256), .int .i64 s, .int .i64 (no : Int)] 3)).cell? ⟨Br, k, none⟩ = some (.int .i64 (hd.getD k 0))) := by
     show ∀ k, _
     have hblk : (W1.alloc (.cells #[.int .i64 f, .int .i64 t, .int .i64 (o / 256), .int .i64 (o % 256), .int .i64 (nw / 256), .int .i64 (nw % 256), .int .i64 s, .int .i64 (no : Int)] 3)).heap[Br]? = some (.cells #[.int .i64 f, .int .i64 t, .int .i64 (o / 256), .int .i64 (o % 256), .int .i64 (nw / 256), .int .i64 (nw % 256), .int .i64 s, .int .i64 (no : Int)] 3 (0, 0)) := by rw [hpA, if_pos hBr.symm]
     intro k hk
     rw [hhd]
     simp only [World.cell?, hblk, PatM.head, hno]
     match k, hk with
     | 0, _ | 1, _ | 2, _ | 3, _ | 4, _ | 5, _ | 6, _ | 7, _ => rfl
   have HBy : Hid (∀ k, k < 8 → 0 ≤ hd.getD k 0 ∧ hd.getD k 0 ≤ 255) := by
     show ∀ k, _
     intro k hk
     rw [hhd]
     simp only [PatM.head]
     match k, hk with
     | 0, _ | 1, _ | 2, _ | 3, _ | 4, _ | 5, _ | 6, _ | 7, _ => simp; omega
   have HHd : Hid (hd.length = 8) := by show hd.length = 8; rw [hhd]; rfl
   have HPL : Hid (PatM.putL ⟨f, t, o, nw, s, ops⟩ = hd ++ PatM.encs ops) := by show _ = _; rw [hhd]; rfl
   have HO2 := LH (ho.later hb2)
   have HB2 := LH (bTh b1 hb2)
   have r5' := cell_later hb2 r5
   have HG := LH hg
   have HLn := LH hno
   have hno40 : no ≤ 40 := by rw [← hno]; exact h40
   have HLE := LH (PatM.putL_len HE.out)
   have HBD : Hid (∀ k, (hd ++ PatM.encs (ops.take k)).length ≤ 152) := by
     show ∀ k, _
     intro k
     have h1 := HLE.out
     have h2 : PatM.encs ops = PatM.encs (ops.take k) ++ PatM.encs (ops.drop k) := by rw [← PatM.encs_append, List.take_append_drop]
     rw [HPL.out, h2] at h1
     simp only [List.length_append] at h1 ⊢
     omega
   go_wp2_with fail
   generalize W1.alloc (.cells #[.int .i64 f, .int .i64 t, .int .i64 (o / 256), .int .i64 (o % 256), .int .i64 (nw / 256), .int .i64 (nw % 256), .int .i64 s, .int .i64 (no : Int)] 3) = W2 at hb2 HI HO2 HB2 r5' ⊢
   clear r0 r1 r2 r3 r4 r5 hh h2 hg ht h40 hhd ho b1 hno hB0
   clear hBr hb2
   go_loopw [5, 38] (fun out i wr => PutRel hd W2 out i wr) (fun _ i _ => 8 - (intOf i).toNat)
   case atStart => exact ⟨0, none, 0, rfl, by omega, rfl, World.ownsRow_nil _ _ _ _, Below.refl _ _⟩
   case round =>
     obtain ⟨k, a, c, rfl, hk, rfl, hown, hbw⟩ := hrel
     by_cases hlt : k < 8
     · have hcell := cell_later hbw (HI.out k hlt)
       have hv := HBy.out k hlt
       have HT : Hid ((hd.take (k + 1)).map (Value.int .u8) = (hd.take k ++ [hd.getD k 0]).map (Value.int .u8)) := by
         show _ = _
         rw [List.take_add_one, List.getD_eq_getElem?_getD, List.getElem?_eq_getElem (by rw [HHd.out]; exact hlt)]
         simp
       generalize hd.getD k 0 = x at hcell hv HT
       have hw : IntKind.u8.wrap x = x := by rw [IntKind.wrap_u8]; omega
       have hbl : Below wr.heap.size wr (wr.alloc (.cells #[.int .u8 x] 5)) := (Below.refl _ _).alloc (Nat.le_refl _) _
       obtain ⟨a5, c5, W5, hrun, hown5, hg5⟩ := app_run (own_later hown hbl) (one_lit wr x hv) (by omega) (by have := hbl.size; have := hbw.size; omega)
       have hb5 := (bTh hbw hbl).grown hg5 (bTh hbw hbl).size (fun g hg => (oL3 hown hg).1)
       have HOw := LH hown5
       have HB5 := LH hb5
       clear hown5 hg5 hbl hb5 hown
       go_wp2_with (at_builtin; refine Lib.wpList_append_run _ rfl _ _ _ _ rfl _ _ rfl rfl _ _ hrun ?_)
       go_roundw
       case rel => exact ⟨k + 1, a5, c5, by go_num, by omega, rfl, by rw [HT.out]; exact HOw.out, HB5.out⟩
       case measure => simp [intOf]; omega
     · obtain rfl : k = 8 := by omega
       have r5w := cell_later hbw r5'
       rw [List.take_of_length_le (by rw [HHd.out]; omega)] at hown
       have HOw := LH hown
       have HBw := LH hbw
       clear hown hbw
       go_wp2_with fail
       clear r5w
       go_loopw [5, 51] (fun out i wr => EncRel hd ops W2 out i wr) (fun _ i _ => no - (intOf i).toNat)
       case atStart => exact ⟨0, a, 8, c, hd, rfl, Nat.zero_le _, rfl, HHd.out, by simp [PatM.encs], by rw [HHd.out]; exact HOw.out, HBw.out⟩
       case round =>
         clear HOw HBw
         obtain ⟨k, a2, n2, c2, outl, rfl, hk, rfl, hol, hou, ho2, hbw⟩ := hrel
         rw [HLn.out] at hk
         have HOL := LH hol
         have HOU := LH hou
         have hbd := HBD.out k
         rw [← hou, hol] at hbd
         clear hol hou
         by_cases hlt : k < no
         · obtain ⟨b, off, rfl, hcs⟩ := HO2.out.cells (by omega)
           obtain ⟨va, vn, vc, q0, q1, q2, q3, -, -⟩ := hcs k hlt
           replace q0 := cell_later hbw q0
           replace q1 := cell_later hbw q1
           replace q2 := cell_later hbw q2
           have hkl : k < ops.length := by rw [HLn.out]; exact hlt
           have HT : Hid (PatM.encs (ops.take (k + 1)) = PatM.encs (ops.take k) ++ PatM.enc (ops.getD k default)) := by
             show _ = _
             rw [List.take_add_one, List.getElem?_eq_getElem hkl, PatM.encs_append]
             simp [PatM.encs, List.getD_eq_getElem?_getD, List.getElem?_eq_getElem hkl]
           have hg := HG.out (ops.getD k default) (by rw [List.getD_eq_getElem?_getD, List.getElem?_eq_getElem hkl]; exact List.getElem_mem hkl)
           generalize ops.getD k default = oo at q0 q1 q2 q3 HT hg
           obtain ⟨A, L, D⟩ := oo
           simp only at q0 q1 q2 q3
           obtain ⟨g1, g2, g3⟩ := DeltaM.good_len hg.2
           simp only at g1 g2 g3
           have hDn := q3.len
           obtain ⟨Bo, hBo⟩ : ∃ Bo, wr.heap.size = Bo := ⟨_, rfl⟩
           have hbl : Below wr.heap.size wr (wr.alloc (.cells #[.int .i64 A, .int .i64 L, .slice va vn vc] 123)) := (Below.refl _ _).alloc (Nat.le_refl _) _
           have hst : ASt W2 Bo #[.int .i64 A, .int .i64 L, .slice va vn vc] (.slice a2 n2 c2) outl (wr.alloc (.cells #[.int .i64 A, .int .i64 L, .slice va vn vc] 123)) := by
             refine ⟨by rw [hpA, if_pos hBo.symm], own_later ho2 hbl, fun e => ?_, bTh hbw hbl, by rw [← hBo]; exact hbw.size⟩
             have := (oL3 ho2 e).2
             omega
           have e1 : (wr.alloc (.cells #[.int .i64 A, .int .i64 L, .slice va vn vc] 123)).heap.size = Bo + 1 := by simp [hBo]
           by_cases hL : L = 0
           · subst hL
             obtain ⟨hform, d1, d2⟩ := PatM.form_data hg.1 rfl
             simp only at d1 d2
             rw [hDn] at d1 d2
             have HEn : Hid (PatM.enc ⟨A, 0, D⟩ = [255, (vn : Int)] ++ D) := by show _ = _; simp [PatM.enc, hDn]
             have hw : IntKind.u8.wrap (vn : Int) = vn := by rw [IntKind.wrap_u8]; omega
             have hba : Below (wr.alloc (.cells #[.int .i64 A, .int .i64 0, .slice va vn vc] 123)).heap.size (wr.alloc (.cells #[.int .i64 A, .int .i64 0, .slice va vn vc] 123)) ((wr.alloc (.cells #[.int .i64 A, .int .i64 0, .slice va vn vc] 123)).alloc (.cells #[.int .u8 255, .int .u8 (vn : Int)] 5)) := (Below.refl _ _).alloc (Nat.le_refl _) _
             have htl := two_lit (wr.alloc (.cells #[.int .i64 A, .int .i64 0, .slice va vn vc] 123)) 255 vn (by omega) (by omega)
             rw [e1] at htl
             obtain ⟨a5, c5, W5, hrun, HS5⟩ := (hst.later hba).app htl (by omega) (by rw [HOL.out]; omega)
             rw [HOL.out] at hrun HS5
             have q5 := q3.later HS5.out.below
             obtain ⟨a7, c7, W7, hrun2, HS7⟩ := HS5.out.app q5 (by omega) (by rw [List.length_append, HOL.out]; simp only [List.length_cons, List.length_nil]; omega)
             have hl5 : (outl ++ [255, (vn : Int)]).length = n2 + 2 := by rw [List.length_append, HOL.out]; rfl
             rw [hl5] at hrun2 HS7
             obtain ⟨d0, d1', d2'⟩ := cells_blk HS5.out.cb
             clear hst hba htl HS5 q5 hbl hform hg
             go_wp2_with (first | (at_builtin; refine Lib.wpList_append_run _ rfl (.tmp 58) (.tmp 63) _ _ rfl _ _ rfl rfl _ _ hrun ?_) | (at_builtin; refine Lib.wpList_append_run _ rfl (.tmp 65) (.tmp 67) _ _ rfl _ _ rfl rfl _ _ hrun2 ?_))
             go_roundw
             case rel =>
               (repeat apply Exists.intro)
               refine ⟨?_, rfl⟩
               refine ⟨k + 1, a7, n2 + 2 + vn, c7, outl ++ [255, (vn : Int)] ++ D, by go_num, by rw [HLn.out]; omega, rfl, ?_, ?_, HS7.out.own, HS7.out.below⟩
               · rw [List.length_append, hl5, hDn]
               · rw [HT.out, HEn.out, HOU.out]
                 simp
             case measure => simp [intOf]; omega
           · have hLb : (L == 0) = false := by simp [hL]
             have hw1 : IntKind.u8.wrap A = A := by rw [IntKind.wrap_u8]; omega
             have hw2 : IntKind.u8.wrap L = L := by rw [IntKind.wrap_u8]; omega
             have HEn : Hid (PatM.enc ⟨A, L, D⟩ = [A, L]) := by show _ = _; simp [PatM.enc, hL]
             have hba : Below (wr.alloc (.cells #[.int .i64 A, .int .i64 L, .slice va vn vc] 123)).heap.size (wr.alloc (.cells #[.int .i64 A, .int .i64 L, .slice va vn vc] 123)) ((wr.alloc (.cells #[.int .i64 A, .int .i64 L, .slice va vn vc] 123)).alloc (.cells #[.int .u8 A, .int .u8 L] 5)) := (Below.refl _ _).alloc (Nat.le_refl _) _
             have htl := two_lit (wr.alloc (.cells #[.int .i64 A, .int .i64 L, .slice va vn vc] 123)) A L (by omega) (by omega)
             rw [e1] at htl
             obtain ⟨a5, c5, W5, hrun, HS5⟩ := (hst.later hba).app htl (by omega) (by rw [HOL.out]; omega)
             rw [HOL.out] at hrun HS5
             clear hst hba htl hbl hg
             go_wp2_with (at_builtin; refine Lib.wpList_append_run _ rfl (.tmp 69) (.tmp 76) _ _ rfl _ _ rfl rfl _ _ hrun ?_)
             go_roundw
             case rel =>
               (repeat apply Exists.intro)
               refine ⟨?_, rfl⟩
               refine ⟨k + 1, a5, n2 + 2, c5, outl ++ [A, L], by go_num, by rw [HLn.out]; omega, rfl, ?_, ?_, HS5.out.own, HS5.out.below⟩
               · rw [List.length_append, HOL.out]; rfl
               · rw [HT.out, HEn.out, HOU.out]
                 simp
             case measure => simp [intOf]; omega
         · obtain rfl : k = no := by omega
           have HEq : Hid (outl = PatM.putL ⟨f, t, o, nw, s, ops⟩) := by
             show outl = _
             rw [HPL.out, HOU.out, List.take_of_length_le (by rw [HLn.out]; omega)]
           have HBt : Hid (∀ v ∈ outl, 0 ≤ v ∧ v ≤ 255) := by
             show ∀ v ∈ outl, _
             rw [HEq.out]
             exact PatM.putL_bytes HE.out (OS.bytes HO2.out)
           have HOw2 := LH ho2
           have HBw2 := LH (bTh HB2.out hbw)
           clear ho2 hbw
           go_wp2_with fail
           go_ret2
           refine ⟨a2, n2, c2, tup_a (by rw [HK.out]), ?_, HBw2.out⟩
           rw [HK.out]
           simp only
           rw [← HEq.out]
           have := HOw2.out
           rw [HOL.out] at this
           exact BS.of_own this HBt.out
 · have hnb : (E != 0) = true := by simp [h0]
   have HK : Hid (PatM.putOf ⟨f, t, o, nw, s, ops⟩ = ([], E)) := by
     show _ = _
     rw [PatM.putOf_bad (by rw [HE.out]; exact h0), HE.out]
   go_wp2_with fail
   go_ret2
   exact ⟨none, 0, 0, tup_a (by rw [HK.out]), by rw [HK.out]; exact BS.nil_ _, b1⟩
theorem seqChunk_any (a : Option Addr) (n c : Nat) (w : World) :
   Calls Tryz.prog 91 #[.slice a n c, .int .i64 16] w fun e w' => e = .returned (.func (.func 129) #[] #[.pointer (some ⟨w.heap.size, 0, none⟩), .pointer (some ⟨w.heap.size + 1, 0, none⟩)]) ∧ w' = (w.alloc (.cells #[.slice a n c] 22)).alloc (.cells #[.int .i64 16] 3) := by
 have hmf : ∀ (fn : Fn) (first cap : Array Value) (w : World), (Instr.makeFunc fn first cap).run Tryz.prog w = .ok (.func fn first cap) w := fun _ _ _ _ => rfl
 go_enter Tryz.func91, Tryz.ntmps91
 go_wp2_with fail
 go_ret
 exact ⟨rfl, rfl⟩
theorem collect_any (Bs Bn : Nat) (a : Option Addr) (len cap : Nat) (hlen : len ≤ cap) (hcap : len ≤ 1000000) (w : World) (hBs : Bs < w.heap.size) (hBn : Bn < w.heap.size)
   (hcs : w.cell? ⟨Bs, 0, none⟩ = some (.slice a len cap)) (hcn : w.cell? ⟨Bn, 0, none⟩ = some (.int .i64 16)) :
   Calls Tryz.prog 90 #[.func (.func 129) #[] #[.pointer (some ⟨Bs, 0, none⟩), .pointer (some ⟨Bn, 0, none⟩)]] w fun e W' => ∃ v, e = .returned v ∧ W'.ownsRow w.heap.size 22 1 v ((len + 15) / 16) ((partsTo a len ((len + 15) / 16)).map HeadV.v) ∧ Below w.heap.size w W' := by
 go_enter Tryz.func90, Tryz.ntmps90
 go_wp2_with fail
 refine (appendSeq_any Bs Bn a len cap hlen hcap _ hBs hBn hcs hcn).mono ?_
 rintro e W' ⟨v, rfl, ho, hb⟩
 have HO := LH ho
 clear ho
 go_wp2_with fail
 go_ret
 exact ⟨v, rfl, HO.out, hb⟩
theorem lt_blkO {W : World} {g : Nat} {o : Obj} (h : W.heap[g]? = some o) : g < W.heap.size := by
 rcases Nat.lt_or_ge g W.heap.size with hlt | hge
 · exact hlt
 · rw [Array.getElem?_eq_none hge] at h; cases h
theorem BS.part {w : World} {a : Option Addr} {n c : Nat} {l : List Int} (h : BS w a n c l) {k : Nat} (hk : k * 16 < n) : BS w (a.map (·.add (k * 16))) (min 16 (n - k * 16)) (min 16 (n - k * 16)) ((l.drop (k * 16)).take 16) := by
 have h1 := h.len
 have h2 := h.le
 have h3 := h.max
 obtain ⟨b, off, rfl, hc⟩ := h.cells (by omega)
 refine ⟨by simp; omega, Nat.le_refl _, by omega, fun x hx => h.bytes x (List.mem_of_mem_drop (List.mem_of_mem_take hx)), fun hp => ?_, fun he => by cases he⟩
 refine ⟨b, off + k * 16, by rw [Option.map_some, addr_add], fun i hi => ?_⟩
 rw [Nat.add_assoc, hc (k * 16 + i) (by omega), List.getElem?_take_of_lt (by omega), List.getElem?_drop]
def ChunksRel (w1 : World) (fr tv : Int) (o : List Int) (out i : Value) (wr : World) : Prop :=
 ∃ k : Nat, i = .int .i64 k ∧ k ≤ ChunkM.parts o ∧ ChSt w1 w1.heap.size out ((ChunkM.cutL fr tv o).take k) wr ∧ Below w1.heap.size w1 wr
theorem two_new (w : World) (v1 v2 : Value) (t1 t2 : Nat) : ((w.alloc (.cells #[v1] t1)).alloc (.cells #[v2] t2)).cell? ⟨w.heap.size, 0, none⟩ = some v1 ∧ ((w.alloc (.cells #[v1] t1)).alloc (.cells #[v2] t2)).cell? ⟨w.heap.size + 1, 0, none⟩ = some v2 := by
 have e1 : (w.alloc (.cells #[v1] t1)).heap.size = w.heap.size + 1 := by simp
 refine ⟨?_, ?_⟩
 · simp only [World.cell?, hpA]
   rw [if_neg (by rw [e1]; omega), if_pos trivial]
   rfl
 · simp only [World.cell?, hpA]
   rw [if_pos e1.symm]
   rfl
theorem chunksR_any (v : Value) (p : PatR) (w : World) (hv : PV w v p) :
   Calls Tryz.prog 48 #[v] w (GivesCs p w) := by
 obtain ⟨ap, np, cp, rfl, hop, i1, i2, i3, i4, i5⟩ := hv
 obtain ⟨f, t, od, nw, sz, ops⟩ := p
 simp only at hop i1 i2 i3 i4 i5 ⊢
 have hb0 : Below w.heap.size w (w.alloc (.cells #[.int .i64 f, .int .i64 t, .int .i64 od, .int .i64 nw, .int .i64 sz, .slice ap np cp] 35)) := (Below.refl _ _).alloc (Nat.le_refl _) _
 obtain ⟨B, hBB⟩ : ∃ B, w.heap.size = B := ⟨_, rfl⟩
 have hblk : (w.alloc (.cells #[.int .i64 f, .int .i64 t, .int .i64 od, .int .i64 nw, .int .i64 sz, .slice ap np cp] 35)).heap[B]? = some (.cells #[.int .i64 f, .int .i64 t, .int .i64 od, .int .i64 nw, .int .i64 sz, .slice ap np cp] 35 (0, 0)) := by rw [hpA, if_pos hBB.symm]
 have HPV : Hid (PV (w.alloc (.cells #[.int .i64 f, .int .i64 t, .int .i64 od, .int .i64 nw, .int .i64 sz, .slice ap np cp] 35)) (.agg #[.int .i64 f, .int .i64 t, .int .i64 od, .int .i64 nw, .int .i64 sz, .slice ap np cp]) ⟨f, t, od, nw, sz, ops⟩) := ⟨ap, np, cp, rfl, hop.later hb0, i1, i2, i3, i4, i5⟩
 have HB0 := LH hb0
 have HBLK := LH hblk
 have HI : Hid (I64 f ∧ I64 t) := ⟨i1, i2⟩
 clear hop i1 i2 i3 i4 i5 hb0 hblk
 go_enter Tryz.func48, Tryz.ntmps48
 go_wp2_with fail
 refine (patPut_any _ _ _ HPV.out).mono ?_
 rintro e W1 ⟨a1, n1, c1, rfl, s1, b1⟩
 by_cases hc : PatM.check ⟨f, t, od, nw, sz, ops⟩ = 0
 · rw [PatM.putOf_ok hc] at s1 ⊢
   simp only at s1 ⊢
   have hpl := PatM.putL_len hc
   have hs1l := s1.len
   have HB1 := LH (bTh HB0.out b1)
   have HBLK1 := LH ((b1.block B (lt_blkO HBLK.out)).trans HBLK.out)
   have HC := LH hc
   clear b1 HB0 HBLK HPV hc
   go_wp2_with fail
   refine (packed_any a1 n1 c1 _ _ s1 (by omega)).mono ?_
   rintro e W2 ⟨o, a2, n2, c2, hpk, rfl, s2, b2⟩
   have hol := ChunkM.packed_len HC.out hpk
   have hop := ChunkM.packed_parts HC.out hpk
   have hs2l := s2.len
   have HB2 := LH (bTh HB1.out b2)
   have HBLK2 := LH ((b2.block B (lt_blkO HBLK1.out)).trans HBLK1.out)
   have HPK := LH hpk
   have HS2 := LH s2
   have hle2 := s2.le
   clear s1 b2 HB1 HBLK1 hpk s2 hpl hs1l
   go_wp2_with fail
   refine (seqChunk_any a2 n2 c2 _).mono ?_
   rintro e W3 ⟨rfl, hW3⟩
   have hb3 : Below W2.heap.size W2 W3 := by rw [hW3]; exact ((Below.refl _ _).alloc (Nat.le_refl _) _).alloc (by simp) _
   have hk1 : W3.cell? ⟨W2.heap.size, 0, none⟩ = some (.slice a2 n2 c2) := by rw [hW3]; exact (two_new W2 _ _ _ _).1
   have hk2 : W3.cell? ⟨W2.heap.size + 1, 0, none⟩ = some (.int .i64 16) := by rw [hW3]; exact (two_new W2 _ _ _ _).2
   have hsz : W3.heap.size = W2.heap.size + 2 := by rw [hW3]; simp
   have HCol := LH (collect_any W2.heap.size (W2.heap.size + 1) a2 n2 c2 hle2 (by omega) W3 (by omega) (by omega) hk1 hk2)
   have HB3 := LH (bTh HB2.out hb3)
   have HBLK3 := LH ((hb3.block B (lt_blkO HBLK2.out)).trans HBLK2.out)
   have HS3 := LH hb3
   clear hk1 hk2 hsz hW3 hb3 HB2 HBLK2
   go_wp2_with fail
   refine HCol.out.mono ?_
   rintro e W4 ⟨vr, rfl, ho4, b4⟩
   have hK : (n2 + 15) / 16 = ChunkM.parts o := by unfold ChunkM.parts; rw [hs2l]
   rw [hK] at ho4
   obtain ⟨K, hKK⟩ : ∃ K, ChunkM.parts o = K := ⟨_, rfl⟩
   have HKK := LH hKK
   rw [hKK] at ho4 hop
   obtain ⟨ar, cr, hvr⟩ : ∃ ar cr, vr = .slice ar K cr := by
     rcases ho4.2 with ⟨q1, q2⟩ | ⟨g, cap, cur, q1, _⟩
     · exact ⟨none, 0, by rw [q1, q2]⟩
     · exact ⟨_, _, q1⟩
   subst hvr
   have HB4 := LH (bTh HB3.out b4)
   have HO4 := LH ho4
   obtain ⟨k0, k1, -⟩ := pat_cells ((b4.block B (lt_blkO HBLK3.out)).trans HBLK3.out)
   have HPC : Hid (∀ W, Below W4.heap.size W4 W → W.cell? ⟨B, 0, none⟩ = some (.int .i64 f) ∧ W.cell? ⟨B, 1, none⟩ = some (.int .i64 t)) := fun W h => ⟨cell_later h k0, cell_later h k1⟩
   have HS4 := LH ((HS2.out.later HS3.out).later b4)
   clear ho4 b4 HB3 HBLK3 HCol HS2 HS3 k0 k1
   go_wp2_with fail
   go_loopw [7, 27] (fun out i wr => ChunksRel W4 f t o out i wr) (fun _ i _ => K - (intOf i).toNat)
   case atStart => exact ⟨0, rfl, Nat.zero_le _, by rw [List.take_zero]; exact ChSt.start _ _ _, Below.refl _ _⟩
   case round =>
     obtain ⟨k, rfl, hk, hch, hB⟩ := hrel
     rw [HKK.out] at hk
     have HCH := LH hch
     have HB := LH hB
     clear hch hB
     by_cases hlt : k < K
     · obtain ⟨g, cap, hv, -, hgl⟩ := HO4.out.form (by omega)
       simp only [Value.slice.injEq, true_and] at hv
       obtain ⟨rfl, rfl⟩ := hv
       have e0 := HO4.out.cellAt k (by omega)
       have hpk : ((partsTo a2 n2 K).map HeadV.v)[k]? = some (.slice (a2.map (·.add (k * 16))) (min 16 (n2 - k * 16)) (min 16 (n2 - k * 16))) := by
         unfold partsTo
         rw [List.map_map, List.getElem?_map, List.getElem?_range hlt]
         rfl
       rw [hpk] at e0
       have e1 := cell_later HB.out e0
       have hk16 : k * 16 < n2 := by have := HKK.out; unfold ChunkM.parts at this; omega
       have hbs := HS4.out.part hk16
       obtain ⟨E, hE⟩ : ∃ E, min 16 (n2 - k * 16) = E := ⟨_, rfl⟩
       rw [hE] at e1 hbs
       generalize a2.map (·.add (k * 16)) = A2 at e1 hbs
       obtain ⟨k0, k1⟩ := HPC.out _ HB.out
       have hln : ((ChunkM.cutL f t o).take k).length = k := by rw [List.length_take, ChunkM.cutL_length, HKK.out]; omega
       have hnth : ChunkM.nth f t o k = ⟨f, t, k, K, (o.drop (k * 16)).take 16⟩ := by unfold ChunkM.nth; rw [HKK.out]
       obtain ⟨g5, cap5, W5, hrun, HS5, -⟩ := HCH.out.app (ChunkM.nth f t o k) (a := A2) (n := E) (c := E) (by rw [hnth]; exact hbs) (by rw [hnth]; exact ⟨HI.out.1, HI.out.2, by unfold I64; simp only; omega, by unfold I64; simp only; omega⟩) (by omega) HB.out.size HB.out rfl
       rw [hnth] at hrun
       simp only at hrun
       rw [hln] at hrun HS5
       have HT : Hid ((ChunkM.cutL f t o).take (k + 1) = (ChunkM.cutL f t o).take k ++ [ChunkM.nth f t o k]) := by
         show _ = _
         rw [List.take_add_one]
         congr 1
         have hkl : k < (ChunkM.cutL f t o).length := by rw [ChunkM.cutL_length, HKK.out]; exact hlt
         have := ChunkM.cutL_get f t o (k := k) (by rw [HKK.out]; exact hlt)
         rw [List.getD_eq_getElem?_getD, List.getElem?_eq_getElem hkl, Option.getD_some] at this
         rw [List.getElem?_eq_getElem hkl, this]
         rfl
       clear e0 hpk hbs hnth hln
       go_wp2_with (at_builtin; refine Lib.wpList_append_run _ rfl _ _ _ _ rfl _ _ rfl rfl _ _ hrun ?_)
       go_roundw
       case rel => exact ⟨k + 1, by go_num, by rw [HKK.out]; omega, by rw [HT.out]; exact HS5.out.1, HS5.out.2⟩
       case measure => simp [intOf]; omega
     · have hkK : k = K := by omega
       subst hkK
       have hch := HCH.out
       rw [List.take_of_length_le (by rw [ChunkM.cutL_length, HKK.out]; exact Nat.le_refl _)] at hch
       obtain ⟨a9, c9, h9⟩ := hch.form
       subst h9
       have HCS := LH (hch.cs rfl HB.out)
       have HR : Hid (ChunkM.CutIs ⟨f, t, od, nw, sz, ops⟩ (ChunkM.cutL f t o) 0) := .inr ⟨HC.out, o, HPK.out, rfl, rfl⟩
       have hb9 := bTh HB4.out HB.out
       clear hch HCH
       go_wp2_with fail
       go_ret2
       exact ⟨_, 0, a9, _, c9, HR.out, rfl, HCS.out, hb9⟩
 · rw [PatM.putOf_bad hc] at s1 ⊢
   obtain ⟨E, hE⟩ : ∃ E, PatM.check ⟨f, t, od, nw, sz, ops⟩ = E := ⟨_, rfl⟩
   simp only [hE] at hc ⊢
   have t0 : (E != 0) = true := by simp [hc]
   have hb2 := bTh HB0.out b1
   have HR : Hid (ChunkM.CutIs ⟨f, t, od, nw, sz, ops⟩ [] E) := .inl ⟨by rw [hE]; exact hc, rfl, hE.symm⟩
   clear s1 hE
   go_wp2_with fail
   go_ret2
   exact ⟨[], E, none, 0, 0, HR.out, rfl, CS.nil_ _, hb2⟩
theorem put_dev (h : DevH) (d : DevR) (h' : DevH) (d' : DevR) : putAt (dvC h d) 0 (dvC h' d').toList = dvC h' d' := by kernel_rfl
def InsCut (w : World) (P1 : Nat) (h0 : DevH) (s3 s4 : Value) (W : World) : Prop :=
 ∃ P3 ap np cp lo hi lo' hi', s3 = .pointer (some ⟨P3, 0, none⟩) ∧ s4 = .int .i64 0 ∧ MH w [(P3, jbC ap np cp patL, 35), (P1, dvC h0 Inst.d0, 37)] [(lo', hi', fun V => OS V ap np cp patL.ops), (lo, hi, fun V => DH V h0 Inst.d0)] W
def InsCut6 (w : World) (P1 P3 : Nat) (C3 : Array Value) (s2 : Value) (W : World) : Prop :=
 ∃ h1 lo hi, s2 = .int .i64 0 ∧ MH w [(P3, C3, 35), (P1, dvC h1 Inst.d1, 37)] [(lo, hi, fun V => DH V h1 Inst.d1)] W
theorem installed_any (w : World) (hM : MaxCell w) : Calls Tryz.prog 9 #[] w fun e w' => e = .returned (.bool true) ∧ Below w.heap.size w w' := by
 have HCs : Hid (∀ ap np cp W, OS W ap np cp patL.ops → Calls Tryz.prog 48 #[.agg (jbC ap np cp patL)] W fun e W' => ∃ al cl, e = .returned (.tuple #[.slice al 1 cl, .int .i64 0]) ∧ CS W' al 1 cl [Inst.chL] ∧ Below W.heap.size W W') := fun ap np cp W ho => by
   refine (chunksR_any (.agg (jbC ap np cp patL)) patL W ⟨ap, np, cp, rfl, ho, by unfold I64; decide, by unfold I64; decide, by unfold I64; decide, by unfold I64; decide, by unfold I64; decide⟩).mono ?_
   rintro e W' ⟨cs, err, a, n, c, hc, rfl, hs, hb⟩
   obtain ⟨rfl, rfl⟩ := Inst.cut_patL hc
   obtain rfl : n = 1 := hs.len.symm
   exact ⟨a, c, rfl, hs, hb⟩
 have HHe : Hid (∀ h xa xm xc W, DH W h Inst.d0 → BS W xa xm xc Inst.packL → Calls Tryz.prog 15 #[.agg (dvC h Inst.d0), .agg #[.int .i64 1, .int .i64 2, .int .i64 0, .int .i64 1, .slice xa xm xc]] W (GDv (Inst.d1, 0) W)) := fun h xa xm xc W hd hx => by
   have := hearD_any h Inst.d0 Inst.chL xa xm xc W hd ⟨xa, xm, xc, rfl, hx, by unfold I64; decide, by unfold I64; decide, by unfold I64; decide, by unfold I64; decide⟩
   rw [Inst.st1] at this
   exact this
 have HOp : Hid (∀ h W, DH W h Inst.d1 → Calls Tryz.prog 16 #[.agg (dvC h Inst.d1)] W (GDv (Inst.d2, 0) W)) := fun h W hd => by
   have := openD_any h Inst.d1 W hd
   rw [Inst.st2] at this
   exact this
 have HW1 : Hid (∀ h W, DH W h Inst.d2 → Calls Tryz.prog 17 #[.agg (dvC h Inst.d2), .bool false, .int .i64 0] W (GDv (Inst.d3, 0) W)) := fun h W hd => by
   have := writeD_any h Inst.d2 false 0 W hd
   rw [Inst.st3] at this
   exact this
 have HFL : Hid (∀ h W, DH W h Inst.d3 → Calls Tryz.prog 18 #[.agg (dvC h Inst.d3), .bool false] W (GDv (DevM.noDev, 5) W)) := fun h W hd => by
   have := finishD_any h Inst.d3 false W hd
   rw [Inst.stL] at this
   exact this
 have HW2 : Hid (∀ h W, DH W h Inst.d3 → Calls Tryz.prog 17 #[.agg (dvC h Inst.d3), .bool false, .int .i64 0] W (GDv (Inst.d4, 0) W)) := fun h W hd => by
   have := writeD_any h Inst.d3 false 0 W hd
   rw [Inst.st4] at this
   exact this
 have HFi : Hid (∀ h W, DH W h Inst.d4 → Calls Tryz.prog 18 #[.agg (dvC h Inst.d4), .bool false] W (GDv (Inst.d5, 0) W)) := fun h W hd => by
   have := finishD_any h Inst.d4 false W hd
   rw [Inst.st5] at this
   exact this
 have HCr : Hid (∀ h W, DH W h Inst.d5 → Calls Tryz.prog 20 #[.agg (dvC h Inst.d5)] W (GDv (Inst.d6, 0) W)) := fun h W hd => by
   have := crashD_any h Inst.d5 W hd
   rw [Inst.st6] at this
   exact this
 have HBo : Hid (∀ h W, DH W h Inst.d6 → Calls Tryz.prog 21 #[.agg (dvC h Inst.d6)] W (GDv (Inst.d7, 0) W)) := fun h W hd => by
   have := bootD_any h Inst.d6 W hd
   rw [Inst.st7] at this
   exact this
 have HCo : Hid (∀ h W, DH W h Inst.d7 → Calls Tryz.prog 19 #[.agg (dvC h Inst.d7)] W (GDv (Inst.d8, 0) W)) := fun h W hd => by
   have := confirmD_any h Inst.d7 W hd
   rw [Inst.st8] at this
   exact this
 have HIm := LH (fun W => images_any W)
 have HNw : Hid (∀ a c W, BS W a 8 c Inst.im0 → Calls Tryz.prog 7 #[.slice a 8 c] W (GDv (Inst.d0, 0) W)) := fun a c W hb => by
   have := newD_any a 8 c Inst.im0 W hb
   rwa [Inst.st0] at this
 have HMd := LH (fun a0 a1 c0 c1 W => madeL_any a0 a1 c0 c1 W)
 have HMx := LH hM
 clear hM
 have HS := LH (MH.of (MS.start w))
 go_enter Tryz.func9, Tryz.ntmps9
 go_wp2_with fail
 refine (HIm.out _).mono ?_
 rintro e W1 ⟨B, A0, A1, A2, rfl, hB, b0, b1, -, hb⟩
 replace HS := LH (HS.out.later hb)
 clear hb
 have cB := cAt (k := 0) (v := .slice A0 8 8) hB rfl
 go_wp2_with fail
 clear cB
 refine (HNw.out _ _ _ b0).mono ?_
 rintro e W2 ⟨h0, rfl, hb, hn⟩
 replace HS := LH (HS.out.gain hb hn)
 clear hb hn b0 b1 hB
 unfold devV
 try simp only
 obtain ⟨P1, hP1⟩ : ∃ P, W2.heap.size = P := ⟨_, rfl⟩
 replace HS := LH (HS.out.alloc hP1 (dvC h0 Inst.d0) 37)
 go_upto_region 2 with ((with_reducible show wpList _ _ _ _ _ _); refine wSN rfl 37 (.tmp 1) (.tmp 20) rfl P1 (dvC h0 Inst.d0) rfl rfl 37 _ ?_ ?_ ?_ ?_ ?_; exact hP1.symm; exact (sDv _ _); exact (like_zdev _ _); exact (oDv _ _))
 refine gnH HS.out (fun V1 HS1 => ?_)
 replace HS := LH HS1
 clear HS1 hP1
 go_cut [3, 4] (fun s3 s4 wx => InsCut w P1 h0 s3 s4 wx)
 case first =>
   replace HS := LH HS.out.drew
   refine wp_region_way (S := MS w [(P1, dvC h0 Inst.d0, 37)] [] []) (.fork 0 (.one 1 (.one 2 (.fork 3 (.one 4 (.one 5 (.fork 6 (.one 7 (.one 8 (.one 9 (.call 10 (.call 11 (.one 12 .done)))))) 10 (.call 6 (.one 7 (.one 8 (.one 9 (.call 11 (.one 12 .done))))))))) 10 (.call 3 (.one 4 (.one 5 (.call 6 (.one 7 (.one 8 (.one 9 (.call 11 (.one 12 .done)))))))))))) 10 (.call 0 (.one 1 (.one 2 (.call 3 (.one 4 (.one 5 (.call 6 (.one 7 (.one 8 (.one 9 (.call 11 (.one 12 .done))))))))))))) (by kernel_rfl) (by kernel_rfl) HS.out.ms ?_
   simp only [laid, Array.getD_eq_getD_getElem?, List.getElem?_toArray, List.getElem?_cons_zero, List.getElem?_cons_succ, Option.getD_some]
   refine gnY (fun V => MH w [(P1, dvC h0 Inst.d0, 37)] [(W1.heap.size, W2.heap.size, fun V => DH V h0 Inst.d0)] V) HS.out (fun V2 HS1 => ?_)
   replace HS := LH HS1
   clear HS1
   refine way_fork ?_ ?_
   · refine yCa (by rfl) (fun K hK => ?_)
     go_simp
     go_at_call 46
     with_reducible refine (HIm.out _).mono ?_
     rintro e W101 ⟨B0, A00, A10, A20, rfl, hB, b0, b1, hlo, hb⟩
     replace HS := LH (HS.out.block hb hB hlo)
     clear hb hB hlo
     have X0 := LH b0
     clear b0 b1
     try go_wp2_with fail
     refine hK.out _ _ (MS w [(B0, #[.slice A00 8 8, .slice A10 9 9, .slice A20 11 11], 22), (P1, dvC h0 Inst.d0, 37)] [] []) (fun _ h => h.sub (by repeat (first | exact List.Sublist.refl _ | apply List.Sublist.cons_cons | apply List.Sublist.cons))) (HS.out.ms.sub (by repeat (first | exact List.Sublist.refl _ | apply List.Sublist.cons_cons | apply List.Sublist.cons))) ?_
     clear hK K
     try simp only [Act.put, sA, sB, sC]
     refine ySt ?_ (by rfl) (fun W9 hW9 => ?_) ?_
     rotate_left
     · (go_simp <;> with_reducible rfl)
     simp only [Act.put, sA, sB, sC]
     refine ySt ?_ (by rfl) (fun W9 hW9 => ?_) ?_
     rotate_left
     · have cB := cAt (k := 0) (v := .slice A00 8 8) (hW9.get 0 rfl) rfl
       try simp only at cB
       (go_simp <;> with_reducible rfl)
     simp only [Act.put, sA, sB, sC]
     refine way_fork ?_ ?_
     · refine yCa (by rfl) (fun K hK => ?_)
       go_simp
       go_at_call 46
       with_reducible refine (HIm.out _).mono ?_
       rintro e W102 ⟨B1, A01, A11, A21, rfl, hB, b0, b1, hlo, hb⟩
       replace HS := LH (HS.out.block hb hB hlo)
       replace X0 := LH (X0.out.later hb)
       clear hb hB hlo
       have X1 := LH b1
       clear b0 b1
       try go_wp2_with fail
       refine hK.out _ _ (MS w [(B1, #[.slice A01 8 8, .slice A11 9 9, .slice A21 11 11], 22), (B0, #[.slice A00 8 8, .slice A10 9 9, .slice A20 11 11], 22), (P1, dvC h0 Inst.d0, 37)] [] []) (fun _ h => h.sub (by repeat (first | exact List.Sublist.refl _ | apply List.Sublist.cons_cons | apply List.Sublist.cons))) (HS.out.ms.sub (by repeat (first | exact List.Sublist.refl _ | apply List.Sublist.cons_cons | apply List.Sublist.cons))) ?_
       clear hK K
       try simp only [Act.put, sA, sB, sC]
       refine ySt ?_ (by rfl) (fun W9 hW9 => ?_) ?_
       rotate_left
       · (go_simp <;> with_reducible rfl)
       simp only [Act.put, sA, sB, sC]
       refine ySt ?_ (by rfl) (fun W9 hW9 => ?_) ?_
       rotate_left
       · have cB := cAt (k := 1) (v := .slice A11 9 9) (hW9.get 0 rfl) rfl
         try simp only at cB
         (go_simp <;> with_reducible rfl)
       simp only [Act.put, sA, sB, sC]
       refine way_fork ?_ ?_
       · refine yCa (by rfl) (fun K hK => ?_)
         go_simp
         go_at_call 47
         with_reducible refine (HMd.out _ _ _ _ _ X0.out X1.out (HMx.out.later HS.out.below)).mono ?_
         rintro e W103 ⟨ap, np, cp, rfl, hb, hn⟩
         replace HS := LH (HS.out.gain hb hn)
         clear hb hn X0 X1
         try go_wp2_with fail
         refine hK.out _ _ (MS w [(B1, #[.slice A01 8 8, .slice A11 9 9, .slice A21 11 11], 22), (B0, #[.slice A00 8 8, .slice A10 9 9, .slice A20 11 11], 22), (P1, dvC h0 Inst.d0, 37)] [] []) (fun _ h => h) (HS.out.ms.sub (by repeat (first | exact List.Sublist.refl _ | apply List.Sublist.cons_cons | apply List.Sublist.cons))) ?_
         clear hK K
         try simp only [Act.put, sA, sB, sC]
         refine ySt ?_ (by rfl) (fun W9 hW9 => ?_) ?_
         rotate_left
         · (go_simp <;> with_reducible rfl)
         simp only [Act.put, sA, sB, sC]
         refine ySt ?_ (by rfl) (fun W9 hW9 => ?_) ?_
         rotate_left
         · (go_simp <;> with_reducible rfl)
         simp only [Act.put, sA, sB, sC]
         refine ySt ?_ (by rfl) (fun W9 hW9 => ?_) ?_
         rotate_left
         · (go_simp <;> with_reducible rfl)
         simp only [Act.put, sA, sB, sC]
         refine yCa (by rfl) (fun K hK => ?_)
         go_simp
         obtain ⟨P3, hP3⟩ : ∃ P, W103.heap.size = P := ⟨_, rfl⟩
         replace HS := LH (HS.out.alloc hP3 zPat 35)
         have hba : Below W103.heap.size W103 (W103.alloc (.cells zPat 35)) := (Below.refl _ _).alloc (Nat.le_refl _) _
         clear hba
         try rw [hP3]
         refine hK.out _ _ (MS w [(B1, #[.slice A01 8 8, .slice A11 9 9, .slice A21 11 11], 22), (B0, #[.slice A00 8 8, .slice A10 9 9, .slice A20 11 11], 22), (P1, dvC h0 Inst.d0, 37)] [] []) (fun _ h => h) (HS.out.ms.sub (by repeat (first | exact List.Sublist.refl _ | apply List.Sublist.cons_cons | apply List.Sublist.cons))) ?_
         clear hK K
         try simp only [Act.put, sA, sB, sC]
         refine gnY (fun V => MH w [(P3, zPat, 35), (B1, #[.slice A01 8 8, .slice A11 9 9, .slice A21 11 11], 22), (B0, #[.slice A00 8 8, .slice A10 9 9, .slice A20 11 11], 22), (P1, dvC h0 Inst.d0, 37)] [(W102.heap.size, W103.heap.size, fun V => OS V ap np cp patL.ops), (W1.heap.size, W2.heap.size, fun V => DH V h0 Inst.d0)] V) HS.out (fun V104 HS1 => ?_)
         replace HS := LH HS1
         clear HS1 hP3
         have HS2 := LH (HS.out.cells 0 rfl (put_zpat ap np cp patL))
         refine yCa (by rfl) (fun K hK => ?_)
         refine wp_store_mid 35 (.tmp 3) (.tmp 30) rfl P3 0 (jbC ap np cp patL) rfl rfl (HS.out.ms.there 0 rfl (by show 6 ≤ 6; decide)) (sJb _ _ _ _) (one_job _ _ _ _) ?_
         refine hK.out _ _ (MS w [(B1, #[.slice A01 8 8, .slice A11 9 9, .slice A21 11 11], 22), (B0, #[.slice A00 8 8, .slice A10 9 9, .slice A20 11 11], 22), (P1, dvC h0 Inst.d0, 37)] [] []) (fun _ h => h) (HS2.out.ms.sub (by repeat (first | exact List.Sublist.refl _ | apply List.Sublist.cons_cons | apply List.Sublist.cons))) ?_
         clear hK K
         try simp only [Act.put]
         refine ySt ?_ (by rfl) (fun W9 hW9 => ?_) ?_
         rotate_left
         · (go_simp <;> with_reducible rfl)
         simp only [Act.put, sA, sB, sC]
         refine way_end ?_
         go_wp2_with fail
         go_meet
         exact ⟨P3, ap, np, cp, _, _, _, _, rfl, rfl, HS2.out.subL (by repeat (first | exact List.Sublist.refl _ | apply List.Sublist.cons_cons | apply List.Sublist.cons))⟩
       · refine yCa (by rfl) (fun K hK => ?_)
         go_simp
         obtain ⟨P3, hP3⟩ : ∃ P, W102.heap.size = P := ⟨_, rfl⟩
         replace HS := LH (HS.out.alloc hP3 zPat 35)
         have hba : Below W102.heap.size W102 (W102.alloc (.cells zPat 35)) := (Below.refl _ _).alloc (Nat.le_refl _) _
         replace X0 := LH (X0.out.later hba)
         replace X1 := LH (X1.out.later hba)
         clear hba
         try rw [hP3]
         refine hK.out _ _ (MS w [(B1, #[.slice A01 8 8, .slice A11 9 9, .slice A21 11 11], 22), (B0, #[.slice A00 8 8, .slice A10 9 9, .slice A20 11 11], 22), (P1, dvC h0 Inst.d0, 37)] [] []) (fun _ h => h) (HS.out.ms.sub (by repeat (first | exact List.Sublist.refl _ | apply List.Sublist.cons_cons | apply List.Sublist.cons))) ?_
         clear hK K
         try simp only [Act.put, sA, sB, sC]
         refine gnY (fun V => MH w [(P3, zPat, 35), (B1, #[.slice A01 8 8, .slice A11 9 9, .slice A21 11 11], 22), (B0, #[.slice A00 8 8, .slice A10 9 9, .slice A20 11 11], 22), (P1, dvC h0 Inst.d0, 37)] [(W1.heap.size, W2.heap.size, fun V => DH V h0 Inst.d0)] V ∧ BS V A00 8 8 Inst.im0 ∧ BS V A11 9 9 Inst.im1) ⟨HS.out, X0.out, X1.out⟩ (fun V105 HX => ?_)
         obtain ⟨HS1, nX0, nX1⟩ := HX
         replace HS := LH HS1
         clear HS1 hP3
         replace X0 := LH nX0
         clear nX0
         replace X1 := LH nX1
         clear nX1
         refine yCa (by rfl) (fun K hK => ?_)
         go_simp
         go_at_call 47
         with_reducible refine (HMd.out _ _ _ _ _ X0.out X1.out (HMx.out.later HS.out.below)).mono ?_
         rintro e W106 ⟨ap, np, cp, rfl, hb, hn⟩
         replace HS := LH (HS.out.gain hb hn)
         clear hb hn X0 X1
         try go_wp2_with fail
         refine hK.out _ _ (MS w [(B1, #[.slice A01 8 8, .slice A11 9 9, .slice A21 11 11], 22), (B0, #[.slice A00 8 8, .slice A10 9 9, .slice A20 11 11], 22), (P1, dvC h0 Inst.d0, 37)] [] []) (fun _ h => h) (HS.out.ms.sub (by repeat (first | exact List.Sublist.refl _ | apply List.Sublist.cons_cons | apply List.Sublist.cons))) ?_
         clear hK K
         try simp only [Act.put, sA, sB, sC]
         refine ySt ?_ (by rfl) (fun W9 hW9 => ?_) ?_
         rotate_left
         · (go_simp <;> with_reducible rfl)
         simp only [Act.put, sA, sB, sC]
         refine ySt ?_ (by rfl) (fun W9 hW9 => ?_) ?_
         rotate_left
         · (go_simp <;> with_reducible rfl)
         simp only [Act.put, sA, sB, sC]
         refine ySt ?_ (by rfl) (fun W9 hW9 => ?_) ?_
         rotate_left
         · (go_simp <;> with_reducible rfl)
         simp only [Act.put, sA, sB, sC]
         have HS2 := LH (HS.out.cells 0 rfl (put_zpat ap np cp patL))
         refine yCa (by rfl) (fun K hK => ?_)
         refine wp_store_mid 35 (.tmp 3) (.tmp 30) rfl P3 0 (jbC ap np cp patL) rfl rfl (HS.out.ms.there 0 rfl (by show 6 ≤ 6; decide)) (sJb _ _ _ _) (one_job _ _ _ _) ?_
         refine hK.out _ _ (MS w [(B1, #[.slice A01 8 8, .slice A11 9 9, .slice A21 11 11], 22), (B0, #[.slice A00 8 8, .slice A10 9 9, .slice A20 11 11], 22), (P1, dvC h0 Inst.d0, 37)] [] []) (fun _ h => h) (HS2.out.ms.sub (by repeat (first | exact List.Sublist.refl _ | apply List.Sublist.cons_cons | apply List.Sublist.cons))) ?_
         clear hK K
         try simp only [Act.put]
         refine ySt ?_ (by rfl) (fun W9 hW9 => ?_) ?_
         rotate_left
         · (go_simp <;> with_reducible rfl)
         simp only [Act.put, sA, sB, sC]
         refine way_end ?_
         go_wp2_with fail
         go_meet
         exact ⟨P3, ap, np, cp, _, _, _, _, rfl, rfl, HS2.out.subL (by repeat (first | exact List.Sublist.refl _ | apply List.Sublist.cons_cons | apply List.Sublist.cons))⟩
     · refine yCa (by rfl) (fun K hK => ?_)
       go_simp
       obtain ⟨P3, hP3⟩ : ∃ P, W101.heap.size = P := ⟨_, rfl⟩
       replace HS := LH (HS.out.alloc hP3 zPat 35)
       have hba : Below W101.heap.size W101 (W101.alloc (.cells zPat 35)) := (Below.refl _ _).alloc (Nat.le_refl _) _
       replace X0 := LH (X0.out.later hba)
       clear hba
       try rw [hP3]
       refine hK.out _ _ (MS w [(B0, #[.slice A00 8 8, .slice A10 9 9, .slice A20 11 11], 22), (P1, dvC h0 Inst.d0, 37)] [] []) (fun _ h => h) (HS.out.ms.sub (by repeat (first | exact List.Sublist.refl _ | apply List.Sublist.cons_cons | apply List.Sublist.cons))) ?_
       clear hK K
       try simp only [Act.put, sA, sB, sC]
       refine gnY (fun V => MH w [(P3, zPat, 35), (B0, #[.slice A00 8 8, .slice A10 9 9, .slice A20 11 11], 22), (P1, dvC h0 Inst.d0, 37)] [(W1.heap.size, W2.heap.size, fun V => DH V h0 Inst.d0)] V ∧ BS V A00 8 8 Inst.im0) ⟨HS.out, X0.out⟩ (fun V107 HX => ?_)
       obtain ⟨HS1, nX0⟩ := HX
       replace HS := LH HS1
       clear HS1 hP3
       replace X0 := LH nX0
       clear nX0
       refine yCa (by rfl) (fun K hK => ?_)
       go_simp
       go_at_call 46
       with_reducible refine (HIm.out _).mono ?_
       rintro e W108 ⟨B1, A01, A11, A21, rfl, hB, b0, b1, hlo, hb⟩
       replace HS := LH (HS.out.block hb hB hlo)
       replace X0 := LH (X0.out.later hb)
       clear hb hB hlo
       have X1 := LH b1
       clear b0 b1
       try go_wp2_with fail
       refine hK.out _ _ (MS w [(B1, #[.slice A01 8 8, .slice A11 9 9, .slice A21 11 11], 22), (B0, #[.slice A00 8 8, .slice A10 9 9, .slice A20 11 11], 22), (P1, dvC h0 Inst.d0, 37)] [] []) (fun _ h => h.sub (by repeat (first | exact List.Sublist.refl _ | apply List.Sublist.cons_cons | apply List.Sublist.cons))) (HS.out.ms.sub (by repeat (first | exact List.Sublist.refl _ | apply List.Sublist.cons_cons | apply List.Sublist.cons))) ?_
       clear hK K
       try simp only [Act.put, sA, sB, sC]
       refine ySt ?_ (by rfl) (fun W9 hW9 => ?_) ?_
       rotate_left
       · (go_simp <;> with_reducible rfl)
       simp only [Act.put, sA, sB, sC]
       refine ySt ?_ (by rfl) (fun W9 hW9 => ?_) ?_
       rotate_left
       · have cB := cAt (k := 1) (v := .slice A11 9 9) (hW9.get 0 rfl) rfl
         try simp only at cB
         (go_simp <;> with_reducible rfl)
       simp only [Act.put, sA, sB, sC]
       refine yCa (by rfl) (fun K hK => ?_)
       go_simp
       go_at_call 47
       with_reducible refine (HMd.out _ _ _ _ _ X0.out X1.out (HMx.out.later HS.out.below)).mono ?_
       rintro e W109 ⟨ap, np, cp, rfl, hb, hn⟩
       replace HS := LH (HS.out.gain hb hn)
       clear hb hn X0 X1
       try go_wp2_with fail
       refine hK.out _ _ (MS w [(B1, #[.slice A01 8 8, .slice A11 9 9, .slice A21 11 11], 22), (B0, #[.slice A00 8 8, .slice A10 9 9, .slice A20 11 11], 22), (P1, dvC h0 Inst.d0, 37)] [] []) (fun _ h => h) (HS.out.ms.sub (by repeat (first | exact List.Sublist.refl _ | apply List.Sublist.cons_cons | apply List.Sublist.cons))) ?_
       clear hK K
       try simp only [Act.put, sA, sB, sC]
       refine ySt ?_ (by rfl) (fun W9 hW9 => ?_) ?_
       rotate_left
       · (go_simp <;> with_reducible rfl)
       simp only [Act.put, sA, sB, sC]
       refine ySt ?_ (by rfl) (fun W9 hW9 => ?_) ?_
       rotate_left
       · (go_simp <;> with_reducible rfl)
       simp only [Act.put, sA, sB, sC]
       refine ySt ?_ (by rfl) (fun W9 hW9 => ?_) ?_
       rotate_left
       · (go_simp <;> with_reducible rfl)
       simp only [Act.put, sA, sB, sC]
       have HS2 := LH (HS.out.cells 1 rfl (put_zpat ap np cp patL))
       refine yCa (by rfl) (fun K hK => ?_)
       refine wp_store_mid 35 (.tmp 3) (.tmp 30) rfl P3 0 (jbC ap np cp patL) rfl rfl (HS.out.ms.there 1 rfl (by show 6 ≤ 6; decide)) (sJb _ _ _ _) (one_job _ _ _ _) ?_
       refine hK.out _ _ (MS w [(B1, #[.slice A01 8 8, .slice A11 9 9, .slice A21 11 11], 22), (B0, #[.slice A00 8 8, .slice A10 9 9, .slice A20 11 11], 22), (P1, dvC h0 Inst.d0, 37)] [] []) (fun _ h => h) (HS2.out.ms.sub (by repeat (first | exact List.Sublist.refl _ | apply List.Sublist.cons_cons | apply List.Sublist.cons))) ?_
       clear hK K
       try simp only [Act.put]
       refine ySt ?_ (by rfl) (fun W9 hW9 => ?_) ?_
       rotate_left
       · (go_simp <;> with_reducible rfl)
       simp only [Act.put, sA, sB, sC]
       refine way_end ?_
       go_wp2_with fail
       go_meet
       exact ⟨P3, ap, np, cp, _, _, _, _, rfl, rfl, HS2.out.subL (by repeat (first | exact List.Sublist.refl _ | apply List.Sublist.cons_cons | apply List.Sublist.cons))⟩
   · refine yCa (by rfl) (fun K hK => ?_)
     go_simp
     obtain ⟨P3, hP3⟩ : ∃ P, V2.heap.size = P := ⟨_, rfl⟩
     replace HS := LH (HS.out.alloc hP3 zPat 35)
     have hba : Below V2.heap.size V2 (V2.alloc (.cells zPat 35)) := (Below.refl _ _).alloc (Nat.le_refl _) _
     clear hba
     try rw [hP3]
     refine hK.out _ _ (MS w [(P1, dvC h0 Inst.d0, 37)] [] []) (fun _ h => h) (HS.out.ms.sub (by repeat (first | exact List.Sublist.refl _ | apply List.Sublist.cons_cons | apply List.Sublist.cons))) ?_
     clear hK K
     try simp only [Act.put, sA, sB, sC]
     refine gnY (fun V => MH w [(P3, zPat, 35), (P1, dvC h0 Inst.d0, 37)] [(W1.heap.size, W2.heap.size, fun V => DH V h0 Inst.d0)] V) HS.out (fun V110 HS1 => ?_)
     replace HS := LH HS1
     clear HS1 hP3
     refine yCa (by rfl) (fun K hK => ?_)
     go_simp
     go_at_call 46
     with_reducible refine (HIm.out _).mono ?_
     rintro e W111 ⟨B0, A00, A10, A20, rfl, hB, b0, b1, hlo, hb⟩
     replace HS := LH (HS.out.block hb hB hlo)
     clear hb hB hlo
     have X0 := LH b0
     clear b0 b1
     try go_wp2_with fail
     refine hK.out _ _ (MS w [(B0, #[.slice A00 8 8, .slice A10 9 9, .slice A20 11 11], 22), (P1, dvC h0 Inst.d0, 37)] [] []) (fun _ h => h.sub (by repeat (first | exact List.Sublist.refl _ | apply List.Sublist.cons_cons | apply List.Sublist.cons))) (HS.out.ms.sub (by repeat (first | exact List.Sublist.refl _ | apply List.Sublist.cons_cons | apply List.Sublist.cons))) ?_
     clear hK K
     try simp only [Act.put, sA, sB, sC]
     refine ySt ?_ (by rfl) (fun W9 hW9 => ?_) ?_
     rotate_left
     · (go_simp <;> with_reducible rfl)
     simp only [Act.put, sA, sB, sC]
     refine ySt ?_ (by rfl) (fun W9 hW9 => ?_) ?_
     rotate_left
     · have cB := cAt (k := 0) (v := .slice A00 8 8) (hW9.get 0 rfl) rfl
       try simp only at cB
       (go_simp <;> with_reducible rfl)
     simp only [Act.put, sA, sB, sC]
     refine yCa (by rfl) (fun K hK => ?_)
     go_simp
     go_at_call 46
     with_reducible refine (HIm.out _).mono ?_
     rintro e W112 ⟨B1, A01, A11, A21, rfl, hB, b0, b1, hlo, hb⟩
     replace HS := LH (HS.out.block hb hB hlo)
     replace X0 := LH (X0.out.later hb)
     clear hb hB hlo
     have X1 := LH b1
     clear b0 b1
     try go_wp2_with fail
     refine hK.out _ _ (MS w [(B1, #[.slice A01 8 8, .slice A11 9 9, .slice A21 11 11], 22), (B0, #[.slice A00 8 8, .slice A10 9 9, .slice A20 11 11], 22), (P1, dvC h0 Inst.d0, 37)] [] []) (fun _ h => h.sub (by repeat (first | exact List.Sublist.refl _ | apply List.Sublist.cons_cons | apply List.Sublist.cons))) (HS.out.ms.sub (by repeat (first | exact List.Sublist.refl _ | apply List.Sublist.cons_cons | apply List.Sublist.cons))) ?_
     clear hK K
     try simp only [Act.put, sA, sB, sC]
     refine ySt ?_ (by rfl) (fun W9 hW9 => ?_) ?_
     rotate_left
     · (go_simp <;> with_reducible rfl)
     simp only [Act.put, sA, sB, sC]
     refine ySt ?_ (by rfl) (fun W9 hW9 => ?_) ?_
     rotate_left
     · have cB := cAt (k := 1) (v := .slice A11 9 9) (hW9.get 0 rfl) rfl
       try simp only at cB
       (go_simp <;> with_reducible rfl)
     simp only [Act.put, sA, sB, sC]
     refine yCa (by rfl) (fun K hK => ?_)
     go_simp
     go_at_call 47
     with_reducible refine (HMd.out _ _ _ _ _ X0.out X1.out (HMx.out.later HS.out.below)).mono ?_
     rintro e W113 ⟨ap, np, cp, rfl, hb, hn⟩
     replace HS := LH (HS.out.gain hb hn)
     clear hb hn X0 X1
     try go_wp2_with fail
     refine hK.out _ _ (MS w [(B1, #[.slice A01 8 8, .slice A11 9 9, .slice A21 11 11], 22), (B0, #[.slice A00 8 8, .slice A10 9 9, .slice A20 11 11], 22), (P1, dvC h0 Inst.d0, 37)] [] []) (fun _ h => h) (HS.out.ms.sub (by repeat (first | exact List.Sublist.refl _ | apply List.Sublist.cons_cons | apply List.Sublist.cons))) ?_
     clear hK K
     try simp only [Act.put, sA, sB, sC]
     refine ySt ?_ (by rfl) (fun W9 hW9 => ?_) ?_
     rotate_left
     · (go_simp <;> with_reducible rfl)
     simp only [Act.put, sA, sB, sC]
     refine ySt ?_ (by rfl) (fun W9 hW9 => ?_) ?_
     rotate_left
     · (go_simp <;> with_reducible rfl)
     simp only [Act.put, sA, sB, sC]
     refine ySt ?_ (by rfl) (fun W9 hW9 => ?_) ?_
     rotate_left
     · (go_simp <;> with_reducible rfl)
     simp only [Act.put, sA, sB, sC]
     have HS2 := LH (HS.out.cells 2 rfl (put_zpat ap np cp patL))
     refine yCa (by rfl) (fun K hK => ?_)
     refine wp_store_mid 35 (.tmp 3) (.tmp 30) rfl P3 0 (jbC ap np cp patL) rfl rfl (HS.out.ms.there 2 rfl (by show 6 ≤ 6; decide)) (sJb _ _ _ _) (one_job _ _ _ _) ?_
     refine hK.out _ _ (MS w [(B1, #[.slice A01 8 8, .slice A11 9 9, .slice A21 11 11], 22), (B0, #[.slice A00 8 8, .slice A10 9 9, .slice A20 11 11], 22), (P1, dvC h0 Inst.d0, 37)] [] []) (fun _ h => h) (HS2.out.ms.sub (by repeat (first | exact List.Sublist.refl _ | apply List.Sublist.cons_cons | apply List.Sublist.cons))) ?_
     clear hK K
     try simp only [Act.put]
     refine ySt ?_ (by rfl) (fun W9 hW9 => ?_) ?_
     rotate_left
     · (go_simp <;> with_reducible rfl)
     simp only [Act.put, sA, sB, sC]
     refine way_end ?_
     go_wp2_with fail
     go_meet
     exact ⟨P3, ap, np, cp, _, _, _, _, rfl, rfl, HS2.out.subL (by repeat (first | exact List.Sublist.refl _ | apply List.Sublist.cons_cons | apply List.Sublist.cons))⟩
 case rest =>
   obtain ⟨P3, ap, np, cp, lo, hi, lo', hi', rfl, rfl, hms⟩ := hcut
   replace HS := LH hms
   clear hms HIm HNw HMd
   have bP3 := HS.out.get 0 rfl
   simp only at bP3
   go_wp2_with (first
     | ((with_reducible show wpList _ _ _ _ _ _); refine LR rfl (t := 35) Tryz.underlying35 rfl (.tmp 3) rfl P3 rfl bP3 (sJb ap np cp patL) ?_))
   clear bP3
   refine (HCs.out ap np cp _ (HS.out.fact 0 rfl)).mono ?_
   rintro e W4 ⟨al, cl, rfl, sl, hb⟩
   replace HS := LH (HS.out.later hb)
   have HL := LH sl
   clear hb sl HCs
   go_upto_region 6 with fail
   go_cut [2] (fun s2 wx => InsCut6 w P1 P3 (jbC ap np cp patL) s2 wx)
   case first =>
     obtain ⟨b, off, rfl, hcs⟩ := (HL.out.later (Below.refl _ _).drew).cells (by omega)
     obtain ⟨va, vm, vc, q0, q1, q2, q3, q4, q5, -⟩ := hcs 0 (by omega)
     clear hcs
     simp only [Nat.zero_mul, Nat.add_zero] at q0 q1 q2 q3 q4
     replace q0 : W4.drew.cell? ⟨b, off, none⟩ = some (.int .i64 1) := q0
     replace q1 : W4.drew.cell? ⟨b, off + 1, none⟩ = some (.int .i64 2) := q1
     replace q2 : W4.drew.cell? ⟨b, off + 2, none⟩ = some (.int .i64 0) := q2
     replace q3 : W4.drew.cell? ⟨b, off + 3, none⟩ = some (.int .i64 1) := q3
     replace q5 : BS W4.drew va vm vc Inst.packL := q5
     have HD0 := LH q5
     clear q5
     refine wp_region_way (S := (fun _ => True)) (.one 1 (.one 2 (.fork 0 (.call 3 (.call 4 (.one 5 (.one 6 (.one 7 (.call 8 (.one 9 .done))))))) 3 (.call 0 (.call 4 (.one 5 (.one 6 (.one 7 (.call 8 (.one 9 .done)))))))))) (by kernel_rfl) (by kernel_rfl) trivial ?_
     simp only [laid, Array.getD_eq_getD_getElem?, List.getElem?_toArray, List.getElem?_cons_zero, List.getElem?_cons_succ, Option.getD_some]
     replace HS := LH HS.out.drew
     refine ySt ?_ (by rfl) (fun W9 hW9 => ?_) ?_
     rotate_left
     · (go_simp <;> with_reducible rfl)
     simp only [Act.put, sA, sB, sC]
     refine ySt ?_ (by rfl) (fun W9 hW9 => ?_) ?_
     rotate_left
     · (go_simp <;> with_reducible rfl)
     simp only [Act.put, sA, sB, sC]
     refine way_fork ?_ ?_
     · refine yCa (by rfl) (fun K hK => ?_)
       refine wp_load_row 37 (.tmp 1) rfl P1 rfl 37 (dvC h0 Inst.d0) (0, 0) _ (HS.out.get 1 rfl) Tryz.underlying37 rfl (sDv _ _) ?_
       refine hK.out _ _ _ (fun _ h => h) trivial ?_
       clear hK K
       try simp only [Act.put, sA, sB, sC]
       refine yCa (by rfl) (fun K hK => ?_)
       go_simp
       refine hK.out _ _ _ (fun _ h => h) trivial ?_
       clear hK K
       try simp only [Act.put, sA, sB, sC]
       refine yCa (by rfl) (fun K hK => ?_)
       go_simp
       go_at_call 15
       with_reducible refine (HHe.out h0 va vm vc _ (HS.out.fact 1 rfl) HD0.out).mono ?_
       rintro e W5 ⟨h1, rfl, hb, hn⟩
       replace HS := LH (HS.out.gain hb hn)
       clear hb hn
       unfold devV
       try go_wp2_with fail
       refine hK.out _ _ _ (fun _ h => h) trivial ?_
       clear hK K
       try simp only [Act.put, sA, sB, sC]
       refine ySt ?_ (by rfl) (fun W9 hW9 => ?_) ?_
       rotate_left
       · (go_simp <;> with_reducible rfl)
       simp only [Act.put, sA, sB, sC]
       refine ySt ?_ (by rfl) (fun W9 hW9 => ?_) ?_
       rotate_left
       · (go_simp <;> with_reducible rfl)
       simp only [Act.put, sA, sB, sC]
       refine ySt ?_ (by rfl) (fun W9 hW9 => ?_) ?_
       rotate_left
       · (go_simp <;> with_reducible rfl)
       simp only [Act.put, sA, sB, sC]
       have HS2 := LH (HS.out.cells 1 rfl (put_dev h0 Inst.d0 h1 Inst.d1))
       refine yCa (by rfl) (fun K hK => ?_)
       refine wp_store_mid 37 (.tmp 1) (.tmp 58) rfl P1 0 (dvC h1 Inst.d1) rfl rfl (HS.out.ms.there 1 rfl (by show 37 ≤ 37; decide)) (sDv _ _) (oDv _ _) ?_
       refine hK.out _ _ _ (fun _ h => h) trivial ?_
       clear hK K
       try simp only [Act.put]
       refine ySt ?_ (by rfl) (fun W9 hW9 => ?_) ?_
       rotate_left
       · (go_simp <;> with_reducible rfl)
       simp only [Act.put, sA, sB, sC]
       refine way_end ?_
       go_wp2_with fail
       go_meet
       exact ⟨h1, _, _, rfl, HS2.out.sub (fun q hq => by rw [List.mem_singleton] at hq; subst hq; exact List.mem_cons_self)⟩
     · refine yCa (by rfl) (fun K hK => ?_)
       go_simp
       refine hK.out _ _ _ (fun _ h => h) trivial ?_
       clear hK K
       try simp only [Act.put, sA, sB, sC]
       refine yCa (by rfl) (fun K hK => ?_)
       refine wp_load_row 37 (.tmp 1) rfl P1 rfl 37 (dvC h0 Inst.d0) (0, 0) _ (HS.out.get 1 rfl) Tryz.underlying37 rfl (sDv _ _) ?_
       refine hK.out _ _ _ (fun _ h => h) trivial ?_
       clear hK K
       try simp only [Act.put, sA, sB, sC]
       refine yCa (by rfl) (fun K hK => ?_)
       go_simp
       go_at_call 15
       with_reducible refine (HHe.out h0 va vm vc _ (HS.out.fact 1 rfl) HD0.out).mono ?_
       rintro e W5 ⟨h1, rfl, hb, hn⟩
       replace HS := LH (HS.out.gain hb hn)
       clear hb hn
       unfold devV
       try go_wp2_with fail
       refine hK.out _ _ _ (fun _ h => h) trivial ?_
       clear hK K
       try simp only [Act.put, sA, sB, sC]
       refine ySt ?_ (by rfl) (fun W9 hW9 => ?_) ?_
       rotate_left
       · (go_simp <;> with_reducible rfl)
       simp only [Act.put, sA, sB, sC]
       refine ySt ?_ (by rfl) (fun W9 hW9 => ?_) ?_
       rotate_left
       · (go_simp <;> with_reducible rfl)
       simp only [Act.put, sA, sB, sC]
       refine ySt ?_ (by rfl) (fun W9 hW9 => ?_) ?_
       rotate_left
       · (go_simp <;> with_reducible rfl)
       simp only [Act.put, sA, sB, sC]
       have HS2 := LH (HS.out.cells 1 rfl (put_dev h0 Inst.d0 h1 Inst.d1))
       refine yCa (by rfl) (fun K hK => ?_)
       refine wp_store_mid 37 (.tmp 1) (.tmp 58) rfl P1 0 (dvC h1 Inst.d1) rfl rfl (HS.out.ms.there 1 rfl (by show 37 ≤ 37; decide)) (sDv _ _) (oDv _ _) ?_
       refine hK.out _ _ _ (fun _ h => h) trivial ?_
       clear hK K
       try simp only [Act.put]
       refine ySt ?_ (by rfl) (fun W9 hW9 => ?_) ?_
       rotate_left
       · (go_simp <;> with_reducible rfl)
       simp only [Act.put, sA, sB, sC]
       refine way_end ?_
       go_wp2_with fail
       go_meet
       exact ⟨h1, _, _, rfl, HS2.out.sub (fun q hq => by rw [List.mem_singleton] at hq; subst hq; exact List.mem_cons_self)⟩
   case rest =>
     obtain ⟨h1, lo1, hi1, rfl, hms⟩ := hcut
     replace HS := LH hms
     clear hms HHe HL
     have bP1 := HS.out.get 1 rfl
     simp only at bP1
     go_wp2_with (first
       | ((with_reducible show wpList _ _ _ _ _ _); refine LR rfl (t := 37) Tryz.underlying37 rfl (.tmp 1) rfl P1 rfl bP1 (sDv h1 Inst.d1) ?_))
     clear bP1
     refine (HOp.out _ _ (HS.out.fact 0 rfl)).mono ?_
     rintro e X2 ⟨h2, rfl, hb, hn⟩
     unfold devV
     try simp only
     replace HS := LH (HS.out.gain hb hn)
     clear hb hn HOp
     have HS2 := LH ((HS.out.set 1 rfl (dvC h2 Inst.d2)).sub (H' := [(_, _, fun V => DH V h2 Inst.d2)]) (fun q hq => by rw [List.mem_singleton] at hq; subst hq; exact List.mem_cons_self))
     have bP1 := HS.out.get 1 rfl
     simp only at bP1
     go_upto_region 8 with (first
       | ((with_reducible show wpList _ _ _ _ _ _); refine wpList_store_row rfl 37 (.tmp 1) (.tmp 63) rfl P1 (dvC h2 Inst.d2) rfl rfl 37 (dvC h1 Inst.d1) ?_ ?_ ?_ ?_ ?_; exact bP1; exact (sDv h2 Inst.d2); exact (lDv h1 h2 Inst.d1 Inst.d2); exact (oDv h2 Inst.d2)))
     clear bP1
     refine gnH HS2.out (fun V202 HS1 => ?_)
     replace HS := LH HS1
     clear HS1 HS2
     have bP1 := HS.out.get 1 rfl
     simp only at bP1
     go_wp2_with (first
       | ((with_reducible show wpList _ _ _ _ _ _); refine LR rfl (t := 37) Tryz.underlying37 rfl (.tmp 1) rfl P1 rfl bP1 (sDv h2 Inst.d2) ?_))
     clear bP1
     refine (HW1.out _ _ (HS.out.fact 0 rfl)).mono ?_
     rintro e X3 ⟨h3, rfl, hb, hn⟩
     unfold devV
     try simp only
     replace HS := LH (HS.out.gain hb hn)
     clear hb hn HW1
     have HS2 := LH ((HS.out.set 1 rfl (dvC h3 Inst.d3)).sub (H' := [(_, _, fun V => DH V h3 Inst.d3)]) (fun q hq => by rw [List.mem_singleton] at hq; subst hq; exact List.mem_cons_self))
     have bP1 := HS.out.get 1 rfl
     simp only at bP1
     go_upto_region 9 with (first
       | ((with_reducible show wpList _ _ _ _ _ _); refine wpList_store_row rfl 37 (.tmp 1) (.tmp 68) rfl P1 (dvC h3 Inst.d3) rfl rfl 37 (dvC h2 Inst.d2) ?_ ?_ ?_ ?_ ?_; exact bP1; exact (sDv h3 Inst.d3); exact (lDv h2 h3 Inst.d2 Inst.d3); exact (oDv h3 Inst.d3)))
     clear bP1
     refine gnH HS2.out (fun V203 HS1 => ?_)
     replace HS := LH HS1
     clear HS1 HS2
     have bP1 := HS.out.get 1 rfl
     simp only at bP1
     go_wp2_with (first
       | ((with_reducible show wpList _ _ _ _ _ _); refine LR rfl (t := 37) Tryz.underlying37 rfl (.tmp 1) rfl P1 rfl bP1 (sDv h3 Inst.d3) ?_))
     clear bP1
     refine (HFL.out _ _ (HS.out.fact 0 rfl)).mono ?_
     rintro e X31 ⟨h31, rfl, hb, hn⟩
     unfold devV
     try simp only
     replace HS := LH (HS.out.later hb)
     clear hb hn HFL
     obtain ⟨P7, hP7⟩ : ∃ P, X31.heap.size = P := ⟨_, rfl⟩
     replace HS := LH (HS.out.alloc hP7 (dvC h31 DevM.noDev) 37)
     go_upto_region 10 with ((with_reducible show wpList _ _ _ _ _ _); refine wSN rfl 37 (.tmp 7) (.tmp 73) rfl P7 (dvC h31 DevM.noDev) rfl rfl 37 _ ?_ ?_ ?_ ?_ ?_; exact hP7.symm; exact (sDv _ _); exact (like_zdev _ _); exact (oDv _ _))
     refine gnH HS.out (fun V231 HS1 => ?_)
     replace HS := LH HS1
     clear HS1 hP7
     have bP1 := HS.out.get 2 rfl
     simp only at bP1
     go_wp2_with (first
       | ((with_reducible show wpList _ _ _ _ _ _); refine LR rfl (t := 37) Tryz.underlying37 rfl (.tmp 1) rfl P1 rfl bP1 (sDv h3 Inst.d3) ?_))
     clear bP1
     refine (HW2.out _ _ (HS.out.fact 0 rfl)).mono ?_
     rintro e X4 ⟨h4, rfl, hb, hn⟩
     unfold devV
     try simp only
     replace HS := LH (HS.out.gain hb hn)
     clear hb hn HW2
     have HS2 := LH ((HS.out.set 2 rfl (dvC h4 Inst.d4)).sub (H' := [(_, _, fun V => DH V h4 Inst.d4)]) (fun q hq => by rw [List.mem_singleton] at hq; subst hq; exact List.mem_cons_self))
     have bP1 := HS.out.get 2 rfl
     simp only at bP1
     go_upto_region 11 with (first
       | ((with_reducible show wpList _ _ _ _ _ _); refine wpList_store_row rfl 37 (.tmp 1) (.tmp 78) rfl P1 (dvC h4 Inst.d4) rfl rfl 37 (dvC h3 Inst.d3) ?_ ?_ ?_ ?_ ?_; exact bP1; exact (sDv h4 Inst.d4); exact (lDv h3 h4 Inst.d3 Inst.d4); exact (oDv h4 Inst.d4)))
     clear bP1
     refine gnH HS2.out (fun V204 HS1 => ?_)
     replace HS := LH HS1
     clear HS1 HS2
     have bP1 := HS.out.get 2 rfl
     simp only at bP1
     go_wp2_with (first
       | ((with_reducible show wpList _ _ _ _ _ _); refine LR rfl (t := 37) Tryz.underlying37 rfl (.tmp 1) rfl P1 rfl bP1 (sDv h4 Inst.d4) ?_))
     clear bP1
     refine (HFi.out _ _ (HS.out.fact 0 rfl)).mono ?_
     rintro e X5 ⟨h5, rfl, hb, hn⟩
     unfold devV
     try simp only
     replace HS := LH (HS.out.gain hb hn)
     clear hb hn HFi
     have HS2 := LH ((HS.out.set 2 rfl (dvC h5 Inst.d5)).sub (H' := [(_, _, fun V => DH V h5 Inst.d5)]) (fun q hq => by rw [List.mem_singleton] at hq; subst hq; exact List.mem_cons_self))
     have bP1 := HS.out.get 2 rfl
     simp only at bP1
     go_upto_region 12 with (first
       | ((with_reducible show wpList _ _ _ _ _ _); refine wpList_store_row rfl 37 (.tmp 1) (.tmp 83) rfl P1 (dvC h5 Inst.d5) rfl rfl 37 (dvC h4 Inst.d4) ?_ ?_ ?_ ?_ ?_; exact bP1; exact (sDv h5 Inst.d5); exact (lDv h4 h5 Inst.d4 Inst.d5); exact (oDv h5 Inst.d5)))
     clear bP1
     refine gnH HS2.out (fun V205 HS1 => ?_)
     replace HS := LH HS1
     clear HS1 HS2
     have bP1 := HS.out.get 2 rfl
     simp only at bP1
     go_wp2_with (first
       | ((with_reducible show wpList _ _ _ _ _ _); refine LR rfl (t := 37) Tryz.underlying37 rfl (.tmp 1) rfl P1 rfl bP1 (sDv h5 Inst.d5) ?_))
     clear bP1
     refine (HCr.out _ _ (HS.out.fact 0 rfl)).mono ?_
     rintro e X6 ⟨h6, rfl, hb, hn⟩
     unfold devV
     try simp only
     replace HS := LH (HS.out.gain hb hn)
     clear hb hn HCr
     have HS2 := LH ((HS.out.set 2 rfl (dvC h6 Inst.d6)).sub (H' := [(_, _, fun V => DH V h6 Inst.d6)]) (fun q hq => by rw [List.mem_singleton] at hq; subst hq; exact List.mem_cons_self))
     have bP1 := HS.out.get 2 rfl
     simp only at bP1
     go_upto_region 13 with (first
       | ((with_reducible show wpList _ _ _ _ _ _); refine wpList_store_row rfl 37 (.tmp 1) (.tmp 88) rfl P1 (dvC h6 Inst.d6) rfl rfl 37 (dvC h5 Inst.d5) ?_ ?_ ?_ ?_ ?_; exact bP1; exact (sDv h6 Inst.d6); exact (lDv h5 h6 Inst.d5 Inst.d6); exact (oDv h6 Inst.d6)))
     clear bP1
     refine gnH HS2.out (fun V206 HS1 => ?_)
     replace HS := LH HS1
     clear HS1 HS2
     have bP1 := HS.out.get 2 rfl
     simp only at bP1
     go_wp2_with (first
       | ((with_reducible show wpList _ _ _ _ _ _); refine LR rfl (t := 37) Tryz.underlying37 rfl (.tmp 1) rfl P1 rfl bP1 (sDv h6 Inst.d6) ?_))
     clear bP1
     refine (HBo.out _ _ (HS.out.fact 0 rfl)).mono ?_
     rintro e X7 ⟨h7, rfl, hb, hn⟩
     unfold devV
     try simp only
     replace HS := LH (HS.out.gain hb hn)
     clear hb hn HBo
     have HS2 := LH ((HS.out.set 2 rfl (dvC h7 Inst.d7)).sub (H' := [(_, _, fun V => DH V h7 Inst.d7)]) (fun q hq => by rw [List.mem_singleton] at hq; subst hq; exact List.mem_cons_self))
     have bP1 := HS.out.get 2 rfl
     simp only at bP1
     go_upto_region 14 with (first
       | ((with_reducible show wpList _ _ _ _ _ _); refine wpList_store_row rfl 37 (.tmp 1) (.tmp 93) rfl P1 (dvC h7 Inst.d7) rfl rfl 37 (dvC h6 Inst.d6) ?_ ?_ ?_ ?_ ?_; exact bP1; exact (sDv h7 Inst.d7); exact (lDv h6 h7 Inst.d6 Inst.d7); exact (oDv h7 Inst.d7)))
     clear bP1
     refine gnH HS2.out (fun V207 HS1 => ?_)
     replace HS := LH HS1
     clear HS1 HS2
     have bP1 := HS.out.get 2 rfl
     simp only at bP1
     go_wp2_with (first
       | ((with_reducible show wpList _ _ _ _ _ _); refine LR rfl (t := 37) Tryz.underlying37 rfl (.tmp 1) rfl P1 rfl bP1 (sDv h7 Inst.d7) ?_))
     clear bP1
     refine (HCo.out _ _ (HS.out.fact 0 rfl)).mono ?_
     rintro e X8 ⟨h8, rfl, hb, hn⟩
     unfold devV
     try simp only
     replace HS := LH (HS.out.gain hb hn)
     clear hb hn HCo
     obtain ⟨P13, hP13⟩ : ∃ P, X8.heap.size = P := ⟨_, rfl⟩
     replace HS := LH (HS.out.alloc hP13 (dvC h8 Inst.d8) 37)
     go_upto_region 15 with ((with_reducible show wpList _ _ _ _ _ _); refine wSN rfl 37 (.tmp 13) (.tmp 98) rfl P13 (dvC h8 Inst.d8) rfl rfl 37 _ ?_ ?_ ?_ ?_ ?_; exact hP13.symm; exact (sDv _ _); exact (like_zdev _ _); exact (oDv _ _))
     refine gnH HS.out (fun V208 HS1 => ?_)
     replace HS := LH HS1
     clear HS1 hP13
     have c27 := cAt (k := 27) (v := .int .i64 Inst.d7.run) (HS.out.get 3 rfl) rfl
     simp only at c27
     rw [Inst.run7] at c27
     have c1 := cAt (k := 1) (v := .slice h7.a1 h7.n1 h7.c1) (HS.out.get 3 rfl) rfl
     simp only at c1
     have b7 := (HS.out.fact 1 rfl).b1
     have hn7 : h7.n1 = 64 := by rw [← b7.len]; exact Inst.len7
     have hc7 := b7.le
     have hcut : ∀ W, (Instr.slice 22 (.slice h7.a1 h7.n1 h7.c1) none (some (.int .i64 (9 : Int))) none).run Tryz.prog W = .ok (.slice h7.a1 9 h7.c1) W := fun W => rCh h7.a1 h7.n1 h7.c1 W 9 (by omega)
     have hst := (b7.head 9 (by omega)).string
     rw [Inst.slot7, show strOfNums Inst.im1 = { data := #[120, 101, 102, 103, 104, 97, 98, 99, 100] } by kernel_rfl] at hst
     have HCk : Hid (∀ W, DH W h8 Inst.d8 → Calls Tryz.prog 10 #[.agg (dvC h8 Inst.d8)] W fun e w' => e = .returned (.int .i64 0) ∧ Below W.heap.size W w') := fun W hd => by
       have := ckD h8 Inst.d8 W hd
       rw [Inst.ck8] at this
       exact this
     have HSm : Hid (∀ W, DH W h8 Inst.d8 → Calls Tryz.prog 11 #[.agg (dvC h8 Inst.d8), .agg (dvC h8 Inst.d8)] W fun e w' => e = .returned (.bool true) ∧ Below W.heap.size W w') := fun W hd => by
       have := sameD_any h8 h8 Inst.d8 Inst.d8 W hd hd
       rw [decide_eq_true rfl] at this
       exact this
     clear b7 hn7 hc7
     have bP13 := HS.out.get 0 rfl
     simp only at bP13
     go_wp2_with (first
       | ((with_reducible show wpList _ _ _ _ _ _); refine wLW (by rfl) 37 (.tmp 13) rfl P13 rfl 37 (dvC h8 Inst.d8) (0, 0) _ ?_ Tryz.underlying37 rfl ?_ ?_; exact bP13; exact (sDv h8 Inst.d8)))
     clear c27 c1 hcut hst bP13
     refine (HCk.out _ (HS.out.fact 0 rfl)).mono ?_
     rintro e Y1 ⟨rfl, hb⟩
     replace HS := LH (HS.out.later hb)
     clear hb
     have bP13 := HS.out.get 0 rfl
     simp only at bP13
     go_wp2_with (first
       | ((with_reducible show wpList _ _ _ _ _ _); refine wLW (by rfl) 37 (.tmp 13) rfl P13 rfl 37 (dvC h8 Inst.d8) (0, 0) _ ?_ Tryz.underlying37 rfl ?_ ?_; exact bP13; exact (sDv h8 Inst.d8)))
     clear bP13
     refine (HSm.out _ (HS.out.fact 0 rfl)).mono ?_
     rintro e Y2 ⟨rfl, hb⟩
     replace HS := LH (HS.out.later hb)
     clear hb
     go_wp2_with fail
     go_ret
     exact ⟨rfl, HS.out.below⟩
theorem tmod_pos (k n : Int) (hn : 0 < n) (h : 0 ≤ k.tmod n) : k.tmod n = k % n := by
 have e := Int.tmod_add_mul_tdiv k n
 have h2 := Int.tmod_lt_of_pos k hn
 conv => rhs; rw [← e, Int.add_mul_emod_self_left, Int.emod_eq_of_lt h h2]
theorem tmod_neg (k n : Int) (hn : 0 < n) (hn2 : n ≤ 9223372036854775807) (h : k.tmod n < 0) : wrap64 (k.tmod n + n) = k % n := by
 have e := Int.tmod_add_mul_tdiv k n
 have h2 := Int.lt_tmod_of_pos k hn
 have e2 : k % n = k.tmod n + n := by
   conv => lhs; rw [← e, Int.add_mul_emod_self_left, ← Int.add_emod_right, Int.emod_eq_of_lt (by omega) (by omega)]
 rw [e2]
 unfold wrap64
 omega
theorem ret_at {a b : Int} (h : a = b) : Ending.returned (.int .i64 a) = .returned (.int .i64 b) := by rw [h]
theorem at_any (k n : Int) (w : World) (hn : 0 < n) (hn2 : n ≤ 9223372036854775807) :
   Calls Tryz.prog 14 #[.int .i64 k, .int .i64 n] w fun e w' => e = .returned (.int .i64 (k % n)) ∧ w = w' := by
 have hz : (n == 0) = false := by simp; omega
 by_cases h0 : 0 ≤ k
 · have hm : k.tmod n = k % n := Int.tmod_eq_emod_of_nonneg h0
   have hm1 : 0 ≤ k % n := Int.emod_nonneg _ (by omega)
   have hm2 : k % n < n := Int.emod_lt_of_pos _ hn
   go_enter Tryz.func14, Tryz.ntmps14
   go_wp2
   go_ret
   exact ⟨rfl, rfl⟩
 · go_enter Tryz.func14, Tryz.ntmps14
   go_wp2
   · go_ret
     exact ⟨ret_at (tmod_neg k n hn hn2 ‹_›), rfl⟩
   · go_ret
     exact ⟨ret_at (tmod_pos k n hn ‹_›), rfl⟩
def HoldCut (w : World) (L : List (Nat × Array Value × TypeId)) (r : DevR × Int) (s14 s15 : Value) (W : World) : Prop :=
 ∃ PX hx lo hi, s14 = .pointer (some ⟨PX, 0, none⟩) ∧ s15 = .int .i64 r.2 ∧ MH w ((PX, dvC hx r.1, 37) :: L) [(lo, hi, fun V => DH V hx r.1)] W
theorem holds_bad (h : DevH) (d : DevR) (x : ChR) (xa : Option Addr) (xm xc : Nat) (kind n : Int) (w : World) (HD : DH w h d) (HX : CV w (.agg #[.int .i64 x.fr, .int .i64 x.to_, .int .i64 x.n, .int .i64 x.of_, .slice xa xm xc]) x) (hM : MaxCell w) (E : Int) (hE : DevM.check d = E) (h0 : E ≠ 0) : Calls Tryz.prog 5 #[.agg (dvC h d), .agg #[.int .i64 x.fr, .int .i64 x.to_, .int .i64 x.n, .int .i64 x.of_, .slice xa xm xc], .int .i64 kind, .int .i64 n] w fun e w' => e = .returned (.bool true) ∧ Below w.heap.size w w' := by
 have HIn := LH (fun W hm => installed_any W hm)
 have HMx := LH hM
 clear hM
 have HCk : Hid (∀ W, DH W h d → Calls Tryz.prog 10 #[.agg (dvC h d)] W fun e w' => e = .returned (.int .i64 E) ∧ Below W.heap.size W w') := fun W hd => by
   have := ckD h d W hd
   rw [hE] at this
   exact this
 have HDh := LH HD
 clear HD
 have HXh := LH HX
 clear HX
 have t0 : (E != 0) = true := by simp [h0]
 clear hE h0
 obtain ⟨P1, hP1⟩ : ∃ P, w.heap.size = P := ⟨_, rfl⟩
 have HS := LH (((((((MS.start w).alloc (p := P1) (by simp [hP1]) (dvC h d) 37)).alloc (p := (P1 + 1)) (by simp [hP1]) #[.int .i64 x.fr, .int .i64 x.to_, .int .i64 x.n, .int .i64 x.of_, .slice xa xm xc] 39)).alloc (p := (P1 + 2)) (by simp [hP1]) #[.int .i64 n] 3))
 go_enter Tryz.func5, Tryz.ntmps5
 go_upto_region 1 with fail
 refine wp_gen HS.out (fun V0 HS1 => ?_)
 replace HS := LH HS1
 clear HS1 hP1
 replace HS := LH (MH.of HS.out)
 go_wp2_with fail
 refine (HIn.out _ (HMx.out.later HS.out.below)).mono ?_
 rintro e W1 ⟨rfl, hb⟩
 replace HS := LH (HS.out.later hb)
 clear hb
 have bP1 := HS.out.get 2 rfl
 simp only at bP1
 go_wp2_with (first
   | ((with_reducible show wpList _ _ _ _ _ _); refine wLW (by rfl) 37 (.tmp 4) rfl P1 rfl 37 (dvC h d) (0, 0) _ ?_ Tryz.underlying37 rfl ?_ ?_; exact bP1; exact (sDv h d)))
 clear bP1
 refine (HCk.out _ (HDh.out.later HS.out.below)).mono ?_
 rintro e W2 ⟨rfl, hb⟩
 replace HS := LH (HS.out.later hb)
 clear hb
 go_wp2_with fail
 refine (HIn.out _ (HMx.out.later HS.out.below)).mono ?_
 rintro e W3 ⟨rfl, hb⟩
 replace HS := LH (HS.out.later hb)
 clear hb
 go_wp2_with fail
 go_ret
 exact ⟨rfl, HS.out.below⟩
theorem holds_ok (h : DevH) (d : DevR) (x : ChR) (xa : Option Addr) (xm xc : Nat) (kind n : Int) (w : World) (HD : DH w h d) (HX : CV w (.agg #[.int .i64 x.fr, .int .i64 x.to_, .int .i64 x.n, .int .i64 x.of_, .slice xa xm xc]) x) (hM : MaxCell w) (hE : DevM.check d = 0) : Calls Tryz.prog 5 #[.agg (dvC h d), .agg #[.int .i64 x.fr, .int .i64 x.to_, .int .i64 x.n, .int .i64 x.of_, .slice xa xm xc], .int .i64 kind, .int .i64 n] w fun e w' => e = .returned (.bool true) ∧ Below w.heap.size w w' := by
 have HIn := LH (fun W hm => installed_any W hm)
 have HMx := LH hM
 clear hM
 have HCk : Hid (∀ W, DH W h d → Calls Tryz.prog 10 #[.agg (dvC h d)] W fun e w' => e = .returned (.int .i64 0) ∧ Below W.heap.size W w') := fun W hd => by
   have := ckD h d W hd
   rw [hE] at this
   exact this
 have HDh := LH HD
 clear HD
 have HXh := LH HX
 clear HX
 have hok := DevM.ok_iff.1 hE
 clear hE
 have HRd : Hid (∀ W, Calls Tryz.prog 28 #[.agg (cpC d.c)] W fun e w' => e = .returned (.tuple #[.agg (rcC (DevM.rc d)), .int .i64 (RecM.newest d.c), .int .i64 0]) ∧ Below W.heap.size W w') := fun W => by
   have := rdR d.c W
   rw [RecM.readOf_ok hok.cops] at this
   exact this
 obtain ⟨J, hJ, hJl⟩ : ∃ J : Int, kind % 7 = J ∧ (J = 0 ∨ J = 1 ∨ J = 2 ∨ J = 3 ∨ J = 4 ∨ J = 5 ∨ J = 6) := ⟨_, rfl, by omega⟩
 have HAt : Hid (∀ W, Calls Tryz.prog 14 #[.int .i64 kind, .int .i64 7] W fun e w' => e = .returned (.int .i64 J) ∧ W = w') := fun W => by
   have := at_any kind 7 W (by omega) (by omega)
   rw [hJ] at this
   exact this
 have HJL := LH hJl
 clear hJ hJl
 have hmf : ∀ (fn : Fn) (first cap : Array Value) (w : World), (Instr.makeFunc fn first cap).run Tryz.prog w = .ok (.func fn first cap) w := fun _ _ _ _ => rfl
 have HOK := LH hok
 clear hok
 skip
 obtain ⟨P1, hP1⟩ : ∃ P, w.heap.size = P := ⟨_, rfl⟩
 have HS := LH (((((((MS.start w).alloc (p := P1) (by simp [hP1]) (dvC h d) 37)).alloc (p := (P1 + 1)) (by simp [hP1]) #[.int .i64 x.fr, .int .i64 x.to_, .int .i64 x.n, .int .i64 x.of_, .slice xa xm xc] 39)).alloc (p := (P1 + 2)) (by simp [hP1]) #[.int .i64 n] 3))
 go_enter Tryz.func5, Tryz.ntmps5
 go_upto_region 1 with fail
 refine wp_gen HS.out (fun V0 HS1 => ?_)
 replace HS := LH HS1
 clear HS1 hP1
 replace HS := LH (MH.of HS.out)
 go_wp2_with fail
 refine (HIn.out _ (HMx.out.later HS.out.below)).mono ?_
 rintro e W1 ⟨rfl, hb⟩
 replace HS := LH (HS.out.later hb)
 clear hb
 have bP1 := HS.out.get 2 rfl
 simp only at bP1
 go_wp2_with (first
   | ((with_reducible show wpList _ _ _ _ _ _); refine wLW (by rfl) 37 (.tmp 4) rfl P1 rfl 37 (dvC h d) (0, 0) _ ?_ Tryz.underlying37 rfl ?_ ?_; exact bP1; exact (sDv h d)))
 clear bP1
 refine (HCk.out _ (HDh.out.later HS.out.below)).mono ?_
 rintro e W2 ⟨rfl, hb⟩
 replace HS := LH (HS.out.later hb)
 clear hb
 have bP1 := HS.out.get 2 rfl
 simp only at bP1
 go_wp2_with (first
   | ((with_reducible show wpList _ _ _ _ _ _); refine wLP rfl 31 (.tmp 27) rfl P1 2 rfl (dvC h d) 37 (0, 0) ?_ (cpC d.c) ?_ _ Tryz.underlying31 rfl ?_ ?_; exact bP1; exact (part_cops h d); exact (sCp d.c)))
 clear bP1
 refine (HRd.out _).mono ?_
 rintro e W1 ⟨rfl, hb⟩
 replace HS := LH (HS.out.later hb)
 clear hb
 obtain ⟨P9, hP9⟩ : ∃ P, W1.heap.size = P := ⟨_, rfl⟩
 replace HS := LH (HS.out.alloc hP9 (rcC (DevM.rc d)) 28)
 go_upto_region 4 with ((with_reducible show wpList _ _ _ _ _ _); refine wSN rfl 28 (.tmp 9) (.tmp 30) rfl P9 (rcC (DevM.rc d)) rfl rfl 28 _ ?_ ?_ ?_ ?_ ?_; exact hP9.symm; exact (sRc (DevM.rc d)); exact (lRc (DevM.rc d)); exact (oRc (DevM.rc d)))
 refine gnH HS.out (fun V1 HS1 => ?_)
 replace HS := LH HS1
 clear HS1 hP9
 obtain ⟨PA, hPA⟩ : ∃ P, V1.heap.size = P := ⟨_, rfl⟩
 replace HS := LH (HS.out.alloc hPA #[Value.func (.func 29) #[] #[.pointer (some ⟨P1, 0, none⟩), .pointer (some ⟨P1 + 1, 0, none⟩)], Value.func (.func 30) #[] #[.pointer (some ⟨P1, 0, none⟩)], Value.func (.func 31) #[] #[.pointer (some ⟨P1, 0, none⟩), .pointer (some ⟨P1 + 2, 0, none⟩)], Value.func (.func 32) #[] #[.pointer (some ⟨P1, 0, none⟩), .pointer (some ⟨P1 + 2, 0, none⟩)], Value.func (.func 33) #[] #[.pointer (some ⟨P1, 0, none⟩)], Value.func (.func 34) #[] #[.pointer (some ⟨P1, 0, none⟩)], Value.func (.func 35) #[] #[.pointer (some ⟨P1, 0, none⟩)]] 67)
 go_upto_region 5 with fail
 refine gnH HS.out (fun V2 HS1 => ?_)
 replace HS := LH HS1
 clear HS1 hPA hmf
 go_wp2_with fail
 refine (HAt.out _).mono ?_
 rintro e W5 ⟨rfl, rfl⟩
 clear HAt
 go_upto_region 6 with fail
 go_cut [14, 15] (fun s14 s15 wx => HoldCut w [(PA, #[Value.func (.func 29) #[] #[.pointer (some ⟨P1, 0, none⟩), .pointer (some ⟨P1 + 1, 0, none⟩)], Value.func (.func 30) #[] #[.pointer (some ⟨P1, 0, none⟩)], Value.func (.func 31) #[] #[.pointer (some ⟨P1, 0, none⟩), .pointer (some ⟨P1 + 2, 0, none⟩)], Value.func (.func 32) #[] #[.pointer (some ⟨P1, 0, none⟩), .pointer (some ⟨P1 + 2, 0, none⟩)], Value.func (.func 33) #[] #[.pointer (some ⟨P1, 0, none⟩)], Value.func (.func 34) #[] #[.pointer (some ⟨P1, 0, none⟩)], Value.func (.func 35) #[] #[.pointer (some ⟨P1, 0, none⟩)]], 67), (P9, (rcC (DevM.rc d)), 28), ((P1 + 2), #[.int .i64 n], 3), ((P1 + 1), #[.int .i64 x.fr, .int .i64 x.to_, .int .i64 x.n, .int .i64 x.of_, .slice xa xm xc], 39), (P1, (dvC h d), 37)] (DevM.actOf d x n J.toNat) s14 s15 wx)
 case first =>
   clear HIn HMx HCk HRd HOK
   rcases HJL.out with rfl | rfl | rfl | rfl | rfl | rfl | rfl
   · have cf := cAt (k := 0) (v := Value.func (.func 29) #[] #[.pointer (some ⟨P1, 0, none⟩), .pointer (some ⟨P1 + 1, 0, none⟩)]) (HS.out.get 0 rfl) rfl
     try simp only at cf
     go_wp2_with fail
     clear cf
     refine (show Calls _ _ _ _ (GDv (DevM.actOf d x n 0) _) from hold1_any h d x xa xm xc _ _ _ (HDh.out.later HS.out.below) (HXh.out.later HS.out.below) (HS.out.get 3 rfl) (HS.out.get 4 rfl)).mono ?_
     rintro e X1 ⟨hx, rfl, hb, hn⟩
     replace HS := LH (HS.out.gain hb hn)
     clear hb hn
     unfold devV
     try simp only
     skip
     obtain ⟨PX, hPX⟩ : ∃ P, X1.heap.size = P := ⟨_, rfl⟩
     replace HS := LH (HS.out.alloc hPX (dvC hx (DevM.actOf d x n 0).1) 37)
     go_wp2_with ((with_reducible show wpList _ _ _ _ _ _); refine wSN rfl 37 (.tmp 14) (.tmp 51) rfl PX (dvC hx (DevM.actOf d x n 0).1) rfl rfl 37 _ ?_ ?_ ?_ ?_ ?_; exact hPX.symm; exact (sDv hx (DevM.actOf d x n 0).1); exact (like_zdev _ _); exact (oDv hx (DevM.actOf d x n 0).1))
     go_meet
     exact ⟨PX, hx, _, _, rfl, rfl, HS.out⟩
   · have cf := cAt (k := 1) (v := Value.func (.func 30) #[] #[.pointer (some ⟨P1, 0, none⟩)]) (HS.out.get 0 rfl) rfl
     try simp only at cf
     go_wp2_with fail
     clear cf
     refine (show Calls _ _ _ _ (GDv (DevM.actOf d x n 1) _) from hold2_any h d _ _ (HDh.out.later HS.out.below) (HS.out.get 4 rfl)).mono ?_
     rintro e X1 ⟨hx, rfl, hb, hn⟩
     replace HS := LH (HS.out.gain hb hn)
     clear hb hn
     unfold devV
     try simp only
     skip
     obtain ⟨PX, hPX⟩ : ∃ P, X1.heap.size = P := ⟨_, rfl⟩
     replace HS := LH (HS.out.alloc hPX (dvC hx (DevM.actOf d x n 1).1) 37)
     go_wp2_with ((with_reducible show wpList _ _ _ _ _ _); refine wSN rfl 37 (.tmp 14) (.tmp 51) rfl PX (dvC hx (DevM.actOf d x n 1).1) rfl rfl 37 _ ?_ ?_ ?_ ?_ ?_; exact hPX.symm; exact (sDv hx (DevM.actOf d x n 1).1); exact (like_zdev _ _); exact (oDv hx (DevM.actOf d x n 1).1))
     go_meet
     exact ⟨PX, hx, _, _, rfl, rfl, HS.out⟩
   · have cf := cAt (k := 2) (v := Value.func (.func 31) #[] #[.pointer (some ⟨P1, 0, none⟩), .pointer (some ⟨P1 + 2, 0, none⟩)]) (HS.out.get 0 rfl) rfl
     try simp only at cf
     go_wp2_with fail
     clear cf
     refine (show Calls _ _ _ _ (GDv (DevM.actOf d x n 2) _) from hold3_any h d n _ _ _ (HDh.out.later HS.out.below) (HS.out.get 2 rfl) (HS.out.get 4 rfl)).mono ?_
     rintro e X1 ⟨hx, rfl, hb, hn⟩
     replace HS := LH (HS.out.gain hb hn)
     clear hb hn
     unfold devV
     try simp only
     skip
     obtain ⟨PX, hPX⟩ : ∃ P, X1.heap.size = P := ⟨_, rfl⟩
     replace HS := LH (HS.out.alloc hPX (dvC hx (DevM.actOf d x n 2).1) 37)
     go_wp2_with ((with_reducible show wpList _ _ _ _ _ _); refine wSN rfl 37 (.tmp 14) (.tmp 51) rfl PX (dvC hx (DevM.actOf d x n 2).1) rfl rfl 37 _ ?_ ?_ ?_ ?_ ?_; exact hPX.symm; exact (sDv hx (DevM.actOf d x n 2).1); exact (like_zdev _ _); exact (oDv hx (DevM.actOf d x n 2).1))
     go_meet
     exact ⟨PX, hx, _, _, rfl, rfl, HS.out⟩
   · have cf := cAt (k := 3) (v := Value.func (.func 32) #[] #[.pointer (some ⟨P1, 0, none⟩), .pointer (some ⟨P1 + 2, 0, none⟩)]) (HS.out.get 0 rfl) rfl
     try simp only at cf
     go_wp2_with fail
     clear cf
     refine (show Calls _ _ _ _ (GDv (DevM.actOf d x n 3) _) from hold4_any h d n _ _ _ (HDh.out.later HS.out.below) (HS.out.get 2 rfl) (HS.out.get 4 rfl)).mono ?_
     rintro e X1 ⟨hx, rfl, hb, hn⟩
     replace HS := LH (HS.out.gain hb hn)
     clear hb hn
     unfold devV
     try simp only
     skip
     obtain ⟨PX, hPX⟩ : ∃ P, X1.heap.size = P := ⟨_, rfl⟩
     replace HS := LH (HS.out.alloc hPX (dvC hx (DevM.actOf d x n 3).1) 37)
     go_wp2_with ((with_reducible show wpList _ _ _ _ _ _); refine wSN rfl 37 (.tmp 14) (.tmp 51) rfl PX (dvC hx (DevM.actOf d x n 3).1) rfl rfl 37 _ ?_ ?_ ?_ ?_ ?_; exact hPX.symm; exact (sDv hx (DevM.actOf d x n 3).1); exact (like_zdev _ _); exact (oDv hx (DevM.actOf d x n 3).1))
     go_meet
     exact ⟨PX, hx, _, _, rfl, rfl, HS.out⟩
   · have cf := cAt (k := 4) (v := Value.func (.func 33) #[] #[.pointer (some ⟨P1, 0, none⟩)]) (HS.out.get 0 rfl) rfl
     try simp only at cf
     go_wp2_with fail
     clear cf
     refine (show Calls _ _ _ _ (GDv (DevM.actOf d x n 4) _) from hold5_any h d _ _ (HDh.out.later HS.out.below) (HS.out.get 4 rfl)).mono ?_
     rintro e X1 ⟨hx, rfl, hb, hn⟩
     replace HS := LH (HS.out.gain hb hn)
     clear hb hn
     unfold devV
     try simp only
     skip
     obtain ⟨PX, hPX⟩ : ∃ P, X1.heap.size = P := ⟨_, rfl⟩
     replace HS := LH (HS.out.alloc hPX (dvC hx (DevM.actOf d x n 4).1) 37)
     go_wp2_with ((with_reducible show wpList _ _ _ _ _ _); refine wSN rfl 37 (.tmp 14) (.tmp 51) rfl PX (dvC hx (DevM.actOf d x n 4).1) rfl rfl 37 _ ?_ ?_ ?_ ?_ ?_; exact hPX.symm; exact (sDv hx (DevM.actOf d x n 4).1); exact (like_zdev _ _); exact (oDv hx (DevM.actOf d x n 4).1))
     go_meet
     exact ⟨PX, hx, _, _, rfl, rfl, HS.out⟩
   · have cf := cAt (k := 5) (v := Value.func (.func 34) #[] #[.pointer (some ⟨P1, 0, none⟩)]) (HS.out.get 0 rfl) rfl
     try simp only at cf
     go_wp2_with fail
     clear cf
     refine (show Calls _ _ _ _ (GDv (DevM.actOf d x n 5) _) from hold6_any h d _ _ (HDh.out.later HS.out.below) (HS.out.get 4 rfl)).mono ?_
     rintro e X1 ⟨hx, rfl, hb, hn⟩
     replace HS := LH (HS.out.gain hb hn)
     clear hb hn
     unfold devV
     try simp only
     skip
     obtain ⟨PX, hPX⟩ : ∃ P, X1.heap.size = P := ⟨_, rfl⟩
     replace HS := LH (HS.out.alloc hPX (dvC hx (DevM.actOf d x n 5).1) 37)
     go_wp2_with ((with_reducible show wpList _ _ _ _ _ _); refine wSN rfl 37 (.tmp 14) (.tmp 51) rfl PX (dvC hx (DevM.actOf d x n 5).1) rfl rfl 37 _ ?_ ?_ ?_ ?_ ?_; exact hPX.symm; exact (sDv hx (DevM.actOf d x n 5).1); exact (like_zdev _ _); exact (oDv hx (DevM.actOf d x n 5).1))
     go_meet
     exact ⟨PX, hx, _, _, rfl, rfl, HS.out⟩
   · have cf := cAt (k := 6) (v := Value.func (.func 35) #[] #[.pointer (some ⟨P1, 0, none⟩)]) (HS.out.get 0 rfl) rfl
     try simp only at cf
     go_wp2_with fail
     clear cf
     refine (show Calls _ _ _ _ (GDv (DevM.actOf d x n 6) _) from hold7_any h d _ _ (HDh.out.later HS.out.below) (HS.out.get 4 rfl)).mono ?_
     rintro e X1 ⟨hx, rfl, hb, hn⟩
     replace HS := LH (HS.out.gain hb hn)
     clear hb hn
     unfold devV
     try simp only
     skip
     obtain ⟨PX, hPX⟩ : ∃ P, X1.heap.size = P := ⟨_, rfl⟩
     replace HS := LH (HS.out.alloc hPX (dvC hx (DevM.actOf d x n 6).1) 37)
     go_wp2_with ((with_reducible show wpList _ _ _ _ _ _); refine wSN rfl 37 (.tmp 14) (.tmp 51) rfl PX (dvC hx (DevM.actOf d x n 6).1) rfl rfl 37 _ ?_ ?_ ?_ ?_ ?_; exact hPX.symm; exact (sDv hx (DevM.actOf d x n 6).1); exact (like_zdev _ _); exact (oDv hx (DevM.actOf d x n 6).1))
     go_meet
     exact ⟨PX, hx, _, _, rfl, rfl, HS.out⟩
 case rest =>
   obtain ⟨PX, hx, lo, hi, rfl, rfl, hms⟩ := hcut
   replace HS := LH hms
   clear hms
   obtain ⟨⟨xd, E⟩, hr⟩ : ∃ r, DevM.actOf d x n J.toNat = r := ⟨_, rfl⟩
   rw [hr] at HS ⊢
   simp only at HS ⊢
   by_cases hE : E = 0
   · subst hE
     have hH := DevM.acts_hold (by have := HJL.out; omega) hr
     have HRx : Hid (∀ W, Calls Tryz.prog 28 #[.agg (cpC xd.c)] W fun e w' => e = .returned (.tuple #[.agg (rcC (DevM.rc xd)), .int .i64 (RecM.newest xd.c), .int .i64 0]) ∧ Below W.heap.size W w') := fun W => by
       have := rdR xd.c W
       rw [RecM.readOf_ok hH.ok.cops] at this
       exact this
     have HCx : Hid (∀ W, DH W hx xd → Calls Tryz.prog 10 #[.agg (dvC hx xd)] W fun e w' => e = .returned (.int .i64 0) ∧ Below W.heap.size W w') := fun W hd => by
       have := ckD hx xd W hd
       rw [DevM.ok_iff.2 hH.ok] at this
       exact this
     have tf : decide ((DevM.rc xd).floor < (DevM.rc d).floor) = false := by have := hH.floor; simp; omega
     have HSl := LH hH.slot
     have HAc := LH hH.act
     have hact := HOK.out.act01
     clear hH hr HIn HMx HCk HRd HXh
     have bPX := HS.out.get 0 rfl
     simp only at bPX
     go_wp2_with (first
       | ((with_reducible show wpList _ _ _ _ _ _); refine wLP rfl 31 (.tmp 56) rfl PX 2 rfl (dvC hx xd) 37 (0, 0) ?_ (cpC xd.c) ?_ _ Tryz.underlying31 rfl ?_ ?_; exact bPX; exact (part_cops hx xd); exact (sCp xd.c)))
     clear bPX
     refine (HRx.out _).mono ?_
     rintro e W1 ⟨rfl, hb⟩
     replace HS := LH (HS.out.later hb)
     clear hb
     obtain ⟨P16, hP16⟩ : ∃ P, W1.heap.size = P := ⟨_, rfl⟩
     replace HS := LH (HS.out.alloc hP16 (rcC (DevM.rc xd)) 28)
     go_upto_region 10 with ((with_reducible show wpList _ _ _ _ _ _); refine wSN rfl 28 (.tmp 16) (.tmp 59) rfl P16 (rcC (DevM.rc xd)) rfl rfl 28 _ ?_ ?_ ?_ ?_ ?_; exact hP16.symm; exact (sRc (DevM.rc xd)); exact (lRc (DevM.rc xd)); exact (oRc (DevM.rc xd)))
     refine gnH HS.out (fun V3 HS1 => ?_)
     replace HS := LH HS1
     clear HS1 hP16 HRx
     rcases hact with ha | ha
     · have ha2 : (DevM.rc d).act = 0 := ha
       clear ha
       have HEq : Hid (∀ W, DH W hx xd → DH W h d → Calls Tryz.prog 27 #[.slice hx.a0 hx.n0 hx.c0, .slice h.a0 h.n0 h.c0] W fun e w' => e = .returned (.bool true) ∧ Below W.heap.size W w') := fun W k1 k2 => by
         have hs := HSl.out
         unfold DevM.slot DevM.act at hs
         rw [ha2] at hs
         refine (eqB _ _ _ _ _ _ _ _ W k1.b0 k2.b0).mono ?_
         rintro e w' ⟨rfl, rfl⟩
         refine ⟨?_, Below.refl _ _⟩
         rw [decide_eq_true]
         simpa using hs
       refine rTu (S := MS w [(P16, (rcC (DevM.rc xd)), 28), (PX, (dvC hx xd), 37), (PA, #[Value.func (.func 29) #[] #[.pointer (some ⟨P1, 0, none⟩), .pointer (some ⟨P1 + 1, 0, none⟩)], Value.func (.func 30) #[] #[.pointer (some ⟨P1, 0, none⟩)], Value.func (.func 31) #[] #[.pointer (some ⟨P1, 0, none⟩), .pointer (some ⟨P1 + 2, 0, none⟩)], Value.func (.func 32) #[] #[.pointer (some ⟨P1, 0, none⟩), .pointer (some ⟨P1 + 2, 0, none⟩)], Value.func (.func 33) #[] #[.pointer (some ⟨P1, 0, none⟩)], Value.func (.func 34) #[] #[.pointer (some ⟨P1, 0, none⟩)], Value.func (.func 35) #[] #[.pointer (some ⟨P1, 0, none⟩)]], 67), (P9, (rcC (DevM.rc d)), 28), ((P1 + 2), #[.int .i64 n], 3), ((P1 + 1), #[.int .i64 x.fr, .int .i64 x.to_, .int .i64 x.n, .int .i64 x.of_, .slice xa xm xc], 39), (P1, (dvC h d), 37)] [] []) [(0, false), (1, false), (2, false), (3, false), (4, true), (5, false), (6, false), (7, false), (8, false), (9, false), (10, false), (11, false), (12, false), (13, false), (14, false), (15, false), (16, false), (17, false), (18, true), (19, false), (20, false), (21, false), (22, false), (23, false), (24, false), (25, false), (26, false), (27, false)] false 9999 (by kernel_rfl) (by kernel_rfl) HS.out.ms.drew ?_
       simp only [turned, gA, gB, gC]
       replace HS := LH HS.out.drew
       have uP9_1 : ∀ W, MS w [(P16, (rcC (DevM.rc xd)), 28), (PX, (dvC hx xd), 37), (PA, #[Value.func (.func 29) #[] #[.pointer (some ⟨P1, 0, none⟩), .pointer (some ⟨P1 + 1, 0, none⟩)], Value.func (.func 30) #[] #[.pointer (some ⟨P1, 0, none⟩)], Value.func (.func 31) #[] #[.pointer (some ⟨P1, 0, none⟩), .pointer (some ⟨P1 + 2, 0, none⟩)], Value.func (.func 32) #[] #[.pointer (some ⟨P1, 0, none⟩), .pointer (some ⟨P1 + 2, 0, none⟩)], Value.func (.func 33) #[] #[.pointer (some ⟨P1, 0, none⟩)], Value.func (.func 34) #[] #[.pointer (some ⟨P1, 0, none⟩)], Value.func (.func 35) #[] #[.pointer (some ⟨P1, 0, none⟩)]], 67), (P9, (rcC (DevM.rc d)), 28), ((P1 + 2), #[.int .i64 n], 3), ((P1 + 1), #[.int .i64 x.fr, .int .i64 x.to_, .int .i64 x.n, .int .i64 x.of_, .slice xa xm xc], 39), (P1, (dvC h d), 37)] [] [] W → W.cell? ⟨P9, 1, none⟩ = some (.int .i64 0) := fun W hW => by
         have := cAt (k := 1) (v := .int .i64 (DevM.rc d).act) (hW.get 3 rfl) rfl
         rwa [ha2] at this
       have uPX_0 : ∀ W, MS w [(P16, (rcC (DevM.rc xd)), 28), (PX, (dvC hx xd), 37), (PA, #[Value.func (.func 29) #[] #[.pointer (some ⟨P1, 0, none⟩), .pointer (some ⟨P1 + 1, 0, none⟩)], Value.func (.func 30) #[] #[.pointer (some ⟨P1, 0, none⟩)], Value.func (.func 31) #[] #[.pointer (some ⟨P1, 0, none⟩), .pointer (some ⟨P1 + 2, 0, none⟩)], Value.func (.func 32) #[] #[.pointer (some ⟨P1, 0, none⟩), .pointer (some ⟨P1 + 2, 0, none⟩)], Value.func (.func 33) #[] #[.pointer (some ⟨P1, 0, none⟩)], Value.func (.func 34) #[] #[.pointer (some ⟨P1, 0, none⟩)], Value.func (.func 35) #[] #[.pointer (some ⟨P1, 0, none⟩)]], 67), (P9, (rcC (DevM.rc d)), 28), ((P1 + 2), #[.int .i64 n], 3), ((P1 + 1), #[.int .i64 x.fr, .int .i64 x.to_, .int .i64 x.n, .int .i64 x.of_, .slice xa xm xc], 39), (P1, (dvC h d), 37)] [] [] W → W.cell? ⟨PX, 0, none⟩ = some (.slice hx.a0 hx.n0 hx.c0) := fun W hW => cAt (hW.get 1 rfl) rfl
       have uP1_0 : ∀ W, MS w [(P16, (rcC (DevM.rc xd)), 28), (PX, (dvC hx xd), 37), (PA, #[Value.func (.func 29) #[] #[.pointer (some ⟨P1, 0, none⟩), .pointer (some ⟨P1 + 1, 0, none⟩)], Value.func (.func 30) #[] #[.pointer (some ⟨P1, 0, none⟩)], Value.func (.func 31) #[] #[.pointer (some ⟨P1, 0, none⟩), .pointer (some ⟨P1 + 2, 0, none⟩)], Value.func (.func 32) #[] #[.pointer (some ⟨P1, 0, none⟩), .pointer (some ⟨P1 + 2, 0, none⟩)], Value.func (.func 33) #[] #[.pointer (some ⟨P1, 0, none⟩)], Value.func (.func 34) #[] #[.pointer (some ⟨P1, 0, none⟩)], Value.func (.func 35) #[] #[.pointer (some ⟨P1, 0, none⟩)]], 67), (P9, (rcC (DevM.rc d)), 28), ((P1 + 2), #[.int .i64 n], 3), ((P1 + 1), #[.int .i64 x.fr, .int .i64 x.to_, .int .i64 x.n, .int .i64 x.of_, .slice xa xm xc], 39), (P1, (dvC h d), 37)] [] [] W → W.cell? ⟨P1, 0, none⟩ = some (.slice h.a0 h.n0 h.c0) := fun W hW => cAt (hW.get 6 rfl) rfl
       have uP16_4 : ∀ W, MS w [(P16, (rcC (DevM.rc xd)), 28), (PX, (dvC hx xd), 37), (PA, #[Value.func (.func 29) #[] #[.pointer (some ⟨P1, 0, none⟩), .pointer (some ⟨P1 + 1, 0, none⟩)], Value.func (.func 30) #[] #[.pointer (some ⟨P1, 0, none⟩)], Value.func (.func 31) #[] #[.pointer (some ⟨P1, 0, none⟩), .pointer (some ⟨P1 + 2, 0, none⟩)], Value.func (.func 32) #[] #[.pointer (some ⟨P1, 0, none⟩), .pointer (some ⟨P1 + 2, 0, none⟩)], Value.func (.func 33) #[] #[.pointer (some ⟨P1, 0, none⟩)], Value.func (.func 34) #[] #[.pointer (some ⟨P1, 0, none⟩)], Value.func (.func 35) #[] #[.pointer (some ⟨P1, 0, none⟩)]], 67), (P9, (rcC (DevM.rc d)), 28), ((P1 + 2), #[.int .i64 n], 3), ((P1 + 1), #[.int .i64 x.fr, .int .i64 x.to_, .int .i64 x.n, .int .i64 x.of_, .slice xa xm xc], 39), (P1, (dvC h d), 37)] [] [] W → W.cell? ⟨P16, 4, none⟩ = some (.int .i64 (DevM.rc xd).floor) := fun W hW => cAt (hW.get 0 rfl) rfl
       have uP9_4 : ∀ W, MS w [(P16, (rcC (DevM.rc xd)), 28), (PX, (dvC hx xd), 37), (PA, #[Value.func (.func 29) #[] #[.pointer (some ⟨P1, 0, none⟩), .pointer (some ⟨P1 + 1, 0, none⟩)], Value.func (.func 30) #[] #[.pointer (some ⟨P1, 0, none⟩)], Value.func (.func 31) #[] #[.pointer (some ⟨P1, 0, none⟩), .pointer (some ⟨P1 + 2, 0, none⟩)], Value.func (.func 32) #[] #[.pointer (some ⟨P1, 0, none⟩), .pointer (some ⟨P1 + 2, 0, none⟩)], Value.func (.func 33) #[] #[.pointer (some ⟨P1, 0, none⟩)], Value.func (.func 34) #[] #[.pointer (some ⟨P1, 0, none⟩)], Value.func (.func 35) #[] #[.pointer (some ⟨P1, 0, none⟩)]], 67), (P9, (rcC (DevM.rc d)), 28), ((P1 + 2), #[.int .i64 n], 3), ((P1 + 1), #[.int .i64 x.fr, .int .i64 x.to_, .int .i64 x.n, .int .i64 x.of_, .slice xa xm xc], 39), (P1, (dvC h d), 37)] [] [] W → W.cell? ⟨P9, 4, none⟩ = some (.int .i64 (DevM.rc d).floor) := fun W hW => cAt (hW.get 3 rfl) rfl
       repeat (first
         | ((refine turn_row (by rfl) 37 (.tmp 14) rfl PX rfl 37 (dvC hx xd) _ (fun W hW => hW.get 1 rfl) Tryz.underlying37 rfl (sDv hx xd) ?_); simp only [Act.put, sA, sB, sC])
         | (refine tSt ?_ (by rfl) (fun W9 hW9 => ?_) ?_
            rotate_left
            · (go_simp <;> with_reducible rfl)
            simp only [Act.put, sA, sB, sC])
         | (refine tSk (by rfl) ?_; simp only [Act.put, sA, sB, sC]))
       refine tCa (fun K hK => ?_)
       go_simp
       go_at_call 10
       with_reducible refine (HCx.out _ (HS.out.fact 0 rfl)).mono ?_
       rintro e W2 ⟨rfl, hb⟩
       replace HS := LH (HS.out.later hb)
       clear hb
       try go_wp2_with fail
       refine hK.out _ _ HS.out.ms ?_
       clear hK K
       try simp only [Act.put, sA, sB, sC]
       repeat (first
         | (refine tSt ?_ (by rfl) (fun W9 hW9 => ?_) ?_
            rotate_left
            · (go_simp <;> with_reducible rfl)
            simp only [Act.put, sA, sB, sC])
         | (refine tSk (by rfl) ?_; simp only [Act.put, sA, sB, sC]))
       refine tCa (fun K hK => ?_)
       go_simp
       go_at_call 27
       with_reducible refine (HEq.out _ (HS.out.fact 0 rfl) (HDh.out.later HS.out.below)).mono ?_
       rintro e W3 ⟨rfl, hb⟩
       replace HS := LH (HS.out.later hb)
       clear hb
       try go_wp2_with fail
       refine hK.out _ _ HS.out.ms ?_
       clear hK K
       try simp only [Act.put, sA, sB, sC]
       repeat (first
         | (refine tSt ?_ (by rfl) (fun W9 hW9 => ?_) ?_
            rotate_left
            · (go_simp <;> with_reducible rfl)
            simp only [Act.put, sA, sB, sC])
         | (refine tSk (by rfl) ?_; simp only [Act.put, sA, sB, sC]))
       clear uP9_1 uPX_0 uP1_0 uP16_4 uP9_4
       refine tEn ?_
       clear HCx HEq tf HSl
       have c1 := cAt (k := 1) (v := .int .i64 (DevM.rc xd).act) (HS.out.get 0 rfl) rfl
       have c2 := cAt (k := 1) (v := .int .i64 (DevM.rc d).act) (HS.out.get 3 rfl) rfl
       rw [ha2] at c2
       have c3 := cAt (k := 2) (v := .bool (DevM.rc d).trying) (HS.out.get 3 rfl) rfl
       try simp only at c1 c2 c3
       by_cases hq : (DevM.rc xd).act = 0
       · rw [hq] at c1
         go_wp2_with fail
         go_ret
         exact ⟨rfl, HS.out.below⟩
       · have hj : J = 6 ∧ (DevM.rc d).trying = true := by
           rcases HAc.out with z | ⟨z1, z2⟩
           · exact absurd (by unfold DevM.act at z; rw [z]; exact ha2) hq
           · exact ⟨by have := HJL.out; omega, z2⟩
         obtain ⟨rfl, htr⟩ := hj
         rw [htr] at c3
         have hqb : ((DevM.rc xd).act == 0) = false := by simpa using hq
         go_wp2_with fail
         go_ret
         exact ⟨rfl, HS.out.below⟩
     · have ha2 : (DevM.rc d).act = 1 := ha
       clear ha
       have HEq : Hid (∀ W, DH W hx xd → DH W h d → Calls Tryz.prog 27 #[.slice hx.a1 hx.n1 hx.c1, .slice h.a1 h.n1 h.c1] W fun e w' => e = .returned (.bool true) ∧ Below W.heap.size W w') := fun W k1 k2 => by
         have hs := HSl.out
         unfold DevM.slot DevM.act at hs
         rw [ha2] at hs
         refine (eqB _ _ _ _ _ _ _ _ W k1.b1 k2.b1).mono ?_
         rintro e w' ⟨rfl, rfl⟩
         refine ⟨?_, Below.refl _ _⟩
         rw [decide_eq_true]
         simpa using hs
       refine rTu (S := MS w [(P16, (rcC (DevM.rc xd)), 28), (PX, (dvC hx xd), 37), (PA, #[Value.func (.func 29) #[] #[.pointer (some ⟨P1, 0, none⟩), .pointer (some ⟨P1 + 1, 0, none⟩)], Value.func (.func 30) #[] #[.pointer (some ⟨P1, 0, none⟩)], Value.func (.func 31) #[] #[.pointer (some ⟨P1, 0, none⟩), .pointer (some ⟨P1 + 2, 0, none⟩)], Value.func (.func 32) #[] #[.pointer (some ⟨P1, 0, none⟩), .pointer (some ⟨P1 + 2, 0, none⟩)], Value.func (.func 33) #[] #[.pointer (some ⟨P1, 0, none⟩)], Value.func (.func 34) #[] #[.pointer (some ⟨P1, 0, none⟩)], Value.func (.func 35) #[] #[.pointer (some ⟨P1, 0, none⟩)]], 67), (P9, (rcC (DevM.rc d)), 28), ((P1 + 2), #[.int .i64 n], 3), ((P1 + 1), #[.int .i64 x.fr, .int .i64 x.to_, .int .i64 x.n, .int .i64 x.of_, .slice xa xm xc], 39), (P1, (dvC h d), 37)] [] []) [(0, false), (1, false), (2, false), (3, false), (4, true), (5, false), (6, false), (7, false), (8, false), (9, false), (10, false), (11, false), (12, false), (13, false), (14, false), (15, false), (16, false), (17, false), (18, true), (19, false), (20, false), (21, false), (22, false), (23, false), (24, false), (25, false), (26, false), (27, false)] false 9999 (by kernel_rfl) (by kernel_rfl) HS.out.ms.drew ?_
       simp only [turned, gA, gB, gC]
       replace HS := LH HS.out.drew
       have uP9_1 : ∀ W, MS w [(P16, (rcC (DevM.rc xd)), 28), (PX, (dvC hx xd), 37), (PA, #[Value.func (.func 29) #[] #[.pointer (some ⟨P1, 0, none⟩), .pointer (some ⟨P1 + 1, 0, none⟩)], Value.func (.func 30) #[] #[.pointer (some ⟨P1, 0, none⟩)], Value.func (.func 31) #[] #[.pointer (some ⟨P1, 0, none⟩), .pointer (some ⟨P1 + 2, 0, none⟩)], Value.func (.func 32) #[] #[.pointer (some ⟨P1, 0, none⟩), .pointer (some ⟨P1 + 2, 0, none⟩)], Value.func (.func 33) #[] #[.pointer (some ⟨P1, 0, none⟩)], Value.func (.func 34) #[] #[.pointer (some ⟨P1, 0, none⟩)], Value.func (.func 35) #[] #[.pointer (some ⟨P1, 0, none⟩)]], 67), (P9, (rcC (DevM.rc d)), 28), ((P1 + 2), #[.int .i64 n], 3), ((P1 + 1), #[.int .i64 x.fr, .int .i64 x.to_, .int .i64 x.n, .int .i64 x.of_, .slice xa xm xc], 39), (P1, (dvC h d), 37)] [] [] W → W.cell? ⟨P9, 1, none⟩ = some (.int .i64 1) := fun W hW => by
         have := cAt (k := 1) (v := .int .i64 (DevM.rc d).act) (hW.get 3 rfl) rfl
         rwa [ha2] at this
       have uPX_1 : ∀ W, MS w [(P16, (rcC (DevM.rc xd)), 28), (PX, (dvC hx xd), 37), (PA, #[Value.func (.func 29) #[] #[.pointer (some ⟨P1, 0, none⟩), .pointer (some ⟨P1 + 1, 0, none⟩)], Value.func (.func 30) #[] #[.pointer (some ⟨P1, 0, none⟩)], Value.func (.func 31) #[] #[.pointer (some ⟨P1, 0, none⟩), .pointer (some ⟨P1 + 2, 0, none⟩)], Value.func (.func 32) #[] #[.pointer (some ⟨P1, 0, none⟩), .pointer (some ⟨P1 + 2, 0, none⟩)], Value.func (.func 33) #[] #[.pointer (some ⟨P1, 0, none⟩)], Value.func (.func 34) #[] #[.pointer (some ⟨P1, 0, none⟩)], Value.func (.func 35) #[] #[.pointer (some ⟨P1, 0, none⟩)]], 67), (P9, (rcC (DevM.rc d)), 28), ((P1 + 2), #[.int .i64 n], 3), ((P1 + 1), #[.int .i64 x.fr, .int .i64 x.to_, .int .i64 x.n, .int .i64 x.of_, .slice xa xm xc], 39), (P1, (dvC h d), 37)] [] [] W → W.cell? ⟨PX, 1, none⟩ = some (.slice hx.a1 hx.n1 hx.c1) := fun W hW => cAt (hW.get 1 rfl) rfl
       have uP1_1 : ∀ W, MS w [(P16, (rcC (DevM.rc xd)), 28), (PX, (dvC hx xd), 37), (PA, #[Value.func (.func 29) #[] #[.pointer (some ⟨P1, 0, none⟩), .pointer (some ⟨P1 + 1, 0, none⟩)], Value.func (.func 30) #[] #[.pointer (some ⟨P1, 0, none⟩)], Value.func (.func 31) #[] #[.pointer (some ⟨P1, 0, none⟩), .pointer (some ⟨P1 + 2, 0, none⟩)], Value.func (.func 32) #[] #[.pointer (some ⟨P1, 0, none⟩), .pointer (some ⟨P1 + 2, 0, none⟩)], Value.func (.func 33) #[] #[.pointer (some ⟨P1, 0, none⟩)], Value.func (.func 34) #[] #[.pointer (some ⟨P1, 0, none⟩)], Value.func (.func 35) #[] #[.pointer (some ⟨P1, 0, none⟩)]], 67), (P9, (rcC (DevM.rc d)), 28), ((P1 + 2), #[.int .i64 n], 3), ((P1 + 1), #[.int .i64 x.fr, .int .i64 x.to_, .int .i64 x.n, .int .i64 x.of_, .slice xa xm xc], 39), (P1, (dvC h d), 37)] [] [] W → W.cell? ⟨P1, 1, none⟩ = some (.slice h.a1 h.n1 h.c1) := fun W hW => cAt (hW.get 6 rfl) rfl
       have uP16_4 : ∀ W, MS w [(P16, (rcC (DevM.rc xd)), 28), (PX, (dvC hx xd), 37), (PA, #[Value.func (.func 29) #[] #[.pointer (some ⟨P1, 0, none⟩), .pointer (some ⟨P1 + 1, 0, none⟩)], Value.func (.func 30) #[] #[.pointer (some ⟨P1, 0, none⟩)], Value.func (.func 31) #[] #[.pointer (some ⟨P1, 0, none⟩), .pointer (some ⟨P1 + 2, 0, none⟩)], Value.func (.func 32) #[] #[.pointer (some ⟨P1, 0, none⟩), .pointer (some ⟨P1 + 2, 0, none⟩)], Value.func (.func 33) #[] #[.pointer (some ⟨P1, 0, none⟩)], Value.func (.func 34) #[] #[.pointer (some ⟨P1, 0, none⟩)], Value.func (.func 35) #[] #[.pointer (some ⟨P1, 0, none⟩)]], 67), (P9, (rcC (DevM.rc d)), 28), ((P1 + 2), #[.int .i64 n], 3), ((P1 + 1), #[.int .i64 x.fr, .int .i64 x.to_, .int .i64 x.n, .int .i64 x.of_, .slice xa xm xc], 39), (P1, (dvC h d), 37)] [] [] W → W.cell? ⟨P16, 4, none⟩ = some (.int .i64 (DevM.rc xd).floor) := fun W hW => cAt (hW.get 0 rfl) rfl
       have uP9_4 : ∀ W, MS w [(P16, (rcC (DevM.rc xd)), 28), (PX, (dvC hx xd), 37), (PA, #[Value.func (.func 29) #[] #[.pointer (some ⟨P1, 0, none⟩), .pointer (some ⟨P1 + 1, 0, none⟩)], Value.func (.func 30) #[] #[.pointer (some ⟨P1, 0, none⟩)], Value.func (.func 31) #[] #[.pointer (some ⟨P1, 0, none⟩), .pointer (some ⟨P1 + 2, 0, none⟩)], Value.func (.func 32) #[] #[.pointer (some ⟨P1, 0, none⟩), .pointer (some ⟨P1 + 2, 0, none⟩)], Value.func (.func 33) #[] #[.pointer (some ⟨P1, 0, none⟩)], Value.func (.func 34) #[] #[.pointer (some ⟨P1, 0, none⟩)], Value.func (.func 35) #[] #[.pointer (some ⟨P1, 0, none⟩)]], 67), (P9, (rcC (DevM.rc d)), 28), ((P1 + 2), #[.int .i64 n], 3), ((P1 + 1), #[.int .i64 x.fr, .int .i64 x.to_, .int .i64 x.n, .int .i64 x.of_, .slice xa xm xc], 39), (P1, (dvC h d), 37)] [] [] W → W.cell? ⟨P9, 4, none⟩ = some (.int .i64 (DevM.rc d).floor) := fun W hW => cAt (hW.get 3 rfl) rfl
       repeat (first
         | ((refine turn_row (by rfl) 37 (.tmp 14) rfl PX rfl 37 (dvC hx xd) _ (fun W hW => hW.get 1 rfl) Tryz.underlying37 rfl (sDv hx xd) ?_); simp only [Act.put, sA, sB, sC])
         | (refine tSt ?_ (by rfl) (fun W9 hW9 => ?_) ?_
            rotate_left
            · (go_simp <;> with_reducible rfl)
            simp only [Act.put, sA, sB, sC])
         | (refine tSk (by rfl) ?_; simp only [Act.put, sA, sB, sC]))
       refine tCa (fun K hK => ?_)
       go_simp
       go_at_call 10
       with_reducible refine (HCx.out _ (HS.out.fact 0 rfl)).mono ?_
       rintro e W2 ⟨rfl, hb⟩
       replace HS := LH (HS.out.later hb)
       clear hb
       try go_wp2_with fail
       refine hK.out _ _ HS.out.ms ?_
       clear hK K
       try simp only [Act.put, sA, sB, sC]
       repeat (first
         | (refine tSt ?_ (by rfl) (fun W9 hW9 => ?_) ?_
            rotate_left
            · (go_simp <;> with_reducible rfl)
            simp only [Act.put, sA, sB, sC])
         | (refine tSk (by rfl) ?_; simp only [Act.put, sA, sB, sC]))
       refine tCa (fun K hK => ?_)
       go_simp
       go_at_call 27
       with_reducible refine (HEq.out _ (HS.out.fact 0 rfl) (HDh.out.later HS.out.below)).mono ?_
       rintro e W3 ⟨rfl, hb⟩
       replace HS := LH (HS.out.later hb)
       clear hb
       try go_wp2_with fail
       refine hK.out _ _ HS.out.ms ?_
       clear hK K
       try simp only [Act.put, sA, sB, sC]
       repeat (first
         | (refine tSt ?_ (by rfl) (fun W9 hW9 => ?_) ?_
            rotate_left
            · (go_simp <;> with_reducible rfl)
            simp only [Act.put, sA, sB, sC])
         | (refine tSk (by rfl) ?_; simp only [Act.put, sA, sB, sC]))
       clear uP9_1 uPX_1 uP1_1 uP16_4 uP9_4
       refine tEn ?_
       clear HCx HEq tf HSl
       have c1 := cAt (k := 1) (v := .int .i64 (DevM.rc xd).act) (HS.out.get 0 rfl) rfl
       have c2 := cAt (k := 1) (v := .int .i64 (DevM.rc d).act) (HS.out.get 3 rfl) rfl
       rw [ha2] at c2
       have c3 := cAt (k := 2) (v := .bool (DevM.rc d).trying) (HS.out.get 3 rfl) rfl
       try simp only at c1 c2 c3
       by_cases hq : (DevM.rc xd).act = 1
       · rw [hq] at c1
         go_wp2_with fail
         go_ret
         exact ⟨rfl, HS.out.below⟩
       · have hj : J = 6 ∧ (DevM.rc d).trying = true := by
           rcases HAc.out with z | ⟨z1, z2⟩
           · exact absurd (by unfold DevM.act at z; rw [z]; exact ha2) hq
           · exact ⟨by have := HJL.out; omega, z2⟩
         obtain ⟨rfl, htr⟩ := hj
         rw [htr] at c3
         have hqb : ((DevM.rc xd).act == 1) = false := by simpa using hq
         go_wp2_with fail
         go_ret
         exact ⟨rfl, HS.out.below⟩
   · have t5 : (E != 0) = true := by simp [hE]
     go_wp2_with fail
     go_ret
     exact ⟨rfl, HS.out.below⟩
theorem holds_walk (h : DevH) (d : DevR) (x : ChR) (xa : Option Addr) (xm xc : Nat) (kind n : Int) (w : World) (HD : DH w h d) (HX : CV w (.agg #[.int .i64 x.fr, .int .i64 x.to_, .int .i64 x.n, .int .i64 x.of_, .slice xa xm xc]) x) (hM : MaxCell w) : Calls Tryz.prog 5 #[.agg (dvC h d), .agg #[.int .i64 x.fr, .int .i64 x.to_, .int .i64 x.n, .int .i64 x.of_, .slice xa xm xc], .int .i64 kind, .int .i64 n] w fun e w' => e = .returned (.bool true) ∧ Below w.heap.size w w' := by
 by_cases h0 : DevM.check d = 0
 · exact holds_ok h d x xa xm xc kind n w HD HX hM h0
 · exact holds_bad h d x xa xm xc kind n w HD HX hM _ rfl h0
section
variable {P : Program} {w : World} {r : Reach} {b0 : Nat}
theorem cell_int {t : TypeId} {v : Value} (ht : P.underlying t = some (.int .i64)) (h : Cell.okWide P w r b0 t v) : ∃ n, v = .int .i64 n ∧ I64 n := by
 unfold Cell.okWide at h
 rw [ht] at h
 cases v <;> simp_all [Cell.ok, IntKind.has]
 rename_i k n
 obtain ⟨rfl, h1, h2⟩ := h
 have e1 : IntKind.i64.min = -9223372036854775808 := rfl
 have e2 : IntKind.i64.max = 9223372036854775807 := rfl
 unfold I64
 omega
theorem cell_bool {t : TypeId} {v : Value} (ht : P.underlying t = some .bool) (h : Cell.okWide P w r b0 t v) : ∃ b, v = .bool b := by
 unfold Cell.okWide at h
 rw [ht] at h
 cases v <;> simp_all [Cell.ok]
theorem row_cells {t : TypeId} {ts : List TypeId} {l : List Value} (hts : P.cellTypes P.depth t = some ts) (h : Row.okWide P w r b0 t ⟨l⟩) :
   ∀ (i : Nat) (u : TypeId) (v : Value), ts[i]? = some u → l[i]? = some v → Cell.okWide P w r b0 u v := by
 obtain ⟨ts', h1, -, h2⟩ := h
 rw [hts] at h1
 cases h1
 intro i u v hu hv
 obtain ⟨u', hu', hc⟩ := h2 i v (by simpa using hv)
 have hi : i < ts.length := (List.getElem?_eq_some_iff.1 hu).1
 rw [Nat.mod_eq_of_lt hi, hu] at hu'
 cases hu'
 exact hc
end
theorem list37 {α : Type} (l : List α) (h : l.length = 37) : ∃ u0 u1 u2 u3 u4 u5 u6 u7 u8 u9 u10 u11 u12 u13 u14 u15 u16 u17 u18 u19 u20 u21 u22 u23 u24 u25 u26 u27 u28 u29 u30 u31 u32 u33 u34 u35 u36, l = u0 :: u1 :: u2 :: u3 :: u4 :: u5 :: u6 :: u7 :: u8 :: u9 :: u10 :: u11 :: u12 :: u13 :: u14 :: u15 :: u16 :: u17 :: u18 :: u19 :: u20 :: u21 :: u22 :: u23 :: u24 :: u25 :: u26 :: u27 :: u28 :: u29 :: u30 :: u31 :: u32 :: u33 :: u34 :: u35 :: u36 :: [] := by
 match l, h with
 | u0 :: u1 :: u2 :: u3 :: u4 :: u5 :: u6 :: u7 :: u8 :: u9 :: u10 :: u11 :: u12 :: u13 :: u14 :: u15 :: u16 :: u17 :: u18 :: u19 :: u20 :: u21 :: u22 :: u23 :: u24 :: u25 :: u26 :: u27 :: u28 :: u29 :: u30 :: u31 :: u32 :: u33 :: u34 :: u35 :: u36 :: [], _ => exact ⟨u0, u1, u2, u3, u4, u5, u6, u7, u8, u9, u10, u11, u12, u13, u14, u15, u16, u17, u18, u19, u20, u21, u22, u23, u24, u25, u26, u27, u28, u29, u30, u31, u32, u33, u34, u35, u36, rfl⟩
section
variable {H : Type} {enc : TypeId × Value → H} {w : World} {sp : Nat → Bool} {held : Bool}
theorem open_dev {r : Reach} {b0 : Nat} {v : Value} {d : DataW H} {ps : List MemPlace} (hv : Value.okWide Tryz.prog w r b0 37 v) (h : DataW.Trod enc Tryz.prog w 0 sp held 37 v d ps) : ∃ h x, v = devV h x ∧ DH w h x := by
 have hts : Tryz.prog.cellTypes Tryz.prog.depth 37 = some (22 :: 22 :: 4 :: 3 :: 3 :: 4 :: 3 :: 3 :: 3 :: 3 :: 3 :: 3 :: 3 :: 3 :: 4 :: 3 :: 3 :: 4 :: 3 :: 3 :: 3 :: 3 :: 3 :: 3 :: 3 :: 3 :: 4 :: 3 :: 32 :: 4 :: 3 :: 3 :: 3 :: 3 :: 3 :: 33 :: 3 :: []) := by kernel_rfl
 have hC : Tryz.prog.cellsOf 37 = 37 := by kernel_rfl
 have cS : Tryz.prog.cellsOf 23 = 2 := by kernel_rfl
 have cb : Tryz.prog.cellsOf 22 = 1 := by kernel_rfl
 have cg : Tryz.prog.cellsOf 32 = 1 := by kernel_rfl
 have cp : Tryz.prog.cellsOf 35 = 6 := by kernel_rfl
 have co : Tryz.prog.cellsOf 33 = 1 := by kernel_rfl
 have hu := Tryz.underlying37
 have hi := Tryz.underlying3
 have hb := Tryz.underlying4
 unfold Value.okWide at hv
 rw [hu] at hv
 obtain ⟨⟨l⟩, rfl, hsz, hrow⟩ := hv
 rw [hC] at hsz
 have hc := row_cells hts hrow
 obtain ⟨fuel, hf⟩ := h
 obtain ⟨xs, n, _, _, _, hlen, hg⟩ := DataW.trod_struct hu hf
 have g0 : DataW.trod enc Tryz.prog w 0 sp held n 23 ((l.drop 0).take (Tryz.prog.cellsOf 23)) = xs[0]? := hg 0 _ rfl
 have g4 : DataW.trod enc Tryz.prog w 0 sp held n 32 ((l.drop 28).take (Tryz.prog.cellsOf 32)) = xs[4]? := hg 4 _ rfl
 have g6 : DataW.trod enc Tryz.prog w 0 sp held n 35 ((l.drop 30).take (Tryz.prog.cellsOf 35)) = xs[6]? := hg 6 _ rfl
 try simp only at g0 g4 g6
 have hlen' : xs.length = 8 := hlen
 have some_ : ∀ i, i < 8 → ∃ y, xs[i]? = some y := fun i hi => ⟨_, List.getElem?_eq_getElem (by omega)⟩
 obtain ⟨y0, e0⟩ := some_ 0 (by omega)
 obtain ⟨y4, e4⟩ := some_ 4 (by omega)
 obtain ⟨y6, e6⟩ := some_ 6 (by omega)
 rw [e0] at g0
 rw [e4] at g4
 rw [e6] at g6
 obtain ⟨u0, u1, u2, u3, u4, u5, u6, u7, u8, u9, u10, u11, u12, u13, u14, u15, u16, u17, u18, u19, u20, u21, u22, u23, u24, u25, u26, u27, u28, u29, u30, u31, u32, u33, u34, u35, u36, rfl⟩ := list37 l (by simpa using hsz)
 obtain ⟨n2, rfl⟩ := cell_bool hb (hc 2 _ _ rfl rfl)
 obtain ⟨n3, rfl, w3⟩ := cell_int hi (hc 3 _ _ rfl rfl)
 obtain ⟨n4, rfl, w4⟩ := cell_int hi (hc 4 _ _ rfl rfl)
 obtain ⟨n5, rfl⟩ := cell_bool hb (hc 5 _ _ rfl rfl)
 obtain ⟨n6, rfl, w6⟩ := cell_int hi (hc 6 _ _ rfl rfl)
 obtain ⟨n7, rfl, w7⟩ := cell_int hi (hc 7 _ _ rfl rfl)
 obtain ⟨n8, rfl, w8⟩ := cell_int hi (hc 8 _ _ rfl rfl)
 obtain ⟨n9, rfl, w9⟩ := cell_int hi (hc 9 _ _ rfl rfl)
 obtain ⟨n10, rfl, w10⟩ := cell_int hi (hc 10 _ _ rfl rfl)
 obtain ⟨n11, rfl, w11⟩ := cell_int hi (hc 11 _ _ rfl rfl)
 obtain ⟨n12, rfl, w12⟩ := cell_int hi (hc 12 _ _ rfl rfl)
 obtain ⟨n13, rfl, w13⟩ := cell_int hi (hc 13 _ _ rfl rfl)
 obtain ⟨n14, rfl⟩ := cell_bool hb (hc 14 _ _ rfl rfl)
 obtain ⟨n15, rfl, w15⟩ := cell_int hi (hc 15 _ _ rfl rfl)
 obtain ⟨n16, rfl, w16⟩ := cell_int hi (hc 16 _ _ rfl rfl)
 obtain ⟨n17, rfl⟩ := cell_bool hb (hc 17 _ _ rfl rfl)
 obtain ⟨n18, rfl, w18⟩ := cell_int hi (hc 18 _ _ rfl rfl)
 obtain ⟨n19, rfl, w19⟩ := cell_int hi (hc 19 _ _ rfl rfl)
 obtain ⟨n20, rfl, w20⟩ := cell_int hi (hc 20 _ _ rfl rfl)
 obtain ⟨n21, rfl, w21⟩ := cell_int hi (hc 21 _ _ rfl rfl)
 obtain ⟨n22, rfl, w22⟩ := cell_int hi (hc 22 _ _ rfl rfl)
 obtain ⟨n23, rfl, w23⟩ := cell_int hi (hc 23 _ _ rfl rfl)
 obtain ⟨n24, rfl, w24⟩ := cell_int hi (hc 24 _ _ rfl rfl)
 obtain ⟨n25, rfl, w25⟩ := cell_int hi (hc 25 _ _ rfl rfl)
 obtain ⟨n26, rfl⟩ := cell_bool hb (hc 26 _ _ rfl rfl)
 obtain ⟨n27, rfl, w27⟩ := cell_int hi (hc 27 _ _ rfl rfl)
 obtain ⟨n29, rfl⟩ := cell_bool hb (hc 29 _ _ rfl rfl)
 obtain ⟨n30, rfl, w30⟩ := cell_int hi (hc 30 _ _ rfl rfl)
 obtain ⟨n31, rfl, w31⟩ := cell_int hi (hc 31 _ _ rfl rfl)
 obtain ⟨n32, rfl, w32⟩ := cell_int hi (hc 32 _ _ rfl rfl)
 obtain ⟨n33, rfl, w33⟩ := cell_int hi (hc 33 _ _ rfl rfl)
 obtain ⟨n34, rfl, w34⟩ := cell_int hi (hc 34 _ _ rfl rfl)
 obtain ⟨n36, rfl, w36⟩ := cell_int hi (hc 36 _ _ rfl rfl)
 clear hc hrow hg
 rw [cS] at g0
 rw [cg] at g4
 rw [cp] at g6
 simp only [List.drop_zero, List.drop_succ_cons, List.take_succ_cons, List.take_zero] at g0 g4 g6
 obtain ⟨a4, m4, c4, l4, rfl, ho4⟩ := open_cs g4
 obtain ⟨xa, ma, _, _, _, hla, hga⟩ := DataW.trod_array Tryz.underlying23 g0
 have k0 := hga 0 (by omega)
 have k1 := hga 1 (by omega)
 rw [cb] at k0 k1
 simp only [Nat.zero_mul, Nat.one_mul, List.drop_zero, List.drop_succ_cons, List.take_succ_cons, List.take_zero] at k0 k1
 rw [List.getElem?_eq_getElem (by omega)] at k0 k1
 obtain ⟨a0, m0, c0, l0, rfl, ho0⟩ := open_bs k0
 obtain ⟨a1, m1, c1, l1, rfl, ho1⟩ := open_bs k1
 obtain ⟨xp, mp, _, _, _, hlp, hgp⟩ := DataW.trod_struct Tryz.underlying35 g6
 have q5 : DataW.trod enc Tryz.prog w 0 sp held mp 33 (([.int .i64 n30, .int .i64 n31, .int .i64 n32, .int .i64 n33, .int .i64 n34, u35].drop 5).take (Tryz.prog.cellsOf 33)) = xp[5]? := hgp 5 _ rfl
 have hlp' : xp.length = 6 := hlp
 try simp only at q5
 rw [co, List.getElem?_eq_getElem (by omega)] at q5
 simp only [List.drop_zero, List.drop_succ_cons, List.take_succ_cons, List.take_zero] at q5
 obtain ⟨a5, m5, c5, l5, rfl, ho5⟩ := open_os q5
 exact ⟨⟨a0, m0, c0, a1, m1, c1, a4, m4, c4, a5, m5, c5⟩, ⟨l0, l1, ⟨⟨n2, ⟨n3, n4, n5, n6, n7, ⟨n8, n9, n10⟩, ⟨n11, n12, n13⟩⟩⟩, ⟨n14, ⟨n15, n16, n17, n18, n19, ⟨n20, n21, n22⟩, ⟨n23, n24, n25⟩⟩⟩⟩, n26, n27, l4, n29, ⟨n30, n31, n32, n33, n34, l5⟩, n36⟩, rfl,
   ho0, ho1, ho4, ho5, ⟨⟨w3, w4, w6, w7, ⟨w8, w9, w10⟩, w11, w12, w13⟩, w15, w16, w18, w19, ⟨w20, w21, w22⟩, w23, w24, w25⟩, w27, ⟨w30, w31, w32, w33, w34⟩, w36⟩
end
end Go.Proofs.YtmpmaljkmfgagacGreat
