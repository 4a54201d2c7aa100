/-
  Contracts of patch.putStep and patch.Put: a patch is put as bytes as the document says.
-/
import Derived.Test.YtmpmaljkmfgagabPCheck
import Derived.Test.YtmpmaljkmfgagabAppSt
namespace Go.Proofs.Ytmpmaljkmfgagab
open Go.RowKit

theorem two_litP (W : World) (x y : Int) (hx : 0 ≤ x ∧ x ≤ 255) (hy : 0 ≤ y ∧ y ≤ 255) : BS (W.alloc (.cells #[.int .u8 x, .int .u8 y] 5)) (some ⟨W.heap.size, 0, none⟩) 2 2 [x, y] := by
  refine ⟨rfl, Nat.le_refl _, by omega, by intro v hv; simp at hv; rcases hv with rfl | rfl <;> assumption, fun _ => ⟨W.heap.size, 0, rfl, fun i hi => ?_⟩, fun h => by cases h⟩
  simp only [World.cell?, heap_at, if_pos]
  match i, hi with
  | 0, _ | 1, _ => rfl

/-- what putStep returns: the bytes with those of the step behind them, in memory of the caller's own -/
def GivesPS (w0 : World) (l : List Int) (e : Ending) (w' : World) : Prop :=
  ∃ a n c, e = .returned (.slice a n c) ∧ w'.ownsRow w0.heap.size 5 1 (.slice a n c) l.length (l.map (Value.int .u8)) ∧ l.length = n ∧ Below w0.heap.size w0 w'

set_option maxRecDepth 100000 in
set_option maxHeartbeats 2000000 in
theorem putStep_any (w0 : World) (a : Option Addr) (n c : Nat) (outl : List Int) (A L : Int) (va : Option Addr) (vn vc : Nat) (D : List Int) (w : World)
    (hown : w.ownsRow w0.heap.size 5 1 (.slice a n c) outl.length (outl.map (Value.int .u8))) (hol : outl.length = n) (hbw : Below w0.heap.size w0 w) (hd : BS w0 va vn vc D)
    (hg : ¬ DeltaM.badForm ⟨A, L, D⟩ ∧ ¬ DeltaM.badRange 64 ⟨A, L, D⟩) (hn : n ≤ 500) :
    Calls Try.prog 80 #[.slice a n c, .agg #[.int .i64 A, .int .i64 L, .slice va vn vc]] w (GivesPS w0 (outl ++ PatM.enc ⟨A, L, D⟩)) := by
  obtain ⟨g1, g2, g3⟩ := DeltaM.good_len hg.2
  simp only at g1 g2 g3
  have hDn := hd.len
  have HOL := Lib.hid hol
  obtain ⟨Bo, hBo⟩ : ∃ Bo, w.heap.size = Bo := ⟨_, rfl⟩
  have hbl : Below w.heap.size w (w.alloc (.cells #[.int .i64 A, .int .i64 L, .slice va vn vc] 36)) := (Below.refl _ _).alloc (Nat.le_refl _) _
  have hst : ASt w0 Bo #[.int .i64 A, .int .i64 L, .slice va vn vc] (.slice a n c) outl (w.alloc (.cells #[.int .i64 A, .int .i64 L, .slice va vn vc] 36)) := by
    refine ⟨by rw [heap_at, if_pos hBo.symm], own_later hown hbl, fun e => ?_, below_then hbw hbl, by rw [← hBo]; exact hbw.size⟩
    have := (own_lt3 hown e).2
    omega
  have e1 : (w.alloc (.cells #[.int .i64 A, .int .i64 L, .slice va vn vc] 36)).heap.size = Bo + 1 := by simp [hBo]
  by_cases hL : L = 0
  · subst hL
    obtain ⟨hform, d1, d2⟩ := PatM.form_data hg.1 rfl
    simp only at d1 d2
    rw [hDn] at d1 d2
    have HEn : Hid (PatM.enc ⟨A, 0, D⟩ = [255, (vn : Int)] ++ D) := by show _ = _; simp [PatM.enc, hDn]
    have hw : IntKind.u8.wrap (vn : Int) = vn := by rw [IntKind.wrap_u8]; omega
    have hba : Below (w.alloc (.cells #[.int .i64 A, .int .i64 0, .slice va vn vc] 36)).heap.size (w.alloc (.cells #[.int .i64 A, .int .i64 0, .slice va vn vc] 36)) ((w.alloc (.cells #[.int .i64 A, .int .i64 0, .slice va vn vc] 36)).alloc (.cells #[.int .u8 255, .int .u8 (vn : Int)] 5)) := (Below.refl _ _).alloc (Nat.le_refl _) _
    have htl := two_litP (w.alloc (.cells #[.int .i64 A, .int .i64 0, .slice va vn vc] 36)) 255 vn (by omega) (by omega)
    rw [e1] at htl
    obtain ⟨a5, c5, W5, hrun, HS5⟩ := (hst.later hba).app htl (by omega) (by rw [HOL.out]; omega)
    rw [HOL.out] at hrun HS5
    have q5 := hd.later HS5.out.below
    obtain ⟨a7, c7, W7, hrun2, HS7⟩ := HS5.out.app q5 (by omega) (by rw [List.length_append, HOL.out]; simp only [List.length_cons, List.length_nil]; omega)
    have hl5 : (outl ++ [255, (vn : Int)]).length = n + 2 := by rw [List.length_append, HOL.out]; rfl
    rw [hl5] at hrun2 HS7
    obtain ⟨d0, d1', d2'⟩ := cells_blk HS5.out.cb
    have hl7 : Hid ((outl ++ [255, (vn : Int)] ++ D).length = n + 2 + vn) := by show _ = _; rw [List.length_append, hl5, hDn]
    have HEQ : Hid (outl ++ PatM.enc ⟨A, 0, D⟩ = outl ++ [255, (vn : Int)] ++ D) := by show _ = _; rw [HEn.out, List.append_assoc]
    clear hst hba htl HS5 q5 hbl hform hg hown hol hbw hd hDn
    go_enter Try.func80, Try.ntmps80
    go_wp2_with (first | (at_builtin; refine Lib.wpList_append_run _ rfl (.tmp 17) (.tmp 22) _ _ rfl _ _ rfl rfl _ _ hrun ?_) | (at_builtin; refine Lib.wpList_append_run _ rfl (.tmp 24) (.tmp 26) _ _ rfl _ _ rfl rfl _ _ hrun2 ?_))
    go_ret
    exact ⟨a7, n + 2 + vn, c7, rfl, by rw [HEQ.out]; exact HS7.out.own, by rw [HEQ.out]; exact hl7.out, HS7.out.below⟩
  · have hLb : (L != 0) = true := by simp [hL]
    have hw1 : IntKind.u8.wrap A = A := by rw [IntKind.wrap_u8]; omega
    have hw2 : IntKind.u8.wrap L = L := by rw [IntKind.wrap_u8]; omega
    have HEn : Hid (PatM.enc ⟨A, L, D⟩ = [A, L]) := by show _ = _; simp [PatM.enc, hL]
    have hba : Below (w.alloc (.cells #[.int .i64 A, .int .i64 L, .slice va vn vc] 36)).heap.size (w.alloc (.cells #[.int .i64 A, .int .i64 L, .slice va vn vc] 36)) ((w.alloc (.cells #[.int .i64 A, .int .i64 L, .slice va vn vc] 36)).alloc (.cells #[.int .u8 A, .int .u8 L] 5)) := (Below.refl _ _).alloc (Nat.le_refl _) _
    have htl := two_litP (w.alloc (.cells #[.int .i64 A, .int .i64 L, .slice va vn vc] 36)) A L (by omega) (by omega)
    rw [e1] at htl
    obtain ⟨a5, c5, W5, hrun, HS5⟩ := (hst.later hba).app htl (by omega) (by rw [HOL.out]; omega)
    rw [HOL.out] at hrun HS5
    clear hst hba htl hbl hg hown hol hbw hd hDn
    go_enter Try.func80, Try.ntmps80
    go_wp2_with (at_builtin; refine Lib.wpList_append_run _ rfl (.tmp 8) (.tmp 15) _ _ rfl _ _ rfl rfl _ _ hrun ?_)
    go_ret
    exact ⟨a5, n + 2, c5, rfl, by rw [HEn.out]; exact HS5.out.own, by rw [HEn.out, List.length_append, HOL.out]; rfl, HS5.out.below⟩

/-- the rounds of Put -/
def PutRelP (hd : List Int) (ops : List OpR) (w : World) (out i : Value) (wr : World) : Prop :=
  ∃ (k : Nat) (a : Option Addr) (n c : Nat) (outl : List Int), i = .int .i64 k ∧ k ≤ ops.length ∧ out = .slice a n c ∧ outl.length = n ∧ outl = hd ++ PatM.encs (ops.take k) ∧ wr.ownsRow w.heap.size 5 1 (.slice a n c) outl.length (outl.map (Value.int .u8)) ∧ Below w.heap.size w wr

set_option maxRecDepth 100000 in
set_option maxHeartbeats 2000000 in
theorem putP_any (v : Value) (p : PatR) (w : World) (hp : PV w v p) :
    Calls Try.prog 32 #[v] w (GivesBE (PatM.putOf p) w) := by
  have hp' := hp
  obtain ⟨ao, no, co, rfl, ho, -⟩ := hp
  obtain ⟨f, t, o, nw, s, ops⟩ := p
  simp only at ho
  have hb : Below w.heap.size w (w.alloc (.cells #[.int .i64 f, .int .i64 t, .int .i64 o, .int .i64 nw, .int .i64 s, .slice ao no co] 41)) := (Below.refl _ _).alloc (Nat.le_refl _) _
  obtain ⟨B, hBw⟩ : ∃ B, w.heap.size = B := ⟨_, rfl⟩
  have hB0 : (w.alloc (.cells #[.int .i64 f, .int .i64 t, .int .i64 o, .int .i64 nw, .int .i64 s, .slice ao no co] 41)).heap[B]? = some (.cells #[.int .i64 f, .int .i64 t, .int .i64 o, .int .i64 nw, .int .i64 s, .slice ao no co] 41 (0, 0)) := by rw [heap_at, if_pos hBw.symm]
  replace hp' := hp'.later hb
  replace ho := ho.later hb
  obtain ⟨E, hE⟩ : ∃ E, PatM.check ⟨f, t, o, nw, s, ops⟩ = E := ⟨_, rfl⟩
  have HE := Lib.hid hE
  clear hE
  go_enter Try.func32, Try.ntmps32
  go_wp2_with fail
  generalize w.alloc (.cells #[.int .i64 f, .int .i64 t, .int .i64 o, .int .i64 nw, .int .i64 s, .slice ao no co] 41) = W0 at hb hB0 hp' ho ⊢
  refine (checkP_any _ _ _ hp').mono ?_
  rintro e W1 ⟨rfl, b1⟩
  rw [HE.out]
  replace hB0 := (b1.block B (lt_blk hB0)).trans hB0
  replace ho := ho.later b1
  replace b1 := below_then hb b1
  clear hb hp' hBw W0
  by_cases h0 : E = 0
  · subst h0
    have HK : Hid (PatM.putOf ⟨f, t, o, nw, s, ops⟩ = (PatM.putL ⟨f, t, o, nw, s, ops⟩, 0)) := PatM.putOf_ok HE.out
    obtain ⟨hh, h2⟩ := PatM.check_parts HE.out
    obtain ⟨h40, -, -, s1, s2, hg, ht⟩ := DeltaM.check_zero h2
    unfold PatM.badHead at hh
    simp only at hh h40 s1 s2 hg ht
    obtain ⟨r0, r1, r2, r3, r4, r5, -⟩ := pat_cells hB0
    have hno := ho.len
    have hno40 : no ≤ 40 := by rw [← hno]; exact h40
    have w0 : IntKind.u8.wrap f = f := by rw [IntKind.wrap_u8]; omega
    have w1 : IntKind.u8.wrap t = t := by rw [IntKind.wrap_u8]; omega
    have w2 : IntKind.u8.wrap (o / 256) = o / 256 := by rw [IntKind.wrap_u8]; omega
    have w3 : IntKind.u8.wrap o = o % 256 := by rw [IntKind.wrap_u8]
    have w4 : IntKind.u8.wrap (nw / 256) = nw / 256 := by rw [IntKind.wrap_u8]; omega
    have w5 : IntKind.u8.wrap nw = nw % 256 := by rw [IntKind.wrap_u8]
    have w6 : IntKind.u8.wrap s = s := by rw [IntKind.wrap_u8]; omega
    have w7 : IntKind.u8.wrap (no : Int) = no := by rw [IntKind.wrap_u8]; omega
    have HHD : Hid (PatM.head ⟨f, t, o, nw, s, ops⟩ = [f, t, o / 256, o % 256, nw / 256, nw % 256, s, (no : Int)]) := by show _ = _; simp only [PatM.head, hno]
    have HPL : Hid (PatM.putL ⟨f, t, o, nw, s, ops⟩ = [f, t, o / 256, o % 256, nw / 256, nw % 256, s, (no : Int)] ++ PatM.encs ops) := by show _ = _; rw [← HHD.out]; rfl
    obtain ⟨hd, hhd⟩ : ∃ hd : List Int, hd = [f, t, o / 256, o % 256, nw / 256, nw % 256, s, (no : Int)] := ⟨_, rfl⟩
    have HHd : Hid (hd.length = 8) := by show hd.length = 8; rw [hhd]; rfl
    have hown : (W1.alloc (.cells #[.int .u8 f, .int .u8 t, .int .u8 (o / 256), .int .u8 (o % 256), .int .u8 (nw / 256), .int .u8 (nw % 256), .int .u8 s, .int .u8 (no : Int)] 5)).ownsRow W1.heap.size 5 1 (.slice (some ⟨W1.heap.size, 0, none⟩) 8 8) 8 (hd.map (Value.int .u8)) := by
      rw [hhd]
      exact World.ownsRow_lit (base := W1.heap.size) (e := 5) (size := 1) W1 #[.int .u8 f, .int .u8 t, .int .u8 (o / 256), .int .u8 (o % 256), .int .u8 (nw / 256), .int .u8 (nw % 256), .int .u8 s, .int .u8 (no : Int)] 8 (Nat.le_refl _) (by unfold maxLen; omega) rfl
    rw [← hhd] at HPL
    have hb2 : Below W1.heap.size W1 (W1.alloc (.cells #[.int .u8 f, .int .u8 t, .int .u8 (o / 256), .int .u8 (o % 256), .int .u8 (nw / 256), .int .u8 (nw % 256), .int .u8 s, .int .u8 (no : Int)] 5)) := (Below.refl _ _).alloc (Nat.le_refl _) _
    have HO1 := Lib.hid ho
    have HB1 := Lib.hid b1
    have r5' := cell_later hb2 r5
    have HG := Lib.hid hg
    have HLn := Lib.hid hno
    have HOw := Lib.hid hown
    have HB2 := Lib.hid hb2
    have HLE := Lib.hid (PatM.putL_len HE.out)
    have HBD : Hid (∀ k, (hd ++ PatM.encs (ops.take k)).length ≤ 152) := by
      show ∀ k, _
      intro k
      have h1 := HLE.out
      have h2 : PatM.encs ops = PatM.encs (ops.take k) ++ PatM.encs (ops.drop k) := by rw [← PatM.encs_append, List.take_append_drop]
      rw [HPL.out, h2] at h1
      simp only [List.length_append] at h1 ⊢
      omega
    clear hh h2 hg ht h40 hhd ho b1 hno hown hb2 hB0
    go_wp2_with fail
    generalize W1.alloc (.cells #[.int .u8 f, .int .u8 t, .int .u8 (o / 256), .int .u8 (o % 256), .int .u8 (nw / 256), .int .u8 (nw % 256), .int .u8 s, .int .u8 (no : Int)] 5) = W2 at r5' HOw HB2 ⊢
    clear r0 r1 r2 r3 r4 r5 w0 w1 w2 w3 w4 w5 w6 w7
    go_loopw [5, 44] (fun out i wr => PutRelP hd ops W1 out i wr) (fun _ i _ => no - (intOf i).toNat)
    case atStart => exact ⟨0, _, 8, 8, hd, rfl, Nat.zero_le _, rfl, HHd.out, by simp [PatM.encs], by rw [HHd.out]; exact HOw.out, HB2.out⟩
    case round =>
      clear HOw HB2
      obtain ⟨k, a2, n2, c2, outl, rfl, hk, rfl, hol, hou, ho2, hbw⟩ := hrel
      rw [HLn.out] at hk
      have HOL := Lib.hid hol
      have HOU := Lib.hid hou
      have hbd := HBD.out k
      rw [← hou, hol] at hbd
      clear hol hou
      by_cases hlt : k < no
      · obtain ⟨b, off, rfl, hcs⟩ := HO1.out.cells (by omega)
        obtain ⟨va, vn, vc, q0, q1, q2, q3, -, -⟩ := hcs k hlt
        replace q0 := cell_later hbw q0
        replace q1 := cell_later hbw q1
        replace q2 := cell_later hbw q2
        have hkl : k < ops.length := by rw [HLn.out]; exact hlt
        have HT : Hid (PatM.encs (ops.take (k + 1)) = PatM.encs (ops.take k) ++ PatM.enc (ops.getD k default)) := by
          show _ = _
          rw [List.take_add_one, List.getElem?_eq_getElem hkl, PatM.encs_append]
          simp [PatM.encs, List.getD_eq_getElem?_getD, List.getElem?_eq_getElem hkl]
        have hg := HG.out (ops.getD k default) (by rw [List.getD_eq_getElem?_getD, List.getElem?_eq_getElem hkl]; exact List.getElem_mem hkl)
        generalize ops.getD k default = oo at q0 q1 q2 q3 HT hg
        obtain ⟨A, L, D⟩ := oo
        simp only at q0 q1 q2 q3
        have hbl : Below wr.heap.size wr (wr.alloc (.cells #[.int .i64 A, .int .i64 L, .slice va vn vc] 36)) := (Below.refl _ _).alloc (Nat.le_refl _) _
        have HCall : Hid (Calls Try.prog 80 #[.slice a2 n2 c2, .agg #[.int .i64 A, .int .i64 L, .slice va vn vc]] (wr.alloc (.cells #[.int .i64 A, .int .i64 L, .slice va vn vc] 36)) (GivesPS W1 (outl ++ PatM.enc ⟨A, L, D⟩))) :=
          putStep_any W1 a2 n2 c2 outl A L va vn vc D _ (own_later ho2 hbl) HOL.out (below_then hbw hbl) q3 hg (by omega)
        clear hbl q3 hg ho2 hbw hcs
        go_wp2_with fail
        refine HCall.out.mono ?_
        rintro e W9 ⟨a9, n9, c9, rfl, ho9, hl9, hb9⟩
        go_wp2_with fail
        go_roundw
        case rel =>
          exact ⟨k + 1, a9, n9, c9, outl ++ PatM.enc ⟨A, L, D⟩, by go_num, by rw [HLn.out]; omega, rfl, hl9, by rw [HT.out, HOU.out, List.append_assoc], ho9, hb9⟩
        case measure => simp [intOf]; omega
      · obtain rfl : k = no := by omega
        have HEq : Hid (outl = PatM.putL ⟨f, t, o, nw, s, ops⟩) := by
          show outl = _
          rw [HPL.out, HOU.out, List.take_of_length_le (by rw [HLn.out]; omega)]
        have HBt : Hid (∀ v ∈ outl, 0 ≤ v ∧ v ≤ 255) := by
          show ∀ v ∈ outl, _
          rw [HEq.out]
          exact PatM.putL_bytes HE.out (OS.bytes HO1.out)
        have HOw2 := Lib.hid ho2
        have HBw2 := Lib.hid (below_then HB1.out hbw)
        clear ho2 hbw
        go_wp2_with fail
        go_ret2
        refine ⟨a2, n2, c2, tup_a (by rw [HK.out]), ?_, HBw2.out⟩
        rw [HK.out]
        simp only
        rw [← HEq.out]
        have := HOw2.out
        rw [HOL.out] at this
        exact BS.of_own this HBt.out
  · have hnb : (E != 0) = true := by simp [h0]
    have HK : Hid (PatM.putOf ⟨f, t, o, nw, s, ops⟩ = ([], E)) := by
      show _ = _
      rw [PatM.putOf_bad (by rw [HE.out]; exact h0), HE.out]
    go_wp2_with fail
    go_ret2
    exact ⟨none, 0, 0, tup_a (by rw [HK.out]), by rw [HK.out]; exact BS.nil_ _, b1⟩
theorem putP_ok : PutPC := fun v p w hp => putP_any v p w hp
end Go.Proofs.Ytmpmaljkmfgagab
