/-
  Contract of the reference's PatchBytes.
-/
import Derived.Test.YtmpmaljkmfgagabRowToOpenN
import Derived.Test.YtmpmaljkmfgagabSameOpsToCheckPat
namespace Go.Proofs.Ytmpmaljkmfgagab
open Go.RowKit

/-- what is put so far, behind the world 'w' -/
def PutRel (l : List Int) (w : World) (out i : Value) (wr : World) : Prop :=
  ∃ (k : Nat) (a : Option Addr) (c : Nat), i = .int .i64 k ∧ k ≤ 8 ∧ out = .slice a k c ∧ wr.ownsRow w.heap.size 5 1 (.slice a k c) k ((l.take k).map (Value.int .u8)) ∧ Below w.heap.size w wr

/-- .. and of the steps -/
def EncRel (hd : List Int) (ops : List OpR) (w : World) (out i : Value) (wr : World) : Prop :=
  ∃ (k : Nat) (a : Option Addr) (n c : Nat) (outl : List Int), i = .int .i64 k ∧ k ≤ ops.length ∧ out = .slice a n c ∧ outl.length = n ∧ outl = hd ++ PatM.encs (ops.take k) ∧ wr.ownsRow w.heap.size 5 1 (.slice a n c) outl.length (outl.map (Value.int .u8)) ∧ Below w.heap.size w wr
theorem two_lit (W : World) (x y : Int) (hx : 0 ≤ x ∧ x ≤ 255) (hy : 0 ≤ y ∧ y ≤ 255) : BS (W.alloc (.cells #[.int .u8 x, .int .u8 y] 5)) (some ⟨W.heap.size, 0, none⟩) 2 2 [x, y] := by
  refine ⟨rfl, Nat.le_refl _, by omega, by intro v hv; simp at hv; rcases hv with rfl | rfl <;> assumption, fun _ => ⟨W.heap.size, 0, rfl, fun i hi => ?_⟩, fun h => by cases h⟩
  simp only [World.cell?, heap_at, if_pos]
  match i, hi with
  | 0, _ | 1, _ => rfl

set_option maxRecDepth 100000 in
set_option maxHeartbeats 2000000 in
theorem patPut_any (v : Value) (p : PatR) (w : World) (hp : PV w v p) :
    Calls Try.prog 34 #[v] w (GivesBE (PatM.putOf p) w) := by
  have hp' := hp
  obtain ⟨ao, no, co, rfl, ho, -⟩ := hp
  obtain ⟨f, t, o, nw, s, ops⟩ := p
  simp only at ho
  have hb : Below w.heap.size w (w.alloc (.cells #[.int .i64 f, .int .i64 t, .int .i64 o, .int .i64 nw, .int .i64 s, .slice ao no co] 41)) := (Below.refl _ _).alloc (Nat.le_refl _) _
  obtain ⟨B, hBw⟩ : ∃ B, w.heap.size = B := ⟨_, rfl⟩
  have hB0 : (w.alloc (.cells #[.int .i64 f, .int .i64 t, .int .i64 o, .int .i64 nw, .int .i64 s, .slice ao no co] 41)).heap[B]? = some (.cells #[.int .i64 f, .int .i64 t, .int .i64 o, .int .i64 nw, .int .i64 s, .slice ao no co] 41 (0, 0)) := by rw [heap_at, if_pos hBw.symm]
  replace hp' := hp'.later hb
  replace ho := ho.later hb
  obtain ⟨E, hE⟩ : ∃ E, PatM.check ⟨f, t, o, nw, s, ops⟩ = E := ⟨_, rfl⟩
  have HE := Lib.hid hE
  clear hE
  go_enter Try.func34, Try.ntmps34
  go_wp2_with fail
  generalize w.alloc (.cells #[.int .i64 f, .int .i64 t, .int .i64 o, .int .i64 nw, .int .i64 s, .slice ao no co] 41) = W0 at hb hB0 hp' ho ⊢
  refine (checkPat_any _ _ _ hp').mono ?_
  rintro e W1 ⟨rfl, b1⟩
  rw [HE.out]
  replace hB0 := (b1.block B (lt_blk hB0)).trans hB0
  replace ho := ho.later b1
  replace b1 := below_then hb b1
  clear hb hp' hBw W0
  by_cases h0 : E = 0
  · subst h0
    have HK : Hid (PatM.putOf ⟨f, t, o, nw, s, ops⟩ = (PatM.putL ⟨f, t, o, nw, s, ops⟩, 0)) := PatM.putOf_ok HE.out
    obtain ⟨hh, h2⟩ := PatM.check_parts HE.out
    obtain ⟨h40, -, -, s1, s2, hg, ht⟩ := DeltaM.check_zero h2
    unfold PatM.badHead at hh
    simp only at hh h40 s1 s2 hg ht
    have v1 : 1 ≤ f ∧ f ≤ 30 := by omega
    have v2 : 1 ≤ t ∧ t ≤ 30 := by omega
    have v3 : 0 ≤ o ∧ o ≤ 65535 := by omega
    have v4 : 0 ≤ nw ∧ nw ≤ 65535 := by omega
    obtain ⟨r0, r1, r2, r3, r4, r5, -⟩ := pat_cells hB0
    have hno := ho.len
    obtain ⟨hd, hhd⟩ : ∃ hd, hd = PatM.head ⟨f, t, o, nw, s, ops⟩ := ⟨_, rfl⟩
    have hb2 : Below W1.heap.size W1 (W1.alloc (.cells #[.int .i64 f, .int .i64 t, .int .i64 (o / 256), .int .i64 (o % 256), .int .i64 (nw / 256), .int .i64 (nw % 256), .int .i64 s, .int .i64 (no : Int)] 3)) := (Below.refl _ _).alloc (Nat.le_refl _) _
    obtain ⟨Br, hBr⟩ : ∃ Br, W1.heap.size = Br := ⟨_, rfl⟩
    have HI : Hid (∀ k, k < 8 → (W1.alloc (.cells #[.int .i64 f, .int .i64 t, .int .i64 (o / 256), .int .i64 (o % 256), .int .i64 (nw / 256), .int .i64 (nw % 256), .int .i64 s, .int .i64 (no : Int)] 3)).cell? ⟨Br, k, none⟩ = some (.int .i64 (hd.getD k 0))) := by
      show ∀ k, _
      have hblk : (W1.alloc (.cells #[.int .i64 f, .int .i64 t, .int .i64 (o / 256), .int .i64 (o % 256), .int .i64 (nw / 256), .int .i64 (nw % 256), .int .i64 s, .int .i64 (no : Int)] 3)).heap[Br]? = some (.cells #[.int .i64 f, .int .i64 t, .int .i64 (o / 256), .int .i64 (o % 256), .int .i64 (nw / 256), .int .i64 (nw % 256), .int .i64 s, .int .i64 (no : Int)] 3 (0, 0)) := by rw [heap_at, if_pos hBr.symm]
      intro k hk
      rw [hhd]
      simp only [World.cell?, hblk, PatM.head, hno]
      match k, hk with
      | 0, _ | 1, _ | 2, _ | 3, _ | 4, _ | 5, _ | 6, _ | 7, _ => rfl
    have HBy : Hid (∀ k, k < 8 → 0 ≤ hd.getD k 0 ∧ hd.getD k 0 ≤ 255) := by
      show ∀ k, _
      intro k hk
      rw [hhd]
      simp only [PatM.head]
      match k, hk with
      | 0, _ | 1, _ | 2, _ | 3, _ | 4, _ | 5, _ | 6, _ | 7, _ => simp; omega
    have HHd : Hid (hd.length = 8) := by show hd.length = 8; rw [hhd]; rfl
    have HPL : Hid (PatM.putL ⟨f, t, o, nw, s, ops⟩ = hd ++ PatM.encs ops) := by show _ = _; rw [hhd]; rfl
    have HO2 := Lib.hid (ho.later hb2)
    have HB2 := Lib.hid (below_then b1 hb2)
    have r5' := cell_later hb2 r5
    have HG := Lib.hid hg
    have HLn := Lib.hid hno
    have hno40 : no ≤ 40 := by rw [← hno]; exact h40
    have HLE := Lib.hid (PatM.putL_len HE.out)
    have HBD : Hid (∀ k, (hd ++ PatM.encs (ops.take k)).length ≤ 152) := by
      show ∀ k, _
      intro k
      have h1 := HLE.out
      have h2 : PatM.encs ops = PatM.encs (ops.take k) ++ PatM.encs (ops.drop k) := by rw [← PatM.encs_append, List.take_append_drop]
      rw [HPL.out, h2] at h1
      simp only [List.length_append] at h1 ⊢
      omega
    go_wp2_with fail
    generalize W1.alloc (.cells #[.int .i64 f, .int .i64 t, .int .i64 (o / 256), .int .i64 (o % 256), .int .i64 (nw / 256), .int .i64 (nw % 256), .int .i64 s, .int .i64 (no : Int)] 3) = W2 at hb2 HI HO2 HB2 r5' ⊢
    clear r0 r1 r2 r3 r4 r5 hh h2 hg ht h40 hhd ho b1 hno hB0
    clear hBr hb2
    go_loopw [5, 38] (fun out i wr => PutRel hd W2 out i wr) (fun _ i _ => 8 - (intOf i).toNat)
    case atStart => exact ⟨0, none, 0, rfl, by omega, rfl, World.ownsRow_nil _ _ _ _, Below.refl _ _⟩
    case round =>
      obtain ⟨k, a, c, rfl, hk, rfl, hown, hbw⟩ := hrel
      by_cases hlt : k < 8
      · have hcell := cell_later hbw (HI.out k hlt)
        have hv := HBy.out k hlt
        have HT : Hid ((hd.take (k + 1)).map (Value.int .u8) = (hd.take k ++ [hd.getD k 0]).map (Value.int .u8)) := by
          show _ = _
          rw [List.take_add_one, List.getD_eq_getElem?_getD, List.getElem?_eq_getElem (by rw [HHd.out]; exact hlt)]
          simp
        generalize hd.getD k 0 = x at hcell hv HT
        have hw : IntKind.u8.wrap x = x := by rw [IntKind.wrap_u8]; omega
        have hbl : Below wr.heap.size wr (wr.alloc (.cells #[.int .u8 x] 5)) := (Below.refl _ _).alloc (Nat.le_refl _) _
        obtain ⟨a5, c5, W5, hrun, hown5, hg5⟩ := app_run (own_later hown hbl) (one_lit wr x hv) (by omega) (by have := hbl.size; have := hbw.size; omega)
        have hb5 := (below_then hbw hbl).grown hg5 (below_then hbw hbl).size (fun g hg => (own_lt3 hown hg).1)
        have HOw := Lib.hid hown5
        have HB5 := Lib.hid hb5
        clear hown5 hg5 hbl hb5 hown
        go_wp2_with (at_builtin; refine Lib.wpList_append_run _ rfl _ _ _ _ rfl _ _ rfl rfl _ _ hrun ?_)
        go_roundw
        case rel => exact ⟨k + 1, a5, c5, by go_num, by omega, rfl, by rw [HT.out]; exact HOw.out, HB5.out⟩
        case measure => simp [intOf]; omega
      · obtain rfl : k = 8 := by omega
        have r5w := cell_later hbw r5'
        rw [List.take_of_length_le (by rw [HHd.out]; omega)] at hown
        have HOw := Lib.hid hown
        have HBw := Lib.hid hbw
        clear hown hbw
        go_wp2_with fail
        clear r5w
        go_loopw [5, 51] (fun out i wr => EncRel hd ops W2 out i wr) (fun _ i _ => no - (intOf i).toNat)
        case atStart => exact ⟨0, a, 8, c, hd, rfl, Nat.zero_le _, rfl, HHd.out, by simp [PatM.encs], by rw [HHd.out]; exact HOw.out, HBw.out⟩
        case round =>
          clear HOw HBw
          obtain ⟨k, a2, n2, c2, outl, rfl, hk, rfl, hol, hou, ho2, hbw⟩ := hrel
          rw [HLn.out] at hk
          have HOL := Lib.hid hol
          have HOU := Lib.hid hou
          have hbd := HBD.out k
          rw [← hou, hol] at hbd
          clear hol hou
          by_cases hlt : k < no
          · obtain ⟨b, off, rfl, hcs⟩ := HO2.out.cells (by omega)
            obtain ⟨va, vn, vc, q0, q1, q2, q3, -, -⟩ := hcs k hlt
            replace q0 := cell_later hbw q0
            replace q1 := cell_later hbw q1
            replace q2 := cell_later hbw q2
            have hkl : k < ops.length := by rw [HLn.out]; exact hlt
            have HT : Hid (PatM.encs (ops.take (k + 1)) = PatM.encs (ops.take k) ++ PatM.enc (ops.getD k default)) := by
              show _ = _
              rw [List.take_add_one, List.getElem?_eq_getElem hkl, PatM.encs_append]
              simp [PatM.encs, List.getD_eq_getElem?_getD, List.getElem?_eq_getElem hkl]
            have hg := HG.out (ops.getD k default) (by rw [List.getD_eq_getElem?_getD, List.getElem?_eq_getElem hkl]; exact List.getElem_mem hkl)
            generalize ops.getD k default = oo at q0 q1 q2 q3 HT hg
            obtain ⟨A, L, D⟩ := oo
            simp only at q0 q1 q2 q3
            obtain ⟨g1, g2, g3⟩ := DeltaM.good_len hg.2
            simp only at g1 g2 g3
            have hDn := q3.len
            obtain ⟨Bo, hBo⟩ : ∃ Bo, wr.heap.size = Bo := ⟨_, rfl⟩
            have hbl : Below wr.heap.size wr (wr.alloc (.cells #[.int .i64 A, .int .i64 L, .slice va vn vc] 36)) := (Below.refl _ _).alloc (Nat.le_refl _) _
            have hst : ASt W2 Bo #[.int .i64 A, .int .i64 L, .slice va vn vc] (.slice a2 n2 c2) outl (wr.alloc (.cells #[.int .i64 A, .int .i64 L, .slice va vn vc] 36)) := by
              refine ⟨by rw [heap_at, if_pos hBo.symm], own_later ho2 hbl, fun e => ?_, below_then hbw hbl, by rw [← hBo]; exact hbw.size⟩
              have := (own_lt3 ho2 e).2
              omega
            have e1 : (wr.alloc (.cells #[.int .i64 A, .int .i64 L, .slice va vn vc] 36)).heap.size = Bo + 1 := by simp [hBo]
            by_cases hL : L = 0
            · subst hL
              obtain ⟨hform, d1, d2⟩ := PatM.form_data hg.1 rfl
              simp only at d1 d2
              rw [hDn] at d1 d2
              have HEn : Hid (PatM.enc ⟨A, 0, D⟩ = [255, (vn : Int)] ++ D) := by show _ = _; simp [PatM.enc, hDn]
              have hw : IntKind.u8.wrap (vn : Int) = vn := by rw [IntKind.wrap_u8]; omega
              have hba : Below (wr.alloc (.cells #[.int .i64 A, .int .i64 0, .slice va vn vc] 36)).heap.size (wr.alloc (.cells #[.int .i64 A, .int .i64 0, .slice va vn vc] 36)) ((wr.alloc (.cells #[.int .i64 A, .int .i64 0, .slice va vn vc] 36)).alloc (.cells #[.int .u8 255, .int .u8 (vn : Int)] 5)) := (Below.refl _ _).alloc (Nat.le_refl _) _
              have htl := two_lit (wr.alloc (.cells #[.int .i64 A, .int .i64 0, .slice va vn vc] 36)) 255 vn (by omega) (by omega)
              rw [e1] at htl
              obtain ⟨a5, c5, W5, hrun, HS5⟩ := (hst.later hba).app htl (by omega) (by rw [HOL.out]; omega)
              rw [HOL.out] at hrun HS5
              have q5 := q3.later HS5.out.below
              obtain ⟨a7, c7, W7, hrun2, HS7⟩ := HS5.out.app q5 (by omega) (by rw [List.length_append, HOL.out]; simp only [List.length_cons, List.length_nil]; omega)
              have hl5 : (outl ++ [255, (vn : Int)]).length = n2 + 2 := by rw [List.length_append, HOL.out]; rfl
              rw [hl5] at hrun2 HS7
              obtain ⟨d0, d1', d2'⟩ := cells_blk HS5.out.cb
              clear hst hba htl HS5 q5 hbl hform hg
              go_wp2_with (first | (at_builtin; refine Lib.wpList_append_run _ rfl (.tmp 58) (.tmp 63) _ _ rfl _ _ rfl rfl _ _ hrun ?_) | (at_builtin; refine Lib.wpList_append_run _ rfl (.tmp 65) (.tmp 67) _ _ rfl _ _ rfl rfl _ _ hrun2 ?_))
              go_roundw
              case rel =>
                (repeat apply Exists.intro)
                refine ⟨?_, rfl⟩
                refine ⟨k + 1, a7, n2 + 2 + vn, c7, outl ++ [255, (vn : Int)] ++ D, by go_num, by rw [HLn.out]; omega, rfl, ?_, ?_, HS7.out.own, HS7.out.below⟩
                · rw [List.length_append, hl5, hDn]
                · rw [HT.out, HEn.out, HOU.out]
                  simp
              case measure => simp [intOf]; omega
            · have hLb : (L == 0) = false := by simp [hL]
              have hw1 : IntKind.u8.wrap A = A := by rw [IntKind.wrap_u8]; omega
              have hw2 : IntKind.u8.wrap L = L := by rw [IntKind.wrap_u8]; omega
              have HEn : Hid (PatM.enc ⟨A, L, D⟩ = [A, L]) := by show _ = _; simp [PatM.enc, hL]
              have hba : Below (wr.alloc (.cells #[.int .i64 A, .int .i64 L, .slice va vn vc] 36)).heap.size (wr.alloc (.cells #[.int .i64 A, .int .i64 L, .slice va vn vc] 36)) ((wr.alloc (.cells #[.int .i64 A, .int .i64 L, .slice va vn vc] 36)).alloc (.cells #[.int .u8 A, .int .u8 L] 5)) := (Below.refl _ _).alloc (Nat.le_refl _) _
              have htl := two_lit (wr.alloc (.cells #[.int .i64 A, .int .i64 L, .slice va vn vc] 36)) A L (by omega) (by omega)
              rw [e1] at htl
              obtain ⟨a5, c5, W5, hrun, HS5⟩ := (hst.later hba).app htl (by omega) (by rw [HOL.out]; omega)
              rw [HOL.out] at hrun HS5
              clear hst hba htl hbl hg
              go_wp2_with (at_builtin; refine Lib.wpList_append_run _ rfl (.tmp 69) (.tmp 76) _ _ rfl _ _ rfl rfl _ _ hrun ?_)
              go_roundw
              case rel =>
                (repeat apply Exists.intro)
                refine ⟨?_, rfl⟩
                refine ⟨k + 1, a5, n2 + 2, c5, outl ++ [A, L], by go_num, by rw [HLn.out]; omega, rfl, ?_, ?_, HS5.out.own, HS5.out.below⟩
                · rw [List.length_append, HOL.out]; rfl
                · rw [HT.out, HEn.out, HOU.out]
                  simp
              case measure => simp [intOf]; omega
          · obtain rfl : k = no := by omega
            have HEq : Hid (outl = PatM.putL ⟨f, t, o, nw, s, ops⟩) := by
              show outl = _
              rw [HPL.out, HOU.out, List.take_of_length_le (by rw [HLn.out]; omega)]
            have HBt : Hid (∀ v ∈ outl, 0 ≤ v ∧ v ≤ 255) := by
              show ∀ v ∈ outl, _
              rw [HEq.out]
              exact PatM.putL_bytes HE.out (OS.bytes HO2.out)
            have HOw2 := Lib.hid ho2
            have HBw2 := Lib.hid (below_then HB2.out hbw)
            clear ho2 hbw
            go_wp2_with fail
            go_ret2
            refine ⟨a2, n2, c2, tup_a (by rw [HK.out]), ?_, HBw2.out⟩
            rw [HK.out]
            simp only
            rw [← HEq.out]
            have := HOw2.out
            rw [HOL.out] at this
            exact BS.of_own this HBt.out
  · have hnb : (E != 0) = true := by simp [h0]
    have HK : Hid (PatM.putOf ⟨f, t, o, nw, s, ops⟩ = ([], E)) := by
      show _ = _
      rw [PatM.putOf_bad (by rw [HE.out]; exact h0), HE.out]
    go_wp2_with fail
    go_ret2
    exact ⟨none, 0, 0, tup_a (by rw [HK.out]), by rw [HK.out]; exact BS.nil_ _, b1⟩
end Go.Proofs.Ytmpmaljkmfgagab
