/-
  Contract of the law ChunkAny's closure: one chunk comes.
-/
import Derived.Test.YtmpmaljkmfgagabAnySt
import Derived.Test.YtmpmaljkmfgagabPatchC
import Derived.Deep.RegionHeld3
import Derived.Deep.DeepCutAuto
import Derived.RegionTactic
namespace Go.Proofs.Ytmpmaljkmfgagab
open Go.RowKit

/-- the cells that are loaded ahead of Add -/
structure TkW (G L b o : Nat) (ga : Option Addr) (gn gc : Nat) (la : Option Addr) (ln lc : Nat) (x : ChR) (xa : Option Addr) (xm xc : Nat) (W : World) : Prop where
  g0 : W.cell? ⟨G, 0, none⟩ = some (.slice ga gn gc)
  l0 : W.cell? ⟨L, 0, none⟩ = some (.slice la ln lc)
  x0 : W.cell? ⟨b, o, none⟩ = some (.int .i64 x.fr)
  x1 : W.cell? ⟨b, o + 1, none⟩ = some (.int .i64 x.to_)
  x2 : W.cell? ⟨b, o + 2, none⟩ = some (.int .i64 x.n)
  x3 : W.cell? ⟨b, o + 3, none⟩ = some (.int .i64 x.of_)
  x4 : W.cell? ⟨b, o + 4, none⟩ = some (.slice xa xm xc)
theorem TkW.later {G L b o : Nat} {ga : Option Addr} {gn gc : Nat} {la : Option Addr} {ln lc : Nat} {x : ChR} {xa : Option Addr} {xm xc : Nat} {W W' : World} (h : TkW G L b o ga gn gc la ln lc x xa xm xc W) (hb : Below W.heap.size W W') : TkW G L b o ga gn gc la ln lc x xa xm xc W' :=
  ⟨cell_later hb h.g0, cell_later hb h.l0, cell_later hb h.x0, cell_later hb h.x1, cell_later hb h.x2, cell_later hb h.x3, cell_later hb h.x4⟩
theorem one_cell {W : World} {B : Nat} {v : Value} {t : TypeId} (h : W.heap[B]? = some (.cells #[v] t (0, 0))) : W.cell? ⟨B, 0, none⟩ = some v ∧ W.frozen? ⟨B, 0, none⟩ = false := by
  simp [World.cell?, World.frozen?, h]
theorem one_set {W : World} {B : Nat} {v : Value} {t : TypeId} (h : W.heap[B]? = some (.cells #[v] t (0, 0))) (u : Value) : (W.setCell ⟨B, 0, none⟩ u).heap[B]? = some (.cells #[u] t (0, 0)) := by
  simp [World.setCell, Array.getElem?_modify, h]

set_option maxRecDepth 100000 in
set_option maxHeartbeats 4000000 in
theorem take_any (HAd : AddCC) (HJn : JoinCC) (HSm : SamePC) {w : World} {P L G S Mb : Nat} {p : PatR} {pa : Option Addr} {pn pc : Nat} {la : Option Addr} {ln lc : Nat} {o : List Int} {n : Nat} {seen : Nat → Bool} {W : World}
    (hst : AnySt w P L G S Mb p pa pn pc la ln lc o n seen W) (hck : PatM.check p = 0) (hpk : PackM.Packs (PatM.putL p) o) (hpv : PV w (.agg #[.int .i64 p.from_, .int .i64 p.to_, .int .i64 p.old, .int .i64 p.new, .int .i64 p.size, .slice pa pn pc]) p) (k : Nat) (hk : k < ChunkM.parts o) (hn : n ≤ 1000) :
    Calls Try.prog 58 #[.int .i64 k, .pointer (some ⟨G, 0, none⟩), .pointer (some ⟨L, 0, none⟩), .pointer (some ⟨S, 0, none⟩), .pointer (some ⟨P, 0, none⟩)] W fun e W' => e = .returned (.bool true) ∧ AnySt w P L G S Mb p pa pn pc la ln lc o (n + 1) (fun j => seen j || decide (j = k)) W' := by
  obtain ⟨hb, -⟩ := PatM.check_parts hck
  have hf : 1 ≤ p.from_ ∧ p.from_ ≤ 30 := by unfold PatM.badHead at hb; omega
  have ht : 1 ≤ p.to_ ∧ p.to_ ≤ 30 := by unfold PatM.badHead at hb; omega
  have hp10 := ChunkM.packed_parts hck hpk
  have hp52 : ChunkM.parts o ≤ 52 := by omega
  have HAdd := Lib.hid (ChunkM.some_add (o := o) hf ht hp52 seen hk)
  have HNe : Hid (ChunkM.some_ p.from_ p.to_ o (fun j => seen j || decide (j = k)) ≠ []) := ChunkM.some_ne hk (by simp)
  have HLate : Hid (∀ r, ChunkM.JoinIs (ChunkM.some_ p.from_ p.to_ o (fun j => seen j || decide (j = k))) r → ChunkM.seenN (ChunkM.parts o) (fun j => seen j || decide (j = k)) < ChunkM.parts o → r = (noPat, 5)) := by
    show ∀ r, _
    intro r hr hlt
    exact ChunkM.some_late hf ht hp52 HNe.out (by rw [ChunkM.some_seen]; exact hlt) hr
  have HAll : Hid (∀ r, ChunkM.JoinIs (ChunkM.some_ p.from_ p.to_ o (fun j => seen j || decide (j = k))) r → ChunkM.seenN (ChunkM.parts o) (fun j => seen j || decide (j = k)) = ChunkM.parts o → r = (p, 0)) := by
    show ∀ r, _
    intro r hr he
    rw [ChunkM.some_all _ _ _ (ChunkM.seenN_all he)] at hr
    exact ChunkM.cut_join hck hpk hr
  have HSeen := Lib.hid (ChunkM.seenN_le (ChunkM.parts o) (fun j => seen j || decide (j = k)))
  have HGet := Lib.hid (ChunkM.cutL_get p.from_ p.to_ o hk)
  have HLnK : Hid (ln = ChunkM.parts o) := by
    show ln = _
    rw [← hst.lcs.len, ChunkM.cutL_length]
  have HPV := Lib.hid hpv
  generalize hs' : (fun j => seen j || decide (j = k)) = seen' at HAdd HNe HLate HAll HSeen ⊢
  have HS' := Lib.hid hs'
  obtain ⟨K, hK⟩ : ∃ K, ChunkM.parts o = K := ⟨_, rfl⟩
  have HKK := Lib.hid hK
  rw [hK] at hk hp10 HLate HAll HSeen HLnK
  obtain rfl : ln = K := HLnK.out
  have HST := Lib.hid hst
  obtain ⟨ga, gn, gc, hG, hgcs⟩ := hst.g
  obtain ⟨b, off, hla, hcs⟩ := hst.lcs.cells (by omega)
  subst hla
  have hqk := hcs k (by omega)
  rw [HGet.out] at hqk
  have HGC := Lib.hid hgcs
  obtain ⟨xa, xm, xc, q0, q1, q2, q3, q4, q5, q6⟩ := hqk
  obtain ⟨x, hx⟩ : ∃ x, ChunkM.nth p.from_ p.to_ o k = x := ⟨_, rfl⟩
  rw [hx] at q0 q1 q2 q3 q5 q6 HAdd
  have HCV : Hid (CV W (.agg #[.int .i64 x.fr, .int .i64 x.to_, .int .i64 x.n, .int .i64 x.of_, .slice xa xm xc]) x) := ⟨xa, xm, xc, rfl, q5, q6⟩
  have HW : Hid (TkW G L b (off + k * 5) ga gn gc (some ⟨b, off, none⟩) ln lc x xa xm xc W) := ⟨(one_cell hG).1, (one_cell hst.lb).1, q0, q1, q2, q3, q4⟩
  have hk0 : (0 : Int) ≤ (k : Int) := by omega
  have hkn : (k : Int) < (ln : Int) := by omega
  obtain ⟨k5, hk5⟩ : ∃ k5, off + k * 5 = k5 := ⟨_, rfl⟩
  rw [hk5] at HW
  have HAd' : Hid (∀ W, CS W ga gn gc (ChunkM.some_ p.from_ p.to_ o seen) → CV W (.agg #[.int .i64 x.fr, .int .i64 x.to_, .int .i64 x.n, .int .i64 x.of_, .slice xa xm xc]) x → Calls Try.prog 46 #[.slice ga gn gc, .agg #[.int .i64 x.fr, .int .i64 x.to_, .int .i64 x.n, .int .i64 x.of_, .slice xa xm xc]] W fun e W' => ∃ a n c, e = .returned (.tuple #[.slice a n c, .int .i64 0]) ∧ CS W' a n c (ChunkM.some_ p.from_ p.to_ o seen') ∧ Below W.heap.size W W') := by
    show ∀ W, _
    intro W h1 h2
    have := HAd _ _ _ _ _ _ W h1 h2
    unfold GivesAd at this
    rw [HAdd.out] at this
    exact this
  replace HJn := Lib.hid HJn
  replace HSm := Lib.hid HSm
  clear hst hck hpk hpv hcs hG hgcs q0 q1 q2 q3 q4 q5 q6 hx hb hf ht hs' HAdd HGet HLnK HAd hK
  have H1 := Lib.hid (HST.out.later (Below.refl _ _).drew)
  have HW1 := Lib.hid (HW.out.later (Below.refl _ _).drew)
  have HCV1 := Lib.hid (HCV.out.later (Below.refl _ _).drew)
  have HGC1 := Lib.hid (HGC.out.later (Below.refl _ _).drew)
  obtain ⟨c0, c1, c2, c3, c4, c5, c6⟩ := HW.out
  obtain ⟨e0, e1, e2, e3, e4, e5, e6⟩ := HW1.out
  go_enter Try.func58, Try.ntmps58
  go_wp2_with fail
  go_region_held3 (fun W => W.cell? ⟨G, 0, none⟩ = some (.slice ga gn gc) ∧ W.cell? ⟨L, 0, none⟩ = some (.slice (some ⟨b, off, none⟩) ln lc) ∧ W.cell? ⟨b, k5, none⟩ = some (.int .i64 x.fr) ∧ W.cell? ⟨b, k5 + 1, none⟩ = some (.int .i64 x.to_) ∧ W.cell? ⟨b, k5 + 2, none⟩ = some (.int .i64 x.n) ∧ W.cell? ⟨b, k5 + 3, none⟩ = some (.int .i64 x.of_) ∧ W.cell? ⟨b, k5 + 4, none⟩ = some (.slice xa xm xc))
    (first | exact ⟨e0, e1, e2, e3, e4, e5, e6⟩ | exact ⟨p0, p1, p2, p3, p4, p5, p6⟩) (first
    | (go_at_call 46; refine (HAd'.out _ HGC1.out HCV1.out).mono ?_; rintro e W2 ⟨a2, n2, c2', rfl, hcs2, b2⟩
       have H2 := Lib.hid (H1.out.later b2)
       obtain ⟨p0, p1, p2, p3, p4, p5, p6⟩ := HW1.out.later b2
       have HC2 := Lib.hid hcs2
       clear hcs2 b2))
  all_goals
    clear c0 c1 c2 c3 c4 c5 c6 e0 e1 e2 e3 e4 e5 e6 p0 p1 p2 p3 p4 p5 p6 H1 HW HW1 HCV HCV1 HGC HGC1 HST HAd'
    obtain ⟨ga2, gn2, gc2, hG2, -⟩ := H2.out.g
    have hGM : G ≠ Mb := by
      rintro rfl
      obtain ⟨es, cl, hm⟩ := H2.out.mp.blk
      have := hG2.symm.trans hm
      simp at this
    -- the map is written ahead of the cell
    have hKp : k < ChunkM.parts o := by rw [HKK.out]; exact hk
    have hK9 : ChunkM.parts o ≤ 1000 := by rw [HKK.out]; omega
    obtain ⟨WA, hrA, hmA, hgA⟩ := MapSt.update (W := W2.drew) H2.out.mp k hKp hK9 hn
    -- .. or behind it
    have hG3 := one_set hG2 (.slice a2 n2 c2')
    have hoth : ∀ q, q ≠ G → (W2.setCell ⟨G, 0, none⟩ (.slice a2 n2 c2')).heap[q]? = W2.heap[q]? := fun q hq => Below.heap_setCell _ _ _ q hq
    have hmp3 : MapSt (W2.setCell ⟨G, 0, none⟩ (.slice a2 n2 c2')).drew Mb n (ChunkM.parts o) seen := H2.out.mp.keep (hoth Mb (Ne.symm hGM))
    obtain ⟨WB, hrB, hmB, hgB⟩ := MapSt.update hmp3 k hKp hK9 hn
    rw [HS'.out] at hmA hmB
    have hGA : WA.heap[G]? = some (.cells #[.slice ga2 gn2 gc2] 67 (0, 0)) := (hgA.block G (lt_blk9 hG2) (by simpa using hGM)).trans hG2
    have HA : Hid (AnySt w P L G S Mb p pa pn pc (some ⟨b, off, none⟩) ln lc o (n + 1) seen' (WA.setCell ⟨G, 0, none⟩ (.slice a2 n2 c2'))) := by
      refine H2.out.turn HC2.out hgA.os hgA.tape hgA.output (by have := hgA.size; simpa using this) (fun q q1 q2 q3 => ?_) (one_set hGA _) (hmA.keep (Below.heap_setCell _ _ _ Mb (Ne.symm hGM)))
      rw [Below.heap_setCell _ _ _ q q2]
      exact hgA.block q q1 (by simpa using q3)
    have HB : Hid (AnySt w P L G S Mb p pa pn pc (some ⟨b, off, none⟩) ln lc o (n + 1) seen' WB) := by
      refine H2.out.turn HC2.out hgB.os hgB.tape hgB.output (by have := hgB.size; simpa using this) (fun q q1 q2 q3 => ?_) ?_ hmB
      · exact (hgB.block q (by simpa using q1) (by simpa using q3)).trans (hoth q q2)
      · exact (hgB.block G (by simpa using lt_blk9 hG2) (by simpa using hGM)).trans hG3
    obtain ⟨g0, gf⟩ := one_cell hG2
    obtain ⟨gA0, gAf⟩ := one_cell hGA
    obtain ⟨s0, -⟩ := one_cell H2.out.sb
    have hSG : S ≠ G := by
      rintro rfl
      have := H2.out.sb.symm.trans hG2
      simp at this
    obtain ⟨sB, -⟩ := one_cell ((hoth S hSG).trans H2.out.sb)
    clear hmA hgA hG3 hoth hmp3 hmB hgB hGA hG2 H2 HC2 hKp hK9
    go_upto_region 4 with fail
    go_cut [] (fun wx => AnySt w P L G S Mb p pa pn pc (some ⟨b, off, none⟩) ln lc o (n + 1) seen' wx)
    case first =>
      go_region
      all_goals
        go_wp2_with fail
        go_meet
        first | exact HA.out | exact HB.out
    case rest =>
      have H5 := Lib.hid hcut
      clear hcut HA HB hrA hrB g0 gf gA0 gAf s0 sB hSG hGM
      generalize wc = W5 at H5 ⊢
      obtain ⟨ga5, gn5, gc5, hG5, hcs5⟩ := H5.out.g
      obtain ⟨g0, -⟩ := one_cell hG5
      have HC5 := Lib.hid hcs5
      clear hG5 hcs5
      go_wp2_with fail
      refine (HJn.out _ _ _ _ _ HC5.out).mono ?_
      rintro e W6 ⟨⟨r, er⟩, hj, v6, rfl, hv6, b6⟩
      obtain ⟨a6, n6, c6, rfl, hov6⟩ := hv6
      simp only at hov6 ⊢
      have hba : Below W6.heap.size W6 (W6.alloc (.cells #[.int .i64 r.from_, .int .i64 r.to_, .int .i64 r.old, .int .i64 r.new, .int .i64 r.size, .slice a6 n6 c6] 41)) := (Below.refl _ _).alloc (Nat.le_refl _) _
      have H7 := Lib.hid ((H5.out.later b6).later hba)
      have HQ7 : Hid (PV (W6.alloc (.cells #[.int .i64 r.from_, .int .i64 r.to_, .int .i64 r.old, .int .i64 r.new, .int .i64 r.size, .slice a6 n6 c6] 41)) (.agg #[.int .i64 r.from_, .int .i64 r.to_, .int .i64 r.old, .int .i64 r.new, .int .i64 r.size, .slice a6 n6 c6]) r) := ⟨a6, n6, c6, rfl, hov6.1.later hba, hov6.2⟩
      obtain ⟨Q, hQ⟩ : ∃ Q, W6.heap.size = Q := ⟨_, rfl⟩
      have hQb : (W6.alloc (.cells #[.int .i64 r.from_, .int .i64 r.to_, .int .i64 r.old, .int .i64 r.new, .int .i64 r.size, .slice a6 n6 c6] 41)).heap[Q]? = some (.cells #[.int .i64 r.from_, .int .i64 r.to_, .int .i64 r.old, .int .i64 r.new, .int .i64 r.size, .slice a6 n6 c6] 41 (0, 0)) := by rw [heap_at, if_pos hQ.symm]
      have HJ := Lib.hid hj
      have HQB := Lib.hid hQb
      clear b6 hba hov6 hj H5 HC5 g0 hQb
      obtain ⟨s0, -⟩ := one_cell H7.out.sb
      obtain ⟨l0, -⟩ := one_cell H7.out.lb
      have hlen := fun ty => H7.out.mp.len ty
      rw [HKK.out] at hlen
      obtain ⟨SN, hSN⟩ : ∃ SN, ChunkM.seenN ln seen' = SN := ⟨_, rfl⟩
      rw [hSN] at hlen
      have hle : SN ≤ ln := by rw [← hSN]; exact HSeen.out
      by_cases hlt : SN < ln
      · have he := HLate.out _ HJ.out (by rw [hSN]; exact hlt)
        simp only [Prod.mk.injEq] at he
        obtain ⟨rfl, rfl⟩ := he
        have hltI : (SN : Int) < (ln : Int) := by omega
        clear hSN
        go_wp2_with fail
        go_ret
        exact ⟨rfl, H7.out⟩
      · have hSe : SN = ln := by omega
        have he := HAll.out _ HJ.out (by rw [hSN]; exact hSe)
        simp only [Prod.mk.injEq] at he
        obtain ⟨rfl, rfl⟩ := he
        subst hSe
        have hnl : ¬ ((SN : Int) < (SN : Int)) := by omega
        have hee : ((SN : Int) == (SN : Int)) = true := by simp
        have HPV7 := Lib.hid (HPV.out.later H7.out.below)
        obtain ⟨y0, y1, y2, y3, y4, y5, -⟩ := pat_cells H7.out.pb
        obtain ⟨z0, z1, z2, z3, z4, z5, -⟩ := pat_cells HQB.out
        clear hSN
        go_wp2_with fail
        refine (HSm.out _ _ _ _ _ HPV7.out HQ7.out).mono ?_
        rintro e W8 ⟨rfl, b8⟩
        rw [decide_eq_true rfl]
        have H8 := Lib.hid (H7.out.later b8)
        go_wp2_with fail
        go_ret
        exact ⟨rfl, H8.out⟩
end Go.Proofs.Ytmpmaljkmfgagab
