/-
  Contract of chunk.Join: it returns what the document says.
-/
import Derived.Test.YtmpmaljkmfgagabJoinL
import Derived.Test.YtmpmaljkmfgagabCList
import Derived.Test.YtmpmaljkmfgagabUnpack
import Derived.Test.YtmpmaljkmfgagabPRd
import Derived.Test.YtmpmaljkmfgagabRowToOpenN
namespace Go.Proofs.Ytmpmaljkmfgagab
open Go.RowKit

/-- no more chunks than there are of the patch -/
theorem ChunkM.checks_of {l : List ChR} (h : ChunkM.checks l = 0) (hne : l ≠ []) : (l.length : Int) ≤ (l.getD 0 default).of_ := by
  have hm : l.getD 0 default ∈ l := by
    cases l with
    | nil => exact absurd rfl hne
    | cons x t => simp
  have h0 := ChunkM.check_good (ChunkM.checks_all h _ hm).1
  have h1 := ChunkM.up_len (l := l) (ChunkM.checks_up h) (lo := 0) (hi := (l.getD 0 default).of_) (fun y hy => by
    have h1 := ChunkM.checks_all h y hy
    have h2 := (ChunkM.check_good h1.1).2.2
    have h3 := h1.2.1.2.2
    omega) (by omega)
  omega

/-- what Join returns, its memory new -/
def GivesJN (l : List ChR) (w : World) (e : Ending) (w' : World) : Prop :=
  ∃ r, ChunkM.JoinIs l r ∧ ∃ v, e = .returned (.tuple #[v, .int .i64 r.2]) ∧ NewR w.heap.size w' (fun V => PV V v r.1) ∧ Below w.heap.size w w'

set_option maxRecDepth 100000 in
set_option maxHeartbeats 2000000 in
theorem joinC_n (a : Option Addr) (n c : Nat) (l : List ChR) (w : World) (hl : CS w a n c l) : Calls Try.prog 47 #[.slice a n c] w (GivesJN l w) := by
  have HL := Lib.hid hl
  have HLn := Lib.hid hl.len
  have hlen : n ≤ 9223372036854775807 := by have := hl.le; have := hl.max; omega
  obtain ⟨B, hBB⟩ : ∃ B, w.heap.size = B := ⟨_, rfl⟩
  have hle : w.heap.size ≤ B := by omega
  have HLE := Lib.hid hle
  have hb0 : Below w.heap.size w (w.alloc (.cells #[.int .i64 0, .int .i64 0, .int .i64 0, .int .i64 0, .int .i64 0, .slice none 0 0] 41)) := (Below.refl _ _).alloc (Nat.le_refl _) _
  have hblk : (w.alloc (.cells #[.int .i64 0, .int .i64 0, .int .i64 0, .int .i64 0, .int .i64 0, .slice none 0 0] 41)).heap[B]? = some (.cells #[.int .i64 0, .int .i64 0, .int .i64 0, .int .i64 0, .int .i64 0, .slice none 0 0] 41 (0, 0)) := by rw [heap_at, if_pos hBB.symm]
  have HB0 := Lib.hid hb0
  have HBLK := Lib.hid hblk
  clear hl hb0 hblk hle
  go_enter Try.func47, Try.ntmps47
  go_wp2_with fail
  refine (listC_ok a n c l _ (HL.out.later HB0.out)).mono ?_
  rintro e W1 ⟨rfl, b1⟩
  have hB1 := below_then HB0.out b1
  have hblk1 := (b1.block B (lt_blk HBLK.out)).trans HBLK.out
  have HB1 := Lib.hid hB1
  have HBLK1 := Lib.hid hblk1
  clear b1 HB0 HBLK
  obtain ⟨E, hE⟩ : ∃ E, ChunkM.checks l = E := ⟨_, rfl⟩
  rw [hE]
  by_cases hE0 : E = 0
  · subst hE0
    have HE := Lib.hid hE
    clear hE
    by_cases hn0 : n = 0
    · subst hn0
      have HJ : Hid (ChunkM.joinErr l = 5) := by
        show _ = _
        unfold ChunkM.joinErr
        rw [if_neg (by rw [HE.out]; simp), if_pos (.inl (List.eq_nil_of_length_eq_zero HLn.out))]
      obtain ⟨r0, r1, r2, r3, r4, r5, f0, f1, f2, f3, f4, f5⟩ := pat_cells hblk1
      have g0 : ∀ v, (W1.setCell ⟨B, 0, none⟩ v).cell? ⟨B, 0, none⟩ = some v := fun v => World.cell?_setCell_same _ _ _ r0
      obtain ⟨W6, hW6, q0, q1, q2, q3, q4, q5, hb6, -, -⟩ := six_set hblk1 hB1 HLE.out (.int .i64 0) (.int .i64 0) (.int .i64 0) (.int .i64 0) (.int .i64 0) (.slice none 0 0)
      have HB6 := Lib.hid hb6
      clear hb6 hB1 hblk1
      go_wp2_with fail
      try simp only [Exit.inBlock, Exit.then]
      refine bodyPost_ret (by simp [results, Try.results47, go_sem, q0, q1, q2, q3, q4, q5]; try rfl) rfl ?_
      exact ⟨(noPat, 5), .inl ⟨by rw [HJ.out]; omega, by rw [HJ.out]⟩, _, rfl, NewR.any (fun V => noPat_pv V), HB6.out⟩
    · obtain ⟨b, off, rfl, hcs⟩ := (HL.out.later hB1).cells (by omega)
      obtain ⟨za, zm, zc, z0, z1, z2, z3, -, -, zI⟩ := hcs 0 (by omega)
      have HM0 : Hid (l.getD 0 default ∈ l) := by
        show _ ∈ l
        have := HLn.out
        cases l with
        | nil => simp at this; omega
        | cons x t => simp
      obtain ⟨zz, hzz⟩ : ∃ zz, l.getD 0 default = zz := ⟨_, rfl⟩
      rw [hzz] at z0 z1 z3 HM0
      have HZZ := Lib.hid hzz
      obtain ⟨ZF, ZT, ZN, ZO, ZD⟩ := zz
      simp only [Nat.zero_mul, Nat.add_zero] at z0 z1 z3
      have hnb : ((n : Int) == 0) = false := by simp; omega
      have h0n : (0 : Int) < (n : Int) := by omega
      clear hcs z2 hzz
      by_cases hof : (n : Int) = ZO
      · have hofb : decide ((n : Int) < ZO) = false := by simp; omega
        have hofn : ¬ ((n : Int) < ZO) := by omega
        have HJ : Hid (ChunkM.joinErr l = 0) := by
          show _ = _
          unfold ChunkM.joinErr
          rw [if_neg (by rw [HE.out]; simp), if_neg]
          rintro (h | h)
          · rw [h] at HM0; exact absurd HM0.out (by simp)
          · rw [HZZ.out, HLn.out] at h; exact h hof
        have h52 := (ChunkM.joinErr_ok HJ.out).2.2.2
        rw [HLn.out] at h52
        have HDat := Lib.hid (ChunkM.checks_data HE.out)
        have HZ : Hid (∀ W, Below W1.heap.size W1 W → W.cell? ⟨b, off, none⟩ = some (.int .i64 ZF) ∧ W.cell? ⟨b, off + 1, none⟩ = some (.int .i64 ZT)) := fun W h => ⟨cell_later h z0, cell_later h z1⟩
        clear hof
        go_wp2_with fail
        go_loopw [5, 31] (fun vb i wr => JoinRel l W1 vb i wr) (fun _ i _ => n - (intOf i).toNat)
        case atStart => exact ⟨0, rfl, Nat.zero_le _, by rw [List.take_zero]; exact World.ownsRow_nil _ _ _ _, Below.refl _ _⟩
        case round =>
          obtain ⟨k, rfl, hk, ho, hB⟩ := hrel
          rw [HLn.out] at hk
          have HO := Lib.hid ho
          have HB := Lib.hid hB
          clear ho hB
          by_cases hlt : k < n
          · obtain ⟨b', off', e', hcs⟩ := ((HL.out.later hB1).later HB.out).cells (by omega)
            simp only [Option.some.injEq, Addr.mk.injEq, and_true] at e'
            obtain ⟨rfl, rfl⟩ := e'
            obtain ⟨va, vm, vc, p0, p1, p2, p3, p4, p5, pI⟩ := hcs k hlt
            have HD := Lib.hid (drop_ch l k (by rw [HLn.out]; exact hlt))
            have hmem : l.getD k default ∈ l := by
              have : l.getD k default ∈ l.drop k := by rw [HD.out]; simp
              exact List.mem_of_mem_drop this
            have HTk : Hid (ChunkM.flatD (l.take (k + 1)) = ChunkM.flatD (l.take k) ++ (l.getD k default).data) := by
              show _ = _
              have hkl : k < l.length := by rw [HLn.out]; exact hlt
              rw [List.take_add_one, ChunkM.flatD_append, List.getD_eq_getElem?_getD, List.getElem?_eq_getElem hkl]
              simp [ChunkM.flatD]
            have hdl := HDat.out _ hmem
            generalize l.getD k default = x at p0 p1 p2 p3 p4 p5 HTk hdl
            obtain ⟨F, T, N, O, D⟩ := x
            simp only at p0 p1 p2 p3 p4 p5 hdl HTk
            have hfl : (ChunkM.flatD (l.take k)).length ≤ 16 * k := by
              have := ChunkM.flat_len (l := l.take k) (fun c hc => HDat.out c (List.mem_of_mem_take hc))
              rw [List.length_take, HLn.out] at this
              omega
            have hbl : Below wr.heap.size wr (wr.alloc (.cells #[.int .i64 F, .int .i64 T, .int .i64 N, .int .i64 O, .slice va vm vc] 69)) := (Below.refl _ _).alloc (Nat.le_refl _) _
            have hb2 := below_then HB.out hbl
            have hvl := p5.len
            obtain ⟨a5, c5, W5, hrun, hown5, hg5⟩ := app_run (own_later HO.out hbl) (p5.later hbl) (by omega) (by have := hb2.size; omega)
            have HB5 := Lib.hid (hb2.grown hg5 hb2.size (fun g hg => (own_lt3 HO.out hg).1))
            have HO5 : Hid (W5.ownsRow W1.heap.size 5 1 (.slice a5 ((ChunkM.flatD (l.take k)).length + vm) c5) (ChunkM.flatD (l.take (k + 1))).length ((ChunkM.flatD (l.take (k + 1))).map (Value.int .u8))) := by
              show World.ownsRow _ _ _ _ _ _ _
              rw [HTk.out, List.length_append, hvl]
              exact hown5
            clear hcs hbl hb2 hown5 hg5 p5 pI hmem
            generalize (ChunkM.flatD (l.take k)).length = fl at hrun hfl HO5
            go_wp2_with (at_builtin; refine Lib.wpList_append_run _ rfl _ _ _ _ rfl _ _ rfl rfl _ _ hrun ?_)
            go_roundw
            case rel => exact ⟨k + 1, by go_num, by rw [HLn.out]; omega, HO5.out, HB5.out⟩
            case measure => simp [intOf]; omega
          · have hkn : k = n := by omega
            subst hkn
            have ho := HO.out
            rw [List.take_of_length_le (by rw [HLn.out]; exact Nat.le_refl _)] at ho
            obtain ⟨fb, hfb⟩ : ∃ fb, ChunkM.flatD l = fb := ⟨_, rfl⟩
            have hfl : fb.length ≤ 832 := by
              have := ChunkM.flat_len HDat.out
              rw [HLn.out, hfb] at this
              omega
            have hby := flat_bytes HL.out.bytes
            rw [hfb] at ho hby
            have HFB := Lib.hid hfb
            obtain ⟨av, cv, hvb⟩ := own_slice ho
            subst hvb
            have hbs := BS.of_own ho hby
            have hblk2 := (HB.out.block B (lt_blk HBLK1.out)).trans HBLK1.out
            have hB2 := below_then HB1.out HB.out
            obtain ⟨y0, y1⟩ := HZ.out _ HB.out
            obtain ⟨FL, hFL⟩ : ∃ FL, fb.length = FL := ⟨_, rfl⟩
            rw [hFL] at hbs hfl
            have HBS := Lib.hid hbs
            have HB2 := Lib.hid hB2
            have HBLK2 := Lib.hid hblk2
            rw [hFL]
            clear ho hbs hby hfb hB2 hblk2 HO hFL
            go_wp2_with fail
            refine (unpack_any av FL cv fb 400 _ HBS.out (by omega)).mono ?_
            rintro e W3 ⟨u, a3, n3, c3, hu, rfl, s3, b3⟩
            have hblk3 := (b3.block B (lt_blk HBLK2.out)).trans HBLK2.out
            have hB3 := below_then HB2.out b3
            replace y0 := cell_later b3 y0
            replace y1 := cell_later b3 y1
            have HU : Hid (PackM.Unp 400 (ChunkM.flatD l) [] u) := by show PackM.Unp _ _ _ _; rw [HFB.out]; exact hu
            clear b3 hu HBS HB2 HBLK2
            obtain ⟨ub, ue⟩ := u
            simp only at s3 ⊢
            by_cases hue : ue = 0
            · subst hue
              have HB3 := Lib.hid hB3
              have HBLK3 := Lib.hid hblk3
              have HS3 := Lib.hid s3
              clear hB3 hblk3 s3
              go_wp2_with fail
              refine (readP_n a3 n3 c3 ub _ HS3.out).mono ?_
              rintro e W4 ⟨v4, rfl, b4, hpv⟩
              have hpv4 := hpv W4 (Nat.le_refl _) (fun _ _ _ => rfl) trivial
              obtain ⟨⟨pf, pt, po, pn, ps, pops⟩, hrp⟩ : ∃ rp, (PatM.readOf ub).1 = rp := ⟨_, rfl⟩
              obtain ⟨re, hre⟩ : ∃ re, (PatM.readOf ub).2 = re := ⟨_, rfl⟩
              rw [hrp] at hpv hpv4
              rw [hre]
              obtain ⟨ap, np, cp, rfl, -⟩ := hpv4
              simp only at hpv ⊢
              have hblk4 := (b4.block B (lt_blk HBLK3.out)).trans HBLK3.out
              have hB4 := below_then HB3.out b4
              replace y0 := cell_later b4 y0
              replace y1 := cell_later b4 y1
              have hlt3 := lt_blk HBLK3.out
              have HPV := Lib.hid hpv
              have HRP := Lib.hid hrp
              have HRE := Lib.hid hre
              have hbl : Below W4.heap.size W4 (W4.alloc (.cells #[.int .i64 pf, .int .i64 pt, .int .i64 po, .int .i64 pn, .int .i64 ps, .slice ap np cp] 41)) := (Below.refl _ _).alloc (Nat.le_refl _) _
              have hblk5 := (hbl.block B (lt_blk hblk4)).trans hblk4
              have hB5 := below_then hB4 hbl
              have y0' := cell_later hbl y0
              have y1' := cell_later hbl y1
              have hsb := (HS3.out.later b4).later hbl
              have hnew : (W4.alloc (.cells #[.int .i64 pf, .int .i64 pt, .int .i64 po, .int .i64 pn, .int .i64 ps, .slice ap np cp] 41)).heap[W4.heap.size]? = some (.cells #[.int .i64 pf, .int .i64 pt, .int .i64 po, .int .i64 pn, .int .i64 ps, .slice ap np cp] 41 (0, 0)) := by rw [heap_at, if_pos rfl]
              have hb45 := Lib.hid b4.size
              have HBl := Lib.hid hbl
              have HSB := Lib.hid hsb
              have HNEW := Lib.hid hnew
              have HB5 := Lib.hid hB5
              have HBLK5 := Lib.hid hblk5
              clear hrp hre hpv b4 hbl hblk4 hB4 y0 y1 hsb hnew hB5 hblk5
              by_cases hre0 : re = 0
              · subst hre0
                go_wp2_with fail
                generalize W4.alloc (.cells #[.int .i64 pf, .int .i64 pt, .int .i64 po, .int .i64 pn, .int .i64 ps, .slice ap np cp] 41) = W5 at y0' y1' HBl HSB HNEW HB5 HBLK5 ⊢
                obtain ⟨p0, p1, p2, p3, p4, p5, -⟩ := pat_cells HNEW.out
                have HEnd : Hid (∀ r : PatR × Int, ChunkM.joinEnd l (ub, 0) = r → ChunkM.JoinIs l r) := fun r h => .inr ⟨HJ.out, (ub, 0), HU.out, h.symm⟩
                have HJE : Hid (ChunkM.joinEnd l (ub, 0) = if pf ≠ ZF ∨ pt ≠ ZT then (noPat, 3) else (⟨pf, pt, po, pn, ps, pops⟩, 0)) := by
                  show _ = _
                  unfold ChunkM.joinEnd
                  simp only
                  rw [if_neg (by simp), HRE.out, if_neg (by simp), HRP.out, HZZ.out]
                by_cases c1 : pf = ZF
                · subst c1
                  have t1 : (pf != pf) = false := by simp
                  by_cases c2 : pt = ZT
                  · subst c2
                    have t2 : (pt != pt) = false := by simp
                    have HRes := Lib.hid (HEnd.out (⟨pf, pt, po, pn, ps, pops⟩, 0) (by rw [HJE.out, if_neg (by simp)]))
                    go_quiet (fail)
                    have hblkq : (W5.drewN nq).heap[B]? = _ := HBLK5.out
                    have hBq := below_drewN HB5.out nq
                    have hSq := HSB.out.drewN nq
                    have HBlq := Lib.hid (below_drewN HBl.out nq)
                    have hnewq : (W5.drewN nq).heap[W4.heap.size]? = _ := HNEW.out
                    clear HBLK5 HB5 HSB HBl HNEW y0' y1' p0 p1 p2 p3 p4 p5
                    generalize W5.drewN nq = W7 at hblkq hBq hSq HBlq hnewq ⊢
                    obtain ⟨p0, p1, p2, p3, p4, p5, -⟩ := pat_cells hnewq
                    obtain ⟨r0, r1, r2, r3, r4, r5, f0, f1, f2, f3, f4, f5⟩ := pat_cells hblkq
                    have g0 : ∀ v, (W7.setCell ⟨B, 0, none⟩ v).cell? ⟨B, 0, none⟩ = some v := fun v => World.cell?_setCell_same _ _ _ r0
                    obtain ⟨W6, hW6, q0, q1, q2, q3, q4, q5, hb6, hoth, hsz⟩ := six_set hblkq hBq HLE.out (.int .i64 pf) (.int .i64 pt) (.int .i64 po) (.int .i64 pn) (.int .i64 ps) (.slice ap np cp)
                    have HB6 := Lib.hid hb6
                    have HP6 : Hid (NewR w.heap.size W6 (fun V => PV V (.agg #[.int .i64 pf, .int .i64 pt, .int .i64 po, .int .i64 pn, .int .i64 ps, .slice ap np cp]) ⟨pf, pt, po, pn, ps, pops⟩)) := by
                      show NewR _ _ _
                      refine fun V v1 v2 => HPV.out V (Nat.le_trans (by rw [hsz]; exact HBlq.out.size) v1) (fun k k1 k2 => ?_) trivial
                      have k3 : W4.heap.size ≤ W7.heap.size := HBlq.out.size
                      rw [v2 k (by have := HB3.out.size; omega) (by rw [hsz]; omega), hoth k (by omega)]
                      exact HBlq.out.block k k2
                    clear hb6 hoth hsz hblkq hBq hSq hnewq
                    go_wp2_with fail
                    try simp only [Exit.inBlock, Exit.then]
                    refine bodyPost_ret (by simp [results, Try.results47, go_sem, q0, q1, q2, q3, q4, q5]; try rfl) rfl ?_
                    exact ⟨_, HRes.out, _, rfl, HP6.out, HB6.out⟩
                  · have t2 : (pt != ZT) = true := by simp [c2]
                    have HRes := Lib.hid (HEnd.out (noPat, 3) (by rw [HJE.out, if_pos (.inr c2)]))
                    go_quiet (fail)
                    have hblkq : (W5.drewN nq).heap[B]? = _ := HBLK5.out
                    have hBq := below_drewN HB5.out nq
                    clear HBLK5 HB5 HSB HBl HNEW y0' y1' p0 p1 p2 p3 p4 p5
                    generalize W5.drewN nq = W7 at hblkq hBq ⊢
                    obtain ⟨r0, r1, r2, r3, r4, r5, f0, f1, f2, f3, f4, f5⟩ := pat_cells hblkq
                    have g0 : ∀ v, (W7.setCell ⟨B, 0, none⟩ v).cell? ⟨B, 0, none⟩ = some v := fun v => World.cell?_setCell_same _ _ _ r0
                    obtain ⟨W6, hW6, q0, q1, q2, q3, q4, q5, hb6, -, -⟩ := six_set hblkq hBq HLE.out (.int .i64 0) (.int .i64 0) (.int .i64 0) (.int .i64 0) (.int .i64 0) (.slice none 0 0)
                    have HB6 := Lib.hid hb6
                    clear hb6
                    go_wp2_with fail
                    try simp only [Exit.inBlock, Exit.then]
                    refine bodyPost_ret (by simp [results, Try.results47, go_sem, q0, q1, q2, q3, q4, q5]; try rfl) rfl ?_
                    exact ⟨_, HRes.out, _, rfl, NewR.any (fun V => noPat_pv V), HB6.out⟩
                · have t1 : (pf != ZF) = true := by simp [c1]
                  have HRes := Lib.hid (HEnd.out (noPat, 3) (by rw [HJE.out, if_pos (.inl c1)]))
                  go_quiet (fail)
                  have hblkq : (W5.drewN nq).heap[B]? = _ := HBLK5.out
                  have hBq := below_drewN HB5.out nq
                  clear HBLK5 HB5 HSB HBl HNEW y0' y1' p0 p1 p2 p3 p4 p5
                  generalize W5.drewN nq = W7 at hblkq hBq ⊢
                  obtain ⟨r0, r1, r2, r3, r4, r5, f0, f1, f2, f3, f4, f5⟩ := pat_cells hblkq
                  have g0 : ∀ v, (W7.setCell ⟨B, 0, none⟩ v).cell? ⟨B, 0, none⟩ = some v := fun v => World.cell?_setCell_same _ _ _ r0
                  obtain ⟨W6, hW6, q0, q1, q2, q3, q4, q5, hb6, -, -⟩ := six_set hblkq hBq HLE.out (.int .i64 0) (.int .i64 0) (.int .i64 0) (.int .i64 0) (.int .i64 0) (.slice none 0 0)
                  have HB6 := Lib.hid hb6
                  clear hb6
                  go_wp2_with fail
                  try simp only [Exit.inBlock, Exit.then]
                  refine bodyPost_ret (by simp [results, Try.results47, go_sem, q0, q1, q2, q3, q4, q5]; try rfl) rfl ?_
                  exact ⟨_, HRes.out, _, rfl, NewR.any (fun V => noPat_pv V), HB6.out⟩
              · have t0 : (re != 0) = true := by simp [hre0]
                have HRes : Hid (ChunkM.JoinIs l (noPat, re)) := by
                  show ChunkM.JoinIs _ _
                  refine .inr ⟨HJ.out, (ub, 0), HU.out, ?_⟩
                  unfold ChunkM.joinEnd
                  simp only
                  rw [if_neg (by simp), HRE.out, if_pos hre0]
                have hblkq := HBLK5.out
                have hBq := HB5.out
                clear HBLK5 HB5 HSB HBl HNEW y0' y1'
                obtain ⟨r0, r1, r2, r3, r4, r5, f0, f1, f2, f3, f4, f5⟩ := pat_cells hblkq
                have g0 : ∀ v, ((W4.alloc (.cells #[.int .i64 pf, .int .i64 pt, .int .i64 po, .int .i64 pn, .int .i64 ps, .slice ap np cp] 41)).setCell ⟨B, 0, none⟩ v).cell? ⟨B, 0, none⟩ = some v := fun v => World.cell?_setCell_same _ _ _ r0
                obtain ⟨W6, hW6, q0, q1, q2, q3, q4, q5, hb6, -, -⟩ := six_set hblkq hBq HLE.out (.int .i64 0) (.int .i64 0) (.int .i64 0) (.int .i64 0) (.int .i64 0) (.slice none 0 0)
                have HB6 := Lib.hid hb6
                clear hb6
                go_wp2_with fail
                try simp only [Exit.inBlock, Exit.then]
                refine bodyPost_ret (by simp [results, Try.results47, go_sem, q0, q1, q2, q3, q4, q5]; try rfl) rfl ?_
                exact ⟨_, HRes.out, _, rfl, NewR.any (fun V => noPat_pv V), HB6.out⟩
            · have t0 : (ue != 0) = true := by simp [hue]
              have HRes : Hid (ChunkM.JoinIs l (noPat, ue)) := by
                show ChunkM.JoinIs _ _
                refine .inr ⟨HJ.out, (ub, ue), HU.out, ?_⟩
                unfold ChunkM.joinEnd
                simp only
                rw [if_pos hue]
              clear y0 y1 s3
              obtain ⟨r0, r1, r2, r3, r4, r5, f0, f1, f2, f3, f4, f5⟩ := pat_cells hblk3
              have g0 : ∀ v, (W3.setCell ⟨B, 0, none⟩ v).cell? ⟨B, 0, none⟩ = some v := fun v => World.cell?_setCell_same _ _ _ r0
              obtain ⟨W6, hW6, q0, q1, q2, q3, q4, q5, hb6, -, -⟩ := six_set hblk3 hB3 HLE.out (.int .i64 0) (.int .i64 0) (.int .i64 0) (.int .i64 0) (.int .i64 0) (.slice none 0 0)
              have HB6 := Lib.hid hb6
              clear hb6
              go_wp2_with fail
              try simp only [Exit.inBlock, Exit.then]
              refine bodyPost_ret (by simp [results, Try.results47, go_sem, q0, q1, q2, q3, q4, q5]; try rfl) rfl ?_
              exact ⟨_, HRes.out, _, rfl, NewR.any (fun V => noPat_pv V), HB6.out⟩
      · have hofl : (n : Int) < ZO := by
          have h9 := ChunkM.checks_of HE.out (by rintro rfl; exact absurd HM0.out (by simp))
          rw [HZZ.out, HLn.out] at h9
          simp only at h9
          omega
        have hofb : decide ((n : Int) < ZO) = true := by simp; omega
        have HRes : Hid (ChunkM.JoinIs l (noPat, 5)) := by
          show ChunkM.JoinIs _ _
          have hj : ChunkM.joinErr l = 5 := by
            unfold ChunkM.joinErr
            rw [if_neg (by rw [HE.out]; simp), if_pos (.inr (by rw [HZZ.out, HLn.out]; exact hof))]
          exact .inl ⟨by rw [hj]; omega, by rw [hj]⟩
        obtain ⟨r0, r1, r2, r3, r4, r5, f0, f1, f2, f3, f4, f5⟩ := pat_cells hblk1
        have g0 : ∀ v, (W1.setCell ⟨B, 0, none⟩ v).cell? ⟨B, 0, none⟩ = some v := fun v => World.cell?_setCell_same _ _ _ r0
        obtain ⟨W6, hW6, q0, q1, q2, q3, q4, q5, hb6, -, -⟩ := six_set hblk1 hB1 HLE.out (.int .i64 0) (.int .i64 0) (.int .i64 0) (.int .i64 0) (.int .i64 0) (.slice none 0 0)
        have HB6 := Lib.hid hb6
        clear hb6
        go_wp2_with fail
        try simp only [Exit.inBlock, Exit.then]
        refine bodyPost_ret (by simp [results, Try.results47, go_sem, q0, q1, q2, q3, q4, q5]; try rfl) rfl ?_
        exact ⟨_, HRes.out, _, rfl, NewR.any (fun V => noPat_pv V), HB6.out⟩
  · have t0 : (E == 0) = false := by simp [hE0]
    have t1 : (E != 0) = true := by simp [hE0]
    have HRes : Hid (ChunkM.JoinIs l (noPat, E)) := by
      show ChunkM.JoinIs _ _
      have hj : ChunkM.joinErr l = E := by
        unfold ChunkM.joinErr
        rw [if_pos (by rw [hE]; exact hE0), hE]
      exact .inl ⟨by rw [hj]; exact hE0, by rw [hj]⟩
    clear hE
    obtain ⟨r0, r1, r2, r3, r4, r5, f0, f1, f2, f3, f4, f5⟩ := pat_cells hblk1
    have g0 : ∀ v, (W1.setCell ⟨B, 0, none⟩ v).cell? ⟨B, 0, none⟩ = some v := fun v => World.cell?_setCell_same _ _ _ r0
    obtain ⟨W6, hW6, q0, q1, q2, q3, q4, q5, hb6, -, -⟩ := six_set hblk1 hB1 HLE.out (.int .i64 0) (.int .i64 0) (.int .i64 0) (.int .i64 0) (.int .i64 0) (.slice none 0 0)
    have HB6 := Lib.hid hb6
    clear hb6
    go_wp2_with fail
    try simp only [Exit.inBlock, Exit.then]
    refine bodyPost_ret (by simp [results, Try.results47, go_sem, q0, q1, q2, q3, q4, q5]; try rfl) rfl ?_
    exact ⟨_, HRes.out, _, rfl, NewR.any (fun V => noPat_pv V), HB6.out⟩
theorem joinC_ok : JoinCC := fun a n c l w hl => (joinC_n a n c l w hl).mono fun _ _ ⟨r, h1, v, h2, h3, h4⟩ => ⟨r, h1, v, h2, h3.here, h4⟩
end Go.Proofs.Ytmpmaljkmfgagab
