/-
  Contract of patch.Read: bytes are read as the patch that the document says.
-/
import Derived.Test.YtmpmaljkmfgagabPRead
import Derived.Test.YtmpmaljkmfgagabPCheck
import Derived.Deep.RegionHeld3
import Derived.Deep.DeepCutAuto
namespace Go.Proofs.Ytmpmaljkmfgagab
open Go.RowKit

/-- behind readSteps: the steps are new, the block of the result is untouched -/
def RdCut (w : World) (B0 : Nat) (E : Int) (ops : List OpR) (s4 s5 : Value) (W : World) : Prop :=
  ∃ a n c, s4 = .slice a n c ∧ s5 = .int .i64 E ∧ OSN W (B0 + 1) a n c ops ∧ W.heap[B0]? = some (.cells #[.int .i64 0, .int .i64 0, .int .i64 0, .int .i64 0, .int .i64 0, .slice none 0 0] 41 (0, 0)) ∧ Below w.heap.size w W
/-- the memory of Read: the block of the result, and that of the patch -/
structure RPSt (w : World) (B0 B1 : Nat) (f t o nw s : Int) (a : Option Addr) (n c : Nat) (ops : List OpR) (W : World) : Prop where
  c0 : W.heap[B0]? = some (.cells #[.int .i64 0, .int .i64 0, .int .i64 0, .int .i64 0, .int .i64 0, .slice none 0 0] 41 (0, 0))
  c1 : W.heap[B1]? = some (.cells #[.int .i64 f, .int .i64 t, .int .i64 o, .int .i64 nw, .int .i64 s, .slice a n c] 41 (0, 0))
  o : OSN W (B0 + 1) a n c ops
  below : Below w.heap.size w W
theorem RPSt.later {w : World} {B0 B1 : Nat} {f t o nw s : Int} {a : Option Addr} {n c : Nat} {ops : List OpR} {W W' : World} (h : RPSt w B0 B1 f t o nw s a n c ops W) (hb : Below W.heap.size W W') : RPSt w B0 B1 f t o nw s a n c ops W' :=
  ⟨(hb.block _ (lt_blk h.c0)).trans h.c0, (hb.block _ (lt_blk h.c1)).trans h.c1, h.o.later hb, below_then h.below hb⟩

set_option maxRecDepth 100000 in
set_option maxHeartbeats 4000000 in
theorem readP_n (a : Option Addr) (n c : Nat) (b : List Int) (w : World) (hs : BS w a n c b) :
    Calls Try.prog 33 #[.slice a n c] w (GivesPN (fun _ => True) (PatM.readOf b) w) := by
  have HLn := Lib.hid hs.len
  have HB : Hid (∀ o, Below w.heap.size w (w.alloc o)) := by show ∀ o, _; exact fun o => (Below.refl _ _).alloc (Nat.le_refl _) _
  by_cases h400 : 400 < n
  · have HK : Hid (PatM.readOf b = (noPat, 1)) := by show _ = _; unfold PatM.readOf; rw [if_pos (by rw [HLn.out]; exact h400)]
    clear hs
    go_enter Try.func33, Try.ntmps33
    go_wp2_with fail
    go_returns
    exact ⟨_, by rw [HK.out], HB.out _, fun _ _ _ _ => by rw [HK.out]; exact noPat_pv _⟩
  · by_cases h8 : n < 8
    · have HK : Hid (PatM.readOf b = (noPat, 7)) := by show _ = _; unfold PatM.readOf; rw [if_neg (by rw [HLn.out]; exact h400), if_pos (by rw [HLn.out]; exact h8)]
      clear hs
      go_enter Try.func33, Try.ntmps33
      go_wp2_with fail
      go_returns
      exact ⟨_, by rw [HK.out], HB.out _, fun _ _ _ _ => by rw [HK.out]; exact noPat_pv _⟩
    · have hn8 : 8 ≤ n := by omega
      have HRO := Lib.hid (PatM.readOf_steps (b := b) (by rw [HLn.out]; omega) (by rw [HLn.out]; omega))
      have hc7 := hs.byte 7
      obtain ⟨C, hC⟩ : ∃ C : Nat, (b[7]?.getD 0 : Int) = (C : Int) := ⟨(b[7]?.getD 0).toNat, by omega⟩
      have hC255 : C ≤ 255 := by omega
      have hCn : (b.getD 7 0).toNat = C := by rw [List.getD_eq_getElem?_getD, hC]; simp
      rw [hCn] at HRO
      have HHd : Hid (∀ ops, PatM.headOf b ops = ⟨b[0]?.getD 0, b[1]?.getD 0, b[2]?.getD 0 * 256 + b[3]?.getD 0, b[4]?.getD 0 * 256 + b[5]?.getD 0, b[6]?.getD 0, ops⟩) := by
        show ∀ ops, _
        intro ops
        simp only [PatM.headOf, List.getD_eq_getElem?_getD]
      obtain ⟨B0, hB0⟩ : ∃ B0, w.heap.size = B0 := ⟨_, rfl⟩
      have HB0 := Lib.hid hB0
      have hbl := HB.out (.cells #[.int .i64 0, .int .i64 0, .int .i64 0, .int .i64 0, .int .i64 0, .slice none 0 0] 41)
      have hc0 : (w.alloc (.cells #[.int .i64 0, .int .i64 0, .int .i64 0, .int .i64 0, .int .i64 0, .slice none 0 0] 41)).heap[B0]? = some (.cells #[.int .i64 0, .int .i64 0, .int .i64 0, .int .i64 0, .int .i64 0, .slice none 0 0] 41 (0, 0)) := by rw [heap_at, if_pos hB0.symm]
      have hz0 : (w.alloc (.cells #[.int .i64 0, .int .i64 0, .int .i64 0, .int .i64 0, .int .i64 0, .slice none 0 0] 41)).heap.size = B0 + 1 := by simp [hB0]
      have HS := Lib.hid hs
      obtain ⟨blk, off, rfl, hc⟩ := hs.cells (by omega)
      have HCS := Lib.hid hc
      have hle := hs.le
      have hcut8 : ∀ W, (Instr.slice 22 (.slice (some ⟨blk, off, none⟩) n c) (some (.int .i64 8)) none none).run Try.prog W = .ok (.slice (cutA (some ⟨blk, off, none⟩) c 8) (n - 8) (c - 8)) W := fun W => run_cut_l (some ⟨blk, off, none⟩) n c W 8 hn8
      have hsr := hs.cut 8 hn8
      generalize cutA (some ⟨blk, off, none⟩) c 8 = A8 at hcut8 hsr
      have hN8 : n - 8 ≤ 400 := by omega
      generalize n - 8 = N8 at hcut8 hsr hN8
      generalize c - 8 = C8 at hcut8 hsr
      have HCall : Hid (∀ W, Below w.heap.size w W → Calls Try.prog 81 #[.slice A8 N8 C8, .int .i64 (C : Int)] W (GivesSts C (b.drop 8) W)) := by
        show ∀ W, _
        exact fun W hW => readSteps_any A8 N8 C8 (b.drop 8) C W (hsr.later hW) hN8 hC255
      have t7 := hc 7 (by omega)
      rw [hC] at t7
      replace t7 := cell_later hbl t7
      have h7n : 7 < n := by omega
      have h7i : (7 : Int) < n := by omega
      have hwC : IntKind.i64.wrap (C : Int) = C := IntWalk.i64_in _ (by omega)
      clear hs hc hc7 hsr hC hCn
      obtain ⟨E, hE⟩ : ∃ E, (PatM.stepsOf C (b.drop 8)).2 = E := ⟨_, rfl⟩
      obtain ⟨ops, hO⟩ : ∃ ops, (PatM.stepsOf C (b.drop 8)).1 = ops := ⟨_, rfl⟩
      have HE := Lib.hid hE
      have HO := Lib.hid hO
      rw [hE, hO] at HRO
      clear hE hO
      have z1 : ∀ (W : World) (q : Nat) (p : Addr), (W.drewN q).cell? p = W.cell? p := fun _ _ _ => rfl
      go_enter Try.func33, Try.ntmps33
      go_wp2_with fail
      generalize w.alloc (.cells #[.int .i64 0, .int .i64 0, .int .i64 0, .int .i64 0, .int .i64 0, .slice none 0 0] 41) = W0 at hbl hc0 hz0 t7 ⊢
      have HBL0 := Lib.hid hbl
      have HC0 := Lib.hid hc0
      have HZ0 := Lib.hid hz0
      clear hbl hc0 hz0
      go_cut [4, 5] (fun s4 s5 wx => RdCut w B0 E ops s4 s5 wx)
      case first =>
        go_region_held3 (fun W => W.cell? ⟨blk, off + 7, none⟩ = some (.int .u8 C)) (first | exact t7 | exact t7b | go_keep)
          (first
            | (go_at_call 81; refine (HCall.out _ (below_then HBL0.out (Below.refl _ _).drew)).mono ?_; rintro e W1 ⟨a1, n1, c1, rfl, ho1, b1⟩
               have t7b := cell_later b1 t7
               rw [HE.out] 
               rw [HO.out] at ho1
               have HO1 := Lib.hid ho1
               have HB1 := Lib.hid b1
               clear ho1 b1))
        all_goals
          go_wp2_with fail
          go_meet
          exact ⟨a1, n1, c1, rfl, rfl, HO1.out.mono (by show B0 + 1 ≤ W0.heap.size; rw [HZ0.out]; exact Nat.le_refl _), (HB1.out.block B0 (by show B0 < W0.heap.size; rw [HZ0.out]; omega)).trans HC0.out, below_then HBL0.out (below_then (Below.refl _ _).drew HB1.out)⟩
      case rest =>
        clear t7 hcut8 HCall HC0 HZ0 HBL0 z1
        obtain ⟨a1, n1, c1, rfl, rfl, ho1, hc1, hb1⟩ := hcut
        have HON := Lib.hid ho1
        have HBL : Hid (w.heap.size ≤ B0) := by show w.heap.size ≤ B0; rw [HB0.out]; exact Nat.le_refl _
        by_cases hE0 : E = 0
        · subst hE0
          have t0 := cell_later hb1 (HCS.out 0 (by omega))
          have t1 := cell_later hb1 (HCS.out 1 (by omega))
          have t2 := cell_later hb1 (HCS.out 2 (by omega))
          have t3 := cell_later hb1 (HCS.out 3 (by omega))
          have t4 := cell_later hb1 (HCS.out 4 (by omega))
          have t5 := cell_later hb1 (HCS.out 5 (by omega))
          have t6 := cell_later hb1 (HCS.out 6 (by omega))
          have y0 := HS.out.byte 0
          have y1 := HS.out.byte 1
          have y2 := HS.out.byte 2
          have y3 := HS.out.byte 3
          have y4 := HS.out.byte 4
          have y5 := HS.out.byte 5
          have y6 := HS.out.byte 6
          generalize b[0]?.getD 0 = x0 at t0 y0 HHd
          generalize b[1]?.getD 0 = x1 at t1 y1 HHd
          generalize b[2]?.getD 0 = x2 at t2 y2 HHd
          generalize b[3]?.getD 0 = x3 at t3 y3 HHd
          generalize b[4]?.getD 0 = x4 at t4 y4 HHd
          generalize b[5]?.getD 0 = x5 at t5 y5 HHd
          generalize b[6]?.getD 0 = x6 at t6 y6 HHd
          rw [Nat.add_zero] at t0
          have hcutA : ∀ k : Nat, k < 8 → cutA (some ⟨blk, off, none⟩) c k = some ⟨blk, off + k, none⟩ := fun k hk => by
            unfold cutA
            rw [if_neg (by omega), Option.map_some, addr_add]
          have hcut2 : ∀ W, (Instr.slice 22 (.slice (some ⟨blk, off, none⟩) n c) (some (.int .i64 2)) (some (.int .i64 4)) none).run Try.prog W = .ok (.slice (some ⟨blk, off + 2, none⟩) 2 (c - 2)) W := fun W => by
            have := run_cut_lh (some ⟨blk, off, none⟩) n c W 2 4 (by omega) (by omega)
            rwa [hcutA 2 (by omega)] at this
          have hcut4 : ∀ W, (Instr.slice 22 (.slice (some ⟨blk, off, none⟩) n c) (some (.int .i64 4)) (some (.int .i64 6)) none).run Try.prog W = .ok (.slice (some ⟨blk, off + 4, none⟩) 2 (c - 4)) W := fun W => by
            have := run_cut_lh (some ⟨blk, off, none⟩) n c W 4 6 (by omega) (by omega)
            rwa [hcutA 4 (by omega)] at this
          have HN2 : Hid (∀ W : World, W.cell? ⟨blk, off + 2, none⟩ = some (.int .u8 x2) → W.cell? ⟨blk, off + 3, none⟩ = some (.int .u8 x3) →
              Calls Try.prog 82 #[.slice (some ⟨blk, off + 2, none⟩) 2 (c - 2)] W fun e w' => e = .returned (.int .i64 (x2 * 256 + x3)) ∧ DrewN W w') := by
            show ∀ W : World, _
            exact fun W h1 h2 => readSum_any blk (off + 2) (c - 2) x2 x3 W h1 h2 y2 y3
          have HN4 : Hid (∀ W : World, W.cell? ⟨blk, off + 4, none⟩ = some (.int .u8 x4) → W.cell? ⟨blk, off + 5, none⟩ = some (.int .u8 x5) →
              Calls Try.prog 82 #[.slice (some ⟨blk, off + 4, none⟩) 2 (c - 4)] W fun e w' => e = .returned (.int .i64 (x4 * 256 + x5)) ∧ DrewN W w') := by
            show ∀ W : World, _
            exact fun W h1 h2 => readSum_any blk (off + 4) (c - 4) x4 x5 W h1 h2 y4 y5
          have HI : Hid (I64 x0 ∧ I64 x1 ∧ I64 (x2 * 256 + x3) ∧ I64 (x4 * 256 + x5) ∧ I64 x6) := by
            show I64 _ ∧ _
            refine ⟨?_, ?_, ?_, ?_, ?_⟩ <;> (unfold I64; omega)
          have u0 : (0 : Int) < n := by omega
          have u1 : (1 : Int) < n := by omega
          have u6 : (6 : Int) < n := by omega
          have v0 : 0 < n := by omega
          have v1 : 1 < n := by omega
          have v6 : 6 < n := by omega
          have z1 : ∀ (W : World) (q : Nat) (p : Addr), (W.drewN q).cell? p = W.cell? p := fun _ _ _ => rfl
          have z2 : ∀ (W : World) (q : Nat) (p : Addr), (W.drewN q).frozen? p = W.frozen? p := fun _ _ _ => rfl
          have z3 : ∀ (W : World) (q : Nat) (o : Obj), (W.drewN q).alloc o = (W.alloc o).drewN q := fun _ _ _ => rfl
          have z4 : ∀ (W : World) (q : Nat) (p : Addr) (v : Value), (W.drewN q).setCell p v = (W.setCell p v).drewN q := fun _ _ _ _ => rfl
          have hwx0 : IntKind.i64.wrap x0 = x0 := IntWalk.i64_in _ (by omega)
          have hwx1 : IntKind.i64.wrap x1 = x1 := IntWalk.i64_in _ (by omega)
          have hwx6 : IntKind.i64.wrap x6 = x6 := IntWalk.i64_in _ (by omega)
          obtain ⟨B1, hB1⟩ : ∃ B1, wc.heap.size = B1 := ⟨_, rfl⟩
          have hbp : Below wc.heap.size wc (wc.alloc (.cells #[.int .i64 x0, .int .i64 x1, .int .i64 (x2 * 256 + x3), .int .i64 (x4 * 256 + x5), .int .i64 x6, .slice a1 n1 c1] 41)) := (Below.refl _ _).alloc (Nat.le_refl _) _
          have HST : Hid (RPSt w B0 B1 x0 x1 (x2 * 256 + x3) (x4 * 256 + x5) x6 a1 n1 c1 ops (wc.alloc (.cells #[.int .i64 x0, .int .i64 x1, .int .i64 (x2 * 256 + x3), .int .i64 (x4 * 256 + x5), .int .i64 x6, .slice a1 n1 c1] 41))) :=
            ⟨(hbp.block _ (lt_blk hc1)).trans hc1, by rw [heap_at, if_pos hB1.symm], ho1.later hbp, below_then hb1 hbp⟩
          have HB01 : Hid (B0 < B1) := by show B0 < B1; rw [← hB1]; exact lt_blk hc1
          clear hbp hb1 hc1 ho1 y0 y1 y2 y3 y4 y5 y6 hcutA
          go_wp2_with fail
          go_cut [6] (fun s6 wx => s6 = .pointer (some ⟨B1, 0, none⟩) ∧ RPSt w B0 B1 x0 x1 (x2 * 256 + x3) (x4 * 256 + x5) x6 a1 n1 c1 ops wx)
          case first =>
            go_region_held3 (fun W => W.cell? ⟨blk, off, none⟩ = some (.int .u8 x0) ∧ W.cell? ⟨blk, off + 1, none⟩ = some (.int .u8 x1) ∧ W.cell? ⟨blk, off + 2, none⟩ = some (.int .u8 x2) ∧ W.cell? ⟨blk, off + 3, none⟩ = some (.int .u8 x3) ∧ W.cell? ⟨blk, off + 4, none⟩ = some (.int .u8 x4) ∧ W.cell? ⟨blk, off + 5, none⟩ = some (.int .u8 x5) ∧ W.cell? ⟨blk, off + 6, none⟩ = some (.int .u8 x6))
              (first | exact ⟨t0, t1, t2, t3, t4, t5, t6⟩ | go_keep)
              (first
                | (go_at_call 82; (with_reducible refine (HN2.out _ ?_ ?_).mono ?_); (go_split_ands; assumption); (go_split_ands; assumption); rintro e W3 ⟨rfl, q3, rfl⟩)
                | (go_at_call 82; (with_reducible refine (HN4.out _ ?_ ?_).mono ?_); (go_split_ands; assumption); (go_split_ands; assumption); rintro e W3 ⟨rfl, q4, rfl⟩))
            all_goals
              go_wp2_with fail
              go_meet
              exact ⟨rfl, HST.out.later (below_drewN (Below.refl _ _) _)⟩
          case rest =>
            obtain ⟨rfl, hst⟩ := hcut
            have HR := Lib.hid hst
            obtain ⟨F2, hF2⟩ : ∃ F2, x2 * 256 + x3 = F2 := ⟨_, rfl⟩
            obtain ⟨F4, hF4⟩ : ∃ F4, x4 * 256 + x5 = F4 := ⟨_, rfl⟩
            rw [hF2, hF4] at HI HR HHd
            clear hst HST HN2 HN4 t0 t1 t2 t3 t4 t5 t6 hB1 z1 z2 z3 z4 u0 u1 u6 v0 v1 v6 hF2 hF4 hwx0 hwx1 hwx6 hcut2 hcut4
            obtain ⟨p0, p1, p2, p3, p4, p5, -⟩ := pat_cells HR.out.c1
            have hpv : PV wc (.agg #[.int .i64 x0, .int .i64 x1, .int .i64 F2, .int .i64 F4, .int .i64 x6, .slice a1 n1 c1]) ⟨x0, x1, F2, F4, x6, ops⟩ := ⟨a1, n1, c1, rfl, HR.out.o.os, HI.out.1, HI.out.2.1, HI.out.2.2.1, HI.out.2.2.2.1, HI.out.2.2.2.2⟩
            obtain ⟨E, hE⟩ : ∃ E, PatM.check ⟨x0, x1, F2, F4, x6, ops⟩ = E := ⟨_, rfl⟩
            have HFin : Hid (PatM.readOf b = if E ≠ 0 then (noPat, E) else (⟨x0, x1, F2, F4, x6, ops⟩, 0)) := by show _ = _; rw [HRO.out, if_neg (by simp), HHd.out, hE]
            go_wp2_with fail
            refine (checkP_any _ _ _ hpv).mono ?_
            rintro e W3 ⟨rfl, b3⟩
            rw [hE]
            have HR3 := Lib.hid (HR.out.later b3)
            clear hpv HR p0 p1 p2 p3 p4 p5 b3 hE
            have g0 : ∀ v, (W3.setCell ⟨B0, 0, none⟩ v).cell? ⟨B0, 0, none⟩ = some v := fun v => World.cell?_setCell_same _ _ _ (pat_cells HR3.out.c0).1
            obtain ⟨r0, r1, r2, r3, r4, r5, f0, f1, f2, f3, f4, f5⟩ := pat_cells HR3.out.c0
            by_cases hE0 : E = 0
            · subst hE0
              have HK : Hid (PatM.readOf b = (⟨x0, x1, F2, F4, x6, ops⟩, 0)) := by show _ = _; rw [HFin.out, if_neg (by simp)]
              obtain ⟨p0, p1, p2, p3, p4, p5, -⟩ := pat_cells HR3.out.c1
              obtain ⟨W6, hW6, q0, q1, q2, q3, q4, q5, hoth, hsz⟩ := set_six HR3.out.c0 (.int .i64 x0) (.int .i64 x1) (.int .i64 F2) (.int .i64 F4) (.int .i64 x6) (.slice a1 n1 c1)
              have HB6 : Hid (Below w.heap.size w W6) := by
                show Below _ _ _
                rw [← hW6]
                exact (((((HR3.out.below.setCell HBL.out _).setCell HBL.out _).setCell HBL.out _).setCell HBL.out _).setCell HBL.out _).setCell HBL.out _
              have HPV : Hid (∀ W' : World, W6.heap.size ≤ W'.heap.size → (∀ k, w.heap.size ≤ k → k < W6.heap.size → W'.heap[k]? = W6.heap[k]?) → PV W' (.agg #[.int .i64 x0, .int .i64 x1, .int .i64 F2, .int .i64 F4, .int .i64 x6, .slice a1 n1 c1]) ⟨x0, x1, F2, F4, x6, ops⟩) := by
                show ∀ W' : World, _
                intro W' hw1 hw2
                exact ⟨a1, n1, c1, rfl, HR3.out.o W' (by rw [← hsz]; exact hw1) (fun k k1 k2 => (hw2 k (by have := HBL.out; omega) (by rw [hsz]; exact k2)).trans (hoth k (by omega))), HI.out.1, HI.out.2.1, HI.out.2.2.1, HI.out.2.2.2.1, HI.out.2.2.2.2⟩
              have hne : B0 ≠ B1 := by have := HB01.out; omega
              clear hoth hsz
              go_wp2_with fail
              try simp only [Exit.inBlock, Exit.then]
              refine bodyPost_ret (by simp [results, Try.results33, go_sem, q0, q1, q2, q3, q4, q5]; try rfl) rfl ?_
              exact ⟨_, by rw [HK.out], HB6.out, fun W' h1 h2 _ => by rw [HK.out]; exact HPV.out W' h1 h2⟩
            · have hnb : (E != 0) = true := by simp [hE0]
              have HK : Hid (PatM.readOf b = (noPat, E)) := by show _ = _; rw [HFin.out, if_pos hE0]
              obtain ⟨W6, hW6, q0, q1, q2, q3, q4, q5, hoth, hsz⟩ := set_six HR3.out.c0 (.int .i64 0) (.int .i64 0) (.int .i64 0) (.int .i64 0) (.int .i64 0) (.slice none 0 0)
              have HB6 : Hid (Below w.heap.size w W6) := by
                show Below _ _ _
                rw [← hW6]
                exact (((((HR3.out.below.setCell HBL.out _).setCell HBL.out _).setCell HBL.out _).setCell HBL.out _).setCell HBL.out _).setCell HBL.out _
              clear hoth hsz
              go_wp2_with fail
              try simp only [Exit.inBlock, Exit.then]
              refine bodyPost_ret (by simp [results, Try.results33, go_sem, q0, q1, q2, q3, q4, q5]; try rfl) rfl ?_
              exact ⟨_, by rw [HK.out], HB6.out, fun _ _ _ _ => by rw [HK.out]; exact noPat_pv _⟩
        · have hEb : (E != 0) = true := by simp [hE0]
          have HK : Hid (PatM.readOf b = (noPat, E)) := by show _ = _; rw [HRO.out, if_pos hE0]
          obtain ⟨r0, r1, r2, r3, r4, r5, f0, f1, f2, f3, f4, f5⟩ := pat_cells hc1
          have g0 : ∀ v, (wc.setCell ⟨B0, 0, none⟩ v).cell? ⟨B0, 0, none⟩ = some v := fun v => World.cell?_setCell_same _ _ _ r0
          obtain ⟨W6, hW6, q0, q1, q2, q3, q4, q5, hoth, hsz⟩ := set_six hc1 (.int .i64 0) (.int .i64 0) (.int .i64 0) (.int .i64 0) (.int .i64 0) (.slice none 0 0)
          have HB6 : Hid (Below w.heap.size w W6) := by
            show Below _ _ _
            rw [← hW6]
            exact (((((hb1.setCell HBL.out _).setCell HBL.out _).setCell HBL.out _).setCell HBL.out _).setCell HBL.out _).setCell HBL.out _
          clear hoth hsz hb1 hc1 ho1
          go_wp2_with fail
          try simp only [Exit.inBlock, Exit.then]
          refine bodyPost_ret (by simp [results, Try.results33, go_sem, q0, q1, q2, q3, q4, q5]; try rfl) rfl ?_
          exact ⟨_, by rw [HK.out], HB6.out, fun _ _ _ _ => by rw [HK.out]; exact noPat_pv _⟩
theorem readP_ok : ReadPC := fun a n c b w hs => (readP_n a n c b w hs).mono fun _ _ hg => hg.plain trivial
end Go.Proofs.Ytmpmaljkmfgagab
