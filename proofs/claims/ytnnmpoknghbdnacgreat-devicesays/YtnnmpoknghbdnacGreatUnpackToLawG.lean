/-
  Texts put into one: Unpack, DeltaSt, PRead, PRd, CJoin, LawG.
-/
import Derived.Test.YtnnmpoknghbdnacGreatDvUpToPackRes
import Derived.Test.YtnnmpoknghbdnacGreatMulToRepeat
import Derived.Test.YtnnmpoknghbdnacGreatRowToChSt
import Derived.Test.YtnnmpoknghbdnacGreatCopyStToDifThree
import Derived.Laws.BitsLemmas
import Derived.Handy
import Derived.Test.YtnnmpoknghbdnacGreatPatLToPSame
import Derived.Deep.RegionHeld3
import Derived.Deep.DeepCutAuto
set_option maxRecDepth 100000
set_option maxHeartbeats 4000000
namespace Go.Proofs.YtnnmpoknghbdnacGreat
open Go.RowKit
def UnpRel (most : Int) (l : List Int) (w : World) (b out : Value) (wr : World) : Prop :=
 ∃ (a : Option Addr) (m c : Nat) (rem : List Int) (a' : Option Addr) (k c' : Nat) (outl : List Int), b = .slice a m c ∧ out = .slice a' k c' ∧ BS w a m c rem ∧
   wr.ownsRow w.heap.size 5 1 (.slice a' k c') k (outl.map (Value.int .u8)) ∧ (∀ r, PackM.Unp most rem outl r → PackM.Unp most l [] r) ∧ k + 127 * m ≤ 127 * l.length ∧ (∀ x ∈ outl, 0 ≤ x ∧ x ≤ 255) ∧ Below w.heap.size w wr
theorem unpack_any (a : Option Addr) (n c : Nat) (l : List Int) (most : Int) (w : World) (hr : BS w a n c l) (hn : n ≤ 4194304) :
 Calls Tryz.prog 140 #[.slice a n c, .int .i64 most] w (GivesU most l w) := by
 have hln := hr.len; have HR := LH hr; have hl : l.length ≤ 4194304 := by omega
 clear hr hln; go_enter Tryz.func140, Tryz.ntmps140; go_wp2; go_loopw [0, 6] (fun b out wr => UnpRel most l w b out wr) (fun b _ _ => lenV b)
 case atStart => exact ⟨a, n, c, l, none, 0, 0, [], rfl, rfl, HR.out, World.ownsRow_nil _ _ _ _, fun r h => h, by rw [HR.out.len]; omega, by simp, Below.refl _ _⟩
 case round =>
  obtain ⟨a1, m, c1, rem, a2, k, c2, outl, rfl, rfl, hb, ho, hu, hbd, hby, hB⟩ := hrel; have HO := LH ho; have HU := LH hu; have HY := LH hby; have hk : k ≤ 532676608 := by omega
  have hbl := hb.later hB; clear ho hby hu
  cases rem with
  | nil =>
    have hm : m = 0 := by have := hb.len; simpa using this.symm
    subst hm; go_wp2; go_ret2; exact ⟨(outl, 0), a2, k, c2, HU.out _ (.done _), rfl, BS.of_own HO.out HY.out, hB⟩
  | cons x t =>
    obtain ⟨blk, off, rfl, hc⟩ := hbl.cells (by have := hb.len; simp at this; omega); have hx := hb.bytes x (by simp); have hc0 := hc 0 (by have := hb.len; simp at this; omega); simp only [Nat.add_zero, List.getElem?_cons_zero, Option.getD_some] at hc0; have hm : 0 < m := by have := hb.len; simp at this; omega
    clear hc hbl; have hcut : ∀ W, (Instr.slice 22 (.slice (some ⟨blk, off, none⟩) m c1) (some (.int .i64 1)) none none).run Tryz.prog W = .ok (.slice (cutA (some ⟨blk, off, none⟩) c1 1) (m - 1) (c1 - 1)) W := fun W => zaU _ m c1 W 1 (by omega); have hb1 := hb.cut 1 (by omega); rw [List.drop_one, List.tail_cons] at hb1; obtain ⟨M, hM⟩ : ∃ M, m - 1 = M := ⟨_, rfl⟩; rw [hM] at hb1; have hM1 : M + 1 ≤ m := by omega
    have hM2 : m ≤ M + 1 := by omega
    simp only [hM] at hcut; clear hM; generalize cutA (some ⟨blk, off, none⟩) c1 1 = A1 at hcut hb1; generalize c1 - 1 = C1 at hcut hb1; have hol : outl.length = k := by simpa using HO.out.1
    have HL := LH hol; have htl := hb1.len; have HT := LH htl; have hMC := hb1.le; clear hol htl hb; have hdm1 : 0 ≤ x % 128 := by omega
    have hdm2 : x % 128 ≤ 127 := by omega
    obtain ⟨N, hN⟩ : ∃ N : Nat, x % 128 = N := ⟨(x % 128).toNat, by omega⟩; have hN2 : N ≤ 127 := by omega
    have HX := LH hN; by_cases h128 : 128 ≤ x
    · have HF : Hid (PackM.follow x = 1) := by show PackM.follow x = 1; unfold PackM.follow; rw [if_pos h128]
      have HG : Hid (PackM.grp x t = List.replicate N (t[0]?.getD 0)) := by show PackM.grp x t = _; unfold PackM.grp; rw [if_pos h128, hN]; rfl
      clear hdm1 hdm2 hN; go_wp2; go_quiet (fail); rw [HX.out]; have hB1 := below_drewN hB nq; have HO1 : Hid ((wr.drewN nq).ownsRow w.heap.size 5 1 (.slice a2 k c2) k (outl.map (Value.int .u8))) := HO; have hb2 := hb1.later hB1; generalize wr.drewN nq = W1 at hB1 HO1 hb2 ⊢; clear hB HO hc0 wr hx; by_cases hN0 : N = 0
      · subst hN0
        go_wp2; go_ret2; exact ⟨([], 3), none, 0, 0, HU.out _ (.form x t outl (by rw [HX.out]; rfl)), rfl, BS.nil_ _, hB1⟩
      · have hNb : ((N : Int) == 0) = false := by simp; omega
        have HN0 : Hid (x % 128 ≠ 0) := by show x % 128 ≠ 0; rw [HX.out]; omega
        by_cases hM0 : M < 1
        · have hMz : M = 0 := by omega
          subst hMz; go_wp2; go_ret2; exact ⟨([], 7), none, 0, 0, HU.out _ (.torn x t outl HN0.out (by rw [HF.out, HT.out]; omega)), rfl, BS.nil_ _, hB1⟩
        · by_cases hmost : most < (k : Int) + N
          · go_wp2
            go_ret2; exact ⟨([], 1), none, 0, 0, HU.out _ (.many x t outl HN0.out (by rw [HF.out, HT.out]; omega) (by rw [HL.out, HX.out]; exact hmost)), rfl, BS.nil_ _, hB1⟩
          · have hcut1 : ∀ W, (Instr.slice 22 (.slice A1 M C1) none (some (.int .i64 1)) none).run Tryz.prog W = .ok (.slice A1 1 C1) W := fun W => rCh A1 M C1 W 1 (by omega)
            have hcut2 : ∀ W, (Instr.slice 22 (.slice A1 M C1) (some (.int .i64 1)) none none).run Tryz.prog W = .ok (.slice (cutA A1 C1 1) (M - 1) (C1 - 1)) W := fun W => zaU A1 M C1 W 1 (by omega); have hb3 := hb1.cut 1 (by omega); have hh := hb2.head 1 (by omega)
            have e1 : t.take 1 = [t[0]?.getD 0] := by
             cases t with
             | nil => have := HT.out; simp at this; omega
             | cons y t => simp
            rw [e1] at hh; generalize cutA A1 C1 1 = A3 at hcut2 hb3; go_wp2_with fail; refine (repeat_one A1 C1 (t[0]?.getD 0) N _ hh (by omega) hN2).mono ?_; rintro e W2 ⟨a4, n4, c4, rfl, hb4, hB2⟩; have hn4 : n4 = N := by have := hb4.len; simpa using this.symm
            subst hn4; obtain ⟨a5, c5, W3, hrun, hown5, hg5⟩ := zbi (zaQ HO1.out hB2) hb4 (by omega) (by have := hB1.size; have := hB2.size; omega); have hB3 := (bTh hB1 hB2).grown hg5 (by have := hB1.size; have := hB2.size; omega) (fun g hg => ((zaQ HO1.out hB2).lt g hg).1); have HO5 := LH hown5; clear hown5 hb4; go_wp2_with (at_builtin; refine Lib.wpList_append_run _ rfl _ _ _ _ rfl _ _ rfl rfl _ _ hrun ?_); go_roundw
            case rel =>
             refine ⟨A3, M - 1, C1 - 1, t.drop 1, a5, k + n4, c5, outl ++ List.replicate n4 (t[0]?.getD 0), rfl, rfl, hb3, HO5.out, ?_, by omega, ?_, hB3⟩
             · intro r hr
               refine HU.out r (.step x t outl r HN0.out (by rw [HF.out, HT.out]; omega) (by rw [HL.out, HX.out]; omega) ?_); rw [HF.out, HG.out]; exact hr
             · intro y hy
               rcases List.mem_append.1 hy with hy | hy
               · exact HY.out y hy
               · rw [List.mem_replicate] at hy
                 rw [hy.2]; exact hb1.byte 0
            case measure => simp [lenV]; omega
    · have HF : Hid (PackM.follow x = N) := by show PackM.follow x = N; unfold PackM.follow; rw [if_neg h128, hN]; rfl
      have HG : Hid (PackM.grp x t = t.take N) := by show PackM.grp x t = _; unfold PackM.grp; rw [if_neg h128, hN]; rfl
      clear hdm1 hdm2 hN; go_wp2; go_quiet (fail); rw [HX.out]; have hB1 := below_drewN hB nq; have HO1 : Hid ((wr.drewN nq).ownsRow w.heap.size 5 1 (.slice a2 k c2) k (outl.map (Value.int .u8))) := HO; have hb2 := hb1.later hB1; generalize wr.drewN nq = W1 at hB1 HO1 hb2 ⊢; clear hB HO hc0 wr hx; by_cases hN0 : N = 0
      · subst hN0
        go_wp2; go_ret2; exact ⟨([], 3), none, 0, 0, HU.out _ (.form x t outl (by rw [HX.out]; rfl)), rfl, BS.nil_ _, hB1⟩
      · have hNb : ((N : Int) == 0) = false := by simp; omega
        have HN0 : Hid (x % 128 ≠ 0) := by show x % 128 ≠ 0; rw [HX.out]; omega
        by_cases hM0 : M < N
        · go_wp2
          go_ret2; exact ⟨([], 7), none, 0, 0, HU.out _ (.torn x t outl HN0.out (by rw [HF.out, HT.out]; omega)), rfl, BS.nil_ _, hB1⟩
        · by_cases hmost : most < (k : Int) + N
          · go_wp2
            go_ret2; exact ⟨([], 1), none, 0, 0, HU.out _ (.many x t outl HN0.out (by rw [HF.out, HT.out]; omega) (by rw [HL.out, HX.out]; exact hmost)), rfl, BS.nil_ _, hB1⟩
          · have hcut1 : ∀ W, (Instr.slice 22 (.slice A1 M C1) none (some (.int .i64 N)) none).run Tryz.prog W = .ok (.slice A1 N C1) W := fun W => rCh A1 M C1 W N (by omega)
            have hcut2 : ∀ W, (Instr.slice 22 (.slice A1 M C1) (some (.int .i64 N)) none none).run Tryz.prog W = .ok (.slice (cutA A1 C1 N) (M - N) (C1 - N)) W := fun W => zaU A1 M C1 W N (by omega); have hb3 := hb1.cut N (by omega); have hh := hb2.head N (by omega); generalize cutA A1 C1 N = A3 at hcut2 hb3; obtain ⟨a5, c5, W3, hrun, hown5, hg5⟩ := zbi HO1.out hh (by omega) hB1.size; have hB3 := hB1.grown hg5 hB1.size (fun g hg => (HO1.out.lt g hg).1); have HO5 := LH hown5; clear hown5 hh; go_wp2_with (at_builtin; refine Lib.wpList_append_run _ rfl _ _ _ _ rfl _ _ rfl rfl _ _ hrun ?_); go_roundw
            case rel =>
             refine ⟨A3, M - N, C1 - N, t.drop N, a5, k + N, c5, outl ++ t.take N, rfl, rfl, hb3, HO5.out, ?_, by omega, ?_, hB3⟩
             · intro r hr
               refine HU.out r (.step x t outl r HN0.out (by rw [HF.out, HT.out]; omega) (by rw [HL.out, HX.out]; omega) ?_); rw [HF.out, HG.out]; exact hr
             · intro y hy
               rcases List.mem_append.1 hy with hy | hy
               · exact HY.out y hy
               · exact hb1.bytes y (List.mem_of_mem_take hy)
            case measure => simp [lenV]; omega
theorem bytesClone_any (a : Option Addr) (n c : Nat) (l : List Int) (w : World) (hs : BS w a n c l) (hn : n ≤ 140737488355328) :
 Calls Tryz.prog 98 #[.slice a n c] w (GivesB w l) := by
 have hq := fun (A : Option Addr) (n c : Nat) (w : World) => Lib.run_eql_slice_nil (P := Tryz.prog) w 22 5 A n c 0 0 U22
 cases a with
 | none =>
   have hc := hs.none_ rfl; subst hc; obtain rfl : n = 0 := by have := hs.le; omega
   obtain rfl : l = [] := List.eq_nil_of_length_eq_zero hs.len; go_enter Tryz.func98, Tryz.ntmps98; go_wp2; go_ret; exact ⟨none, 0, 0, rfl, World.ownsRow_nil _ _ _ _, Below.refl _ _⟩
 | some ad =>
   have hown := World.ownsRow_lit (base := w.heap.size) (e := 5) (size := 1) w #[] 0 (Nat.le_refl _) (by unfold maxLen; omega) rfl; have hb1 := (Below.refl w.heap.size w).alloc (Nat.le_refl _) (.cells #[] 5); obtain ⟨a', c', w', hrun, hown', hg⟩ := zbi (l := []) hown (hs.later hb1) (by omega) (by simp); have hb' := hb1.grown hg (by simp) (fun g hg => (hown.lt g hg).1); have HO := LH hown'; clear hown' hown; go_enter Tryz.func98, Tryz.ntmps98; go_wp2_with (at_builtin; refine Lib.wpList_append_run _ rfl _ _ _ _ rfl _ _ rfl rfl _ _ hrun ?_); go_ret; exact ⟨a', n, c', rfl, by simpa using HO.out, hb'⟩
section
variable {w0 : World} {B0 B1 B2 : Nat} {a : Option Addr} {n c : Nat} {vo : Value} {out : List OpR} {dn : Nat} {W W' : World}
end
namespace PatM
def stepOf : List Int → OpR × Nat × Int
 | x :: y :: t => if x = 255 then (if (t.length : Int) < y then (⟨0, 0, []⟩, 0, 7) else (⟨0, 0, t.take y.toNat⟩, 2 + y.toNat, 0)) else if y = 0 then (⟨0, 0, []⟩, 0, 3) else (⟨x, y, []⟩, 2, 0)
 | _ => (⟨0, 0, []⟩, 0, 7)
theorem stepOf_short {r : List Int} (h : r.length < 2) : stepOf r = (⟨0, 0, []⟩, 0, 7) := by
 match r, h with
 | [], _ => rfl
 | [_], _ => rfl
theorem rd_bad {k : Nat} {r : List Int} {acc : List OpR} (h : (stepOf r).2.2 ≠ 0) : rd (k + 1) r acc = ((stepOf r).2.2, [], []) := by
 match r with
 | [] => rfl
 | [_] => rfl
 | x :: y :: t =>
   unfold stepOf at h ⊢; rw [rd]; by_cases hx : x = 255
   · by_cases hl : (t.length : Int) < y
     · simp [hx, hl]
     · simp [hx, hl] at h
   · by_cases hy : y = 0
     · simp [hx, hy]
     · simp [hx, hy] at h
theorem rd_one {k : Nat} {r : List Int} {acc : List OpR} (h : (stepOf r).2.2 = 0) : rd (k + 1) r acc = rd k (r.drop (stepOf r).2.1) (acc ++ [(stepOf r).1]) ∧ (stepOf r).2.1 ≤ r.length := by
 match r with
 | [] => simp [stepOf] at h
 | [_] => simp [stepOf] at h
 | x :: y :: t =>
   unfold stepOf at h ⊢; rw [rd]; by_cases hx : x = 255
   · by_cases hl : (t.length : Int) < y
     · simp [hx, hl] at h
     · simp only [hx, hl, if_true, if_false, List.length_cons]
       rw [show 2 + y.toNat = y.toNat + 1 + 1 by omega, List.drop_succ_cons, List.drop_succ_cons]; exact ⟨rfl, by omega⟩
   · by_cases hy : y = 0
     · simp [hx, hy] at h
     · simp [hx, hy]
def stepsOf (k : Nat) (r : List Int) : List OpR × Int :=
 if (rd k r []).1 ≠ 0 then ([], (rd k r []).1) else if 0 < (rd k r []).2.2.length then ([], 7) else ((rd k r []).2.1, 0)
theorem stepsOf_err {k : Nat} {r : List Int} {e : Int} {o : List OpR} {q : List Int} (h : rd k r [] = (e, o, q)) (he : e ≠ 0) : stepsOf k r = ([], e) := by
 unfold stepsOf; rw [h, if_pos he]
theorem stepsOf_rest {k : Nat} {r : List Int} {o : List OpR} {q : List Int} (h : rd k r [] = (0, o, q)) (hl : 0 < q.length) : stepsOf k r = ([], 7) := by
 unfold stepsOf; rw [h, if_neg (by simp), if_pos hl]
theorem stepsOf_fin {k : Nat} {r : List Int} {o : List OpR} {q : List Int} (h : rd k r [] = (0, o, q)) (hl : ¬ 0 < q.length) : stepsOf k r = (o, 0) := by
 unfold stepsOf; rw [h, if_neg (by simp), if_neg hl]
theorem readOf_steps {b : List Int} (h400 : b.length ≤ 400) (h8 : 8 ≤ b.length) : readOf b = if (stepsOf (b.getD 7 0).toNat (b.drop 8)).2 ≠ 0 then (zap, (stepsOf (b.getD 7 0).toNat (b.drop 8)).2)
 else if check (headOf b (stepsOf (b.getD 7 0).toNat (b.drop 8)).1) ≠ 0 then (zap, check (headOf b (stepsOf (b.getD 7 0).toNat (b.drop 8)).1)) else (headOf b (stepsOf (b.getD 7 0).toNat (b.drop 8)).1, 0) := by
 unfold readOf stepsOf; rw [if_neg (by omega), if_neg (by omega)]; generalize rd (b.getD 7 0).toNat (b.drop 8) [] = R; obtain ⟨e, o, q⟩ := R; by_cases he : e = 0
 · subst he
   by_cases hq : 0 < q.length
   · simp [hq]
   · simp [hq]
 · simp [he]
theorem stepOf_num {r : List Int} (h : ∀ v ∈ r, 0 ≤ v ∧ v ≤ 255) : I64 (stepOf r).1.at_ ∧ I64 (stepOf r).1.len := by
 unfold I64
 match r, h with
 | [], _ => simp [stepOf]
 | [_], _ => simp [stepOf]
 | x :: y :: t, h =>
   have hx := h x (by simp); have hy := h y (by simp); rw [stepOf]; split
   · split <;> simp
   · split
     · simp
     · simp only
       omega
end PatM
theorem or_join {x y : Int} (hx : 0 ≤ x ∧ x ≤ 255) (hy : 0 ≤ y ∧ y ≤ 255) : bits .or .i64 (x * 256) y = x * 256 + y :=
 bits_join .i64 16 (by decide) (fun n h1 h2 => IntWalk.i64_in _ (by omega)) 8 _ _ (by omega) (by omega) (by omega) (by omega) (by omega) (by omega)
theorem readSum_any (blk off c : Nat) (x y : Int) (w : World) (t0 : w.cell? ⟨blk, off, none⟩ = some (.int .u8 x)) (t1 : w.cell? ⟨blk, off + 1, none⟩ = some (.int .u8 y)) (hx : 0 ≤ x ∧ x ≤ 255) (hy : 0 ≤ y ∧ y ≤ 255) :
 Calls Tryz.prog 185 #[.slice (some ⟨blk, off, none⟩) 2 c] w fun e w' => e = .returned (.int .i64 (x * 256 + y)) ∧ zbD w w' := by
 have h1 := or_join hx hy; have h2 : IntKind.i64.wrap (x * 256) = x * 256 := IntWalk.i64_in _ (by omega); go_enter Tryz.func185, Tryz.ntmps185; go_wp2; go_quiet (fail); go_wp2; go_ret; exact ⟨rfl, nq, rfl⟩
def GivesSt (r : List Int) (w : World) (e : Ending) (w' : World) : Prop :=
 ∃ a n c, e = .returned (.tuple #[.agg #[.int .i64 (PatM.stepOf r).1.at_, .int .i64 (PatM.stepOf r).1.len, .slice a n c], .int .i64 ((PatM.stepOf r).2.1 : Int), .int .i64 (PatM.stepOf r).2.2]) ∧ BS w' a n c (PatM.stepOf r).1.data ∧
   (∀ p, a = some p → w.heap.size ≤ p.block ∧ p.block < w'.heap.size) ∧ Below w.heap.size w w'
theorem set_three {W : World} {B : Nat} {v0 v1 v2 : Value} (h : W.heap[B]? = some (.cells #[v0, v1, v2] 159 (0, 0))) (u0 u1 u2 : Value) :
 ∃ W6, ((W.setCell ⟨B, 0, none⟩ u0).setCell ⟨B, 1, none⟩ u1).setCell ⟨B, 2, none⟩ u2 = W6 ∧
   W6.cell? ⟨B, 0, none⟩ = some u0 ∧ W6.cell? ⟨B, 1, none⟩ = some u1 ∧ W6.cell? ⟨B, 2, none⟩ = some u2 ∧
   (∀ k, k ≠ B → W6.heap[k]? = W.heap[k]?) ∧ W6.heap.size = W.heap.size := by
 refine ⟨_, rfl, ?_, ?_, ?_, fun k hk => ?_, by simp only [size_set]⟩
 iterate 3 (simp [World.cell?, World.setCell, Array.getElem?_modify, h])
 rw [Below.heap_setCell _ _ _ k hk, Below.heap_setCell _ _ _ k hk, Below.heap_setCell _ _ _ k hk]
theorem op_cells {W : World} {B : Nat} {v0 v1 v2 : Value} (h : W.heap[B]? = some (.cells #[v0, v1, v2] 159 (0, 0))) : W.cell? ⟨B, 0, none⟩ = some v0 ∧ W.cell? ⟨B, 1, none⟩ = some v1 ∧ W.cell? ⟨B, 2, none⟩ = some v2 ∧
 W.frozen? ⟨B, 0, none⟩ = false ∧ W.frozen? ⟨B, 1, none⟩ = false ∧ W.frozen? ⟨B, 2, none⟩ = false := by
 simp [World.cell?, World.frozen?, h]
theorem own_at {w : World} {base e n : Nat} {a : Option Addr} {m c : Nat} {xs : List Value} (h : w.ownsRow base e 1 (.slice a m c) n xs) : ∀ p, a = some p → base ≤ p.block ∧ p.block < w.heap.size := by
 rintro p rfl; rcases h.2 with ⟨h1, h2⟩ | ⟨g, cap, cur, h1, _⟩
 · cases h1
 · cases h1
   exact oL3 h rfl
theorem readStep_any (a : Option Addr) (n c : Nat) (r : List Int) (w : World) (hs : BS w a n c r) (hn : n ≤ 400) :
 Calls Tryz.prog 211 #[.slice a n c] w (GivesSt r w) := by
 have hlen := hs.len; have hb : ∀ o, Below w.heap.size w (w.alloc o) := fun o => (Below.refl _ _).alloc (Nat.le_refl _) _; have HB := LH hb; clear hb; by_cases h2 : n < 2
 · have HK : Hid (PatM.stepOf r = (⟨0, 0, []⟩, 0, 7)) := PatM.stepOf_short (by omega)
   clear hs; go_enter Tryz.func211, Tryz.ntmps211; go_wp2_with fail; go_returns; exact ⟨none, 0, 0, by rw [HK.out]; rfl, by rw [HK.out]; exact BS.nil_ _, (fun p h => by cases h), HB.out _⟩
 · match r, hlen with
   | [], hlen => exact absurd hlen (by simp; omega)
   | [_], hlen => exact absurd hlen (by simp; omega)
   | x :: y :: t, hlen =>
     have hx := hs.bytes x (by simp); have hy := hs.bytes y (by simp); obtain ⟨X, rfl⟩ : ∃ X : Nat, x = X := ⟨x.toNat, by omega⟩; obtain ⟨Y, rfl⟩ : ∃ Y : Nat, y = Y := ⟨y.toNat, by omega⟩; have HS := LH hs; obtain ⟨blk, off, rfl, hc⟩ := hs.cells (by omega); have t0 := hc 0 (by omega); have t1 := hc 1 (by omega); simp only [List.getElem?_cons_zero, List.getElem?_cons_succ, Option.getD_some, Nat.add_zero] at t0 t1
     have hblk : blk < w.heap.size := by
      simp only [World.cell?] at t0; split at t0
      · rename_i h; exact zax h
      · cases t0
     have htl : t.length = n - 2 := by simp only [List.length_cons] at hlen; omega
     have HTL := LH htl; have h1n : 1 < n := by omega
     have h0n : 0 < n := by omega
     clear hc hs hlen htl; by_cases hX : X = 255
     · subst hX
       obtain ⟨T, hT⟩ : ∃ T : Nat, 2 + (Y : Int) = T := ⟨2 + Y, by omega⟩; have HT : Hid (2 + Y = T) := by show 2 + Y = T; omega
       by_cases hl : n < T
       · have HK : Hid (PatM.stepOf (((255 : Nat) : Int) :: (Y : Int) :: t) = (⟨0, 0, []⟩, 0, 7)) := by
          show _ = _; rw [PatM.stepOf, if_pos (show ((255 : Nat) : Int) = 255 from rfl), if_pos (by rw [HTL.out]; omega)]
         go_enter Tryz.func211, Tryz.ntmps211; go_wp2_with fail; go_returns; exact ⟨none, 0, 0, by rw [HK.out]; rfl, by rw [HK.out]; exact BS.nil_ _, (fun p h => by cases h), HB.out _⟩
       · have HK : Hid (PatM.stepOf (((255 : Nat) : Int) :: (Y : Int) :: t) = (⟨0, 0, t.take Y⟩, T, 0)) := by
          show _ = _; rw [PatM.stepOf, if_pos (show ((255 : Nat) : Int) = 255 from rfl), if_neg (by rw [HTL.out]; omega), Int.toNat_natCast, HT.out]
         have hle := HS.out.le
         have hcut : ∀ W, (Instr.slice 22 (.slice (some ⟨blk, off, none⟩) n c) (some (.int .i64 2)) (some (.int .i64 T)) none).run Tryz.prog W = .ok (.slice (cutA (some ⟨blk, off, none⟩) c 2) (T - 2) (c - 2)) W := fun W =>
          za6 (some ⟨blk, off, none⟩) n c W 2 T (by omega) (by omega)
         have hsrc : BS w (cutA (some ⟨blk, off, none⟩) c 2) (T - 2) (c - 2) (t.take Y) := by
          have := HS.out.mid 2 T (by omega) (by omega); simp only [List.drop_succ_cons, List.drop_zero] at this; rw [show T - 2 = Y by omega] at this ⊢; exact this
         generalize cutA (some ⟨blk, off, none⟩) c 2 = A3 at hcut hsrc; generalize c - 2 = C3 at hcut hsrc; have hT2 : T - 2 ≤ 400 := by omega
         generalize T - 2 = N3 at hcut hsrc hT2; have hb0 := HB.out (.cells #[.int .i64 0, .int .i64 0, .slice none 0 0] 159); have hB0 : (w.alloc (.cells #[.int .i64 0, .int .i64 0, .slice none 0 0] 159)).heap[w.heap.size]? = some (.cells #[.int .i64 0, .int .i64 0, .slice none 0 0] 159 (0, 0)) := by rw [hpA, if_pos rfl]
         have e0 : (w.alloc (.cells #[.int .i64 0, .int .i64 0, .slice none 0 0] 159)).heap.size = w.heap.size + 1 := by simp
         have hsrc0 := LH (hsrc.later hb0); have HB0 := LH hB0; have HE0 := LH e0; have HBb := LH hb0; clear hsrc hb0 hB0 e0; go_enter Tryz.func211, Tryz.ntmps211; go_wp2_with fail; refine (bytesClone_any A3 N3 C3 (t.take Y) _ hsrc0.out (by omega)).mono ?_; rintro e W1 ⟨a5, n5, c5, rfl, hown, b1⟩; have hbs := BS.of_own hown (fun v hv => HS.out.bytes v (by simp [List.mem_of_mem_take hv])); have hat := own_at hown; have hB1 := (b1.block w.heap.size (by rw [HE0.out]; omega)).trans HB0.out; have b2 := bTh HBb.out b1; obtain ⟨r0, r1, r2, f0, f1, f2⟩ := op_cells hB1; have g0 : ∀ v, (W1.setCell ⟨w.heap.size, 0, none⟩ v).cell? ⟨w.heap.size, 0, none⟩ = some v := fun v => World.cell?_setCell_same _ _ _ r0; obtain ⟨W6, hW6, q0, q1, q2, hoth, hsz⟩ := set_three hB1 (.int .i64 0) (.int .i64 0) (.slice a5 n5 c5)
         have HB6 : Hid (Below w.heap.size w W6) := by
          show Below _ _ _; rw [← hW6]; exact ((b2.setCell (Nat.le_refl _) _).setCell (Nat.le_refl _) _).setCell (Nat.le_refl _) _
         have HBS : Hid (BS W6 a5 n5 c5 (t.take Y)) := by
          show BS _ _ _ _ _; refine hbs.keepBlk (fun p hp => hoth _ ?_); have := (hat p hp).1; rw [HE0.out] at this; omega
         have HAT : Hid (∀ p, a5 = some p → w.heap.size ≤ p.block ∧ p.block < W6.heap.size) := by
          show ∀ p, _; intro p hp; obtain ⟨z1, z2⟩ := hat p hp; rw [HE0.out] at z1; rw [hsz]; exact ⟨by omega, z2⟩
         clear hoth hsz b2 hbs hat hown hB1 b1; go_wp2_with fail
         try simp only [Exit.inBlock, Exit.then]
         refine bodyPost_ret (by simp [results, Tryz.results211, go_sem, q0, q1, q2]; try rfl) rfl ?_; exact ⟨a5, n5, c5, by rw [HK.out], by rw [HK.out]; exact HBS.out, HAT.out, HB6.out⟩
     · have hXb : ((X : Int) == 255) = false := by simp; omega
       by_cases hY : Y = 0
       · subst hY
         have HK : Hid (PatM.stepOf ((X : Int) :: ((0 : Nat) : Int) :: t) = (⟨0, 0, []⟩, 0, 3)) := by
          show _ = _; rw [PatM.stepOf, if_neg (by omega), if_pos (show ((0 : Nat) : Int) = 0 from rfl)]
         go_enter Tryz.func211, Tryz.ntmps211; go_wp2_with fail; go_returns; exact ⟨none, 0, 0, by rw [HK.out]; rfl, by rw [HK.out]; exact BS.nil_ _, (fun p h => by cases h), HB.out _⟩
       · have hYb : ((Y : Int) == 0) = false := by simp; omega
         have HK : Hid (PatM.stepOf ((X : Int) :: (Y : Int) :: t) = (⟨X, Y, []⟩, 2, 0)) := by
          show _ = _; rw [PatM.stepOf, if_neg (by omega), if_neg (by omega)]
         go_enter Tryz.func211, Tryz.ntmps211; go_wp2_with fail; go_returns; exact ⟨none, 0, 0, by rw [HK.out]; rfl, by rw [HK.out]; exact BS.nil_ _, (fun p h => by cases h), HB.out _⟩
def GivesSts (K : Nat) (r : List Int) (w : World) (e : Ending) (w' : World) : Prop :=
 ∃ a n c, e = .returned (.tuple #[.slice a n c, .int .i64 (PatM.stepsOf K r).2]) ∧ OSN w' w.heap.size a n c (PatM.stepsOf K r).1 ∧ Below w.heap.size w w'
def StepsRel (K : Nat) (r : List Int) (w : World) (b l i : Value) (wr : World) : Prop :=
 ∃ (k : Nat) (a : Option Addr) (n c : Nat) (rest : List Int) (out : List OpR), i = .int .i64 k ∧ k ≤ K ∧ b = .slice a n c ∧ n ≤ 400 ∧ BS w a n c rest ∧ zbm wr w.heap.size none l out ∧ out.length = k ∧ PatM.rd (K - k) rest out = PatM.rd K r [] ∧ Below w.heap.size w wr
theorem readSteps_any (a : Option Addr) (n c : Nat) (r : List Int) (K : Nat) (w : World) (hs : BS w a n c r) (hn : n ≤ 400) (hK : K ≤ 255) :
 Calls Tryz.prog 184 #[.slice a n c, .int .i64 (K : Int)] w (GivesSts K r w) := by
 have HS := LH hs; clear hs; go_enter Tryz.func184, Tryz.ntmps184; go_wp2_with fail; go_loopw [0, 6, 11] (fun b l i wr => StepsRel K r w b l i wr) (fun _ _ i _ => K - (intOf i).toNat)
 case atStart => exact ⟨0, a, n, c, r, [], rfl, Nat.zero_le _, rfl, hn, HS.out, zbm.start _ _ _ (fun g h => by cases h), rfl, rfl, Below.refl _ _⟩
 case round =>
  obtain ⟨k, a2, n2, c2, rest, out, rfl, hk, rfl, hn2, hbs, host, hol, hrd, hbw⟩ := hrel; have HBS := LH hbs; have HOL := LH hol; have HRD := LH hrd; have HOST := LH host; have HBW := LH hbw; have HLN := LH hbs.len; clear hol hrd host hbs hbw HS; by_cases hlt : k < K
  · have HCall := LH (readStep_any a2 n2 c2 rest wr (HBS.out.later HBW.out) hn2)
    have HR1 : Hid (PatM.rd (K - (k + 1) + 1) rest out = PatM.rd K r []) := by show _ = _; rw [show K - (k + 1) + 1 = K - k by omega]; exact HRD.out
    have HI := LH (PatM.stepOf_num HBS.out.bytes); go_wp2_with fail; refine HCall.out.mono ?_; rintro e W1 ⟨a5, n5, c5, rfl, hd5, hat5, b5⟩; have HONE := LH (fun h => (PatM.rd_one (k := K - (k + 1)) (r := rest) (acc := out) h)); have HBAD := LH (fun h => (PatM.rd_bad (k := K - (k + 1)) (r := rest) (acc := out) h)); generalize PatM.stepOf rest = so at hd5 HONE HBAD HI ⊢; obtain ⟨⟨A, L, D⟩, U, E⟩ := so; simp only at hd5 HONE HBAD HI ⊢; have hB5 := bTh HBW.out b5; have HB5 := LH hB5; have hal : Below W1.heap.size W1 (W1.alloc (.cells #[.int .i64 A, .int .i64 L, .slice a5 n5 c5] 159)) := (Below.refl _ _).alloc (Nat.le_refl _) _; have HAL := LH hal; clear hal hB5; by_cases hE : E = 0
    · subst hE
      obtain ⟨hone, hU⟩ := HONE.out rfl; have hlenU : U ≤ n2 := by rw [← HLN.out]; exact hU
      have HRN : Hid (PatM.rd (K - (k + 1)) (rest.drop U) (out ++ [⟨A, L, D⟩]) = PatM.rd K r []) := by show _ = _; rw [← hone]; exact HR1.out
      have hal2 : Below W1.heap.size W1 ((W1.alloc (.cells #[.int .i64 A, .int .i64 L, .slice a5 n5 c5] 159)).alloc (.cells #[.int .i64 A, .int .i64 L, .slice a5 n5 c5] 159)) := HAL.out.alloc HAL.out.size _; have e2 : ((W1.alloc (.cells #[.int .i64 A, .int .i64 L, .slice a5 n5 c5] 159)).alloc (.cells #[.int .i64 A, .int .i64 L, .slice a5 n5 c5] 159)).heap.size = W1.heap.size + 2 := by simp
      obtain ⟨g, cap, W5, hrun, ho5, hg5, -⟩ := ((HOST.out.later b5).later hal2).app (B := W1.heap.size + 1) (A := A) (L := L) (by rw [hpA, if_pos (by simp)]) (hd5.later hal2)
       (fun p hp => ⟨by have := (hat5 p hp).1; have := HBW.out.size; omega, by have := (hat5 p hp).2; omega, by
        intro e; have h1 := (hat5 p hp).1; obtain ⟨⟨vs, _, q, _⟩, _⟩ := HOST.out; have h2 := (oL3 q e.symm).2
        omega, by simp⟩) HI.out.1 HI.out.2 (by rw [HOL.out]; omega) (by have := HB5.out.size; omega)
      have hB6 := (bTh HB5.out hal2).grown hg5 (bTh HB5.out hal2).size (fun g' hg' => by
       obtain ⟨⟨vs, _, q, _⟩, _⟩ := HOST.out
       exact (oL3 q hg').1)
      rw [HOL.out] at hrun ho5; have HO5 := LH ho5; have HB6 := LH hB6; have hcut : ∀ W, (Instr.slice 22 (.slice a2 n2 c2) (some (.int .i64 (U : Int))) none none).run Tryz.prog W = .ok (.slice (cutA a2 c2 U) (n2 - U) (c2 - U)) W := fun W => zaU a2 n2 c2 W U hlenU; have HSR := LH (HBS.out.cut U hlenU); generalize cutA a2 c2 U = A3 at hcut HSR; generalize c2 - U = C3 at hcut HSR; have hN3 : n2 - U ≤ 400 := by omega
      generalize n2 - U = N3 at hcut HSR hN3; clear hone hU hal2 e2 ho5 hg5 hB6 hd5 hat5 b5; go_wp2_with (at_builtin; refine Lib.wpList_append_run _ rfl _ _ _ _ rfl _ _ rfl rfl _ _ hrun ?_); go_roundw
      case rel => exact ⟨k + 1, A3, N3, C3, rest.drop U, out ++ [⟨A, L, D⟩], by go_num, by omega, rfl, hN3, HSR.out, HO5.out, by rw [List.length_append, HOL.out]; rfl, HRN.out, HB6.out⟩
      case measure => simp [intOf]; omega
    · have hEb : (E != 0) = true := by simp [hE]
      have HK : Hid (PatM.stepsOf K r = ([], E)) := PatM.stepsOf_err (o := []) (q := []) (by rw [← HR1.out, HBAD.out hE]) hE; have HBe := LH (bTh HB5.out HAL.out); go_wp2_with fail; go_ret2; exact ⟨none, 0, 0, zbd (by rw [HK.out]), by rw [HK.out]; exact fun w2 _ _ => OS.nil_ w2, HBe.out⟩
  · obtain rfl : k = K := by omega
    have HR0 : Hid (PatM.rd k r [] = (0, out, rest)) := by show _ = _; rw [← HRD.out, Nat.sub_self, PatM.rd]
    by_cases hz : 0 < n2
    · have HK : Hid (PatM.stepsOf k r = ([], 7)) := PatM.stepsOf_rest HR0.out (by rw [HLN.out]; exact hz)
      go_wp2_with fail; go_ret2; exact ⟨none, 0, 0, zbd (by rw [HK.out]), by rw [HK.out]; exact fun w2 _ _ => OS.nil_ w2, HBW.out⟩
    · have HK : Hid (PatM.stepsOf k r = (out, 0)) := PatM.stepsOf_fin HR0.out (by rw [HLN.out]; exact hz)
      obtain ⟨ao, co, hvo, -⟩ := HOST.out.os; subst hvo; go_wp2_with fail; go_ret2; exact ⟨ao, out.length, co, zbd (by rw [HK.out]), by rw [HK.out]; exact HOST.out.osn, HBW.out⟩
def RdCut (w : World) (B0 : Nat) (E : Int) (ops : List OpR) (s4 s5 : Value) (W : World) : Prop :=
 ∃ a n c, s4 = .slice a n c ∧ s5 = .int .i64 E ∧ OSN W (B0 + 1) a n c ops ∧ W.heap[B0]? = some (.cells #[.int .i64 0, .int .i64 0, .int .i64 0, .int .i64 0, .int .i64 0, .slice none 0 0] 35 (0, 0)) ∧ Below w.heap.size w W
structure RPSt (w : World) (B0 B1 : Nat) (f t o nw s : Int) (a : Option Addr) (n c : Nat) (ops : List OpR) (W : World) : Prop where
 c0 : W.heap[B0]? = some (.cells #[.int .i64 0, .int .i64 0, .int .i64 0, .int .i64 0, .int .i64 0, .slice none 0 0] 35 (0, 0))
 c1 : W.heap[B1]? = some (.cells #[.int .i64 f, .int .i64 t, .int .i64 o, .int .i64 nw, .int .i64 s, .slice a n c] 35 (0, 0))
 o : OSN W (B0 + 1) a n c ops
 below : Below w.heap.size w W
theorem RPSt.later {w : World} {B0 B1 : Nat} {f t o nw s : Int} {a : Option Addr} {n c : Nat} {ops : List OpR} {W W' : World} (h : RPSt w B0 B1 f t o nw s a n c ops W) (hb : Below W.heap.size W W') : RPSt w B0 B1 f t o nw s a n c ops W' :=
 ⟨(hb.block _ (zax h.c0)).trans h.c0, (hb.block _ (zax h.c1)).trans h.c1, h.o.later hb, bTh h.below hb⟩
theorem readP_n (a : Option Addr) (n c : Nat) (b : List Int) (w : World) (hs : BS w a n c b) :
 Calls Tryz.prog 141 #[.slice a n c] w (GivesPN (fun _ => True) (PatM.readOf b) w) := by
 have HLn := LH hs.len; have HB : Hid (∀ o, Below w.heap.size w (w.alloc o)) := by show ∀ o, _; exact fun o => (Below.refl _ _).alloc (Nat.le_refl _) _
 by_cases h400 : 400 < n
 · have HK : Hid (PatM.readOf b = (zap, 1)) := by show _ = _; unfold PatM.readOf; rw [if_pos (by rw [HLn.out]; exact h400)]
   clear hs; go_enter Tryz.func141, Tryz.ntmps141; go_wp2_with fail; go_returns; exact ⟨_, by rw [HK.out], HB.out _, fun _ _ _ _ => by rw [HK.out]; exact zaD _⟩
 · by_cases h8 : n < 8
   · have HK : Hid (PatM.readOf b = (zap, 7)) := by show _ = _; unfold PatM.readOf; rw [if_neg (by rw [HLn.out]; exact h400), if_pos (by rw [HLn.out]; exact h8)]
     clear hs; go_enter Tryz.func141, Tryz.ntmps141; go_wp2_with fail; go_returns; exact ⟨_, by rw [HK.out], HB.out _, fun _ _ _ _ => by rw [HK.out]; exact zaD _⟩
   · have hn8 : 8 ≤ n := by omega
     have HRO := LH (PatM.readOf_steps (b := b) (by rw [HLn.out]; omega) (by rw [HLn.out]; omega)); have hc7 := hs.byte 7; obtain ⟨C, hC⟩ : ∃ C : Nat, (b[7]?.getD 0 : Int) = (C : Int) := ⟨(b[7]?.getD 0).toNat, by omega⟩; have hC255 : C ≤ 255 := by omega
     have hCn : (b.getD 7 0).toNat = C := by rw [List.getD_eq_getElem?_getD, hC]; simp
     rw [hCn] at HRO
     have HHd : Hid (∀ ops, PatM.headOf b ops = ⟨b[0]?.getD 0, b[1]?.getD 0, b[2]?.getD 0 * 256 + b[3]?.getD 0, b[4]?.getD 0 * 256 + b[5]?.getD 0, b[6]?.getD 0, ops⟩) := by
      show ∀ ops, _; intro ops; simp only [PatM.headOf, List.getD_eq_getElem?_getD]
     obtain ⟨B0, hB0⟩ : ∃ B0, w.heap.size = B0 := ⟨_, rfl⟩; have HB0 := LH hB0; have hbl := HB.out (.cells #[.int .i64 0, .int .i64 0, .int .i64 0, .int .i64 0, .int .i64 0, .slice none 0 0] 35); have hc0 : (w.alloc (.cells #[.int .i64 0, .int .i64 0, .int .i64 0, .int .i64 0, .int .i64 0, .slice none 0 0] 35)).heap[B0]? = some (.cells #[.int .i64 0, .int .i64 0, .int .i64 0, .int .i64 0, .int .i64 0, .slice none 0 0] 35 (0, 0)) := by rw [hpA, if_pos hB0.symm]
     have hz0 : (w.alloc (.cells #[.int .i64 0, .int .i64 0, .int .i64 0, .int .i64 0, .int .i64 0, .slice none 0 0] 35)).heap.size = B0 + 1 := by simp [hB0]
     have HS := LH hs; obtain ⟨blk, off, rfl, hc⟩ := hs.cells (by omega); have HCS := LH hc; have hle := hs.le; have hcut8 : ∀ W, (Instr.slice 22 (.slice (some ⟨blk, off, none⟩) n c) (some (.int .i64 8)) none none).run Tryz.prog W = .ok (.slice (cutA (some ⟨blk, off, none⟩) c 8) (n - 8) (c - 8)) W := fun W => zaU (some ⟨blk, off, none⟩) n c W 8 hn8; have hsr := hs.cut 8 hn8; generalize cutA (some ⟨blk, off, none⟩) c 8 = A8 at hcut8 hsr; have hN8 : n - 8 ≤ 400 := by omega
     generalize n - 8 = N8 at hcut8 hsr hN8; generalize c - 8 = C8 at hcut8 hsr
     have HCall : Hid (∀ W, Below w.heap.size w W → Calls Tryz.prog 184 #[.slice A8 N8 C8, .int .i64 (C : Int)] W (GivesSts C (b.drop 8) W)) := by
      show ∀ W, _; exact fun W hW => readSteps_any A8 N8 C8 (b.drop 8) C W (hsr.later hW) hN8 hC255
     have t7 := hc 7 (by omega); rw [hC] at t7; replace t7 := cell_later hbl t7; have h7n : 7 < n := by omega
     have h7i : (7 : Int) < n := by omega
     have hwC : IntKind.i64.wrap (C : Int) = C := IntWalk.i64_in _ (by omega); clear hs hc hc7 hsr hC hCn; obtain ⟨E, hE⟩ : ∃ E, (PatM.stepsOf C (b.drop 8)).2 = E := ⟨_, rfl⟩; obtain ⟨ops, hO⟩ : ∃ ops, (PatM.stepsOf C (b.drop 8)).1 = ops := ⟨_, rfl⟩; have HE := LH hE; have HO := LH hO; rw [hE, hO] at HRO; clear hE hO; have z1 : ∀ (W : World) (q : Nat) (p : Addr), (W.drewN q).cell? p = W.cell? p := fun _ _ _ => rfl; go_enter Tryz.func141, Tryz.ntmps141; go_wp2_with fail; generalize w.alloc (.cells #[.int .i64 0, .int .i64 0, .int .i64 0, .int .i64 0, .int .i64 0, .slice none 0 0] 35) = W0 at hbl hc0 hz0 t7 ⊢; have HBL0 := LH hbl; have HC0 := LH hc0; have HZ0 := LH hz0; clear hbl hc0 hz0; go_cut [4, 5] (fun s4 s5 wx => RdCut w B0 E ops s4 s5 wx)
     case first =>
      go_region_held3 (fun W => W.cell? ⟨blk, off + 7, none⟩ = some (.int .u8 C)) (first | exact t7 | exact t7b | go_keep)
       (first
        | (go_at_call 184; refine (HCall.out _ (bTh HBL0.out (Below.refl _ _).drew)).mono ?_; rintro e W1 ⟨a1, n1, c1, rfl, ho1, b1⟩
           have t7b := cell_later b1 t7; rw [HE.out] ; rw [HO.out] at ho1; have HO1 := LH ho1; have HB1 := LH b1
           clear ho1 b1))
      all_goals
       go_wp2_with fail; go_meet; exact ⟨a1, n1, c1, rfl, rfl, HO1.out.mono (by show B0 + 1 ≤ W0.heap.size; rw [HZ0.out]; exact Nat.le_refl _), (HB1.out.block B0 (by show B0 < W0.heap.size; rw [HZ0.out]; omega)).trans HC0.out, bTh HBL0.out (bTh (Below.refl _ _).drew HB1.out)⟩
     case rest =>
      clear t7 hcut8 HCall HC0 HZ0 HBL0 z1; obtain ⟨a1, n1, c1, rfl, rfl, ho1, hc1, hb1⟩ := hcut; have HON := LH ho1; have HBL : Hid (w.heap.size ≤ B0) := by show w.heap.size ≤ B0; rw [HB0.out]; exact Nat.le_refl _
      by_cases hE0 : E = 0
      · subst hE0
        have t0 := cell_later hb1 (HCS.out 0 (by omega)); have t1 := cell_later hb1 (HCS.out 1 (by omega)); have t2 := cell_later hb1 (HCS.out 2 (by omega)); have t3 := cell_later hb1 (HCS.out 3 (by omega)); have t4 := cell_later hb1 (HCS.out 4 (by omega)); have t5 := cell_later hb1 (HCS.out 5 (by omega)); have t6 := cell_later hb1 (HCS.out 6 (by omega)); have y0 := HS.out.byte 0; have y1 := HS.out.byte 1; have y2 := HS.out.byte 2; have y3 := HS.out.byte 3; have y4 := HS.out.byte 4; have y5 := HS.out.byte 5; have y6 := HS.out.byte 6; generalize b[0]?.getD 0 = x0 at t0 y0 HHd; generalize b[1]?.getD 0 = x1 at t1 y1 HHd; generalize b[2]?.getD 0 = x2 at t2 y2 HHd; generalize b[3]?.getD 0 = x3 at t3 y3 HHd; generalize b[4]?.getD 0 = x4 at t4 y4 HHd; generalize b[5]?.getD 0 = x5 at t5 y5 HHd; generalize b[6]?.getD 0 = x6 at t6 y6 HHd; rw [Nat.add_zero] at t0
        have hcutA : ∀ k : Nat, k < 8 → cutA (some ⟨blk, off, none⟩) c k = some ⟨blk, off + k, none⟩ := fun k hk => by
         unfold cutA; rw [if_neg (by omega), Option.map_some, addr_add]
        have hcut2 : ∀ W, (Instr.slice 22 (.slice (some ⟨blk, off, none⟩) n c) (some (.int .i64 2)) (some (.int .i64 4)) none).run Tryz.prog W = .ok (.slice (some ⟨blk, off + 2, none⟩) 2 (c - 2)) W := fun W => by
         have := za6 (some ⟨blk, off, none⟩) n c W 2 4 (by omega) (by omega)
         rwa [hcutA 2 (by omega)] at this
        have hcut4 : ∀ W, (Instr.slice 22 (.slice (some ⟨blk, off, none⟩) n c) (some (.int .i64 4)) (some (.int .i64 6)) none).run Tryz.prog W = .ok (.slice (some ⟨blk, off + 4, none⟩) 2 (c - 4)) W := fun W => by
         have := za6 (some ⟨blk, off, none⟩) n c W 4 6 (by omega) (by omega)
         rwa [hcutA 4 (by omega)] at this
        have HN2 : Hid (∀ W : World, W.cell? ⟨blk, off + 2, none⟩ = some (.int .u8 x2) → W.cell? ⟨blk, off + 3, none⟩ = some (.int .u8 x3) →
         Calls Tryz.prog 185 #[.slice (some ⟨blk, off + 2, none⟩) 2 (c - 2)] W fun e w' => e = .returned (.int .i64 (x2 * 256 + x3)) ∧ zbD W w') := by
         show ∀ W : World, _; exact fun W h1 h2 => readSum_any blk (off + 2) (c - 2) x2 x3 W h1 h2 y2 y3
        have HN4 : Hid (∀ W : World, W.cell? ⟨blk, off + 4, none⟩ = some (.int .u8 x4) → W.cell? ⟨blk, off + 5, none⟩ = some (.int .u8 x5) →
         Calls Tryz.prog 185 #[.slice (some ⟨blk, off + 4, none⟩) 2 (c - 4)] W fun e w' => e = .returned (.int .i64 (x4 * 256 + x5)) ∧ zbD W w') := by
         show ∀ W : World, _; exact fun W h1 h2 => readSum_any blk (off + 4) (c - 4) x4 x5 W h1 h2 y4 y5
        have HI : Hid (I64 x0 ∧ I64 x1 ∧ I64 (x2 * 256 + x3) ∧ I64 (x4 * 256 + x5) ∧ I64 x6) := by
         show I64 _ ∧ _; refine ⟨?_, ?_, ?_, ?_, ?_⟩ <;> (unfold I64; omega)
        have u0 : (0 : Int) < n := by omega
        have u1 : (1 : Int) < n := by omega
        have u6 : (6 : Int) < n := by omega
        have v0 : 0 < n := by omega
        have v1 : 1 < n := by omega
        have v6 : 6 < n := by omega
        have z1 : ∀ (W : World) (q : Nat) (p : Addr), (W.drewN q).cell? p = W.cell? p := fun _ _ _ => rfl; have z2 : ∀ (W : World) (q : Nat) (p : Addr), (W.drewN q).frozen? p = W.frozen? p := fun _ _ _ => rfl; have z3 : ∀ (W : World) (q : Nat) (o : Obj), (W.drewN q).alloc o = (W.alloc o).drewN q := fun _ _ _ => rfl; have z4 : ∀ (W : World) (q : Nat) (p : Addr) (v : Value), (W.drewN q).setCell p v = (W.setCell p v).drewN q := fun _ _ _ _ => rfl; have hwx0 : IntKind.i64.wrap x0 = x0 := IntWalk.i64_in _ (by omega); have hwx1 : IntKind.i64.wrap x1 = x1 := IntWalk.i64_in _ (by omega); have hwx6 : IntKind.i64.wrap x6 = x6 := IntWalk.i64_in _ (by omega); obtain ⟨B1, hB1⟩ : ∃ B1, wc.heap.size = B1 := ⟨_, rfl⟩; have hbp : Below wc.heap.size wc (wc.alloc (.cells #[.int .i64 x0, .int .i64 x1, .int .i64 (x2 * 256 + x3), .int .i64 (x4 * 256 + x5), .int .i64 x6, .slice a1 n1 c1] 35)) := (Below.refl _ _).alloc (Nat.le_refl _) _
        have HST : Hid (RPSt w B0 B1 x0 x1 (x2 * 256 + x3) (x4 * 256 + x5) x6 a1 n1 c1 ops (wc.alloc (.cells #[.int .i64 x0, .int .i64 x1, .int .i64 (x2 * 256 + x3), .int .i64 (x4 * 256 + x5), .int .i64 x6, .slice a1 n1 c1] 35))) :=
         ⟨(hbp.block _ (zax hc1)).trans hc1, by rw [hpA, if_pos hB1.symm], ho1.later hbp, bTh hb1 hbp⟩
        have HB01 : Hid (B0 < B1) := by show B0 < B1; rw [← hB1]; exact zax hc1
        clear hbp hb1 hc1 ho1 y0 y1 y2 y3 y4 y5 y6 hcutA; go_wp2_with fail; go_cut [6] (fun s6 wx => s6 = .pointer (some ⟨B1, 0, none⟩) ∧ RPSt w B0 B1 x0 x1 (x2 * 256 + x3) (x4 * 256 + x5) x6 a1 n1 c1 ops wx)
        case first =>
         go_region_held3 (fun W => W.cell? ⟨blk, off, none⟩ = some (.int .u8 x0) ∧ W.cell? ⟨blk, off + 1, none⟩ = some (.int .u8 x1) ∧ W.cell? ⟨blk, off + 2, none⟩ = some (.int .u8 x2) ∧ W.cell? ⟨blk, off + 3, none⟩ = some (.int .u8 x3) ∧ W.cell? ⟨blk, off + 4, none⟩ = some (.int .u8 x4) ∧ W.cell? ⟨blk, off + 5, none⟩ = some (.int .u8 x5) ∧ W.cell? ⟨blk, off + 6, none⟩ = some (.int .u8 x6))
          (first | exact ⟨t0, t1, t2, t3, t4, t5, t6⟩ | go_keep)
          (first
           | (go_at_call 185; (with_reducible refine (HN2.out _ ?_ ?_).mono ?_); (go_split_ands; assumption); (go_split_ands; assumption); rintro e W3 ⟨rfl, q3, rfl⟩)
           | (go_at_call 185; (with_reducible refine (HN4.out _ ?_ ?_).mono ?_); (go_split_ands; assumption); (go_split_ands; assumption); rintro e W3 ⟨rfl, q4, rfl⟩))
         all_goals
          go_wp2_with fail; go_meet; exact ⟨rfl, HST.out.later (below_drewN (Below.refl _ _) _)⟩
        case rest =>
         obtain ⟨rfl, hst⟩ := hcut; have HR := LH hst; obtain ⟨F2, hF2⟩ : ∃ F2, x2 * 256 + x3 = F2 := ⟨_, rfl⟩; obtain ⟨F4, hF4⟩ : ∃ F4, x4 * 256 + x5 = F4 := ⟨_, rfl⟩; rw [hF2, hF4] at HI HR HHd; clear hst HST HN2 HN4 t0 t1 t2 t3 t4 t5 t6 hB1 z1 z2 z3 z4 u0 u1 u6 v0 v1 v6 hF2 hF4 hwx0 hwx1 hwx6 hcut2 hcut4; obtain ⟨p0, p1, p2, p3, p4, p5, -⟩ := zak HR.out.c1; have hpv : PV wc (.agg #[.int .i64 x0, .int .i64 x1, .int .i64 F2, .int .i64 F4, .int .i64 x6, .slice a1 n1 c1]) ⟨x0, x1, F2, F4, x6, ops⟩ := ⟨a1, n1, c1, rfl, HR.out.o.os, HI.out.1, HI.out.2.1, HI.out.2.2.1, HI.out.2.2.2.1, HI.out.2.2.2.2⟩; obtain ⟨E, hE⟩ : ∃ E, PatM.check ⟨x0, x1, F2, F4, x6, ops⟩ = E := ⟨_, rfl⟩; have HFin : Hid (PatM.readOf b = if E ≠ 0 then (zap, E) else (⟨x0, x1, F2, F4, x6, ops⟩, 0)) := by show _ = _; rw [HRO.out, if_neg (by simp), HHd.out, hE]
         go_wp2_with fail; refine (checkP_any _ _ _ hpv).mono ?_; rintro e W3 ⟨rfl, b3⟩; rw [hE]; have HR3 := LH (HR.out.later b3); clear hpv HR p0 p1 p2 p3 p4 p5 b3 hE; have g0 : ∀ v, (W3.setCell ⟨B0, 0, none⟩ v).cell? ⟨B0, 0, none⟩ = some v := fun v => World.cell?_setCell_same _ _ _ (zak HR3.out.c0).1; obtain ⟨r0, r1, r2, r3, r4, r5, f0, f1, f2, f3, f4, f5⟩ := zak HR3.out.c0; by_cases hE0 : E = 0
         · subst hE0
           have HK : Hid (PatM.readOf b = (⟨x0, x1, F2, F4, x6, ops⟩, 0)) := by show _ = _; rw [HFin.out, if_neg (by simp)]
           obtain ⟨p0, p1, p2, p3, p4, p5, -⟩ := zak HR3.out.c1; obtain ⟨W6, hW6, q0, q1, q2, q3, q4, q5, hoth, hsz⟩ := zbh HR3.out.c0 (.int .i64 x0) (.int .i64 x1) (.int .i64 F2) (.int .i64 F4) (.int .i64 x6) (.slice a1 n1 c1)
           have HB6 : Hid (Below w.heap.size w W6) := by
            show Below _ _ _; rw [← hW6]; exact (((((HR3.out.below.setCell HBL.out _).setCell HBL.out _).setCell HBL.out _).setCell HBL.out _).setCell HBL.out _).setCell HBL.out _
           have HPV : Hid (∀ W' : World, W6.heap.size ≤ W'.heap.size → (∀ k, w.heap.size ≤ k → k < W6.heap.size → W'.heap[k]? = W6.heap[k]?) → PV W' (.agg #[.int .i64 x0, .int .i64 x1, .int .i64 F2, .int .i64 F4, .int .i64 x6, .slice a1 n1 c1]) ⟨x0, x1, F2, F4, x6, ops⟩) := by
            show ∀ W' : World, _; intro W' hw1 hw2; exact ⟨a1, n1, c1, rfl, HR3.out.o W' (by rw [← hsz]; exact hw1) (fun k k1 k2 => (hw2 k (by have := HBL.out; omega) (by rw [hsz]; exact k2)).trans (hoth k (by omega))), HI.out.1, HI.out.2.1, HI.out.2.2.1, HI.out.2.2.2.1, HI.out.2.2.2.2⟩
           have hne : B0 ≠ B1 := by have := HB01.out; omega
           clear hoth hsz; go_wp2_with fail
           try simp only [Exit.inBlock, Exit.then]
           refine bodyPost_ret (by simp [results, Tryz.results141, go_sem, q0, q1, q2, q3, q4, q5]; try rfl) rfl ?_; exact ⟨_, by rw [HK.out], HB6.out, fun W' h1 h2 _ => by rw [HK.out]; exact HPV.out W' h1 h2⟩
         · have hnb : (E != 0) = true := by simp [hE0]
           have HK : Hid (PatM.readOf b = (zap, E)) := by show _ = _; rw [HFin.out, if_pos hE0]
           obtain ⟨W6, hW6, q0, q1, q2, q3, q4, q5, hoth, hsz⟩ := zbh HR3.out.c0 (.int .i64 0) (.int .i64 0) (.int .i64 0) (.int .i64 0) (.int .i64 0) (.slice none 0 0)
           have HB6 : Hid (Below w.heap.size w W6) := by
            show Below _ _ _; rw [← hW6]; exact (((((HR3.out.below.setCell HBL.out _).setCell HBL.out _).setCell HBL.out _).setCell HBL.out _).setCell HBL.out _).setCell HBL.out _
           clear hoth hsz; go_wp2_with fail
           try simp only [Exit.inBlock, Exit.then]
           refine bodyPost_ret (by simp [results, Tryz.results141, go_sem, q0, q1, q2, q3, q4, q5]; try rfl) rfl ?_; exact ⟨_, by rw [HK.out], HB6.out, fun _ _ _ _ => by rw [HK.out]; exact zaD _⟩
      · have hEb : (E != 0) = true := by simp [hE0]
        have HK : Hid (PatM.readOf b = (zap, E)) := by show _ = _; rw [HRO.out, if_pos hE0]
        obtain ⟨r0, r1, r2, r3, r4, r5, f0, f1, f2, f3, f4, f5⟩ := zak hc1; have g0 : ∀ v, (wc.setCell ⟨B0, 0, none⟩ v).cell? ⟨B0, 0, none⟩ = some v := fun v => World.cell?_setCell_same _ _ _ r0; obtain ⟨W6, hW6, q0, q1, q2, q3, q4, q5, hoth, hsz⟩ := zbh hc1 (.int .i64 0) (.int .i64 0) (.int .i64 0) (.int .i64 0) (.int .i64 0) (.slice none 0 0)
        have HB6 : Hid (Below w.heap.size w W6) := by
         show Below _ _ _; rw [← hW6]; exact (((((hb1.setCell HBL.out _).setCell HBL.out _).setCell HBL.out _).setCell HBL.out _).setCell HBL.out _).setCell HBL.out _
        clear hoth hsz hb1 hc1 ho1; go_wp2_with fail
        try simp only [Exit.inBlock, Exit.then]
        refine bodyPost_ret (by simp [results, Tryz.results141, go_sem, q0, q1, q2, q3, q4, q5]; try rfl) rfl ?_; exact ⟨_, by rw [HK.out], HB6.out, fun _ _ _ _ => by rw [HK.out]; exact zaD _⟩
theorem ChunkM.checks_of {l : List ChR} (h : ChunkM.checks l = 0) (hne : l ≠ []) : (l.length : Int) ≤ (l.getD 0 default).of_ := by
 have hm : l.getD 0 default ∈ l := by
  cases l with
  | nil => exact absurd rfl hne
  | cons x t => simp
 have h0 := ChunkM.check_good (ChunkM.checks_all h _ hm).1
 have h1 := ChunkM.up_len (l := l) (ChunkM.checks_up h) (lo := 0) (hi := (l.getD 0 default).of_) (fun y hy => by
  have h1 := ChunkM.checks_all h y hy; have h2 := (ChunkM.check_good h1.1).2.2; have h3 := h1.2.1.2.2
  omega) (by omega)
 omega
def GivesJN (l : List ChR) (w : World) (e : Ending) (w' : World) : Prop :=
 ∃ r, ChunkM.JoinIs l r ∧ ∃ v, e = .returned (.tuple #[v, .int .i64 r.2]) ∧ NewR w.heap.size w' (fun V => PV V v r.1) ∧ Below w.heap.size w w'
theorem joinC_n (a : Option Addr) (n c : Nat) (l : List ChR) (w : World) (hl : CS w a n c l) : Calls Tryz.prog 77 #[.slice a n c] w (GivesJN l w) := by
 have HL := LH hl; have HLn := LH hl.len; have hlen : n ≤ 9223372036854775807 := by have := hl.le; have := hl.max; omega
 obtain ⟨B, hBB⟩ : ∃ B, w.heap.size = B := ⟨_, rfl⟩; have hle : w.heap.size ≤ B := by omega
 have HLE := LH hle; have hb0 : Below w.heap.size w (w.alloc (.cells #[.int .i64 0, .int .i64 0, .int .i64 0, .int .i64 0, .int .i64 0, .slice none 0 0] 35)) := (Below.refl _ _).alloc (Nat.le_refl _) _; have hblk : (w.alloc (.cells #[.int .i64 0, .int .i64 0, .int .i64 0, .int .i64 0, .int .i64 0, .slice none 0 0] 35)).heap[B]? = some (.cells #[.int .i64 0, .int .i64 0, .int .i64 0, .int .i64 0, .int .i64 0, .slice none 0 0] 35 (0, 0)) := by rw [hpA, if_pos hBB.symm]
 have HB0 := LH hb0; have HBLK := LH hblk; clear hl hb0 hblk hle; go_enter Tryz.func77, Tryz.ntmps77; go_wp2_with fail; refine (listC_ok a n c l _ (HL.out.later HB0.out)).mono ?_; rintro e W1 ⟨rfl, b1⟩; have hB1 := bTh HB0.out b1; have hblk1 := (b1.block B (zax HBLK.out)).trans HBLK.out; have HB1 := LH hB1; have HBLK1 := LH hblk1; clear b1 HB0 HBLK; obtain ⟨E, hE⟩ : ∃ E, ChunkM.checks l = E := ⟨_, rfl⟩; rw [hE]; by_cases hE0 : E = 0
 · subst hE0
   have HE := LH hE; clear hE; by_cases hn0 : n = 0
   · subst hn0
     have HJ : Hid (ChunkM.joinErr l = 5) := by
      show _ = _; unfold ChunkM.joinErr; rw [if_neg (by rw [HE.out]; simp), if_pos (.inl (List.eq_nil_of_length_eq_zero HLn.out))]
     obtain ⟨r0, r1, r2, r3, r4, r5, f0, f1, f2, f3, f4, f5⟩ := zak hblk1; have g0 : ∀ v, (W1.setCell ⟨B, 0, none⟩ v).cell? ⟨B, 0, none⟩ = some v := fun v => World.cell?_setCell_same _ _ _ r0; obtain ⟨W6, hW6, q0, q1, q2, q3, q4, q5, hb6, -, -⟩ := za7 hblk1 hB1 HLE.out (.int .i64 0) (.int .i64 0) (.int .i64 0) (.int .i64 0) (.int .i64 0) (.slice none 0 0); have HB6 := LH hb6; clear hb6 hB1 hblk1; go_wp2_with fail
     try simp only [Exit.inBlock, Exit.then]
     refine bodyPost_ret (by simp [results, Tryz.results77, go_sem, q0, q1, q2, q3, q4, q5]; try rfl) rfl ?_; exact ⟨(zap, 5), .inl ⟨by rw [HJ.out]; omega, by rw [HJ.out]⟩, _, rfl, NewR.any (fun V => zaD V), HB6.out⟩
   · obtain ⟨b, off, rfl, hcs⟩ := (HL.out.later hB1).cells (by omega)
     obtain ⟨za, zm, zc, z0, z1, z2, z3, -, -, zI⟩ := hcs 0 (by omega)
     have HM0 : Hid (l.getD 0 default ∈ l) := by
      show _ ∈ l; have := HLn.out
      cases l with
      | nil => simp at this; omega
      | cons x t => simp
     obtain ⟨zz, hzz⟩ : ∃ zz, l.getD 0 default = zz := ⟨_, rfl⟩; rw [hzz] at z0 z1 z3 HM0; have HZZ := LH hzz; obtain ⟨ZF, ZT, ZN, ZO, ZD⟩ := zz; simp only [Nat.zero_mul, Nat.add_zero] at z0 z1 z3; have hnb : ((n : Int) == 0) = false := by simp; omega
     have h0n : (0 : Int) < (n : Int) := by omega
     clear hcs z2 hzz; by_cases hof : (n : Int) = ZO
     · have hofb : decide ((n : Int) < ZO) = false := by simp; omega
       have hofn : ¬ ((n : Int) < ZO) := by omega
       have HJ : Hid (ChunkM.joinErr l = 0) := by
        show _ = _; unfold ChunkM.joinErr; rw [if_neg (by rw [HE.out]; simp), if_neg]; rintro (h | h)
        · rw [h] at HM0; exact absurd HM0.out (by simp)
        · rw [HZZ.out, HLn.out] at h; exact h hof
       have h52 := (ChunkM.joinErr_ok HJ.out).2.2.2; rw [HLn.out] at h52; have HDat := LH (ChunkM.checks_data HE.out); have HZ : Hid (∀ W, Below W1.heap.size W1 W → W.cell? ⟨b, off, none⟩ = some (.int .i64 ZF) ∧ W.cell? ⟨b, off + 1, none⟩ = some (.int .i64 ZT)) := fun W h => ⟨cell_later h z0, cell_later h z1⟩; clear hof; go_wp2_with fail; go_loopw [5, 31] (fun vb i wr => JoinRel l W1 vb i wr) (fun _ i _ => n - (intOf i).toNat)
       case atStart => exact ⟨0, rfl, Nat.zero_le _, by rw [List.take_zero]; exact World.ownsRow_nil _ _ _ _, Below.refl _ _⟩
       case round =>
        obtain ⟨k, rfl, hk, ho, hB⟩ := hrel; rw [HLn.out] at hk; have HO := LH ho; have HB := LH hB; clear ho hB; by_cases hlt : k < n
        · obtain ⟨b', off', e', hcs⟩ := ((HL.out.later hB1).later HB.out).cells (by omega)
          simp only [Option.some.injEq, Addr.mk.injEq, and_true] at e'; obtain ⟨rfl, rfl⟩ := e'; obtain ⟨va, vm, vc, p0, p1, p2, p3, p4, p5, pI⟩ := hcs k hlt; have HD := LH (drop_ch l k (by rw [HLn.out]; exact hlt))
          have hmem : l.getD k default ∈ l := by
           have : l.getD k default ∈ l.drop k := by rw [HD.out]; simp
           exact List.mem_of_mem_drop this
          have HTk : Hid (ChunkM.flatD (l.take (k + 1)) = ChunkM.flatD (l.take k) ++ (l.getD k default).data) := by
           show _ = _; have hkl : k < l.length := by rw [HLn.out]; exact hlt
           rw [List.take_add_one, ChunkM.flatD_append, List.getD_eq_getElem?_getD, List.getElem?_eq_getElem hkl]; simp [ChunkM.flatD]
          have hdl := HDat.out _ hmem; generalize l.getD k default = x at p0 p1 p2 p3 p4 p5 HTk hdl; obtain ⟨F, T, N, O, D⟩ := x; simp only at p0 p1 p2 p3 p4 p5 hdl HTk
          have hfl : (ChunkM.flatD (l.take k)).length ≤ 16 * k := by
           have := ChunkM.flat_len (l := l.take k) (fun c hc => HDat.out c (List.mem_of_mem_take hc)); rw [List.length_take, HLn.out] at this; omega
          have hbl : Below wr.heap.size wr (wr.alloc (.cells #[.int .i64 F, .int .i64 T, .int .i64 N, .int .i64 O, .slice va vm vc] 39)) := (Below.refl _ _).alloc (Nat.le_refl _) _; have hb2 := bTh HB.out hbl; have hvl := p5.len; obtain ⟨a5, c5, W5, hrun, hown5, hg5⟩ := zbi (zaQ HO.out hbl) (p5.later hbl) (by omega) (by have := hb2.size; omega); have HB5 := LH (hb2.grown hg5 hb2.size (fun g hg => (oL3 HO.out hg).1))
          have HO5 : Hid (W5.ownsRow W1.heap.size 5 1 (.slice a5 ((ChunkM.flatD (l.take k)).length + vm) c5) (ChunkM.flatD (l.take (k + 1))).length ((ChunkM.flatD (l.take (k + 1))).map (Value.int .u8))) := by
           show World.ownsRow _ _ _ _ _ _ _; rw [HTk.out, List.length_append, hvl]; exact hown5
          clear hcs hbl hb2 hown5 hg5 p5 pI hmem; generalize (ChunkM.flatD (l.take k)).length = fl at hrun hfl HO5; go_wp2_with (at_builtin; refine Lib.wpList_append_run _ rfl _ _ _ _ rfl _ _ rfl rfl _ _ hrun ?_); go_roundw
          case rel => exact ⟨k + 1, by go_num, by rw [HLn.out]; omega, HO5.out, HB5.out⟩
          case measure => simp [intOf]; omega
        · have hkn : k = n := by omega
          subst hkn; have ho := HO.out; rw [List.take_of_length_le (by rw [HLn.out]; exact Nat.le_refl _)] at ho; obtain ⟨fb, hfb⟩ : ∃ fb, ChunkM.flatD l = fb := ⟨_, rfl⟩
          have hfl : fb.length ≤ 832 := by
           have := ChunkM.flat_len HDat.out; rw [HLn.out, hfb] at this; omega
          have hby := flat_bytes HL.out.bytes; rw [hfb] at ho hby; have HFB := LH hfb; obtain ⟨av, cv, hvb⟩ := own_slice ho; subst hvb; have hbs := BS.of_own ho hby; have hblk2 := (HB.out.block B (zax HBLK1.out)).trans HBLK1.out; have hB2 := bTh HB1.out HB.out; obtain ⟨y0, y1⟩ := HZ.out _ HB.out; obtain ⟨FL, hFL⟩ : ∃ FL, fb.length = FL := ⟨_, rfl⟩; rw [hFL] at hbs hfl; have HBS := LH hbs; have HB2 := LH hB2; have HBLK2 := LH hblk2; rw [hFL]; clear ho hbs hby hfb hB2 hblk2 HO hFL; go_wp2_with fail; refine (unpack_any av FL cv fb 400 _ HBS.out (by omega)).mono ?_; rintro e W3 ⟨u, a3, n3, c3, hu, rfl, s3, b3⟩; have hblk3 := (b3.block B (zax HBLK2.out)).trans HBLK2.out; have hB3 := bTh HB2.out b3; replace y0 := cell_later b3 y0; replace y1 := cell_later b3 y1; have HU : Hid (PackM.Unp 400 (ChunkM.flatD l) [] u) := by show PackM.Unp _ _ _ _; rw [HFB.out]; exact hu
          clear b3 hu HBS HB2 HBLK2; obtain ⟨ub, ue⟩ := u; simp only at s3 ⊢; by_cases hue : ue = 0
          · subst hue
            have HB3 := LH hB3; have HBLK3 := LH hblk3; have HS3 := LH s3; clear hB3 hblk3 s3; go_wp2_with fail; refine (readP_n a3 n3 c3 ub _ HS3.out).mono ?_; rintro e W4 ⟨v4, rfl, b4, hpv⟩; have hpv4 := hpv W4 (Nat.le_refl _) (fun _ _ _ => rfl) trivial; obtain ⟨⟨pf, pt, po, pn, ps, pops⟩, hrp⟩ : ∃ rp, (PatM.readOf ub).1 = rp := ⟨_, rfl⟩; obtain ⟨re, hre⟩ : ∃ re, (PatM.readOf ub).2 = re := ⟨_, rfl⟩; rw [hrp] at hpv hpv4; rw [hre]; obtain ⟨ap, np, cp, rfl, -⟩ := hpv4; simp only at hpv ⊢; have hblk4 := (b4.block B (zax HBLK3.out)).trans HBLK3.out; have hB4 := bTh HB3.out b4; replace y0 := cell_later b4 y0; replace y1 := cell_later b4 y1; have hlt3 := zax HBLK3.out; have HPV := LH hpv; have HRP := LH hrp; have HRE := LH hre; have hbl : Below W4.heap.size W4 (W4.alloc (.cells #[.int .i64 pf, .int .i64 pt, .int .i64 po, .int .i64 pn, .int .i64 ps, .slice ap np cp] 35)) := (Below.refl _ _).alloc (Nat.le_refl _) _; have hblk5 := (hbl.block B (zax hblk4)).trans hblk4; have hB5 := bTh hB4 hbl; have y0' := cell_later hbl y0; have y1' := cell_later hbl y1; have hsb := (HS3.out.later b4).later hbl; have hnew : (W4.alloc (.cells #[.int .i64 pf, .int .i64 pt, .int .i64 po, .int .i64 pn, .int .i64 ps, .slice ap np cp] 35)).heap[W4.heap.size]? = some (.cells #[.int .i64 pf, .int .i64 pt, .int .i64 po, .int .i64 pn, .int .i64 ps, .slice ap np cp] 35 (0, 0)) := by rw [hpA, if_pos rfl]
            have hb45 := LH b4.size; have HBl := LH hbl; have HSB := LH hsb; have HNEW := LH hnew; have HB5 := LH hB5; have HBLK5 := LH hblk5; clear hrp hre hpv b4 hbl hblk4 hB4 y0 y1 hsb hnew hB5 hblk5; by_cases hre0 : re = 0
            · subst hre0
              go_wp2_with fail; generalize W4.alloc (.cells #[.int .i64 pf, .int .i64 pt, .int .i64 po, .int .i64 pn, .int .i64 ps, .slice ap np cp] 35) = W5 at y0' y1' HBl HSB HNEW HB5 HBLK5 ⊢; obtain ⟨p0, p1, p2, p3, p4, p5, -⟩ := zak HNEW.out; have HEnd : Hid (∀ r : PatR × Int, ChunkM.joinEnd l (ub, 0) = r → ChunkM.JoinIs l r) := fun r h => .inr ⟨HJ.out, (ub, 0), HU.out, h.symm⟩
              have HJE : Hid (ChunkM.joinEnd l (ub, 0) = if pf ≠ ZF ∨ pt ≠ ZT then (zap, 3) else (⟨pf, pt, po, pn, ps, pops⟩, 0)) := by
               show _ = _; unfold ChunkM.joinEnd; simp only; rw [if_neg (by simp), HRE.out, if_neg (by simp), HRP.out, HZZ.out]
              by_cases c1 : pf = ZF
              · subst c1
                have t1 : (pf != pf) = false := by simp
                by_cases c2 : pt = ZT
                · subst c2
                  have t2 : (pt != pt) = false := by simp
                  have HRes := LH (HEnd.out (⟨pf, pt, po, pn, ps, pops⟩, 0) (by rw [HJE.out, if_neg (by simp)])); go_quiet (fail); have hblkq : (W5.drewN nq).heap[B]? = _ := HBLK5.out; have hBq := below_drewN HB5.out nq; have hSq := HSB.out.drewN nq; have HBlq := LH (below_drewN HBl.out nq); have hnewq : (W5.drewN nq).heap[W4.heap.size]? = _ := HNEW.out; clear HBLK5 HB5 HSB HBl HNEW y0' y1' p0 p1 p2 p3 p4 p5; generalize W5.drewN nq = W7 at hblkq hBq hSq HBlq hnewq ⊢; obtain ⟨p0, p1, p2, p3, p4, p5, -⟩ := zak hnewq; obtain ⟨r0, r1, r2, r3, r4, r5, f0, f1, f2, f3, f4, f5⟩ := zak hblkq; have g0 : ∀ v, (W7.setCell ⟨B, 0, none⟩ v).cell? ⟨B, 0, none⟩ = some v := fun v => World.cell?_setCell_same _ _ _ r0; obtain ⟨W6, hW6, q0, q1, q2, q3, q4, q5, hb6, hoth, hsz⟩ := za7 hblkq hBq HLE.out (.int .i64 pf) (.int .i64 pt) (.int .i64 po) (.int .i64 pn) (.int .i64 ps) (.slice ap np cp); have HB6 := LH hb6
                  have HP6 : Hid (NewR w.heap.size W6 (fun V => PV V (.agg #[.int .i64 pf, .int .i64 pt, .int .i64 po, .int .i64 pn, .int .i64 ps, .slice ap np cp]) ⟨pf, pt, po, pn, ps, pops⟩)) := by
                   show NewR _ _ _; refine fun V v1 v2 => HPV.out V (Nat.le_trans (by rw [hsz]; exact HBlq.out.size) v1) (fun k k1 k2 => ?_) trivial; have k3 : W4.heap.size ≤ W7.heap.size := HBlq.out.size; rw [v2 k (by have := HB3.out.size; omega) (by rw [hsz]; omega), hoth k (by omega)]; exact HBlq.out.block k k2
                  clear hb6 hoth hsz hblkq hBq hSq hnewq; go_wp2_with fail
                  try simp only [Exit.inBlock, Exit.then]
                  refine bodyPost_ret (by simp [results, Tryz.results77, go_sem, q0, q1, q2, q3, q4, q5]; try rfl) rfl ?_; exact ⟨_, HRes.out, _, rfl, HP6.out, HB6.out⟩
                · have t2 : (pt != ZT) = true := by simp [c2]
                  have HRes := LH (HEnd.out (zap, 3) (by rw [HJE.out, if_pos (.inr c2)])); go_quiet (fail); have hblkq : (W5.drewN nq).heap[B]? = _ := HBLK5.out; have hBq := below_drewN HB5.out nq; clear HBLK5 HB5 HSB HBl HNEW y0' y1' p0 p1 p2 p3 p4 p5; generalize W5.drewN nq = W7 at hblkq hBq ⊢; obtain ⟨r0, r1, r2, r3, r4, r5, f0, f1, f2, f3, f4, f5⟩ := zak hblkq; have g0 : ∀ v, (W7.setCell ⟨B, 0, none⟩ v).cell? ⟨B, 0, none⟩ = some v := fun v => World.cell?_setCell_same _ _ _ r0; obtain ⟨W6, hW6, q0, q1, q2, q3, q4, q5, hb6, -, -⟩ := za7 hblkq hBq HLE.out (.int .i64 0) (.int .i64 0) (.int .i64 0) (.int .i64 0) (.int .i64 0) (.slice none 0 0); have HB6 := LH hb6; clear hb6; go_wp2_with fail
                  try simp only [Exit.inBlock, Exit.then]
                  refine bodyPost_ret (by simp [results, Tryz.results77, go_sem, q0, q1, q2, q3, q4, q5]; try rfl) rfl ?_; exact ⟨_, HRes.out, _, rfl, NewR.any (fun V => zaD V), HB6.out⟩
              · have t1 : (pf != ZF) = true := by simp [c1]
                have HRes := LH (HEnd.out (zap, 3) (by rw [HJE.out, if_pos (.inl c1)])); go_quiet (fail); have hblkq : (W5.drewN nq).heap[B]? = _ := HBLK5.out; have hBq := below_drewN HB5.out nq; clear HBLK5 HB5 HSB HBl HNEW y0' y1' p0 p1 p2 p3 p4 p5; generalize W5.drewN nq = W7 at hblkq hBq ⊢; obtain ⟨r0, r1, r2, r3, r4, r5, f0, f1, f2, f3, f4, f5⟩ := zak hblkq; have g0 : ∀ v, (W7.setCell ⟨B, 0, none⟩ v).cell? ⟨B, 0, none⟩ = some v := fun v => World.cell?_setCell_same _ _ _ r0; obtain ⟨W6, hW6, q0, q1, q2, q3, q4, q5, hb6, -, -⟩ := za7 hblkq hBq HLE.out (.int .i64 0) (.int .i64 0) (.int .i64 0) (.int .i64 0) (.int .i64 0) (.slice none 0 0); have HB6 := LH hb6; clear hb6; go_wp2_with fail
                try simp only [Exit.inBlock, Exit.then]
                refine bodyPost_ret (by simp [results, Tryz.results77, go_sem, q0, q1, q2, q3, q4, q5]; try rfl) rfl ?_; exact ⟨_, HRes.out, _, rfl, NewR.any (fun V => zaD V), HB6.out⟩
            · have t0 : (re != 0) = true := by simp [hre0]
              have HRes : Hid (ChunkM.JoinIs l (zap, re)) := by
               show ChunkM.JoinIs _ _; refine .inr ⟨HJ.out, (ub, 0), HU.out, ?_⟩; unfold ChunkM.joinEnd; simp only; rw [if_neg (by simp), HRE.out, if_pos hre0]
              have hblkq := HBLK5.out; have hBq := HB5.out; clear HBLK5 HB5 HSB HBl HNEW y0' y1'; obtain ⟨r0, r1, r2, r3, r4, r5, f0, f1, f2, f3, f4, f5⟩ := zak hblkq; have g0 : ∀ v, ((W4.alloc (.cells #[.int .i64 pf, .int .i64 pt, .int .i64 po, .int .i64 pn, .int .i64 ps, .slice ap np cp] 35)).setCell ⟨B, 0, none⟩ v).cell? ⟨B, 0, none⟩ = some v := fun v => World.cell?_setCell_same _ _ _ r0; obtain ⟨W6, hW6, q0, q1, q2, q3, q4, q5, hb6, -, -⟩ := za7 hblkq hBq HLE.out (.int .i64 0) (.int .i64 0) (.int .i64 0) (.int .i64 0) (.int .i64 0) (.slice none 0 0); have HB6 := LH hb6; clear hb6; go_wp2_with fail
              try simp only [Exit.inBlock, Exit.then]
              refine bodyPost_ret (by simp [results, Tryz.results77, go_sem, q0, q1, q2, q3, q4, q5]; try rfl) rfl ?_; exact ⟨_, HRes.out, _, rfl, NewR.any (fun V => zaD V), HB6.out⟩
          · have t0 : (ue != 0) = true := by simp [hue]
            have HRes : Hid (ChunkM.JoinIs l (zap, ue)) := by
             show ChunkM.JoinIs _ _; refine .inr ⟨HJ.out, (ub, ue), HU.out, ?_⟩; unfold ChunkM.joinEnd; simp only; rw [if_pos hue]
            clear y0 y1 s3; obtain ⟨r0, r1, r2, r3, r4, r5, f0, f1, f2, f3, f4, f5⟩ := zak hblk3; have g0 : ∀ v, (W3.setCell ⟨B, 0, none⟩ v).cell? ⟨B, 0, none⟩ = some v := fun v => World.cell?_setCell_same _ _ _ r0; obtain ⟨W6, hW6, q0, q1, q2, q3, q4, q5, hb6, -, -⟩ := za7 hblk3 hB3 HLE.out (.int .i64 0) (.int .i64 0) (.int .i64 0) (.int .i64 0) (.int .i64 0) (.slice none 0 0); have HB6 := LH hb6; clear hb6; go_wp2_with fail
            try simp only [Exit.inBlock, Exit.then]
            refine bodyPost_ret (by simp [results, Tryz.results77, go_sem, q0, q1, q2, q3, q4, q5]; try rfl) rfl ?_; exact ⟨_, HRes.out, _, rfl, NewR.any (fun V => zaD V), HB6.out⟩
     · have hofl : (n : Int) < ZO := by
        have h9 := ChunkM.checks_of HE.out (by rintro rfl; exact absurd HM0.out (by simp)); rw [HZZ.out, HLn.out] at h9; simp only at h9; omega
       have hofb : decide ((n : Int) < ZO) = true := by simp; omega
       have HRes : Hid (ChunkM.JoinIs l (zap, 5)) := by
        show ChunkM.JoinIs _ _
        have hj : ChunkM.joinErr l = 5 := by
         unfold ChunkM.joinErr; rw [if_neg (by rw [HE.out]; simp), if_pos (.inr (by rw [HZZ.out, HLn.out]; exact hof))]
        exact .inl ⟨by rw [hj]; omega, by rw [hj]⟩
       obtain ⟨r0, r1, r2, r3, r4, r5, f0, f1, f2, f3, f4, f5⟩ := zak hblk1; have g0 : ∀ v, (W1.setCell ⟨B, 0, none⟩ v).cell? ⟨B, 0, none⟩ = some v := fun v => World.cell?_setCell_same _ _ _ r0; obtain ⟨W6, hW6, q0, q1, q2, q3, q4, q5, hb6, -, -⟩ := za7 hblk1 hB1 HLE.out (.int .i64 0) (.int .i64 0) (.int .i64 0) (.int .i64 0) (.int .i64 0) (.slice none 0 0); have HB6 := LH hb6; clear hb6; go_wp2_with fail
       try simp only [Exit.inBlock, Exit.then]
       refine bodyPost_ret (by simp [results, Tryz.results77, go_sem, q0, q1, q2, q3, q4, q5]; try rfl) rfl ?_; exact ⟨_, HRes.out, _, rfl, NewR.any (fun V => zaD V), HB6.out⟩
 · have t0 : (E == 0) = false := by simp [hE0]
   have t1 : (E != 0) = true := by simp [hE0]
   have HRes : Hid (ChunkM.JoinIs l (zap, E)) := by
    show ChunkM.JoinIs _ _
    have hj : ChunkM.joinErr l = E := by
     unfold ChunkM.joinErr; rw [if_pos (by rw [hE]; exact hE0), hE]
    exact .inl ⟨by rw [hj]; exact hE0, by rw [hj]⟩
   clear hE; obtain ⟨r0, r1, r2, r3, r4, r5, f0, f1, f2, f3, f4, f5⟩ := zak hblk1; have g0 : ∀ v, (W1.setCell ⟨B, 0, none⟩ v).cell? ⟨B, 0, none⟩ = some v := fun v => World.cell?_setCell_same _ _ _ r0; obtain ⟨W6, hW6, q0, q1, q2, q3, q4, q5, hb6, -, -⟩ := za7 hblk1 hB1 HLE.out (.int .i64 0) (.int .i64 0) (.int .i64 0) (.int .i64 0) (.int .i64 0) (.slice none 0 0); have HB6 := LH hb6; clear hb6; go_wp2_with fail
   try simp only [Exit.inBlock, Exit.then]
   refine bodyPost_ret (by simp [results, Tryz.results77, go_sem, q0, q1, q2, q3, q4, q5]; try rfl) rfl ?_; exact ⟨_, HRes.out, _, rfl, NewR.any (fun V => zaD V), HB6.out⟩
section
variable {P : Program} {ops : Array Oper} {rest : List Oper} {o : Oper} {a : Act} {w : World} {Q : Exit → Act → World → Prop}
theorem wLW (hw : Region.wanted o (yielded ops a.tmps) = true) (ty : TypeId) (x : Operand) (ho : o.op = .load ty x)
 (g : Nat) (hx : a.eval x = .pointer (some ⟨g, 0, none⟩)) (t : TypeId) (cs : Array Value) (fr : Nat × Nat) (d : TypeDesc) (hg : w.heap[g]? = some (.cells cs t fr))
 (hu : P.underlying ty = some d) (hd : (match d with | .struct _ | .array _ _ => true | _ => false) = true) (hi : (P.info? ty).map (·.size) = some cs.size)
 (h : wpList P ops Q rest (a.put o.dst (.agg cs)) w) : wpList P ops Q (o :: rest) a w :=
 wpList_step fun K hK => by
  rw [if_pos hw]
  exact wp_load_row ty x ho g hx t cs fr d hg hu hd hi (hK _ _ h)
end
end Go.Proofs.YtnnmpoknghbdnacGreat
