/-
  Contract of chunk.Cut: it returns what the document says.
-/
import Derived.Test.YtmpmaljkmfgagabChunkC
import Derived.Test.YtmpmaljkmfgagabRowToOpenN
import Derived.Test.YtmpmaljkmfgagabBCloneToInsFin
import Derived.Test.YtmpmaljkmfgagabPPut
import Derived.Test.YtmpmaljkmfgagabPack
import Derived.Deep.RegionHeld3
namespace Go.Proofs.Ytmpmaljkmfgagab
open Go.RowKit

/-- the memory of Cut: the patch in a block of its own, the packed bytes, the chunks that are made -/
structure CuW (w w1 : World) (B : Nat) (f t : Int) (ab : Option Addr) (nb cb : Nat) (o : List Int) (vo : Value) (out : List ChR) (W : World) : Prop where
  c0 : W.cell? ⟨B, 0, none⟩ = some (.int .i64 f)
  c1 : W.cell? ⟨B, 1, none⟩ = some (.int .i64 t)
  bs : BS W ab nb cb o
  st : CpSt w1.heap.size vo out W
  lt : B < w1.heap.size
  below1 : Below w1.heap.size w1 W
  below : Below w.heap.size w W
theorem CuW.later {w w1 : World} {B : Nat} {f t : Int} {ab : Option Addr} {nb cb : Nat} {o : List Int} {vo : Value} {out : List ChR} {W W' : World} (h : CuW w w1 B f t ab nb cb o vo out W) (hb : Below W.heap.size W W') : CuW w w1 B f t ab nb cb o vo out W' :=
  ⟨cell_later hb h.c0, cell_later hb h.c1, h.bs.later hb, h.st.later hb, h.lt, below_then h.below1 hb, below_then h.below hb⟩
/-- one more chunk -/
theorem CuW.app {w w1 : World} {B : Nat} {f t : Int} {ab : Option Addr} {nb cb : Nat} {o : List Int} {vo : Value} {out : List ChR} {W W2 : World} (h : CuW w w1 B f t ab nb cb o vo out W) (hbs1 : BS w1 ab nb cb o) (hb : Below W.heap.size W W2) (r : ChR) {a : Option Addr} {n c : Nat} (hd : W2.ownsRow W.heap.size 5 1 (.slice a n c) n (r.data.map (Value.int .u8))) (hby : ∀ v ∈ r.data, 0 ≤ v ∧ v ≤ 255) (hI : r.I) (hn : out.length ≤ 1000) (hw : w.heap.size ≤ w1.heap.size) :
    ∃ g cap W5, (Builtin.append_ #[67, 67] 67 #[vo, .slice (some ⟨W2.heap.size, 0, none⟩) 1 1]).run Try.prog (W2.alloc (.cells #[.int .i64 r.fr, .int .i64 r.to_, .int .i64 r.n, .int .i64 r.of_, .slice a n c] 69)) = .ok (.slice (some ⟨g, 0, none⟩) (out.length + 1) cap) W5 ∧
      Hid (CuW w w1 B f t ab nb cb o (.slice (some ⟨g, 0, none⟩) (out.length + 1) cap) (out ++ [r]) W5) := by
  have h2 := h.later hb
  obtain ⟨g, cap, W5, hr, HS, hk⟩ := h2.st.app r (BS.of_own hd hby) (fun p hp => by
    have h9 := own_lt3 hd (g := p.block) (by rw [hp]; rfl)
    have h8 := h.below1.size
    refine ⟨by omega, h9.2, fun e => ?_⟩
    have h7 := (h.st.own e.symm).2
    omega) hI hn h2.below1.size h2.below1 rfl
  have hB5 : W5.heap[B]? = W2.heap[B]? := hk B (Nat.lt_of_lt_of_le h.lt h2.below1.size) (fun e => by
    have h7 := (h2.st.own e.symm).1
    have := h.lt
    omega)
  refine ⟨g, cap, W5, hr, ?_, ?_, hbs1.later HS.out.2, HS.out.1, h.lt, HS.out.2, ?_⟩
  · rw [← h2.c0]; simp only [World.cell?, hB5]
  · rw [← h2.c1]; simp only [World.cell?, hB5]
  · have hb5 := HS.out.2
    refine ⟨hb5.os.trans (h2.below1.os.symm.trans h2.below.os), hb5.tape.trans (h2.below1.tape.symm.trans h2.below.tape), hb5.output.trans (h2.below1.output.symm.trans h2.below.output), Nat.le_trans hw hb5.size, fun k hk' => ?_⟩
    rw [hb5.block k (by omega), ← h2.below1.block k (by omega), h2.below.block k hk']

/-- the rounds of Cut -/
def CutRel (w w1 : World) (B : Nat) (f t : Int) (ab : Option Addr) (nb cb : Nat) (o : List Int) (out i : Value) (wr : World) : Prop :=
  ∃ k : Nat, i = .int .i64 k ∧ k ≤ ChunkM.parts o ∧ CuW w w1 B f t ab nb cb o out ((ChunkM.cutL f t o).take k) wr

set_option maxRecDepth 100000 in
set_option maxHeartbeats 2000000 in
theorem cutC_ok : CutCC := by
  intro v p w hv
  obtain ⟨ap, np, cp, rfl, hop, i1, i2, i3, i4, i5⟩ := hv
  obtain ⟨f, t, od, nw, sz, ops⟩ := p
  simp only at hop i1 i2 i3 i4 i5 ⊢
  have hb0 : Below w.heap.size w (w.alloc (.cells #[.int .i64 f, .int .i64 t, .int .i64 od, .int .i64 nw, .int .i64 sz, .slice ap np cp] 41)) := (Below.refl _ _).alloc (Nat.le_refl _) _
  obtain ⟨B, hBB⟩ : ∃ B, w.heap.size = B := ⟨_, rfl⟩
  have hblk : (w.alloc (.cells #[.int .i64 f, .int .i64 t, .int .i64 od, .int .i64 nw, .int .i64 sz, .slice ap np cp] 41)).heap[B]? = some (.cells #[.int .i64 f, .int .i64 t, .int .i64 od, .int .i64 nw, .int .i64 sz, .slice ap np cp] 41 (0, 0)) := by rw [heap_at, if_pos hBB.symm]
  have HPV : Hid (PV (w.alloc (.cells #[.int .i64 f, .int .i64 t, .int .i64 od, .int .i64 nw, .int .i64 sz, .slice ap np cp] 41)) (.agg #[.int .i64 f, .int .i64 t, .int .i64 od, .int .i64 nw, .int .i64 sz, .slice ap np cp]) ⟨f, t, od, nw, sz, ops⟩) := ⟨ap, np, cp, rfl, hop.later hb0, i1, i2, i3, i4, i5⟩
  have HB0 := Lib.hid hb0
  have HBLK := Lib.hid hblk
  have HI : Hid (I64 f ∧ I64 t) := ⟨i1, i2⟩
  clear hop i1 i2 i3 i4 i5 hb0 hblk
  go_enter Try.func45, Try.ntmps45
  go_wp2_with fail
  refine (putP_any _ _ _ HPV.out).mono ?_
  rintro e W1 ⟨a1, n1, c1, rfl, s1, b1⟩
  by_cases hc : PatM.check ⟨f, t, od, nw, sz, ops⟩ = 0
  · rw [PatM.putOf_ok hc] at s1 ⊢
    simp only at s1 ⊢
    have hpl := PatM.putL_len hc
    have hs1l := s1.len
    have HB1 := Lib.hid (below_then HB0.out b1)
    have HBLK1 := Lib.hid ((b1.block B (lt_blk HBLK.out)).trans HBLK.out)
    have HC := Lib.hid hc
    clear b1 HB0 HBLK HPV hc
    go_wp2_with fail
    refine (pack_any a1 n1 c1 _ _ s1 (by omega)).mono ?_
    rintro e W2 ⟨o, a2, n2, c2, hpk, rfl, s2, b2⟩
    have hol := ChunkM.packed_len HC.out hpk
    have hop := ChunkM.packed_parts HC.out hpk
    have hs2l := s2.len
    have hle2 := s2.le
    have HB2 := Lib.hid (below_then HB1.out b2)
    have hblk2 := (b2.block B (lt_blk HBLK1.out)).trans HBLK1.out
    have HPK := Lib.hid hpk
    have HS2 := Lib.hid s2
    obtain ⟨K, hKK⟩ : ∃ K, ChunkM.parts o = K := ⟨_, rfl⟩
    have HKK := Lib.hid hKK
    have hK16 : (n2 + 15) / 16 = K := by rw [← hKK]; unfold ChunkM.parts; rw [hs2l]
    obtain ⟨k0, k1, -⟩ := pat_cells hblk2
    have HU : Hid (CuW w W2 B f t a2 n2 c2 o (.slice none 0 0) [] W2) := ⟨k0, k1, s2, CpSt.start _ _, lt_blk hblk2, Below.refl _ _, HB2.out⟩
    have hq1 : ((n2 : Int) + 16 - 1).tdiv 16 = (K : Int) := by
      rw [show (n2 : Int) + 16 - 1 = ((n2 + 15 : Nat) : Int) by omega, ← hK16]
      rfl
    obtain ⟨X1, hX1⟩ : ∃ X1 : Nat, (n2 : Int) + 16 = X1 := ⟨n2 + 16, by omega⟩
    obtain ⟨X2, hX2⟩ : ∃ X2 : Nat, (X1 : Int) - 1 = X2 := ⟨n2 + 15, by omega⟩
    have hq2 : (X2 : Int).tdiv 16 = (K : Int) := by
      rw [← hX2, ← hX1]
      exact hq1
    rw [hKK] at hop
    clear s1 b2 HB1 HBLK1 hpk s2 hpl hs1l k0 k1 hblk2 hKK
    go_wp2_with fail
    go_loopw [7, 28] (fun out i wr => CutRel w W2 B f t a2 n2 c2 o out i wr) (fun _ i _ => K - (intOf i).toNat)
    case atStart => exact ⟨0, rfl, Nat.zero_le _, HU.out⟩
    case round =>
      obtain ⟨k, rfl, hk, hu⟩ := hrel
      rw [HKK.out] at hk
      have HU2 := Lib.hid hu
      clear hu HU
      by_cases hlt : k < K
      · have hk16 : k * 16 < n2 := by omega
        obtain ⟨P, hP⟩ : ∃ P : Nat, (k : Int) * 16 = P := ⟨k * 16, by omega⟩
        obtain ⟨k9, hk9⟩ : ∃ k9 : Nat, (k : Int) + 1 = k9 := ⟨k + 1, by omega⟩
        obtain ⟨Q, hQ⟩ : ∃ Q : Nat, (k9 : Int) * 16 = Q := ⟨k9 * 16, by omega⟩
        obtain ⟨M, hM⟩ : ∃ M : Nat, (if (n2 : Int) < (Q : Int) then (n2 : Int) else (Q : Int)) = M := ⟨min n2 Q, by split <;> omega⟩
        have hM2 : M = min n2 Q := by split at hM <;> omega
        have hM3 : (if n2 < Q then (n2 : Int) else (Q : Int)) = M := by rw [hM2]; split <;> omega
        have hcut : ∀ W, (Instr.slice 22 (.slice a2 n2 c2) (some (.int .i64 P)) (some (.int .i64 M)) none).run Try.prog W = .ok (.slice (cutA a2 c2 P) (M - P) (c2 - P)) W := fun W => run_cut_lh a2 n2 c2 W P M (by omega) (by omega)
        have hmid := HU2.out.bs.mid P M (by omega) (by omega)
        have hdat : (o.drop P).take (M - P) = (o.drop (k * 16)).take 16 := by
          rw [show P = k * 16 by omega]
          by_cases hq : M - k * 16 = 16
          · rw [hq]
          · rw [List.take_of_length_le (by rw [List.length_drop]; omega), List.take_of_length_le (by rw [List.length_drop]; omega)]
        rw [hdat] at hmid
        generalize cutA a2 c2 P = A3 at hcut hmid
        generalize M - P = E3 at hcut hmid
        generalize c2 - P = C3 at hcut hmid
        have hE3 := hmid.len
        have hE16 : E3 ≤ 140737488355328 := by
          have h9 : ((o.drop (k * 16)).take 16).length ≤ 16 := by rw [List.length_take]; omega
          omega
        have hby := hmid.bytes
        have hln : ((ChunkM.cutL f t o).take k).length = k := by rw [List.length_take, ChunkM.cutL_length, HKK.out]; omega
        have hnth : ChunkM.nth f t o k = ⟨f, t, k, K, (o.drop (k * 16)).take 16⟩ := by unfold ChunkM.nth; rw [HKK.out]
        have HT : Hid ((ChunkM.cutL f t o).take (k + 1) = (ChunkM.cutL f t o).take k ++ [⟨f, t, k, K, (o.drop (k * 16)).take 16⟩]) := by
          show _ = _
          rw [← hnth, List.take_add_one]
          congr 1
          have hkl : k < (ChunkM.cutL f t o).length := by rw [ChunkM.cutL_length, HKK.out]; exact hlt
          have := ChunkM.cutL_get f t o (k := k) (by rw [HKK.out]; exact hlt)
          rw [List.getD_eq_getElem?_getD, List.getElem?_eq_getElem hkl, Option.getD_some] at this
          rw [List.getElem?_eq_getElem hkl, this]
          rfl
        have HIk : Hid (ChR.I ⟨f, t, k, K, (o.drop (k * 16)).take 16⟩) := ⟨HI.out.1, HI.out.2, by unfold I64; simp only; omega, by unfold I64; simp only; omega⟩
        have H3 := Lib.hid (HU2.out.later (Below.refl _ _).drew)
        have HCL := Lib.hid (bclone_any A3 E3 C3 _ wr.drew (hmid.later (Below.refl _ _).drew) hE16)
        have HBY := Lib.hid hby
        have HLN := Lib.hid hln
        have HSz := Lib.hid HB2.out.size
        obtain ⟨D3, hD3⟩ : ∃ D3, (o.drop (k * 16)).take 16 = D3 := ⟨_, rfl⟩
        rw [hD3] at HT HIk HCL HBY
        obtain ⟨k0, k1⟩ : wr.drew.cell? ⟨B, 0, none⟩ = some (.int .i64 f) ∧ wr.drew.cell? ⟨B, 1, none⟩ = some (.int .i64 t) := ⟨H3.out.c0, H3.out.c1⟩
        have hw1 : IntKind.i64.wrap (P : Int) = P := IntWalk.i64_in _ (by omega)
        have hw2 : IntKind.i64.wrap (k9 : Int) = k9 := IntWalk.i64_in _ (by omega)
        have hw3 : IntKind.i64.wrap (Q : Int) = Q := IntWalk.i64_in _ (by omega)
        clear hmid hdat hby hln hnth hE3 hD3 hM2
        go_wp2_with fail
        go_region_held3 (fun W => W.cell? ⟨B, 0, none⟩ = some (.int .i64 f) ∧ W.cell? ⟨B, 1, none⟩ = some (.int .i64 t)) (first | exact ⟨k0, k1⟩ | exact ⟨p0, p1⟩ | exact ⟨q0, q1⟩ | exact ⟨s0, s1⟩) (first
          | (refine step_append_run rfl (.tmp 41) (.tmp 51) 67 67 rfl u7 (.slice (some ⟨W5.heap.size, 0, none⟩) 1 1) (by simp [Act.eval]) (by simp [Act.eval]) _ _ hrun ?_)
          | (go_at_call 67; refine HCL.out.mono ?_; rintro e W5 ⟨ac, nc, cc, rfl, hown, hb⟩
             have hp := H3.out.later hb
             obtain ⟨p0, p1⟩ : W5.cell? ⟨B, 0, none⟩ = some (.int .i64 f) ∧ W5.cell? ⟨B, 1, none⟩ = some (.int .i64 t) := ⟨hp.c0, hp.c1⟩
             obtain ⟨g5, cap5, W6, hrun, HS6⟩ := H3.out.app HS2.out hb ⟨f, t, k, K, D3⟩ hown HBY.out HIk.out (by rw [HLN.out]; omega) HSz.out
             rw [HLN.out] at hrun HS6
             simp only at hrun
             have hq := hp.later ((Below.refl _ _).alloc (Nat.le_refl _) (.cells #[.int .i64 f, .int .i64 t, .int .i64 (k : Int), .int .i64 (K : Int), .slice ac nc cc] 69))
             obtain ⟨q0, q1⟩ := (⟨hq.c0, hq.c1⟩ : _ ∧ _)
             obtain ⟨s0, s1⟩ := (⟨HS6.out.c0, HS6.out.c1⟩ : _ ∧ _)
             clear hown hb hp hq))
        all_goals
          go_wp2_with fail
          go_roundw
          case rel => exact ⟨k + 1, by go_num, by rw [HKK.out]; omega, by rw [HT.out]; exact HS6.out⟩
          case measure => simp [intOf]; omega
      · have hkK : k = K := by omega
        subst hkK
        have hu := HU2.out
        rw [List.take_of_length_le (by rw [ChunkM.cutL_length, HKK.out]; exact Nat.le_refl _)] at hu
        obtain ⟨a9, c9, h9⟩ := hu.st.form
        subst h9
        have HCS := Lib.hid (hu.st.cs rfl)
        have HR : Hid (ChunkM.CutIs ⟨f, t, od, nw, sz, ops⟩ (ChunkM.cutL f t o) 0) := .inr ⟨HC.out, o, HPK.out, rfl, rfl⟩
        have hb9 := hu.below
        clear hu HU2
        go_wp2_with fail
        go_ret2
        exact ⟨_, 0, a9, _, c9, HR.out, rfl, HCS.out, hb9⟩
  · rw [PatM.putOf_bad hc] at s1 ⊢
    obtain ⟨E, hE⟩ : ∃ E, PatM.check ⟨f, t, od, nw, sz, ops⟩ = E := ⟨_, rfl⟩
    simp only [hE] at hc ⊢
    have t0 : (E != 0) = true := by simp [hc]
    have hb2 := below_then HB0.out b1
    have HR : Hid (ChunkM.CutIs ⟨f, t, od, nw, sz, ops⟩ [] E) := .inl ⟨by rw [hE]; exact hc, rfl, hE.symm⟩
    clear s1 hE
    go_wp2_with fail
    go_ret2
    exact ⟨[], E, none, 0, 0, HR.out, rfl, CS.nil_ _, hb2⟩
end Go.Proofs.Ytmpmaljkmfgagab
