/-
  Contracts of slices.Chunk and slices.Collect of bytes, and of the reference's Chunks.
-/
import Derived.Test.YtmpmaljkmfgagabChunkC
import Derived.Test.YtmpmaljkmfgagabRowToOpenN
import Derived.Test.YtmpmaljkmfgagabCollect
import Derived.Test.YtmpmaljkmfgagabPacked
import Derived.Test.YtmpmaljkmfgagabPatPut
namespace Go.Proofs.Ytmpmaljkmfgagab
open Go.RowKit

set_option maxHeartbeats 400000 in
theorem seqChunk_any (a : Option Addr) (n c : Nat) (w : World) :
    Calls Try.prog 95 #[.slice a n c, .int .i64 16] w fun e w' => e = .returned (.func (.func 123) #[] #[.pointer (some ⟨w.heap.size, 0, none⟩), .pointer (some ⟨w.heap.size + 1, 0, none⟩)]) ∧ w' = (w.alloc (.cells #[.slice a n c] 22)).alloc (.cells #[.int .i64 16] 3) := by
  have hmf : ∀ (fn : Fn) (first cap : Array Value) (w : World), (Instr.makeFunc fn first cap).run Try.prog w = .ok (.func fn first cap) w := fun _ _ _ _ => rfl
  go_enter Try.func95, Try.ntmps95
  go_wp2_with fail
  go_ret
  exact ⟨rfl, rfl⟩
theorem collect_any (Bs Bn : Nat) (a : Option Addr) (len cap : Nat) (hlen : len ≤ cap) (hcap : len ≤ 1000000) (w : World) (hBs : Bs < w.heap.size) (hBn : Bn < w.heap.size)
    (hcs : w.cell? ⟨Bs, 0, none⟩ = some (.slice a len cap)) (hcn : w.cell? ⟨Bn, 0, none⟩ = some (.int .i64 16)) :
    Calls Try.prog 94 #[.func (.func 123) #[] #[.pointer (some ⟨Bs, 0, none⟩), .pointer (some ⟨Bn, 0, none⟩)]] w fun e W' => ∃ v, e = .returned v ∧ W'.ownsRow w.heap.size 22 1 v ((len + 15) / 16) ((partsTo a len ((len + 15) / 16)).map HeadV.v) ∧ Below w.heap.size w W' := by
  go_enter Try.func94, Try.ntmps94
  go_wp2_with fail
  refine (appendSeq_any Bs Bn a len cap hlen hcap _ hBs hBn hcs hcn).mono ?_
  rintro e W' ⟨v, rfl, ho, hb⟩
  have HO := Lib.hid ho
  clear ho
  go_wp2_with fail
  go_ret
  exact ⟨v, rfl, HO.out, hb⟩
theorem lt_blkO {W : World} {g : Nat} {o : Obj} (h : W.heap[g]? = some o) : g < W.heap.size := by
  rcases Nat.lt_or_ge g W.heap.size with hlt | hge
  · exact hlt
  · rw [Array.getElem?_eq_none hge] at h; cases h
/-- a part of bytes -/
theorem BS.part {w : World} {a : Option Addr} {n c : Nat} {l : List Int} (h : BS w a n c l) {k : Nat} (hk : k * 16 < n) : BS w (a.map (·.add (k * 16))) (min 16 (n - k * 16)) (min 16 (n - k * 16)) ((l.drop (k * 16)).take 16) := by
  have h1 := h.len
  have h2 := h.le
  have h3 := h.max
  obtain ⟨b, off, rfl, hc⟩ := h.cells (by omega)
  refine ⟨by simp; omega, Nat.le_refl _, by omega, fun x hx => h.bytes x (List.mem_of_mem_drop (List.mem_of_mem_take hx)), fun hp => ?_, fun he => by cases he⟩
  refine ⟨b, off + k * 16, by rw [Option.map_some, addr_add], fun i hi => ?_⟩
  rw [Nat.add_assoc, hc (k * 16 + i) (by omega), List.getElem?_take_of_lt (by omega), List.getElem?_drop]

/-- the rounds of Chunks -/
def ChunksRel (w1 : World) (fr to : Int) (o : List Int) (out i : Value) (wr : World) : Prop :=
  ∃ k : Nat, i = .int .i64 k ∧ k ≤ ChunkM.parts o ∧ ChSt w1 w1.heap.size out ((ChunkM.cutL fr to o).take k) wr ∧ Below w1.heap.size w1 wr
theorem two_new (w : World) (v1 v2 : Value) (t1 t2 : Nat) : ((w.alloc (.cells #[v1] t1)).alloc (.cells #[v2] t2)).cell? ⟨w.heap.size, 0, none⟩ = some v1 ∧ ((w.alloc (.cells #[v1] t1)).alloc (.cells #[v2] t2)).cell? ⟨w.heap.size + 1, 0, none⟩ = some v2 := by
  have e1 : (w.alloc (.cells #[v1] t1)).heap.size = w.heap.size + 1 := by simp
  refine ⟨?_, ?_⟩
  · simp only [World.cell?, heap_at]
    rw [if_neg (by rw [e1]; omega), if_pos trivial]
    rfl
  · simp only [World.cell?, heap_at]
    rw [if_pos e1.symm]
    rfl

set_option maxRecDepth 100000 in
set_option maxHeartbeats 1000000 in
theorem chunksR_any (v : Value) (p : PatR) (w : World) (hv : PV w v p) :
    Calls Try.prog 48 #[v] w (GivesCs p w) := by
  obtain ⟨ap, np, cp, rfl, hop, i1, i2, i3, i4, i5⟩ := hv
  obtain ⟨f, t, od, nw, sz, ops⟩ := p
  simp only at hop i1 i2 i3 i4 i5 ⊢
  have hb0 : Below w.heap.size w (w.alloc (.cells #[.int .i64 f, .int .i64 t, .int .i64 od, .int .i64 nw, .int .i64 sz, .slice ap np cp] 41)) := (Below.refl _ _).alloc (Nat.le_refl _) _
  obtain ⟨B, hBB⟩ : ∃ B, w.heap.size = B := ⟨_, rfl⟩
  have hblk : (w.alloc (.cells #[.int .i64 f, .int .i64 t, .int .i64 od, .int .i64 nw, .int .i64 sz, .slice ap np cp] 41)).heap[B]? = some (.cells #[.int .i64 f, .int .i64 t, .int .i64 od, .int .i64 nw, .int .i64 sz, .slice ap np cp] 41 (0, 0)) := by rw [heap_at, if_pos hBB.symm]
  have HPV : Hid (PV (w.alloc (.cells #[.int .i64 f, .int .i64 t, .int .i64 od, .int .i64 nw, .int .i64 sz, .slice ap np cp] 41)) (.agg #[.int .i64 f, .int .i64 t, .int .i64 od, .int .i64 nw, .int .i64 sz, .slice ap np cp]) ⟨f, t, od, nw, sz, ops⟩) := ⟨ap, np, cp, rfl, hop.later hb0, i1, i2, i3, i4, i5⟩
  have HB0 := Lib.hid hb0
  have HBLK := Lib.hid hblk
  have HI : Hid (I64 f ∧ I64 t) := ⟨i1, i2⟩
  clear hop i1 i2 i3 i4 i5 hb0 hblk
  go_enter Try.func48, Try.ntmps48
  go_wp2_with fail
  refine (patPut_any _ _ _ HPV.out).mono ?_
  rintro e W1 ⟨a1, n1, c1, rfl, s1, b1⟩
  by_cases hc : PatM.check ⟨f, t, od, nw, sz, ops⟩ = 0
  · rw [PatM.putOf_ok hc] at s1 ⊢
    simp only at s1 ⊢
    have hpl := PatM.putL_len hc
    have hs1l := s1.len
    have HB1 := Lib.hid (below_then HB0.out b1)
    have HBLK1 := Lib.hid ((b1.block B (lt_blkO HBLK.out)).trans HBLK.out)
    have HC := Lib.hid hc
    clear b1 HB0 HBLK HPV hc
    go_wp2_with fail
    refine (packed_any a1 n1 c1 _ _ s1 (by omega)).mono ?_
    rintro e W2 ⟨o, a2, n2, c2, hpk, rfl, s2, b2⟩
    have hol := ChunkM.packed_len HC.out hpk
    have hop := ChunkM.packed_parts HC.out hpk
    have hs2l := s2.len
    have HB2 := Lib.hid (below_then HB1.out b2)
    have HBLK2 := Lib.hid ((b2.block B (lt_blkO HBLK1.out)).trans HBLK1.out)
    have HPK := Lib.hid hpk
    have HS2 := Lib.hid s2
    have hle2 := s2.le
    clear s1 b2 HB1 HBLK1 hpk s2 hpl hs1l
    go_wp2_with fail
    refine (seqChunk_any a2 n2 c2 _).mono ?_
    rintro e W3 ⟨rfl, hW3⟩
    have hb3 : Below W2.heap.size W2 W3 := by rw [hW3]; exact ((Below.refl _ _).alloc (Nat.le_refl _) _).alloc (by simp) _
    have hk1 : W3.cell? ⟨W2.heap.size, 0, none⟩ = some (.slice a2 n2 c2) := by rw [hW3]; exact (two_new W2 _ _ _ _).1
    have hk2 : W3.cell? ⟨W2.heap.size + 1, 0, none⟩ = some (.int .i64 16) := by rw [hW3]; exact (two_new W2 _ _ _ _).2
    have hsz : W3.heap.size = W2.heap.size + 2 := by rw [hW3]; simp
    have HCol := Lib.hid (collect_any W2.heap.size (W2.heap.size + 1) a2 n2 c2 hle2 (by omega) W3 (by omega) (by omega) hk1 hk2)
    have HB3 := Lib.hid (below_then HB2.out hb3)
    have HBLK3 := Lib.hid ((hb3.block B (lt_blkO HBLK2.out)).trans HBLK2.out)
    have HS3 := Lib.hid hb3
    clear hk1 hk2 hsz hW3 hb3 HB2 HBLK2
    go_wp2_with fail
    refine HCol.out.mono ?_
    rintro e W4 ⟨vr, rfl, ho4, b4⟩
    have hK : (n2 + 15) / 16 = ChunkM.parts o := by unfold ChunkM.parts; rw [hs2l]
    rw [hK] at ho4
    obtain ⟨K, hKK⟩ : ∃ K, ChunkM.parts o = K := ⟨_, rfl⟩
    have HKK := Lib.hid hKK
    rw [hKK] at ho4 hop
    obtain ⟨ar, cr, hvr⟩ : ∃ ar cr, vr = .slice ar K cr := by
      rcases ho4.2 with ⟨q1, q2⟩ | ⟨g, cap, cur, q1, _⟩
      · exact ⟨none, 0, by rw [q1, q2]⟩
      · exact ⟨_, _, q1⟩
    subst hvr
    have HB4 := Lib.hid (below_then HB3.out b4)
    have HO4 := Lib.hid ho4
    obtain ⟨k0, k1, -⟩ := pat_cells ((b4.block B (lt_blkO HBLK3.out)).trans HBLK3.out)
    have HPC : Hid (∀ W, Below W4.heap.size W4 W → W.cell? ⟨B, 0, none⟩ = some (.int .i64 f) ∧ W.cell? ⟨B, 1, none⟩ = some (.int .i64 t)) := fun W h => ⟨cell_later h k0, cell_later h k1⟩
    have HS4 := Lib.hid ((HS2.out.later HS3.out).later b4)
    clear ho4 b4 HB3 HBLK3 HCol HS2 HS3 k0 k1
    go_wp2_with fail
    go_loopw [7, 27] (fun out i wr => ChunksRel W4 f t o out i wr) (fun _ i _ => K - (intOf i).toNat)
    case atStart => exact ⟨0, rfl, Nat.zero_le _, by rw [List.take_zero]; exact ChSt.start _ _ _, Below.refl _ _⟩
    case round =>
      obtain ⟨k, rfl, hk, hch, hB⟩ := hrel
      rw [HKK.out] at hk
      have HCH := Lib.hid hch
      have HB := Lib.hid hB
      clear hch hB
      by_cases hlt : k < K
      · obtain ⟨g, cap, hv, -, hgl⟩ := HO4.out.form (by omega)
        simp only [Value.slice.injEq, true_and] at hv
        obtain ⟨rfl, rfl⟩ := hv
        have e0 := HO4.out.cellAt k (by omega)
        have hpk : ((partsTo a2 n2 K).map HeadV.v)[k]? = some (.slice (a2.map (·.add (k * 16))) (min 16 (n2 - k * 16)) (min 16 (n2 - k * 16))) := by
          unfold partsTo
          rw [List.map_map, List.getElem?_map, List.getElem?_range hlt]
          rfl
        rw [hpk] at e0
        have e1 := cell_later HB.out e0
        have hk16 : k * 16 < n2 := by have := HKK.out; unfold ChunkM.parts at this; omega
        have hbs := HS4.out.part hk16
        obtain ⟨E, hE⟩ : ∃ E, min 16 (n2 - k * 16) = E := ⟨_, rfl⟩
        rw [hE] at e1 hbs
        generalize a2.map (·.add (k * 16)) = A2 at e1 hbs
        obtain ⟨k0, k1⟩ := HPC.out _ HB.out
        have hln : ((ChunkM.cutL f t o).take k).length = k := by rw [List.length_take, ChunkM.cutL_length, HKK.out]; omega
        have hnth : ChunkM.nth f t o k = ⟨f, t, k, K, (o.drop (k * 16)).take 16⟩ := by unfold ChunkM.nth; rw [HKK.out]
        obtain ⟨g5, cap5, W5, hrun, HS5, -⟩ := HCH.out.app (ChunkM.nth f t o k) (a := A2) (n := E) (c := E) (by rw [hnth]; exact hbs) (by rw [hnth]; exact ⟨HI.out.1, HI.out.2, by unfold I64; simp only; omega, by unfold I64; simp only; omega⟩) (by omega) HB.out.size HB.out rfl
        rw [hnth] at hrun
        simp only at hrun
        rw [hln] at hrun HS5
        have HT : Hid ((ChunkM.cutL f t o).take (k + 1) = (ChunkM.cutL f t o).take k ++ [ChunkM.nth f t o k]) := by
          show _ = _
          rw [List.take_add_one]
          congr 1
          have hkl : k < (ChunkM.cutL f t o).length := by rw [ChunkM.cutL_length, HKK.out]; exact hlt
          have := ChunkM.cutL_get f t o (k := k) (by rw [HKK.out]; exact hlt)
          rw [List.getD_eq_getElem?_getD, List.getElem?_eq_getElem hkl, Option.getD_some] at this
          rw [List.getElem?_eq_getElem hkl, this]
          rfl
        clear e0 hpk hbs hnth hln
        go_wp2_with (at_builtin; refine Lib.wpList_append_run _ rfl _ _ _ _ rfl _ _ rfl rfl _ _ hrun ?_)
        go_roundw
        case rel => exact ⟨k + 1, by go_num, by rw [HKK.out]; omega, by rw [HT.out]; exact HS5.out.1, HS5.out.2⟩
        case measure => simp [intOf]; omega
      · have hkK : k = K := by omega
        subst hkK
        have hch := HCH.out
        rw [List.take_of_length_le (by rw [ChunkM.cutL_length, HKK.out]; exact Nat.le_refl _)] at hch
        obtain ⟨a9, c9, h9⟩ := hch.form
        subst h9
        have HCS := Lib.hid (hch.cs rfl HB.out)
        have HR : Hid (ChunkM.CutIs ⟨f, t, od, nw, sz, ops⟩ (ChunkM.cutL f t o) 0) := .inr ⟨HC.out, o, HPK.out, rfl, rfl⟩
        have hb9 := below_then HB4.out HB.out
        clear hch HCH
        go_wp2_with fail
        go_ret2
        exact ⟨_, 0, a9, _, c9, HR.out, rfl, HCS.out, hb9⟩
  · rw [PatM.putOf_bad hc] at s1 ⊢
    obtain ⟨E, hE⟩ : ∃ E, PatM.check ⟨f, t, od, nw, sz, ops⟩ = E := ⟨_, rfl⟩
    simp only [hE] at hc ⊢
    have t0 : (E != 0) = true := by simp [hc]
    have hb2 := below_then HB0.out b1
    have HR : Hid (ChunkM.CutIs ⟨f, t, od, nw, sz, ops⟩ [] E) := .inl ⟨by rw [hE]; exact hc, rfl, hE.symm⟩
    clear s1 hE
    go_wp2_with fail
    go_ret2
    exact ⟨[], E, none, 0, 0, HR.out, rfl, CS.nil_ _, hb2⟩
end Go.Proofs.Ytmpmaljkmfgagab
