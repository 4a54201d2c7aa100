/-
  Contract of delta.Apply: it returns what the document says.
-/
import Derived.Test.YtmpmaljkmfgagaaDeltaCheck
import Derived.Laws.CopyOwn
import Derived.Laws.MakeOwn
namespace Go.Proofs.Ytmpmaljkmfgagaa
open Go.RowKit

/-- copy by its run, as one step of a region that draws its order -/
theorem step_copy_run {P : Program} {ops : Array Oper} {o : Oper} {a : Act} {w : World} {K : Act → World → Prop} {Q : Exit → Act → World → Prop} {E : Prop} (hgd : o.guard = none) (d s : Operand) (dT sT : TypeId)
    (ho : o.op = .call { callee := .builtin .copy, args := #[d, s], argTypes := #[dT, sT] }) (vd vs : Value) (hd : a.eval d = vd) (hs : a.eval s = vs)
    (v' : Value) (w' : World) (hr : (Builtin.copy_ #[dT, sT] o.type #[vd, vs]).run P w = .ok v' w') (h : K (a.put o.dst v') w') :
    if Region.wanted o (yielded ops a.tmps) = true then Oper.wp P o a w K Q else E := by
  have hw : Region.wanted o (yielded ops a.tmps) = true := by simp [Region.wanted, hgd]
  rw [if_pos hw]
  unfold Oper.wp
  simp [execOp, ho, resolve, invoke, builtin, hd, hs, hr, Result.andThen]
  exact h

/-- the memory of Apply: a row of so many bytes, the first ones written -/
structure MSt (w0 : World) (g S : Nat) (dn : List Int) (W : World) : Prop where
  row : ∃ cur : List Value, W.heap[g]? = some (.cells cur.toArray 5 (0, 0)) ∧ cur.length = S ∧ cur.take dn.length = dn.map (Value.int .u8)
  fit : dn.length ≤ S
  below : Below w0.heap.size w0 W
  le : w0.heap.size ≤ g
section
variable {w0 : World} {g S : Nat} {dn : List Int} {W W' : World}
theorem MSt.lt (h : MSt w0 g S dn W) : g < W.heap.size := by
  obtain ⟨cur, h1, _⟩ := h.row
  exact lt_blk h1
theorem MSt.later (h : MSt w0 g S dn W) (hb : Below W.heap.size W W') : MSt w0 g S dn W' := by
  have hlt := h.lt
  obtain ⟨cur, h1, h2, h3⟩ := h.row
  exact ⟨⟨cur, (hb.block _ hlt).trans h1, h2, h3⟩, h.fit, below_then h.below hb, h.le⟩
/-- more bytes -/
theorem MSt.copy (h : MSt w0 g S dn W) {a : Option Addr} {m c : Nat} {l : List Int} (hs : BS W a m c l) (hm : dn.length + m ≤ S) :
    ∃ W', (Builtin.copy_ #[27, 27] 3 #[.slice (cutA (some ⟨g, 0, none⟩) S dn.length) (S - dn.length) (S - dn.length), .slice a m c]).run Try.prog W = .ok (.int .i64 (m : Int)) W' ∧
      Hid (MSt w0 g S (dn ++ l) W') ∧ ∀ k, k ≠ g → W'.heap[k]? = W.heap[k]? := by
  have hsz : (Try.prog.info? 5).map (·.size) = some 1 := by
    obtain ⟨i0, hi, hz0, hz1, hz2⟩ := info_parts Try.info_u8
    rw [hi]; simp [hz1]
  have hlen := hs.len
  by_cases h0 : m = 0
  · subst h0
    obtain rfl : l = [] := List.eq_nil_of_length_eq_zero hs.len
    refine ⟨W, run_copy_none (P := Try.prog) W 27 27 3 5 _ _ _ _ _ _ Try.underlying27 hsz (by simp), ?_, fun _ _ => rfl⟩
    rw [List.append_nil]
    exact h
  · obtain ⟨cur, h1, h2, h3⟩ := h.row
    obtain ⟨b, off, rfl, hc⟩ := hs.cells (by omega)
    have hcut : cutA (some ⟨g, 0, none⟩) S dn.length = some ⟨g, dn.length, none⟩ := by
      unfold cutA
      rw [if_neg (by omega), Option.map_some, addr_add, Nat.zero_add]
    have hr := run_copy_row (P := Try.prog) W 27 27 3 5 g dn.length (S - dn.length) (S - dn.length) ⟨b, off, none⟩ m c cur.toArray 5 (l.map (Value.int .u8)) Try.underlying27 hsz h1
      (by rw [List.length_map, hlen]; show m = min m (S - dn.length); omega) hs.news (by rw [List.length_map, hlen, List.size_toArray, h2]; exact hm) (oneCell_u8 _)
    rw [List.length_map, hlen] at hr
    rw [hcut]
    refine ⟨_, hr, ⟨⟨_, setRow_heap W g _ _ 5 _ h1, ?_, ?_⟩, ?_, below_setRow h.below h.le _, h.le⟩, fun k hk => setRow_other W g k _ hk⟩
    · simp only [List.length_append, List.length_take, List.length_map, List.length_drop]
      omega
    · simp only [List.length_append, List.map_append, h3]
      rw [List.take_append_of_le_length (by simp), List.take_of_length_le (by simp)]
    · rw [List.length_append]; omega
/-- what is written whole reads as the bytes -/
theorem MSt.bs (h : MSt w0 g S dn W) (hS : dn.length = S) (hm : S ≤ 1000) (hb : ∀ v ∈ dn, 0 ≤ v ∧ v ≤ 255) : BS W (some ⟨g, 0, none⟩) S S dn := by
  obtain ⟨cur, h1, h2, h3⟩ := h.row
  refine ⟨hS, Nat.le_refl _, by omega, hb, fun _ => ⟨g, 0, rfl, fun i hi => ?_⟩, fun e => by cases e⟩
  have hi2 : i < dn.length := by omega
  have := congrArg (·[i]?) h3
  simp only [List.getElem?_map, List.getElem?_take_of_lt hi2, List.getElem?_eq_getElem hi2, Option.map_some] at this
  simp only [World.cell?, h1, Nat.zero_add, List.getElem?_toArray, this, List.getElem?_eq_getElem hi2, Option.getD_some]
  rfl
end

/-- the rounds of Apply -/
def AplRel (old : List Int) (l : List OpR) (w : World) (g S : Nat) (n i : Value) (wr : World) : Prop :=
  ∃ (k d : Nat) (dn : List Int), i = .int .i64 k ∧ n = .int .i64 d ∧ dn.length = d ∧ k ≤ l.length ∧ MSt w g S dn wr ∧ dn ++ DeltaM.makes old (l.drop k) = DeltaM.makes old l

set_option maxRecDepth 100000 in
set_option maxHeartbeats 2000000 in
theorem apply_any (a : Option Addr) (n c : Nat) (old : List Int) (a' : Option Addr) (n' c' : Nat) (l : List OpR) (s : Int) (w : World) (hx : BS w a n c old) (hl : OS w a' n' c' l) :
    Calls Try.prog 37 #[.slice a n c, .slice a' n' c', .int .i64 s] w (GivesA old l s w) := by
  have HX := Lib.hid hx
  have HL := Lib.hid hl
  have HLn := Lib.hid hl.len
  have HXn := Lib.hid hx.len
  have hlen : n' ≤ 9223372036854775807 := by have := hl.le; have := hl.max; omega
  obtain ⟨E, hE⟩ : ∃ E, DeltaM.check l n s = E := ⟨_, rfl⟩
  have HE : Hid (DeltaM.check l old.length s = E) := by show DeltaM.check l old.length s = E; rw [hx.len]; exact hE
  have hck := check_any a' n' c' l n s
  rw [hE] at hck
  have HCK := Lib.hid hck
  have HXc := Lib.hid hx.le
  clear hck hx hl
  by_cases h0 : E = 0
  · subst h0
    obtain ⟨h40, o1, o2, s1, s2, hgood, htot⟩ := DeltaM.check_zero hE
    obtain ⟨S, rfl⟩ : ∃ S : Nat, s = S := ⟨s.toNat, by omega⟩
    have HG : Hid (DeltaM.Good old.length l) := by show DeltaM.Good old.length l; rw [HXn.out]; exact hgood
    have hml := DeltaM.makes_length (old := old) HG.out
    rw [htot] at hml
    have HML : Hid ((DeltaM.makes old l).length = S) := by show _ = S; omega
    have HAP : Hid (DeltaM.applied old l S = DeltaM.makes old l) := by show DeltaM.applied old l S = _; unfold DeltaM.applied; rw [if_pos HE.out]
    clear hgood htot hml hE h40
    obtain ⟨i0, hi, hz0, hz1, hz2⟩ := info_parts Try.info_u8
    have hmk : ∀ W, (Instr.makeSlice 27 (.int .i64 (S : Int)) (.int .i64 (S : Int))).run Try.prog W = .ok (.slice (some ⟨W.heap.size, 0, none⟩) S S) (W.alloc (.cells (madeCells (Value.int .u8 0).cells S) 5)) := by
      intro W
      have := run_make (P := Try.prog) W 27 5 i0 _ Try.underlying27 hi hz0 .i64 .i64 S S (by omega) (Int.le_refl _) (by rw [hz2]; omega) (by omega)
      simpa [hz1] using this
    have hms : (madeCells (Value.int .u8 0).cells S).size = S := size_madeCells _ _
    generalize madeCells (Value.int .u8 0).cells S = Z at hmk hms
    have HZ := Lib.hid hms
    clear hi hz0 hz1 hz2 i0 hms
    go_enter Try.func37, Try.ntmps37
    go_wp2_with fail
    refine (HCK.out _ HL.out).mono ?_
    rintro e W0 ⟨rfl, b0⟩
    obtain ⟨g, hg⟩ : ∃ g, W0.heap.size = g := ⟨_, rfl⟩
    have hst : Hid (MSt w g S [] (W0.alloc (.cells Z 5))) := by
      subst hg
      refine ⟨⟨Z.toList, by rw [heap_at, if_pos rfl], by simpa using HZ.out, by simp⟩, by simp, b0.alloc b0.size _, b0.size⟩
    clear b0 HCK
    go_wp2_with fail
    generalize W0.alloc (.cells Z 5) = W1 at hst ⊢
    go_loopw [10, 25] (fun n i wr => AplRel old l w g S n i wr) (fun _ i _ => n' - (intOf i).toNat)
    case atStart => exact ⟨0, 0, [], rfl, rfl, rfl, Nat.zero_le _, hst.out, rfl⟩
    case round =>
      clear hst hmk
      obtain ⟨k, d, dn, rfl, rfl, hdl, hk, hs, hu⟩ := hrel
      rw [HLn.out] at hk
      have HS := Lib.hid hs
      have HU := Lib.hid hu
      have HDL := Lib.hid hdl
      clear hs hu hdl
      by_cases hlt : k < n'
      · obtain ⟨b, off, rfl, hcs⟩ := (HL.out.later HS.out.below).cells (by omega)
        obtain ⟨va, vn, vc, q0, q1, q2, q3, -, -⟩ := hcs k hlt
        have HD := Lib.hid (drop_op l k (by rw [HLn.out]; exact hlt))
        have hg := HG.out (l.getD k default) (by have : l.getD k default ∈ l.drop k := by rw [HD.out]; simp
                                                 exact List.mem_of_mem_drop this)
        generalize l.getD k default = o at q0 q1 q2 q3 HD hg
        obtain ⟨A, L, D⟩ := o
        simp only at q0 q1 q2 q3
        obtain ⟨r1, r2, r3⟩ := DeltaM.good_len hg.2
        simp only at r1 r2 r3
        obtain ⟨N, rfl⟩ : ∃ N : Nat, A = N := ⟨A.toNat, by omega⟩
        obtain ⟨M, rfl⟩ : ∃ M : Nat, L = M := ⟨L.toNat, by omega⟩
        have hNM : N + M ≤ old.length := by omega
        have HP : Hid (DeltaM.makes old (l.drop k) = D ++ ((old.drop N).take M ++ DeltaM.makes old (l.drop (k + 1)))) := by
          show _ = _
          rw [HD.out]
          simp [DeltaM.makes, DeltaM.part]
        have hDn := q3.len
        have hle : d + vn + M ≤ S := by
          have h1 := congrArg List.length HU.out
          rw [HP.out] at h1
          simp only [List.length_append, List.length_take, List.length_drop] at h1
          have := HML.out
          have := HDL.out
          omega
        clear hg hcs r1 r2 r3
        obtain ⟨B, hBB⟩ : ∃ B, wr.heap.size = B := ⟨_, rfl⟩
        have hbl : Below wr.heap.size wr (wr.alloc (.cells #[.int .i64 (N : Int), .int .i64 (M : Int), .slice va vn vc] 56)) := (Below.refl _ _).alloc (Nat.le_refl _) _
        have hgB : g < B := by rw [← hBB]; exact HS.out.lt
        have hb0 : (wr.alloc (.cells #[.int .i64 (N : Int), .int .i64 (M : Int), .slice va vn vc] 56)).heap[B]? = some (.cells #[.int .i64 (N : Int), .int .i64 (M : Int), .slice va vn vc] 56 (0, 0)) := by rw [heap_at, if_pos hBB.symm]
        obtain ⟨W5, hrun, HS5, hf5⟩ := (HS.out.later (hbl.drew)).copy (q3.later hbl.drew) (by rw [HDL.out]; omega)
        rw [HDL.out] at hrun
        have hb5 := (hf5 B (by omega)).trans hb0
        have c5 := step_cells hb5
        obtain ⟨e0, e1, -⟩ := c5
        have hl5 : (dn ++ D).length = d + vn := by rw [List.length_append, HDL.out, hDn]
        obtain ⟨F, hF⟩ : ∃ F : Nat, (d : Int) + vn = F := ⟨d + vn, by omega⟩
        have hF2 : d + vn = F := by omega
        obtain ⟨T, hT⟩ : ∃ T : Nat, (N : Int) + M = T := ⟨N + M, by omega⟩
        have hT2 : T - N = M := by omega
        have hTn : T ≤ n := by have := HXn.out; omega
        have hcut1 : ∀ W, (Instr.slice 27 (.slice (some ⟨g, 0, none⟩) S S) (some (.int .i64 d)) none none).run Try.prog W = .ok (.slice (cutA (some ⟨g, 0, none⟩) S d) (S - d) (S - d)) W := fun W => run_cut_l (some ⟨g, 0, none⟩) S S W d (by omega)
        have hcut2 : ∀ W, (Instr.slice 27 (.slice (some ⟨g, 0, none⟩) S S) (some (.int .i64 F)) none none).run Try.prog W = .ok (.slice (cutA (some ⟨g, 0, none⟩) S F) (S - F) (S - F)) W := fun W => run_cut_l (some ⟨g, 0, none⟩) S S W F (by omega)
        have hcut3 : ∀ W, (Instr.slice 27 (.slice a n c) (some (.int .i64 N)) (some (.int .i64 T)) none).run Try.prog W = .ok (.slice (cutA a c N) M (c - N)) W := fun W => by
          have := run_cut_lh a n c W N T (by omega) (by have := HXc.out; omega)
          rwa [hT2] at this
        have hsrc := (HX.out.mid N T (by omega) hTn)
        rw [hT2] at hsrc
        rw [hF2] at hl5
        have hsrc5 := hsrc.later (HS5.out.below.drew)
        obtain ⟨W7, hrun2, HS7, hf7⟩ := (HS5.out.later (Below.refl _ _).drew).copy hsrc5 (by rw [hl5]; omega)
        rw [hl5] at hrun2
        generalize cutA (some ⟨g, 0, none⟩) S d = A1 at hcut1 hrun
        generalize cutA (some ⟨g, 0, none⟩) S F = A2 at hcut2 hrun2
        generalize cutA a c N = A3 at hcut3 hrun2
        generalize c - N = C3 at hcut3 hrun2
        generalize S - d = Sd at hcut1 hrun
        generalize S - F = SF at hcut2 hrun2
        obtain ⟨G, hG⟩ : ∃ G : Nat, (F : Int) + M = G := ⟨F + M, by omega⟩
        have hw1 : IntKind.i64.wrap (F : Int) = F := IntWalk.i64_in _ (by omega)
        have hw2 : IntKind.i64.wrap (G : Int) = G := IntWalk.i64_in _ (by omega)
        have hw3 : IntKind.i64.wrap (T : Int) = T := IntWalk.i64_in _ (by omega)
        have HS7' := HS7
        have HLE := Lib.hid hle
        clear HS7 hf7 hf5 hsrc hsrc5 hb5 hb0 hbl HS5 HS hgB hle q3
        go_wp2_with fail
        go_region_law (refine step_copy_run rfl (.tmp 32) (.tmp 34) 27 27 rfl (.slice A1 Sd Sd) (.slice va vn vc) (by simp [Act.eval]) (by simp [Act.eval]) _ _ hrun ?_)
        clear hrun q0 q1 q2 hcut1
        go_wp2_with fail
        go_region_law (refine step_copy_run rfl (.tmp 40) (.tmp 49) 27 27 rfl (.slice A2 SF SF) (.slice A3 M C3) (by simp [Act.eval, Act.put]) (by simp [Act.eval, Act.put]) _ _ hrun2 ?_)
        all_goals
          go_wp2_with fail
          go_roundw
          case rel =>
            refine ⟨k + 1, G, _, by go_num, rfl, ?_, by rw [HLn.out]; omega, HS7'.out, ?_⟩
            · rw [List.length_append, hl5, List.length_take, List.length_drop]
              omega
            · rw [← HU.out, HP.out]
              simp
          case measure => simp [intOf]; omega
      · go_wp2_with fail
        go_ret2
        have hdr : l.drop k = [] := List.drop_eq_nil_of_le (by rw [HLn.out]; omega)
        have hu := HU.out
        rw [hdr] at hu
        simp only [DeltaM.makes, List.append_nil] at hu
        refine ⟨some ⟨g, 0, none⟩, S, S, tup_a HE.out.symm, ?_, HS.out.below⟩
        rw [HAP.out, ← hu]
        exact HS.out.bs (by rw [hu]; exact HML.out) (by omega) (by rw [hu]; exact DeltaM.makes_bytes HX.out.bytes (OS.bytes HL.out))
  · have HAP : Hid (DeltaM.applied old l s = []) := by show DeltaM.applied old l s = _; unfold DeltaM.applied; rw [if_neg (by rw [HE.out]; exact h0)]
    have hne : (E != 0) = true := by simp [h0]
    clear hE
    go_enter Try.func37, Try.ntmps37
    go_wp2_with fail
    refine (HCK.out _ HL.out).mono ?_
    rintro e W0 ⟨rfl, b0⟩
    go_wp2_with fail
    go_ret2
    exact ⟨none, 0, 0, tup_a HE.out.symm, by rw [HAP.out]; exact BS.nil_ _, b0⟩
end Go.Proofs.Ytmpmaljkmfgagaa
