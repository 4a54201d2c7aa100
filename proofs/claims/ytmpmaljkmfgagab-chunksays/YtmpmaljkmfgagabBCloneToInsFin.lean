/-
  Texts put into one: BClone, CloneC, CopiedC, InsC, InsG, InsFin.
-/
import Derived.Test.YtmpmaljkmfgagabRowToOpenN
import Derived.Lib.SliceRun
import Derived.Laws.OwnMore
import Derived.Deep.RegionLaw
/-
  bytes.Clone: bytes of the call's own.
-/
namespace Go.Proofs.Ytmpmaljkmfgagab
open Go.RowKit

set_option maxHeartbeats 400000 in
theorem bclone_any (a : Option Addr) (n c : Nat) (l : List Int) (w : World) (hs : BS w a n c l) (hn : n ≤ 140737488355328) :
    Calls Try.prog 67 #[.slice a n c] w (GivesB w l) := by
  have hq := fun (A : Option Addr) (n c : Nat) (w : World) => Lib.run_eql_slice_nil (P := Try.prog) w 22 5 A n c 0 0 Try.underlying22
  cases a with
  | none =>
    have hc := hs.none_ rfl
    subst hc
    obtain rfl : n = 0 := by have := hs.le; omega
    obtain rfl : l = [] := List.eq_nil_of_length_eq_zero hs.len
    go_enter Try.func67, Try.ntmps67
    go_wp2
    go_ret
    exact ⟨none, 0, 0, rfl, World.ownsRow_nil _ _ _ _, Below.refl _ _⟩
  | some ad =>
    have hown := World.ownsRow_lit (base := w.heap.size) (e := 5) (size := 1) w #[] 0 (Nat.le_refl _) (by unfold maxLen; omega) rfl
    have hb1 := (Below.refl w.heap.size w).alloc (Nat.le_refl _) (.cells #[] 5)
    obtain ⟨a', c', w', hrun, hown', hg⟩ := app_run (l := []) hown (hs.later hb1) (by omega) (by simp)
    have hb' := hb1.grown hg (by simp) (fun g hg => (hown.lt g hg).1)
    have HO := Lib.hid hown'
    clear hown' hown
    go_enter Try.func67, Try.ntmps67
    go_wp2_with (at_builtin; refine Lib.wpList_append_run _ rfl _ _ _ _ rfl _ _ rfl rfl _ _ hrun ?_)
    go_ret
    exact ⟨a', n, c', rfl, by simpa using HO.out, hb'⟩
end Go.Proofs.Ytmpmaljkmfgagab
/-
  slices.Clone of chunks: a row of the call's own that reads the same.
-/
namespace Go.Proofs.Ytmpmaljkmfgagab
open Go.RowKit

set_option maxHeartbeats 400000 in
theorem cloneC_any (a : Option Addr) (n c : Nat) (l : List ChR) (w : World) (hs : CS w a n c l) (hn : n ≤ 1000) :
    Calls Try.prog 118 #[.slice a n c] w fun e w' => ∃ a' c', e = .returned (.slice a' n c') ∧ ChSt w w.heap.size (.slice a' n c') l w' ∧ Below w.heap.size w w' := by
  have hq := fun (A : Option Addr) (n c : Nat) (w : World) => Lib.run_eql_slice_nil (P := Try.prog) w 67 69 A n c 0 0 Try.underlying67
  cases a with
  | none =>
    have hc := hs.none_ rfl
    subst hc
    obtain rfl : n = 0 := by have := hs.le; omega
    obtain rfl : l = [] := List.eq_nil_of_length_eq_zero hs.len
    go_enter Try.func118, Try.ntmps118
    go_wp2
    go_ret
    exact ⟨none, 0, rfl, ChSt.start _ _ _, Below.refl _ _⟩
  | some ad =>
    obtain ⟨i0, hi, hz0, hz1, hz2⟩ := info_parts Try.info_chunk
    obtain ⟨vs, hvl, hvr, hvc⟩ := hs.vs
    have hll := hs.len
    have hown := World.ownsRow_lit (base := w.heap.size) (e := 69) (size := 5) w #[] 0 (Nat.le_refl _) (by unfold maxLen; omega) rfl
    have hb1 := (Below.refl w.heap.size w).alloc (Nat.le_refl _) (.cells #[] 69)
    obtain ⟨v', w', hr, ho, hg, _⟩ := run_append_own (P := Try.prog) (w.alloc (.cells #[] 69)) w.heap.size 67 67 69 i0 _ 5 56 Try.underlying67 hi hz0 hz1 hz2 rfl (by decide) _ 0 _ hown ad n c (cellsC vs)
      (by rw [cellsC_length, hvl, hll]) (fun j u hu => cell_later hb1 (hvc ad rfl j u hu)) (oneCell_chs (one_all hvl hvr)) (by unfold maxLen; omega) (by omega) (by simp)
    obtain ⟨a', c', rfl⟩ : ∃ a' c', v' = .slice a' (0 + n) c' := by
      rcases ho.2 with ⟨h1, h2⟩ | ⟨g, cap, cur, h1, _⟩
      · exact ⟨none, 0, by rw [h1, h2]⟩
      · exact ⟨_, _, h1⟩
    rw [Nat.zero_add] at hr ho
    have hb' := hb1.grown hg (by simp) (fun g hg => (hown.lt g hg).1)
    have HO : Hid (ChSt w w.heap.size (.slice a' n c') l w') := by
      refine ⟨vs, hvl, ?_, hvr⟩
      rw [hll]
      simpa using ho
    clear ho hown hz0 hz1 hz2 hi hvr hvc
    go_enter Try.func118, Try.ntmps118
    go_wp2_with (at_builtin; refine Lib.wpList_append_run _ rfl _ _ _ _ rfl _ _ rfl rfl _ _ hr ?_)
    go_ret
    exact ⟨a', c', rfl, HO.out, hb'⟩
end Go.Proofs.Ytmpmaljkmfgagab
/-
  Contract of chunk.copied: the chunks with memory of their own.
-/
namespace Go.Proofs.Ytmpmaljkmfgagab
open Go.RowKit

/-- what copied returns -/
def GivesCp (l : List ChR) (w : World) (e : Ending) (w' : World) : Prop :=
  ∃ a n c, e = .returned (.slice a n c) ∧ l.length = n ∧ CpSt w.heap.size (.slice a n c) l w' ∧ Below w.heap.size w w'
/-- the rounds of copied -/
def CpRel (l : List ChR) (w : World) (vo i : Value) (wr : World) : Prop := ∃ k : Nat, i = .int .i64 k ∧ k ≤ l.length ∧ CpUp w vo l k wr

set_option maxRecDepth 100000 in
set_option maxHeartbeats 1000000 in
theorem copied_any (a : Option Addr) (n c : Nat) (l : List ChR) (w : World) (hs : CS w a n c l) (hn : n ≤ 1000) (hd : ∀ x ∈ l, x.data.length ≤ 1000) :
    Calls Try.prog 89 #[.slice a n c] w (GivesCp l w) := by
  have HL := Lib.hid hs
  have HLn := Lib.hid hs.len
  have HDat := Lib.hid hd
  clear hs hd
  go_enter Try.func89, Try.ntmps89
  go_wp2_with fail
  refine (cloneC_any a n c l _ HL.out hn).mono ?_
  rintro e W1 ⟨a1, c1, rfl, hch, b1⟩
  have HU := Lib.hid (CpUp.start hch b1)
  clear hch b1
  go_wp2_with fail
  go_loopw [8] (fun i wr => CpRel l w (.slice a1 n c1) i wr) (fun i _ => n - (intOf i).toNat)
  case atStart => exact ⟨0, rfl, Nat.zero_le _, HU.out⟩
  case round =>
    obtain ⟨k, rfl, hk, hu⟩ := hrel
    rw [HLn.out] at hk
    have HU2 := Lib.hid hu
    clear hu HU
    by_cases hlt : k < n
    · obtain ⟨g, rfl⟩ : ∃ g, a1 = some ⟨g, 0, none⟩ := by
        obtain ⟨vs, -, ho, -⟩ := HU2.out
        obtain ⟨g, cap, hv, -⟩ := ho.form (by rw [HLn.out]; omega)
        simp only [Value.slice.injEq] at hv
        exact ⟨g, hv.1⟩
      obtain ⟨va, vm, vc, q4, q5, f4⟩ := HU2.out.cell HLn.out hlt
      have hml : (l.getD k default).data.length ≤ 1000 := HDat.out _ (by
        have hkl : k < l.length := by rw [HLn.out]; exact hlt
        rw [List.getD_eq_getElem?_getD, List.getElem?_eq_getElem hkl]
        exact List.getElem_mem _)
      have hvl := q5.len
      have HBy := Lib.hid q5.bytes
      have HBC := Lib.hid (bclone_any va vm vc _ _ q5 (by omega))
      clear q5
      go_wp2_with fail
      refine HBC.out.mono ?_
      rintro e W2 ⟨a2, n2, c2, rfl, ho2, b2⟩
      have HS := Lib.hid (HU2.out.step HLn.out hlt ho2 HBy.out b2)
      have q4' := cell_later b2 q4
      have f4' : W2.frozen? ⟨g, k * 5 + 4, none⟩ = false := by
        obtain ⟨_, _, _, _, _, hf⟩ := (HU2.out.later b2).cell HLn.out hlt
        exact hf
      clear ho2 b2 HBC HBy q4 f4
      go_wp2_with fail
      go_roundw
      case rel => exact ⟨k + 1, by go_num, by rw [HLn.out]; omega, HS.out⟩
      case measure => simp [intOf]; omega
    · have HF := Lib.hid (HU2.out.fin (by rw [HLn.out]; omega))
      have HB : Hid (Below w.heap.size w wr) := by
        obtain ⟨_, _, _, _, _, hb⟩ := HU2.out
        exact hb
      go_wp2_with fail
      go_ret
      exact ⟨a1, n, c1, rfl, HLn.out, HF.out, HB.out⟩
end Go.Proofs.Ytmpmaljkmfgagab
/-
  slices.Insert of one chunk into a row of the caller's own: at the end, in place, in a new row.
-/
namespace Go.Proofs.Ytmpmaljkmfgagab
open Go.RowKit

/-- copy by its run, as a step of a region that draws its order -/
theorem step_copy_runC {P : Program} {ops : Array Oper} {o : Oper} {a : Act} {w : World} {K : Act → World → Prop} {Q : Exit → Act → World → Prop} {E : Prop} (hgd : o.guard = none) (d s : Operand) (dT sT : TypeId)
    (ho : o.op = .call { callee := .builtin .copy, args := #[d, s], argTypes := #[dT, sT] }) (vd vs : Value) (hd : a.eval d = vd) (hs : a.eval s = vs)
    (v' : Value) (w' : World) (hr : (Builtin.copy_ #[dT, sT] o.type #[vd, vs]).run P w = .ok v' w') (h : K (a.put o.dst v') w') :
    if Region.wanted o (yielded ops a.tmps) = true then Oper.wp P o a w K Q else E := by
  have hw : Region.wanted o (yielded ops a.tmps) = true := by simp [Region.wanted, hgd]
  rw [if_pos hw]
  unfold Oper.wp
  simp [execOp, ho, resolve, invoke, builtin, hd, hs, hr, Result.andThen]
  exact h
/-- .. and in a plain region -/
theorem wpList_copy_runC {P : Program} {w : World} {ops : Array Oper} {rest : List Oper} {o : Oper} {a : Act} {Q : Exit → Act → World → Prop} (hgd : o.guard = none) (d s : Operand) (dT sT : TypeId)
    (ho : o.op = .call { callee := .builtin .copy, args := #[d, s], argTypes := #[dT, sT] }) (vd vs : Value) (hd : a.eval d = vd) (hs : a.eval s = vs)
    (v' : Value) (w' : World) (hr : (Builtin.copy_ #[dT, sT] o.type #[vd, vs]).run P w = .ok v' w') (h : wpList P ops Q rest (a.put o.dst v') w') : wpList P ops Q (o :: rest) a w := by
  refine wpList_plain hgd fun K hK => ?_
  unfold Oper.wp
  simp [execOp, ho, resolve, invoke, builtin, hd, hs, hr, Result.andThen]
  exact hK _ _ h

/-- what Insert returns: a row of the caller's own, the chunk put between -/
def GivesIn (base : Nat) (vo : Value) (n i : Nat) (vs : List ChVv) (b : ChVv) (w : World) (e : Ending) (w' : World) : Prop :=
  ∃ g c, e = .returned (.slice (some ⟨g, 0, none⟩) (n + 1) c) ∧ w'.ownsRow base 69 5 (.slice (some ⟨g, 0, none⟩) (n + 1) c) (n + 1) (cellsC (vs.take i ++ b :: vs.drop i)) ∧ w.grownBy w' vo.ownBlock ∧ (vo.ownBlock = some g ∨ w.heap.size ≤ g)

set_option maxRecDepth 100000 in
set_option maxHeartbeats 1000000 in
/-- at the end -/
theorem insEnd_any (base : Nat) (vo : Value) (n : Nat) (vs : List ChVv) (b : ChVv) (vb vc : Nat) (w : World) (hown : w.ownsRow base 69 5 vo n (cellsC vs)) (hvl : vs.length = n) (hn : n ≤ 1000) (hbase : base ≤ w.heap.size)
    (hsrc : ∀ j u, (cellsC [b])[j]? = some u → w.cell? ((⟨vb, 0, none⟩ : Addr).add j) = some u) (hb1 : b.v.oneCell' = true) :
    Calls Try.prog 92 #[vo, .int .i64 n, .slice (some ⟨vb, 0, none⟩) 1 vc] w (GivesIn base vo n n vs b w) := by
  obtain ⟨i0, hi, hz0, hz1, hz2⟩ := info_parts Try.info_chunk
  obtain ⟨g, cap, W5, hr, ho, hg, hlies, hlt⟩ := run_append_lies (P := Try.prog) w 67 67 base 69 i0 _ 5 56 Try.underlying67 hi hz0 hz1 hz2 rfl (by decide) vo n _ hown ⟨vb, 0, none⟩ 1 vc (cellsC [b])
    rfl hsrc (oneCell_chs (by intro o ho; simp at ho; rw [ho]; exact hb1)) (by omega) (by unfold maxLen; omega) (by omega) hbase w.heap.size rfl
  obtain ⟨ao, co, rfl⟩ : ∃ ao co, vo = .slice ao n co := by
    rcases hown.2 with ⟨q1, q2⟩ | ⟨g, cap, cur, q1, _⟩
    · exact ⟨none, 0, by rw [q1, q2]⟩
    · exact ⟨_, _, q1⟩
  have HR : Hid (GivesIn base (.slice ao n co) n n vs b w (.returned (.slice (some ⟨g, 0, none⟩) (n + 1) cap)) W5) := by
    refine ⟨g, cap, rfl, ?_, hg, hlies.imp id (fun h => by omega)⟩
    have e : vs.take n ++ b :: vs.drop n = vs ++ [b] := by rw [List.take_of_length_le (by omega), List.drop_eq_nil_of_le (by omega)]
    rw [e, cellsC_append]
    exact ho
  have hcut : ∀ W, (Instr.slice 67 (.slice ao n co) (some (.int .i64 (n : Int))) none none).run Try.prog W = .ok (.slice (cutC ao co n) (n - n) (co - n)) W := fun W => run_cutC_l ao n co W n (Nat.le_refl _)
  have hnn : ((n : Int) == (n : Int)) = true := by simp
  clear ho hg hlies hlt hown hi hz0 hz1 hz2 hsrc
  go_enter Try.func92, Try.ntmps92
  go_wp2_with (at_builtin; refine Lib.wpList_append_run _ rfl _ _ _ _ rfl _ _ rfl rfl _ _ hr ?_)
  go_ret
  exact HR.out

set_option maxRecDepth 100000 in
set_option maxHeartbeats 1000000 in
/-- there is room: in place -/
theorem insRoom_any (base : Nat) (g n cap i : Nat) (vs : List ChVv) (b : ChVv) (vb vc : Nat) (w : World) (hown : w.ownsRow base 69 5 (.slice (some ⟨g, 0, none⟩) n cap) n (cellsC vs)) (hvl : vs.length = n) (hn : n ≤ 1000) (hi : i < n) (hroom : n + 1 ≤ cap)
    (cb : Array Value) (hvb : w.heap[vb]? = some (.cells cb 69 (0, 0))) (hsrc : ∀ j u, (cellsC [b])[j]? = some u → w.cell? ((⟨vb, 0, none⟩ : Addr).add j) = some u) (hne : vb ≠ g) (h1 : ∀ o ∈ vs, o.v.oneCell' = true) (hb1 : b.v.oneCell' = true) :
    Calls Try.prog 92 #[.slice (some ⟨g, 0, none⟩) n cap, .int .i64 i, .slice (some ⟨vb, 0, none⟩) 1 vc] w (GivesIn base (.slice (some ⟨g, 0, none⟩) n cap) n i vs b w) := by
  have hxl : (cellsC vs).length = n * 5 := by rw [cellsC_length, hvl]
  rcases hown.2 with ⟨q, _⟩ | ⟨g', cap', cur, q, hbg, hg, hnc, hcm, hcs, htake⟩
  · simp at q
  simp only [Value.slice.injEq, Option.some.injEq, Addr.mk.injEq, and_true, true_and] at q
  obtain ⟨rfl, rfl⟩ := q
  obtain ⟨cl, rfl⟩ : ∃ cl : List Value, cur = cl.toArray := ⟨cur.toList, by simp⟩
  simp only [List.size_toArray] at hcs
  have hmax : cap ≤ 9223372036854775807 := by unfold maxLen at hcm; omega
  have hI5 : (i + 1) * 5 = i * 5 + 5 := by omega
  have hdl : ((cellsC vs).drop (i * 5)).length = (n - i) * 5 := by rw [List.length_drop, hxl]; omega
  have hcell : ∀ j u, (cellsC vs)[j]? = some u → w.cell? ((⟨g, 0, none⟩ : Addr).add j) = some u := hown.cells rfl
  obtain ⟨W1, hr1, hg1, hgr1, hs1⟩ := copyC (w := w.drew) g ((i + 1) * 5) (n + 1 - (i + 1)) (cap - (i + 1)) ⟨g, i * 5, none⟩ (n + 1 - i) (cap - i) cl ((cellsC vs).drop (i * 5)) hg
    (by rw [hdl, show Nat.min (n + 1 - i) (n + 1 - (i + 1)) = n - i from by simp only [Nat.min_def]; split <;> omega]) (fun j u hu => by
      rw [List.getElem?_drop] at hu
      have := hcell _ _ hu
      rw [addr_add] at this ⊢
      rw [Nat.zero_add] at this
      exact this) (by omega) (fun u hu => oneCell_chs h1 u (List.mem_of_mem_drop hu))
  have hlen1 : (splice cl ((i + 1) * 5) ((cellsC vs).drop (i * 5))).length = cl.length := length_splice _ _ _ (by omega)
  obtain ⟨W2, hr2, hg2, hgr2, hs2⟩ := copyC (w := W1) g (i * 5) (n + 1 - i) (cap - i) ⟨vb, 0, none⟩ 1 vc _ (cellsC [b]) hg1
    (by rw [show Nat.min 1 (n + 1 - i) = 1 from by simp only [Nat.min_def]; split <;> omega]; rfl) (fun j u hu => by
      refine hgr1.cell (hsrc j u hu) ?_
      simp only [addr_add, ne_eq, Option.some.injEq]
      exact hne) (by rw [hlen1, show (cellsC [b]).length = 5 from rfl]; omega) (oneCell_chs (by intro o ho; simp at ho; rw [ho]; exact hb1))
  obtain ⟨hrow, hrl⟩ := shift_row (cur := cl) (xs := cellsC vs) (ys := cellsC [b]) (I := i * 5) (N := n * 5) (K := 5) (by omega) hxl rfl htake (by omega)
  rw [← hI5] at hrow hrl
  have HR : Hid (GivesIn base (.slice (some ⟨g, 0, none⟩) n cap) n i vs b w (.returned (.slice (some ⟨g, 0, none⟩) (n + 1) cap)) W2) := by
    refine ⟨g, cap, rfl, ⟨?_, .inr ⟨g, cap, _, rfl, hbg, hg2, hroom, hcm, ?_, ?_⟩⟩, ?_, .inl rfl⟩
    · rw [cellsC_length]
      simp
      omega
    · rw [List.size_toArray, hrl, hcs]
    · rw [List.toList_toArray, show (n + 1) * 5 = n * 5 + 5 by omega, hrow, cellsC_between]
    · exact ⟨(hgr2.os.trans hgr1.os : _), (hgr2.tape.trans hgr1.tape : _), (hgr2.output.trans hgr1.output : _), (Nat.le_trans hgr1.size hgr2.size : _), fun k k1 k2 => (hgr2.block k (Nat.lt_of_lt_of_le k1 hgr1.size) k2).trans (hgr1.block k k1 k2)⟩
  have hcut0 : ∀ W, (Instr.slice 67 (.slice (some ⟨g, 0, none⟩) n cap) (some (.int .i64 (i : Int))) none none).run Try.prog W = .ok (.slice (cutC (some ⟨g, 0, none⟩) cap i) (n - i) (cap - i)) W := fun W => run_cutC_l _ n cap W i (by omega)
  obtain ⟨M, hM⟩ : ∃ M : Nat, (n : Int) + 1 = M := ⟨n + 1, by omega⟩
  obtain ⟨J, hJ⟩ : ∃ J : Nat, (i : Int) + 1 = J := ⟨i + 1, by omega⟩
  have hM' : M = n + 1 := by omega
  have hJ' : J = i + 1 := by omega
  have hcutM : ∀ W, (Instr.slice 67 (.slice (some ⟨g, 0, none⟩) n cap) none (some (.int .i64 (M : Int))) none).run Try.prog W = .ok (.slice (some ⟨g, 0, none⟩) M cap) W := fun W => run_cutC_h _ n cap W M (by omega)
  have hcutJ : ∀ W, (Instr.slice 67 (.slice (some ⟨g, 0, none⟩) M cap) (some (.int .i64 (J : Int))) none none).run Try.prog W = .ok (.slice (some ⟨g, J * 5, none⟩) (M - J) (cap - J)) W := fun W => by
    rw [run_cutC_l _ M cap W J (by omega), show cutC (some ⟨g, 0, none⟩) cap J = some ⟨g, J * 5, none⟩ by unfold cutC; rw [if_neg (by omega), Option.map_some, addr_add, Nat.zero_add]]
  have hcutI : ∀ W, (Instr.slice 67 (.slice (some ⟨g, 0, none⟩) M cap) (some (.int .i64 (i : Int))) none none).run Try.prog W = .ok (.slice (some ⟨g, i * 5, none⟩) (M - i) (cap - i)) W := fun W => by
    rw [run_cutC_l _ M cap W i (by omega), show cutC (some ⟨g, 0, none⟩) cap i = some ⟨g, i * 5, none⟩ by unfold cutC; rw [if_neg (by omega), Option.map_some, addr_add, Nat.zero_add]]
  have hsh : ∀ k, k < w.heap.size → w.heap[k]? = w.heap[k]? := fun _ _ => rfl
  have hov : ∀ lb cb', (callFunc 119 #[.slice (some ⟨vb, 0, none⟩) 1 vc, .slice (some ⟨g, J * 5, none⟩) lb cb']).run Try.prog w = .ok (.value (.bool false)) w := fun lb cb' => by
    rw [run_callFunc_extern Try.func119 (by kernel_rfl) (by kernel_rfl) (by kernel_rfl) (e := Extern.SlicesOverlaps.overlaps #[67, 67] #[4]) (by kernel_rfl),
      Lib.run_overlaps_apart w 67 4 69 Try.underlying67 5 size_run_ch ⟨vb, 0, none⟩ ⟨g, J * 5, none⟩ 1 vc lb cb' hne 69 69 cb.size cl.length (by simp [World.shape?, hvb]) (by simp [World.shape?, hg]) (by omega) (by simp [World.frozen?, hvb]) (by simp [World.frozen?, hvb])]
    rfl
  have HR2 : Hid (GivesIn base (.slice (some ⟨g, 0, none⟩) n cap) n i vs b w (.returned (.slice (some ⟨g, 0, none⟩) M cap)) W2) := by
    show GivesIn _ _ _ _ _ _ _ _ _
    rw [hM']
    exact HR.out
  rw [← hM', ← hJ'] at hr1
  rw [← hM'] at hr2
  have hne2 : ((i : Int) == (n : Int)) = false := by simp; omega
  have hcap : ¬ ((cap : Int) < (M : Int)) := by omega
  have hcap' : ¬ (cap < M) := by omega
  have hw1 : IntKind.i64.wrap (M : Int) = M := IntWalk.i64_in _ (by omega)
  have hw2 : IntKind.i64.wrap (J : Int) = J := IntWalk.i64_in _ (by omega)
  generalize cutC (some ⟨g, 0, none⟩) cap i = A0 at hcut0
  clear hg hg1 hg2 hgr1 hgr2 hrow hrl hown hcell hsrc htake hcs hdl hxl hs1 hs2 hlen1 hsh hM' hJ' hvb h1
  go_enter Try.func92, Try.ntmps92
  go_wp2_with (simp only [hov])
  go_region_law (refine step_copy_runC rfl (.tmp 73) (.tmp 76) 67 67 rfl (.slice (some ⟨g, J * 5, none⟩) (M - J) (cap - J)) (.slice (some ⟨g, i * 5, none⟩) (M - i) (cap - i)) (by simp [Act.eval, Act.put]) (by simp [Act.eval, Act.put]) _ _ (hr1 _) ?_)
  all_goals
    go_wp2_with (at_builtin; refine wpList_copy_runC rfl _ _ 67 67 rfl _ _ rfl rfl _ _ (hr2 _) ?_)
    go_ret
    exact HR2.out
end Go.Proofs.Ytmpmaljkmfgagab
/-
  slices.Insert of one chunk into a row of the caller's own that has no room: in a new row; all ways together.
-/
namespace Go.Proofs.Ytmpmaljkmfgagab
open Go.RowKit

theorem zero_len (z : Value) (k m : Nat) (h : z.cells.size = m) : (Builtin.zeroCells z.cells k).size = k * m := by
  simp [Builtin.zeroCells, h]
/-- the new row: the first ones, then zeros -/
theorem zeros_row {w : World} {base : Nat} (g n cap i : Nat) (vs : List ChVv) (hown : w.ownsRow base 69 5 (.slice (some ⟨g, 0, none⟩) n cap) n (cellsC vs)) (hvl : vs.length = n) (hn : n ≤ 1000) (hi : i < n) (hroom : cap < n + 1) :
    ∃ W1 Z G, (∀ ty, (Builtin.append_ #[67, 3] ty #[.slice (some ⟨g, 0, none⟩) i cap, .int .i64 ((n + 1 - i : Nat) : Int)]).run Try.prog w = .ok (.slice (some ⟨w.heap.size, 0, none⟩) (n + 1) G) W1) ∧ W1.heap[w.heap.size]? = some (.cells (List.toArray Z) 69 (0, 0)) ∧
      Z.length = G * 5 ∧ Z.take (i * 5) = (cellsC vs).take (i * 5) ∧ n + 1 ≤ G ∧ G ≤ maxLen ∧ w.grownBy W1 none ∧ W1.heap.size = w.heap.size + 1 := by
  obtain ⟨i0, hi0, hz0, hz1, hz2⟩ := info_parts Try.info_chunk
  have hxl : (cellsC vs).length = n * 5 := by rw [cellsC_length, hvl]
  have hol : ((cellsC vs).take (i * 5)).length = i * 5 := by rw [List.length_take]; omega
  have hold : (Builtin.firstCells i0.size i (.slice (some ⟨g, 0, none⟩) i cap)).run Try.prog w.drew = .ok ((cellsC vs).take (i * 5)).toArray w.drew := by
    rw [hz1]
    refine run_firstCells_some w.drew 5 i ⟨g, 0, none⟩ i cap _ hol (fun j u hu => ?_)
    rw [List.getElem?_take] at hu
    split at hu
    · exact hown.cells rfl j u hu
    · cases hu
  have hcn : n ≤ cap := by
    rcases hown.2 with ⟨q, _⟩ | ⟨g', cap', cur, q, _, _, hnc, _⟩
    · simp at q
    · simp only [Value.slice.injEq, true_and] at q
      omega
  have hik : i + (n + 1 - i) = n + 1 := by omega
  have hrun := fun ty => Lib.run_append_grow_zeros (P := Try.prog) w 67 3 ty 69 i0 _ .i64 .i64 Try.underlying67 Try.underlying3 hi0 hz0 (some ⟨g, 0, none⟩) i cap _ hold (n + 1 - i) (by omega) (by omega) (by omega) (by omega) (by rw [hz2]; omega) (by rw [hz2, hik]; exact growslice_fits hroom (by omega))
  rw [hik] at hrun
  have hG := grownCap_ge w (n + 1) cap 69
  have hG2 := grownCap_le_maxLen w (n + 1) cap 69 (by unfold maxLen; omega)
  refine ⟨_, (((cellsC vs).take (i * 5)).toArray ++ Builtin.zeroCells (Value.agg #[.int .i64 0, .int .i64 0, .int .i64 0, .int .i64 0, .slice none 0 0]).cells (n + 1 - i) ++ Builtin.zeroCells (Value.agg #[.int .i64 0, .int .i64 0, .int .i64 0, .int .i64 0, .slice none 0 0]).cells (grownCap w (n + 1) cap 69 - (n + 1))).toList, _, hrun, ?_, ?_, ?_, hG, hG2, ?_, ?_⟩
  · rw [Array.toArray_toList, heap_at, if_pos (show w.heap.size = w.drew.heap.size from rfl)]
  · rw [Array.length_toList, Array.size_append, Array.size_append, List.size_toArray, hol, zero_len _ _ 5 rfl, zero_len _ _ 5 rfl]
    omega
  · rw [Array.toList_append, Array.toList_append, List.append_assoc, List.take_append_of_le_length (by rw [List.toList_toArray, hol]; exact Nat.le_refl _), List.toList_toArray, List.take_of_length_le (by rw [hol]; exact Nat.le_refl _)]
  · exact ⟨rfl, rfl, rfl, by simp, fun k hk _ => by rw [heap_at, if_neg (by simp; omega)]; rfl⟩
  · simp

set_option maxRecDepth 100000 in
set_option maxHeartbeats 1000000 in
/-- there is no room: a new row -/
theorem insGrow_any (base : Nat) (g n cap i : Nat) (vs : List ChVv) (b : ChVv) (vb vc : Nat) (w : World) (hown : w.ownsRow base 69 5 (.slice (some ⟨g, 0, none⟩) n cap) n (cellsC vs)) (hvl : vs.length = n) (hn : n ≤ 1000) (hi : i < n) (hroom : cap < n + 1) (hbase : base ≤ w.heap.size)
    (hsrc : ∀ j u, (cellsC [b])[j]? = some u → w.cell? ((⟨vb, 0, none⟩ : Addr).add j) = some u) (h1 : ∀ o ∈ vs, o.v.oneCell' = true) (hb1 : b.v.oneCell' = true) :
    Calls Try.prog 92 #[.slice (some ⟨g, 0, none⟩) n cap, .int .i64 i, .slice (some ⟨vb, 0, none⟩) 1 vc] w (GivesIn base (.slice (some ⟨g, 0, none⟩) n cap) n i vs b w) := by
  have hxl : (cellsC vs).length = n * 5 := by rw [cellsC_length, hvl]
  have hgb := own_lt3 hown (g := g) rfl
  have hcell : ∀ j u, (cellsC vs)[j]? = some u → w.cell? ((⟨g, 0, none⟩ : Addr).add j) = some u := hown.cells rfl
  obtain ⟨W1, Z, G, hr0, hg0, hZl, hZt, hGn, hGm, hgr0, hs0⟩ := zeros_row g n cap i vs hown hvl hn hi hroom
  have hcn : n ≤ cap := by
    rcases hown.2 with ⟨q, _⟩ | ⟨g', cap', cur, q, _, _, hnc, _⟩
    · simp at q
    · simp only [Value.slice.injEq, true_and] at q
      omega
  obtain ⟨H, hH⟩ : ∃ H, w.heap.size = H := ⟨_, rfl⟩
  rw [hH] at hr0 hg0 hs0 hbase hgb
  have hI5 : (i + 1) * 5 = i * 5 + 5 := by omega
  have hdl : ((cellsC vs).drop (i * 5)).length = (n - i) * 5 := by rw [List.length_drop, hxl]; omega
  have hbv : vb < H := by
    have h9 := World.block_lt_of_cell? w _ (hsrc 0 (.int .i64 b.fr) rfl)
    rw [addr_add] at h9
    have h8 : vb < w.heap.size := h9
    omega
  obtain ⟨W2, hr1, hg1, hgr1, hs1⟩ := copyC (w := W1) H (i * 5) (n + 1 - i) (G - i) ⟨vb, 0, none⟩ 1 vc Z (cellsC [b]) hg0
    (by rw [show Nat.min 1 (n + 1 - i) = 1 from by simp only [Nat.min_def]; split <;> omega]; rfl) (fun j u hu => by
      exact hgr0.cell (hsrc j u hu) (by simp)) (by rw [hZl, show (cellsC [b]).length = 5 from rfl]; omega) (oneCell_chs (by intro o ho; simp at ho; rw [ho]; exact hb1))
  have hlen1 : (splice Z (i * 5) (cellsC [b])).length = Z.length := length_splice _ _ _ (by rw [hZl, show (cellsC [b]).length = 5 from rfl]; omega)
  obtain ⟨W3, hr2, hg2, hgr2, hs2⟩ := copyC (w := W2.drew) H ((i + 1) * 5) (n + 1 - (i + 1)) (G - (i + 1)) ⟨g, i * 5, none⟩ (n - i) (cap - i) _ ((cellsC vs).drop (i * 5)) hg1
    (by rw [hdl, show Nat.min (n - i) (n + 1 - (i + 1)) = n - i from by simp only [Nat.min_def]; split <;> omega]) (fun j u hu => by
      rw [List.getElem?_drop] at hu
      have h9 := hgr1.cell (hgr0.cell (hcell _ _ hu) (by simp)) (by rw [addr_add]; simp only [ne_eq, Option.some.injEq]; omega)
      rw [addr_add] at h9 ⊢
      rw [Nat.zero_add] at h9
      exact h9) (by rw [hlen1, hZl, hdl]; omega) (fun u hu => oneCell_chs h1 u (List.mem_of_mem_drop hu))
  obtain ⟨hrow, hrl⟩ := grow_row (Z := Z) (xs := cellsC vs) (ys := cellsC [b]) (I := i * 5) (N := n * 5) (K := 5) (by omega) hxl rfl hZt (by omega)
  rw [← hI5] at hrow hrl
  obtain ⟨M, hM⟩ : ∃ M : Nat, (n : Int) + 1 = M := ⟨n + 1, by omega⟩
  obtain ⟨J, hJ⟩ : ∃ J : Nat, (i : Int) + 1 = J := ⟨i + 1, by omega⟩
  obtain ⟨K, hK⟩ : ∃ K : Nat, (M : Int) - i = K := ⟨n + 1 - i, by omega⟩
  have hM' : M = n + 1 := by omega
  have hJ' : J = i + 1 := by omega
  have hK' : K = n + 1 - i := by omega
  have HR : Hid (GivesIn base (.slice (some ⟨g, 0, none⟩) n cap) n i vs b w (.returned (.slice (some ⟨H, 0, none⟩) M G)) W3) := by
    refine ⟨H, G, by rw [hM'], ⟨?_, .inr ⟨H, G, _, rfl, hbase, hg2, hGn, hGm, ?_, ?_⟩⟩, ?_, .inr (by omega)⟩
    · rw [cellsC_length]
      simp
      omega
    · rw [List.size_toArray, hrl, hZl]
    · rw [List.toList_toArray, show (n + 1) * 5 = n * 5 + 5 by omega, hrow, cellsC_between]
    · refine ⟨((hgr2.os.trans hgr1.os).trans hgr0.os : _), ((hgr2.tape.trans hgr1.tape).trans hgr0.tape : _), ((hgr2.output.trans hgr1.output).trans hgr0.output : _), (Nat.le_trans hgr0.size (Nat.le_trans hgr1.size hgr2.size) : _), fun k k1 k2 => ?_⟩
      have hkH : k ≠ H := by omega
      have e2 := hgr2.block k (by show k < W2.heap.size; omega) (by simpa using hkH)
      have e1 := hgr1.block k (by omega) (by simpa using hkH)
      have e0 := hgr0.block k k1 (by simp)
      exact (e2.trans e1).trans e0
  have hmx : G ≤ 9223372036854775807 := by unfold maxLen at hGm; omega
  have hcut0 : ∀ W, (Instr.slice 67 (.slice (some ⟨g, 0, none⟩) n cap) (some (.int .i64 (i : Int))) none none).run Try.prog W = .ok (.slice (some ⟨g, i * 5, none⟩) (n - i) (cap - i)) W := fun W => by
    rw [run_cutC_l _ n cap W i (by omega), show cutC (some ⟨g, 0, none⟩) cap i = some ⟨g, i * 5, none⟩ by unfold cutC; rw [if_neg (by omega), Option.map_some, addr_add, Nat.zero_add]]
  have hcutH : ∀ W, (Instr.slice 67 (.slice (some ⟨g, 0, none⟩) n cap) none (some (.int .i64 (i : Int))) none).run Try.prog W = .ok (.slice (some ⟨g, 0, none⟩) i cap) W := fun W => run_cutC_h _ n cap W i (by omega)
  have hcutI : ∀ W, (Instr.slice 67 (.slice (some ⟨H, 0, none⟩) M G) (some (.int .i64 (i : Int))) none none).run Try.prog W = .ok (.slice (some ⟨H, i * 5, none⟩) (M - i) (G - i)) W := fun W => by
    rw [run_cutC_l _ M G W i (by omega), show cutC (some ⟨H, 0, none⟩) G i = some ⟨H, i * 5, none⟩ by unfold cutC; rw [if_neg (by omega), Option.map_some, addr_add, Nat.zero_add]]
  -- the last cut may lie at the row's end
  have hcutJ : ∀ W, (Instr.slice 67 (.slice (some ⟨H, 0, none⟩) M G) (some (.int .i64 (J : Int))) none none).run Try.prog W = .ok (.slice (some ⟨H, J * 5, none⟩) (M - J) (G - J)) W := fun W => by
    rw [run_cutC_l _ M G W J (by omega), show cutC (some ⟨H, 0, none⟩) G J = some ⟨H, J * 5, none⟩ by unfold cutC; rw [if_neg (by omega), Option.map_some, addr_add, Nat.zero_add]]
  rw [← hK', ← hM'] at hr0
  rw [← hM'] at hr1
  rw [← hM', ← hJ'] at hr2
  have hr0' := fun ty => hr0 ty
  have hne2 : ((i : Int) == (n : Int)) = false := by simp; omega
  have hcap : (cap : Int) < (M : Int) := by omega
  have hcap' : cap < M := by omega
  have hw1 : IntKind.i64.wrap (M : Int) = M := IntWalk.i64_in _ (by omega)
  have hw2 : IntKind.i64.wrap (J : Int) = J := IntWalk.i64_in _ (by omega)
  have hw3 : IntKind.i64.wrap (K : Int) = K := IntWalk.i64_in _ (by omega)
  clear hg0 hg1 hg2 hgr0 hgr1 hgr2 hrow hrl hown hcell hsrc hZl hZt hdl hxl hs0 hs1 hs2 hlen1 hM' hJ' hK' h1 hr0
  go_enter Try.func92, Try.ntmps92
  go_wp2_with (first
    | (at_builtin; refine Lib.wpList_append_run _ rfl _ _ _ _ rfl _ _ rfl rfl _ _ (hr0' _) ?_)
    | (at_builtin; refine wpList_copy_runC rfl _ _ 67 67 rfl _ _ rfl rfl _ _ (hr1 _) ?_))
  go_region_law (refine step_copy_runC rfl (.tmp 50) (.tmp 53) 67 67 rfl (.slice (some ⟨H, J * 5, none⟩) (M - J) (G - J)) (.slice (some ⟨g, i * 5, none⟩) (n - i) (cap - i)) (by simp [Act.eval, Act.put]) (by simp [Act.eval, Act.put]) _ _ (hr2 _) ?_)
  all_goals
    go_wp2_with fail
    go_ret
    exact HR.out

/-- all ways -/
theorem insC_any (base : Nat) (vo : Value) (n i : Nat) (vs : List ChVv) (b : ChVv) (vb vc : Nat) (w : World) (hown : w.ownsRow base 69 5 vo n (cellsC vs)) (hvl : vs.length = n) (hn : n ≤ 1000) (hi : i ≤ n) (hbase : base ≤ w.heap.size)
    (cb : Array Value) (hvb : w.heap[vb]? = some (.cells cb 69 (0, 0))) (hsrc : ∀ j u, (cellsC [b])[j]? = some u → w.cell? ((⟨vb, 0, none⟩ : Addr).add j) = some u) (hne : some vb ≠ vo.ownBlock) (h1 : ∀ o ∈ vs, o.v.oneCell' = true) (hb1 : b.v.oneCell' = true) :
    Calls Try.prog 92 #[vo, .int .i64 i, .slice (some ⟨vb, 0, none⟩) 1 vc] w (GivesIn base vo n i vs b w) := by
  by_cases hin : i = n
  · subst hin
    exact insEnd_any base vo i vs b vb vc w hown hvl hn hbase hsrc hb1
  · obtain ⟨g, cap, rfl, -⟩ := hown.form (by omega)
    by_cases hroom : n + 1 ≤ cap
    · exact insRoom_any base g n cap i vs b vb vc w hown hvl hn (by omega) hroom cb hvb hsrc (fun e => hne (by rw [e]; rfl)) h1 hb1
    · exact insGrow_any base g n cap i vs b vb vc w hown hvl hn (by omega) (by omega) hbase hsrc h1 hb1
end Go.Proofs.Ytmpmaljkmfgagab
/-
  slices.Insert of one chunk that was copied into chunks that were copied: what is read behind it.
-/
namespace Go.Proofs.Ytmpmaljkmfgagab
open Go.RowKit

theorem CpSt.newR {base : Nat} {vo : Value} {out : List ChR} {W : World} (h : CpSt base vo out W) : NewR base W (fun V => CpSt base vo out V) := by
  obtain ⟨vs, h1, h2, h3⟩ := h
  exact fun V s k => ⟨vs, h1, own_keep h2 (fun g hg => k g (own_lt3 h2 hg).1 (own_lt3 h2 hg).2), fun i hi => (h3 i hi).keep s (fun q q1 q2 _ => k q q1 q2)⟩
/-- what Insert returns, read -/
def GivesFin (w : World) (n i : Nat) (l : List ChR) (x : ChR) (own : Option Nat) (W : World) (e : Ending) (W' : World) : Prop :=
  ∃ a c, e = .returned (.slice a (n + 1) c) ∧ NewR w.heap.size W' (fun V => CS V a (n + 1) c (l.take i ++ x :: l.drop i)) ∧ Below w.heap.size w W' ∧ ∀ k, k < W.heap.size → some k ≠ own → W'.heap[k]? = W.heap[k]?
set_option maxRecDepth 100000 in
theorem insFin_any {w W : World} {base1 base2 : Nat} {a1 a2 : Option Addr} {n c1 c2 : Nat} {l : List ChR} {x : ChR} (hb : Below w.heap.size w W) (h1 : CpSt base1 (.slice a1 n c1) l W) (hl : l.length = n) (hw1 : w.heap.size ≤ base1) (hbase : base1 ≤ W.heap.size) (h2 : CpSt base2 (.slice a2 1 c2) [x] W)
    (hw2 : w.heap.size ≤ base2) (hsep : ∀ g, (Value.slice a1 n c1).ownBlock = some g → g < base2) (i : Nat) (hi : i ≤ n) (hn : n ≤ 1000) :
    Calls Try.prog 92 #[.slice a1 n c1, .int .i64 i, .slice a2 1 c2] W (GivesFin w n i l x (Value.slice a1 n c1).ownBlock W) := by
  obtain ⟨vs, v1, v2, v3⟩ := h1
  obtain ⟨us, u1, u2, u3⟩ := h2
  obtain ⟨b, rfl⟩ : ∃ b, us = [b] := by
    match us, u1 with
    | [b], _ => exact ⟨b, rfl⟩
  rw [hl] at v1 v2
  have hblk := u2.2
  obtain ⟨vb, c2', hv, hbv, hlt⟩ := u2.form (by simp)
  simp only [Value.slice.injEq] at hv
  obtain ⟨rfl, -, rfl⟩ := hv
  obtain ⟨cb, hcb⟩ : ∃ cb, W.heap[vb]? = some (.cells cb 69 (0, 0)) := by
    rcases hblk with ⟨q, _⟩ | ⟨g', cap', cur, q, _, hg, _⟩
    · simp at q
    · simp only [Value.slice.injEq, Option.some.injEq, Addr.mk.injEq, and_true] at q
      obtain ⟨rfl, -⟩ := q
      exact ⟨cur, hg⟩
  have hne : some vb ≠ (Value.slice a1 n c1).ownBlock := by
    intro e
    have := hsep vb e.symm
    omega
  have ub := u3 0 (by simp)
  simp only [List.getD_cons_zero] at ub
  have h1c : ∀ o ∈ vs, o.v.oneCell' = true := one_all (l := l) (by omega) (fun j hj => (v3 j hj).plain)
  refine (insC_any base1 (.slice a1 n c1) n i vs b vb _ W v2 v1 hn hi hbase cb hcb (u2.cells rfl) hne h1c ub.plain.one).mono ?_
  rintro e W' ⟨g, c', rfl, ho, hg, hlie⟩
  have hlen : (l.take i ++ x :: l.drop i).length = n + 1 := by simp; omega
  refine ⟨_, c', rfl, fun V vs1 vk => ?_, hb.grown hg hb.size (fun k hk => ?_), hg.block⟩
  · have hrd : ∀ j, j < l.length → ReadsC V (vs.getD j default) (l.getD j default) := fun j hj => (((v3 j hj).keep hg.size (fun k _ hk hk2 => hg.block k hk hk2)).keep vs1 (fun k k1 k2 _ => vk k (by omega) k2)).plain
    have hrb : ReadsC V b x := by
      obtain ⟨r1, r2, r3, r4, r5, ad, nd, cd, r6, r7, r8⟩ := ub
      refine ⟨r1, r2, r3, r4, r5, ad, nd, cd, r6, r7.keepBlk (fun p hp => (vk _ ?_ ?_).trans (hg.block _ (r8 p hp).2.1 (fun e => ?_)))⟩
      · have h8 := (r8 p hp).1
        omega
      · have h8 := (r8 p hp).2.1
        have := hg.size
        omega
      · have h9 := hsep p.block e.symm
        have h8 := (r8 p hp).1
        omega
    obtain ⟨hl', hr'⟩ := between (by omega) hrd hrb i (by omega)
    have hst : ChSt V base1 (.slice (some ⟨g, 0, none⟩) (n + 1) c') (l.take i ++ x :: l.drop i) V := ⟨_, hl', by
      rw [hlen]
      exact own_keep ho (fun g' hg' => vk g' (by have := (own_lt3 ho hg').1; omega) (own_lt3 ho hg').2), hr'⟩
    exact hst.cs hlen (Below.refl _ _)
  · have := own_lt3 v2 hk
    omega
end Go.Proofs.Ytmpmaljkmfgagab
