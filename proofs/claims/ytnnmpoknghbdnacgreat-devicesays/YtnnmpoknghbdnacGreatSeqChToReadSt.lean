/-
  Texts put into one: SeqCh, Collect, AlikeR, Packed, PatPut, ChunksR, DvInsW, At, SayDM, RfSta, RfActB, RfActF, IdxCh, AddedR, RfActH, RfActK, Unpacked, ReadSt.
-/
import Derived.Test.YtnnmpoknghbdnacGreatRowToChSt
import Derived.RangeFuncBox
import Derived.RangeFuncLeaves
import Derived.Shelf.Abstract
import Derived.WalkKit
import Derived.OwnWalkIn
import Derived.TacticsInMore
import Derived.LoopNIn
import Derived.LoopIn
import Derived.Maps.AppendAt
import Derived.Test.YtnnmpoknghbdnacGreatDvUpToPackRes
import Derived.Test.YtnnmpoknghbdnacGreatCopyStToDifThree
import Derived.Test.YtnnmpoknghbdnacGreatPatLToPSame
import Derived.Test.YtnnmpoknghbdnacGreatDvOpenToDvHear
import Derived.Test.YtnnmpoknghbdnacGreatDvWriteToDvConf
import Derived.Test.YtnnmpoknghbdnacGreatUnpackToLawG
import Derived.Deep.DeepCutAuto
import Derived.Test.YtnnmpoknghbdnacGreatMulToRepeat
import Derived.Handy
set_option maxRecDepth 100000
set_option maxHeartbeats 4000000
namespace Go.Proofs.YtnnmpoknghbdnacGreat
open Go.RowKit Go.Shelf
attribute [local go_sem] Oper.semAt_some
abbrev HeadV : Type := Option Addr × Nat × Nat
def HeadV.v (x : HeadV) : Value := .slice x.1 x.2.1 x.2.2
def partK (a : Option Addr) (n k : Nat) : HeadV := (a.map (·.add (k * 16)), min 16 (n - k * 16), min 16 (n - k * 16))
def zaY (a : Option Addr) (n k : Nat) : List HeadV := (List.range k).map (partK a n)
theorem partsTo_succ (a : Option Addr) (n k : Nat) : zaY a n (k + 1) = zaY a n k ++ [partK a n k] := by simp [zaY, List.range_succ]
theorem partsTo_length (a : Option Addr) (n k : Nat) : (zaY a n k).length = k := by simp [zaY]
theorem run_cut_lhm (a : Option Addr) (n c : Nat) (W : World) (k h : Nat) (hk : k < h) (hh : h ≤ c) : (Instr.slice 22 (.slice a n c) (some (.int .i64 (k : Int))) (some (.int .i64 (h : Int))) (some (.int .i64 (h : Int)))).run Tryz.prog W = .ok (.slice (a.map (·.add k)) (h - k) (h - k)) W := by
 have ht : Tryz.prog.underlying 22 = some (.slice (Tryz.prog.elem 22)) := by simp [Program.elem, Tryz.underlying22]
 have he : Tryz.prog.elem 22 = 5 := by simp [Program.elem, Tryz.underlying22]
 have hne : h ≠ k := by omega
 rw [run_slice_lhm W 22 _ _ _ ht .i64 .i64 .i64 _ _ _ (by omega) (by omega) (by omega) (by omega), he, zbY]; simp [Result.andThen, sliced, hne]
theorem chunk1_in (F : Fence) (n : Nat) (h7 : F.fn 177) (hro : F.round = none) (hn : 1 ≤ n) (l Bs Bn n₀ : Nat) (a : Option Addr) (len cap : Nat) (hlen : len ≤ cap) (hcap : len ≤ 1000000) (hBs : Bs < n₀) (hBn : Bn < n₀) (J Jx : List HeadV → World → Prop) (B : Nat) (hJ : AbidesFrom B J)
 (hY : ∀ pre x W, J pre W → pre.length < (len + 15) / 16 → YieldAt F (n - 1) Tryz.prog l #[HeadV.v x] W fun e W' =>
  (e = .returned (.bool true) ∧ J (pre ++ [x]) W' ∧ Below n₀ W W') ∨ (e = .returned (.bool false) ∧ Jx (pre ++ [x]) W'))
 (W : World) (hcs : W.cell? ⟨Bs, 0, none⟩ = some (.slice a len cap)) (hcn : W.cell? ⟨Bn, 0, none⟩ = some (.int .i64 16)) (h0 : J [] W) :
 CallsIn F n Tryz.prog 177 #[.func (.yield l) #[] #[], .pointer (some ⟨Bs, 0, none⟩), .pointer (some ⟨Bn, 0, none⟩)] W fun e W' => (∃ v, e = .returned v) ∧
  ((∃ ys, ys = zaY a len ((len + 15) / 16) ∧ J ys W') ∨ (∃ pre, (∃ k, k ≤ (len + 15) / 16 ∧ pre = zaY a len k) ∧ Jx pre W')) := by
 refine callsIn_of_wp Tryz.func177 rfl h7 ?_ hro; simp only [Tryz.ntmps177, List.size_toArray, List.length_cons, List.length_nil, Nat.reduceAdd, Nat.reduceSub, Array.replicate_succ, Array.replicate_zero, List.push_toArray, List.append_toArray, List.nil_append, List.cons_append]
 gi_wp2
 gi_loopw [4] (fun i wr => ∃ k : Nat, k ≤ (len + 15) / 16 ∧ i = .int .i64 ((k * 16 : Nat) : Int) ∧ J (zaY a len k) wr ∧ Below n₀ W wr)
  (fun i _ => len + 16 - (intOf i).toNat)
 case atStart => exact ⟨0, Nat.zero_le _, rfl, h0, Below.refl _ _⟩
 case round =>
  obtain ⟨k, hk, rfl, hJs, hnx⟩ := hrel; have qs := (hnx.cell (p := ⟨Bs, 0, none⟩) hBs).trans hcs; have qn := (hnx.cell (p := ⟨Bn, 0, none⟩) hBn).trans hcn; obtain ⟨I, hI⟩ : ∃ I : Nat, k * 16 = I := ⟨_, rfl⟩; rw [hI]; by_cases hlt : I < len
  · have hJd := hJ _ wr wr.drew none hJs ⟨rfl, rfl, rfl, Nat.le_refl _, fun _ _ _ => rfl⟩ (fun r e => by cases e)
    have hnd : Below n₀ W wr.drew := hnx.drew; obtain ⟨fn, tmps, assign, body, hy, hR⟩ := hY _ (partK a len k) wr.drew hJd (by rw [partsTo_length]; omega); obtain ⟨M, hM⟩ : ∃ M : Nat, len - I = M := ⟨_, rfl⟩; obtain ⟨E, hE⟩ : ∃ E : Nat, (if (M : Int) < 16 then (M : Int) else 16) = E := ⟨min 16 M, by split <;> omega⟩; have hE2 : min 16 (len - I) = E := by rw [hM]; split at hE <;> omega
    have hE6 : min (16 : Int) (M : Int) = E := by split at hE <;> omega
    obtain ⟨H, hH⟩ : ∃ H : Nat, (I : Int) + (E : Int) = H := ⟨I + E, by omega⟩; have hE3 : 0 < E := by omega
    have hHc : H ≤ cap := by omega
    have hHI : H - I = E := by omega
    have hcut1 : ∀ W, (Instr.slice 22 (.slice a len cap) (some (.int .i64 (I : Int))) none none).run Tryz.prog W = .ok (.slice (cutA a cap I) M (cap - I)) W := fun W => by rw [zaU a len cap W I (by omega), hM]
    have hcut2 : ∀ W, (Instr.slice 22 (.slice a len cap) (some (.int .i64 (I : Int))) (some (.int .i64 (H : Int))) (some (.int .i64 (H : Int)))).run Tryz.prog W = .ok (.slice (a.map (·.add I)) E E) W := fun W => by rw [run_cut_lhm a len cap W I H (by omega) hHc, hHI]
    have hpk : (partK a len k).v = .slice (a.map (·.add I)) E E := by unfold partK HeadV.v; simp only; rw [hI, hE2]
    rw [hpk] at hy; generalize cutA a cap I = A1 at hcut1; generalize a.map (·.add I) = A2 at hcut2 hpk hy
    gi_wp2
    gi_region
    all_goals
     clear hJs hnx
     gi_wp2
     refine hR.mono ?_; rintro e W3 (⟨rfl, hJ3, hk3⟩ | ⟨rfl, hJx3⟩)
     · have qn3 := (hk3.cell (p := ⟨Bn, 0, none⟩) hBn).trans ((hnd.cell (p := ⟨Bn, 0, none⟩) hBn).trans hcn)
       gi_wp2
       go_roundw
       case rel => exact ⟨k + 1, by omega, by rw [← hI]; congr 1; omega, by rw [partsTo_succ]; exact hJ3, hnd.trans hk3⟩
       case measure => simp [intOf]; omega
     · gi_wp2
       refine bodyPost_ret (results_none rfl _ _ _) rfl ?_; exact ⟨⟨_, rfl⟩, .inr ⟨_, ⟨k + 1, by omega, (partsTo_succ _ _ _).symm⟩, hJx3⟩⟩
  · obtain rfl : k = (len + 15) / 16 := by omega
    gi_wp2
    go_end0; exact ⟨⟨_, rfl⟩, .inl ⟨_, rfl, hJs⟩⟩
end Go.Proofs.YtnnmpoknghbdnacGreat
namespace Go.Proofs.YtnnmpoknghbdnacGreat
open Go.RowKit Go.Shelf
attribute [local go_sem] Oper.semAt_some
theorem partsTo_prefix (a : Option Addr) (n : Nat) {k m : Nat} (h : k ≤ m) : zaY a n k <+: zaY a n m := by
 refine ⟨((List.range m).drop k).map (partK a n), ?_⟩; unfold zaY; rw [← List.map_append]
 congr 1
 have := List.take_append_drop k (List.range m)
 rwa [List.take_range, show min k m = k by omega] at this
theorem chunk_stops (F : Fence) (n : Nat) (h7 : F.fn 177) (hro : F.round = none) (hn : 1 ≤ n) (Bs Bn n₀ : Nat) (a : Option Addr) (len cap : Nat) (hlen : len ≤ cap) (hcap : len ≤ 1000000) (w : World) (hBs : Bs < n₀) (hBn : Bn < n₀) (hn₀ : n₀ ≤ w.heap.size)
 (hcs : w.cell? ⟨Bs, 0, none⟩ = some (.slice a len cap)) (hcn : w.cell? ⟨Bn, 0, none⟩ = some (.int .i64 16)) :
 SeqStopsK F n Tryz.prog 177 #[.pointer (some ⟨Bs, 0, none⟩), .pointer (some ⟨Bn, 0, none⟩)] (fun x : HeadV => #[HeadV.v x]) (Below n₀) (fun ys => ys = zaY a len ((len + 15) / 16)) (fun pre => pre <+: zaY a len ((len + 15) / 16)) ((len + 15) / 16) w := fun l J Jx W hW hJ _ hY h0 => by
 refine (chunk1_in F n h7 hro hn l Bs Bn n₀ a len cap hlen hcap hBs hBn J Jx _ hJ hY W ((hW.cell (p := ⟨Bs, 0, none⟩) (by show Bs < _; omega)).trans hcs) ((hW.cell (p := ⟨Bn, 0, none⟩) (by show Bn < _; omega)).trans hcn) h0).mono ?_
 rintro e W' ⟨he, ⟨ys, rfl, hj⟩ | ⟨pre, ⟨k, hk, rfl⟩, hj⟩⟩
 · exact ⟨he, .inl ⟨_, rfl, hj⟩⟩
 · exact ⟨he, .inr ⟨_, partsTo_prefix a len hk, hj⟩⟩
theorem Tryz.info_bs : (Tryz.prog.info? 22).map (fun i => (i.zero, i.size, i.bytes)) = some (some (.slice none 0 0), 1, 24) := by kernel_rfl
theorem appendSeq_in (F : Fence) (n : Nat) (h3 : F.fn 176) (h5 : F.fn 177) (hro : F.round = none) (hn : 3 ≤ n) (Bs Bn : Nat) (a : Option Addr) (len cap : Nat) (hlen : len ≤ cap) (hcap : len ≤ 1000000) (w : World) (hBs : Bs < w.heap.size) (hBn : Bn < w.heap.size)
 (hcs : w.cell? ⟨Bs, 0, none⟩ = some (.slice a len cap)) (hcn : w.cell? ⟨Bn, 0, none⟩ = some (.int .i64 16)) :
 CallsIn F n Tryz.prog 176 #[.slice none 0 0, .func (.func 177) #[] #[.pointer (some ⟨Bs, 0, none⟩), .pointer (some ⟨Bn, 0, none⟩)]] w fun e W' => ∃ v, e = .returned v ∧ W'.ownsRow w.heap.size 22 1 v ((len + 15) / 16) ((zaY a len ((len + 15) / 16)).map HeadV.v) ∧ Below w.heap.size w W' := by
 have h1 : 1 ≤ n := by omega
 obtain ⟨i0, hi, hz0, hz1, hz2⟩ := info_parts Tryz.info_bs; refine callsIn_of_wp_marks Tryz.func176 rfl h3 ?_ hro; simp only [Tryz.ntmps176, List.size_toArray, List.length_cons, List.length_nil, Nat.reduceAdd, Nat.reduceSub, Array.replicate_succ, Array.replicate_zero, List.push_toArray, List.append_toArray, List.nil_append, List.cons_append]
 gi_wp2
 have bO := Boxed.new w 70 (.slice none 0 0); have hB0 : Below w.heap.size w (w.alloc (.cells #[.slice none 0 0] 70)) := (Below.refl _ w).alloc (Nat.le_refl _) _
 refine wpIn_rangeFunc_ownG hro h1 (gf := 177) (lb := #[.pointer (some ⟨Bs, 0, none⟩), .pointer (some ⟨Bn, 0, none⟩)]) rfl h5 (enters_of Tryz.func177 (by kernel_rfl) rfl)
  (chunk_stops F (n - 1) h5 hro (by omega) Bs Bn w.heap.size a len cap hlen hcap _ hBs hBn hB0.size ((hB0.cell (p := ⟨Bs, 0, none⟩) hBs).trans hcs) ((hB0.cell (p := ⟨Bn, 0, none⟩) hBn).trans hcn)) belowK_t (belowK_b (by simp)) (Below.refl _ _) (fun _ => rfl)
  (fun pre W => (∃ v, Boxed W w.heap.size 70 v ∧ W.ownsRow w.heap.size 22 1 v pre.length (pre.map HeadV.v) ∧ True) ∧ Below w.heap.size w W)
  (fun _ _ _ => False)
  (OwnFrom.and (Own.from (holdsRow_own w.heap.size w.heap.size 70 22 1 (fun pre : List HeadV => pre.length) (fun pre => pre.map HeadV.v) (fun _ _ => True)) _) (ownFrom_below (Nat.le_refl _) (by simp)))
  (fun _ _ _ _ _ hs _ _ => hs)
  ⟨⟨_, bO, World.ownsRow_nil _ _ _ _, trivial⟩, hB0⟩
  (fun x => { tmps := #[.slice none 0 0, .func (.func 177) #[] #[.pointer (some ⟨Bs, 0, none⟩), .pointer (some ⟨Bn, 0, none⟩)], .pointer (some ⟨w.heap.size, 0, none⟩), undef, .slice none 0 0, .slice x.1 x.2.1 x.2.2, .func (.func 177) #[] #[.pointer (some ⟨Bs, 0, none⟩), .pointer (some ⟨Bn, 0, none⟩)], .slice x.1 x.2.1 x.2.2, undef, undef, undef, undef, undef], defers := [] }) ?assign ?body ?done ?stop
 case assign =>
  intro l x W K hK
  gi_wp2
  exact hK
 case body =>
  rintro l pre ⟨xa, xn, xc⟩ W ⟨⟨v, hv, hrow, -⟩, hB⟩ hlt; simp only; have hc := hv.cell
  gi_wp2_with (gi_at_builtin; refine wpListIn_append_own _ rfl _ _ 70 rfl w.heap.size 22 i0 (.slice none 0 0) 1 24 U70 hi hz0 hz1 hz2 rfl (by decide) _ _ _ rfl (hrow.alloc _) ⟨W.heap.size, 0, none⟩ 1 1 [.slice xa xn xc] rfl rfl (cell_one_new _ _ _) (by simp [Value.oneCell']) (by unfold maxLen; omega) (by omega) (by have := hB.size; simp; omega) ?_; intro v' w1 hown' hgrow _; obtain ⟨g', cap', rfl⟩ := ownsRow_succ hown'; obtain ⟨hv1, hv2, hr2, hk2, hb2⟩ := hv.appended (by decide) hrow hB.size (Nat.le_refl _) hown' hgrow; have hc1 := hv1.cell; have hf1 := hv1.frozen)
  exact ⟨hk2.from _, hb2, ⟨_, hv2, by simpa [HeadV.v] using hr2, trivial⟩, hB.trans hb2⟩
 case done =>
  rintro D ys W hD rfl ⟨⟨v, hv, hrow, -⟩, hB⟩ hK; have hc := hv.cell
  gi_wp2
  refine ⟨by simp, .inl ⟨_, _, rfl, run_takeDeferred hK, ?_⟩⟩; rw [partsTo_length] at hrow; exact ⟨_, results_tmp rfl _ _ _, v, rfl, ownsRow_putObj hrow _ hK rfl, hB.trans (belowK_b (w := w) (Nat.le_refl _) W D _ _ (by simp at hD; omega) hK rfl rfl)⟩
 case stop =>
  rintro D c pre W _ _ h _; exact h.elim
theorem appendSeq_any (Bs Bn : Nat) (a : Option Addr) (len cap : Nat) (hlen : len ≤ cap) (hcap : len ≤ 1000000) (w : World) (hBs : Bs < w.heap.size) (hBn : Bn < w.heap.size)
 (hcs : w.cell? ⟨Bs, 0, none⟩ = some (.slice a len cap)) (hcn : w.cell? ⟨Bn, 0, none⟩ = some (.int .i64 16)) :
 Calls Tryz.prog 176 #[.slice none 0 0, .func (.func 177) #[] #[.pointer (some ⟨Bs, 0, none⟩), .pointer (some ⟨Bn, 0, none⟩)]] w fun e W' => ∃ v, e = .returned v ∧ W'.ownsRow w.heap.size 22 1 v ((len + 15) / 16) ((zaY a len ((len + 15) / 16)).map HeadV.v) ∧ Below w.heap.size w W' :=
 (callsIn_wide (n := 3)).1 (appendSeq_in Fence.wide 3 trivial trivial rfl (by omega) Bs Bn a len cap hlen hcap w hBs hBn hcs hcn)
end Go.Proofs.YtnnmpoknghbdnacGreat
namespace Go.Proofs.YtnnmpoknghbdnacGreat
open Go.RowKit
theorem alike_any (a : Option Addr) (n c : Nat) (l : List Int) (w : World) (hr : BS w a n c l) (hp : 0 < n) :
 Calls Tryz.prog 178 #[.slice a n c] w fun e w' => e = .returned (.int .i64 (PackM.run l)) ∧ zbD w w' := by
 have hlen : n ≤ 9223372036854775807 := by have := hr.le; have := hr.max; omega
 have hl := LH hr.len; have hcells := hr.cells; clear hr; go_enter Tryz.func178, Tryz.ntmps178; go_wp2; go_loopw [3] (fun i wr => ∃ k : Nat, 1 ≤ k ∧ k ≤ n ∧ k ≤ 127 ∧ i = .int .i64 k ∧ Hid (∀ j, j < k → l[j]?.getD 0 = l[0]?.getD 0) ∧ zbD w wr) (fun i _ => 127 - (intOf i).toNat)
 case atStart => exact ⟨1, by omega, by omega, by omega, rfl, LH (fun j hj => by rw [show j = 0 by omega]), 0, rfl⟩
 case round =>
  obtain ⟨k, hk1, hk, hk2, rfl, HE, nq, rfl⟩ := hrel; by_cases hlt : k < n
  · by_cases h127 : k < 127
    · obtain ⟨b, off, rfl, hc⟩ := hcells (by omega)
      have hck := hc k (by omega); have hc0 := hc 0 (by omega); have hpos : (0 : Int) < n := by omega
      have hpos2 : 0 < n := by omega
      rw [Nat.add_zero] at hc0; have hd1 : decide ((k : Int) < 127) = true := by simp; omega
      have hd2 : decide (k < n) = true := by simp; omega
      by_cases heq : l[k]?.getD 0 = l[0]?.getD 0
      · have HQ := LH heq
        rw [heq] at hck; clear hc hcells heq; go_wp2; go_quiet (fail); go_wp2; go_roundw
        case rel => exact ⟨k + 1, by omega, by omega, by omega, by go_num, LH (fun j hj => by
         rcases Nat.lt_or_ge j k with h | h
         · exact HE.out j h
         · obtain rfl : j = k := by omega
           exact HQ.out), _, rfl⟩
        case measure => simp [intOf]; omega
      · have hb : (l[k]?.getD 0 == l[0]?.getD 0) = false := by simpa using heq
        have HQ := LH heq; clear hc hcells heq; go_wp2; go_quiet (fail); go_wp2; go_ret; exact ⟨ret_run (by rw [PackM.run_eq l k (by rw [hl.out]; omega) hk2 HE.out (.inr (.inr HQ.out))]), zbD.more _ _ _⟩
    · have hd : decide ((k : Int) < 127) = false := by simp; omega
      clear hcells; go_wp2; go_quiet (fail); go_wp2; go_ret; exact ⟨ret_run (by rw [PackM.run_eq l k (by rw [hl.out]; omega) hk2 HE.out (.inr (.inl (by omega)))]), zbD.more _ _ _⟩
  · have hd : decide (k < n) = false := by simp; omega
    clear hcells; go_wp2; go_quiet (fail); go_wp2; go_ret; exact ⟨ret_run (by rw [PackM.run_eq l k (by rw [hl.out]; omega) hk2 HE.out (.inl (by rw [hl.out]; omega))]), zbD.more _ _ _⟩
def PackRel (l : List Int) (w : World) (b out : Value) (wr : World) : Prop :=
 ∃ (a : Option Addr) (m c : Nat) (rem : List Int) (a' : Option Addr) (k c' : Nat) (outl : List Int), b = .slice a m c ∧ out = .slice a' k c' ∧ BS w a m c rem ∧
   wr.ownsRow w.heap.size 5 1 (.slice a' k c') k (outl.map (Value.int .u8)) ∧ (∀ o, PackM.Packs rem o → PackM.Packs l (outl ++ o)) ∧ k + 2 * m ≤ 2 * l.length ∧ (∀ x ∈ outl, 0 ≤ x ∧ x ≤ 255) ∧ Below w.heap.size w wr
theorem one_bs (w : World) (x : Int) (hx : 0 ≤ x ∧ x ≤ 255) : BS (w.alloc (.cells #[.int .u8 x] 5)) (some ⟨w.heap.size, 0, none⟩) 1 1 [x] := by
 refine ⟨rfl, by omega, by omega, by simpa using hx, fun _ => ⟨w.heap.size, 0, rfl, ?_⟩, fun h => by cases h⟩; intro i hi; obtain rfl : i = 0 := by omega
 simp
theorem pair_bs (w : World) (x y : Int) (hx : 0 ≤ x ∧ x ≤ 255) (hy : 0 ≤ y ∧ y ≤ 255) : BS (w.alloc (.cells #[.int .u8 x, .int .u8 y] 5)) (some ⟨w.heap.size, 0, none⟩) 2 2 [x, y] := by
 refine ⟨rfl, by omega, by omega, by simp [hx, hy], fun _ => ⟨w.heap.size, 0, rfl, ?_⟩, fun h => by cases h⟩; intro i hi
 match i, hi with
 | 0, _ => simp
 | 1, _ => simp
theorem lit_appends {w Wx : World} {a2 : Option Addr} {k c2 : Nat} {outl : List Int} (hB : Below w.heap.size w Wx) (ho : Wx.ownsRow w.heap.size 5 1 (.slice a2 k c2) k (outl.map (Value.int .u8)))
 {A : Option Addr} {j C : Nat} {lt : List Int} (hh : BS w A j C lt) (hj : j ≤ 127) (hk : k ≤ 16777216) :
 ∃ a5 c5 W5 a6 c6 W6, (Builtin.append_ #[22, 22] 22 #[.slice a2 k c2, .slice (some ⟨Wx.heap.size, 0, none⟩) 1 1]).run Tryz.prog (Wx.alloc (.cells #[.int .u8 (j : Int)] 5)) = .ok (.slice a5 (k + 1) c5) W5 ∧
   (Builtin.append_ #[22, 22] 22 #[.slice a5 (k + 1) c5, .slice A j C]).run Tryz.prog W5 = .ok (.slice a6 (k + 1 + j) c6) W6 ∧
   Hid (W6.ownsRow w.heap.size 5 1 (.slice a6 (k + 1 + j) c6) (k + 1 + j) ((outl ++ ((j : Int) :: lt)).map (Value.int .u8))) ∧ Below w.heap.size w W6 := by
 have hB2 := hB.alloc hB.size (.cells #[.int .u8 (j : Int)] 5); have ho2 := ho.alloc (.cells #[.int .u8 (j : Int)] 5); obtain ⟨a5, c5, W5, hrun1, ho5, hg5⟩ := zbi ho2 (one_bs Wx (j : Int) (by omega)) (by omega) hB2.size; have hB5 := hB2.grown hg5 hB2.size (fun g hg => (ho2.lt g hg).1); obtain ⟨a6, c6, W6, hrun2, ho6, hg6⟩ := zbi ho5 (hh.later hB5) (by omega) hB5.size; have hB6 := hB5.grown hg6 hB5.size (fun g hg => (ho5.lt g hg).1); exact ⟨a5, c5, W5, a6, c6, W6, hrun1, hrun2, by simpa [Hid, List.append_assoc] using ho6, hB6⟩
theorem lit_rel {l : List Int} {w : World} {a1 : Option Addr} {m c1 : Nat} {rem : List Int} {k : Nat} {outl : List Int} (hb : BS w a1 m c1 rem) (hu : ∀ o, PackM.Packs rem o → PackM.Packs l (outl ++ o)) (hy : ∀ x ∈ outl, 0 ≤ x ∧ x ≤ 255)
 (hbd : k + 2 * m ≤ 2 * l.length) {j : Nat} (h1 : 1 ≤ j) (h2 : j ≤ 127) (h3 : j ≤ m) (h4 : ∀ i, i < j → PackM.run (rem.drop i) < 3) (h5 : j = m ∨ j = 127 ∨ 3 ≤ PackM.run (rem.drop j))
 {a6 : Option Addr} {c6 : Nat} {W6 : World} (ho : W6.ownsRow w.heap.size 5 1 (.slice a6 (k + 1 + j) c6) (k + 1 + j) ((outl ++ ((j : Int) :: rem.take j)).map (Value.int .u8))) (hB : Below w.heap.size w W6) :
 PackRel l w (.slice (cutA a1 c1 j) (m - j) (c1 - j)) (.slice a6 (k + 1 + j) c6) W6 := by
 refine ⟨_, _, _, _, _, _, _, _, rfl, rfl, hb.cut j h3, ho, ?_, by omega, ?_, hB⟩
 · intro o h
   have := hu _ (.lit rem o j h1 h2 (by rw [hb.len]; exact h3) h4 (by rw [hb.len]; exact h5) h)
   simpa using this
 · intro y hyy
   simp only [List.mem_append, List.mem_cons] at hyy; rcases hyy with hyy | rfl | hyy
   · exact hy y hyy
   · omega
   · exact hb.bytes y (List.mem_of_mem_take hyy)
theorem packed_any (a : Option Addr) (n c : Nat) (l : List Int) (w : World) (hr : BS w a n c l) (hn : n ≤ 4194304) :
 Calls Tryz.prog 129 #[.slice a n c] w (GivesPk l w) := by
 have hln := hr.len; have HR := LH hr; have hl : l.length ≤ 4194304 := by omega
 clear hr hln; go_enter Tryz.func129, Tryz.ntmps129; go_wp2; go_loopw [0, 3] (fun b out wr => PackRel l w b out wr) (fun b _ _ => lenV b)
 case atStart => exact ⟨a, n, c, l, none, 0, 0, [], rfl, rfl, HR.out, World.ownsRow_nil _ _ _ _, fun o h => h, by rw [HR.out.len]; omega, by simp, Below.refl _ _⟩
 case round =>
  obtain ⟨a1, m, c1, rem, a2, k, c2, outl, rfl, rfl, hb, ho, hu, hbd, hby, hB⟩ := hrel; have HO := LH ho; have HU := LH hu; have HY := LH hby; have hk : k ≤ 8388608 := by omega
  clear ho hby hu; by_cases hm : m = 0
  · subst hm
    obtain rfl : rem = [] := List.eq_nil_of_length_eq_zero hb.len; go_wp2; go_ret; exact ⟨outl, a2, k, c2, by have := HU.out [] .nil; simpa using this, rfl, BS.of_own HO.out HY.out, hB⟩
  · have hm0 : 0 < m := by omega
    have hrm := PackM.run_max rem; have hrl := PackM.run_le rem; rw [hb.len] at hrl; obtain ⟨R, hR⟩ : ∃ R, PackM.run rem = R := ⟨_, rfl⟩; rw [hR] at hrm hrl; have HRn := LH hR; clear hR; go_wp2_with fail; refine (alike_any a1 m c1 rem _ (hb.later hB) hm0).mono ?_; rintro e W1 ⟨rfl, hd1⟩; rw [HRn.out]; have hB1 := bTh hB hd1.below; have HO1 := LH (zaQ HO.out hd1.below); clear hd1 hB HO; by_cases h3 : 3 ≤ R
    · obtain ⟨blk, off, rfl, hc⟩ := (hb.later hB1).cells hm0
      have hc0 := hc 0 hm0; rw [Nat.add_zero] at hc0; have hx := hb.byte 0; clear hc; have hcut : ∀ W, (Instr.slice 22 (.slice (some ⟨blk, off, none⟩) m c1) (some (.int .i64 R)) none none).run Tryz.prog W = .ok (.slice (cutA (some ⟨blk, off, none⟩) c1 R) (m - R) (c1 - R)) W := fun W => zaU _ m c1 W R (by omega); have hb3 := hb.cut R (by omega); generalize cutA (some ⟨blk, off, none⟩) c1 R = A3 at hcut hb3; have hB2 := hB1.alloc hB1.size (.cells #[.int .u8 (128 + (R : Int)), .int .u8 (rem[0]?.getD 0)] 5); have ho2 := HO1.out.alloc (.cells #[.int .u8 (128 + (R : Int)), .int .u8 (rem[0]?.getD 0)] 5); obtain ⟨a5, c5, W5, hrun, ho5, hg5⟩ := zbi ho2 (pair_bs W1 (128 + (R : Int)) (rem[0]?.getD 0) (by omega) hx) (by omega) hB2.size; have hB5 := hB2.grown hg5 hB2.size (fun g hg => (ho2.lt g hg).1); have HO5 := LH ho5; clear ho5 ho2 hg5 hB2; go_wp2_with (at_builtin; refine Lib.wpList_append_run _ rfl _ _ _ _ rfl _ _ rfl rfl _ _ hrun ?_); go_roundw
      case rel =>
       refine ⟨A3, m - R, c1 - R, rem.drop R, a5, k + 2, c5, outl ++ [128 + (R : Int), rem[0]?.getD 0], rfl, rfl, hb3, HO5.out, ?_, by omega, ?_, hB5⟩
       · intro o h
         have := HU.out _ (.run rem o R HRn.out h3 h)
         simpa using this
       · intro y hy
         simp only [List.mem_append, List.mem_cons, List.not_mem_nil, or_false] at hy; rcases hy with hy | rfl | rfl
         · exact HY.out y hy
         · omega
         · exact hx
      case measure => simp [lenV]; omega
    · have H3 := LH h3
      go_wp2_with fail; go_loopw [5] (fun v wr => ∃ j : Nat, 1 ≤ j ∧ j ≤ m ∧ j ≤ 127 ∧ v = .int .i64 j ∧ Hid (∀ i, i < j → PackM.run (rem.drop i) < 3) ∧ Below W1.heap.size W1 wr) (fun v _ => 127 - (intOf v).toNat)
      case atStart =>
       refine ⟨1, by omega, by omega, by omega, rfl, LH (fun i hi => ?_), Below.refl _ _⟩; rw [show i = 0 by omega, List.drop_zero, HRn.out]; omega
      case round =>
       obtain ⟨j, hj1, hjm, hj127, rfl, HJ, hBj⟩ := hrel; by_cases hlm : j < m
       · by_cases hl7 : j < 127
         · have hcut : ∀ W, (Instr.slice 22 (.slice a1 m c1) (some (.int .i64 j)) none none).run Tryz.prog W = .ok (.slice (cutA a1 c1 j) (m - j) (c1 - j)) W := fun W => zaU _ m c1 W j (by omega)
           have hbj := hb.cut j (by omega); generalize cutA a1 c1 j = A3 at hcut hbj; go_wp2_with fail; refine (alike_any A3 (m - j) (c1 - j) (rem.drop j) _ ((hbj.later hB1).later hBj) (by omega)).mono ?_; rintro e W4 ⟨rfl, hd4⟩; have hrj := PackM.run_max (rem.drop j); have hB4 := bTh hBj hd4.below; clear hcut hbj hBj hd4; by_cases hrun : PackM.run (rem.drop j) < 3
           · have HS := LH hrun
             generalize PackM.run (rem.drop j) = S at hrun hrj ⊢; go_wp2_with fail; go_roundw
             case rel => exact ⟨j + 1, by omega, by omega, by omega, by go_num, LH (fun i hi => by
              rcases Nat.lt_or_ge i j with h | h
              · exact HJ.out i h
              · obtain rfl : i = j := by omega
                exact HS.out), hB4⟩
             case measure => simp [intOf]; omega
           · have HS : Hid (j = m ∨ j = 127 ∨ 3 ≤ PackM.run (rem.drop j)) := .inr (.inr (by omega))
             generalize PackM.run (rem.drop j) = S at hrun hrj ⊢; have hBx := bTh hB1 hB4; have HOx := LH (zaQ HO1.out hB4); have hcut1 : ∀ W, (Instr.slice 22 (.slice a1 m c1) none (some (.int .i64 j)) none).run Tryz.prog W = .ok (.slice a1 j c1) W := fun W => rCh a1 m c1 W j (by have := hb.le; omega); have hcut2 : ∀ W, (Instr.slice 22 (.slice a1 m c1) (some (.int .i64 j)) none none).run Tryz.prog W = .ok (.slice (cutA a1 c1 j) (m - j) (c1 - j)) W := fun W => zaU _ m c1 W j (by omega); obtain ⟨a5, c5, W5, a6, c6, W6, hrun1, hrun2, HO6, hB6⟩ := lit_appends hBx HOx.out (hb.head j hjm) hj127 (by omega)
             go_wp2_with (at_builtin; first
              | (refine Lib.wpList_append_run _ rfl (.tmp 42) (.tmp 45) _ _ rfl _ _ rfl rfl _ _ hrun1 ?_)
              | (refine Lib.wpList_append_run _ rfl (.tmp 47) (.tmp 50) _ _ rfl _ _ rfl rfl _ _ hrun2 ?_))
             go_roundw
             case rel => exact lit_rel hb HU.out HY.out hbd hj1 hj127 hjm HJ.out HS.out HO6.out hB6
             case measure => simp [lenV]; omega
         · have HS : Hid (j = m ∨ j = 127 ∨ 3 ≤ PackM.run (rem.drop j)) := .inr (.inl (by omega))
           have hd : decide ((j : Int) < 127) = false := by simp; omega
           have hBx := bTh hB1 hBj; have HOx := LH (zaQ HO1.out hBj); have hcut1 : ∀ W, (Instr.slice 22 (.slice a1 m c1) none (some (.int .i64 j)) none).run Tryz.prog W = .ok (.slice a1 j c1) W := fun W => rCh a1 m c1 W j (by have := hb.le; omega); have hcut2 : ∀ W, (Instr.slice 22 (.slice a1 m c1) (some (.int .i64 j)) none none).run Tryz.prog W = .ok (.slice (cutA a1 c1 j) (m - j) (c1 - j)) W := fun W => zaU _ m c1 W j (by omega); obtain ⟨a5, c5, W5, a6, c6, W6, hrun1, hrun2, HO6, hB6⟩ := lit_appends hBx HOx.out (hb.head j hjm) hj127 (by omega)
           go_wp2_with (at_builtin; first
            | (refine Lib.wpList_append_run _ rfl (.tmp 42) (.tmp 45) _ _ rfl _ _ rfl rfl _ _ hrun1 ?_)
            | (refine Lib.wpList_append_run _ rfl (.tmp 47) (.tmp 50) _ _ rfl _ _ rfl rfl _ _ hrun2 ?_))
           go_roundw
           case rel => exact lit_rel hb HU.out HY.out hbd hj1 hj127 hjm HJ.out HS.out HO6.out hB6
           case measure => simp [lenV]; omega
       · have HS : Hid (j = m ∨ j = 127 ∨ 3 ≤ PackM.run (rem.drop j)) := .inl (by omega)
         have hd : decide (j < m) = false := by simp; omega
         have hBx := bTh hB1 hBj; have HOx := LH (zaQ HO1.out hBj); have hcut1 : ∀ W, (Instr.slice 22 (.slice a1 m c1) none (some (.int .i64 j)) none).run Tryz.prog W = .ok (.slice a1 j c1) W := fun W => rCh a1 m c1 W j (by have := hb.le; omega); have hcut2 : ∀ W, (Instr.slice 22 (.slice a1 m c1) (some (.int .i64 j)) none none).run Tryz.prog W = .ok (.slice (cutA a1 c1 j) (m - j) (c1 - j)) W := fun W => zaU _ m c1 W j (by omega); obtain ⟨a5, c5, W5, a6, c6, W6, hrun1, hrun2, HO6, hB6⟩ := lit_appends hBx HOx.out (hb.head j hjm) hj127 (by omega)
         go_wp2_with (at_builtin; first
          | (refine Lib.wpList_append_run _ rfl (.tmp 42) (.tmp 45) _ _ rfl _ _ rfl rfl _ _ hrun1 ?_)
          | (refine Lib.wpList_append_run _ rfl (.tmp 47) (.tmp 50) _ _ rfl _ _ rfl rfl _ _ hrun2 ?_))
         go_roundw
         case rel => exact lit_rel hb HU.out HY.out hbd hj1 hj127 hjm HJ.out HS.out HO6.out hB6
         case measure => simp [lenV]; omega
def PutRel (l : List Int) (w : World) (out i : Value) (wr : World) : Prop :=
 ∃ (k : Nat) (a : Option Addr) (c : Nat), i = .int .i64 k ∧ k ≤ 8 ∧ out = .slice a k c ∧ wr.ownsRow w.heap.size 5 1 (.slice a k c) k ((l.take k).map (Value.int .u8)) ∧ Below w.heap.size w wr
def EncRel (hd : List Int) (ops : List OpR) (w : World) (out i : Value) (wr : World) : Prop :=
 ∃ (k : Nat) (a : Option Addr) (n c : Nat) (outl : List Int), i = .int .i64 k ∧ k ≤ ops.length ∧ out = .slice a n c ∧ outl.length = n ∧ outl = hd ++ PatM.encs (ops.take k) ∧ wr.ownsRow w.heap.size 5 1 (.slice a n c) outl.length (outl.map (Value.int .u8)) ∧ Below w.heap.size w wr
theorem two_lit (W : World) (x y : Int) (hx : 0 ≤ x ∧ x ≤ 255) (hy : 0 ≤ y ∧ y ≤ 255) : BS (W.alloc (.cells #[.int .u8 x, .int .u8 y] 5)) (some ⟨W.heap.size, 0, none⟩) 2 2 [x, y] := by
 refine ⟨rfl, Nat.le_refl _, by omega, by intro v hv; simp at hv; rcases hv with rfl | rfl <;> assumption, fun _ => ⟨W.heap.size, 0, rfl, fun i hi => ?_⟩, fun h => by cases h⟩; simp only [World.cell?, hpA, if_pos]
 match i, hi with
 | 0, _ | 1, _ => rfl
theorem patPut_any (v : Value) (p : PatR) (w : World) (hp : PV w v p) :
 Calls Tryz.prog 126 #[v] w (zb1 (PatM.putOf p) w) := by
 have hp' := hp; obtain ⟨ao, no, co, rfl, ho, -⟩ := hp; obtain ⟨f, t, o, nw, s, ops⟩ := p; simp only at ho; have hb : Below w.heap.size w (w.alloc (.cells #[.int .i64 f, .int .i64 t, .int .i64 o, .int .i64 nw, .int .i64 s, .slice ao no co] 35)) := (Below.refl _ _).alloc (Nat.le_refl _) _; obtain ⟨B, hBw⟩ : ∃ B, w.heap.size = B := ⟨_, rfl⟩; have hB0 : (w.alloc (.cells #[.int .i64 f, .int .i64 t, .int .i64 o, .int .i64 nw, .int .i64 s, .slice ao no co] 35)).heap[B]? = some (.cells #[.int .i64 f, .int .i64 t, .int .i64 o, .int .i64 nw, .int .i64 s, .slice ao no co] 35 (0, 0)) := by rw [hpA, if_pos hBw.symm]
 replace hp' := hp'.later hb; replace ho := ho.later hb; obtain ⟨E, hE⟩ : ∃ E, PatM.check ⟨f, t, o, nw, s, ops⟩ = E := ⟨_, rfl⟩; have HE := LH hE; clear hE; go_enter Tryz.func126, Tryz.ntmps126; go_wp2_with fail; generalize w.alloc (.cells #[.int .i64 f, .int .i64 t, .int .i64 o, .int .i64 nw, .int .i64 s, .slice ao no co] 35) = W0 at hb hB0 hp' ho ⊢; refine (zbI _ _ _ hp').mono ?_; rintro e W1 ⟨rfl, b1⟩; rw [HE.out]; replace hB0 := (b1.block B (zax hB0)).trans hB0; replace ho := ho.later b1; replace b1 := bTh hb b1; clear hb hp' hBw W0; by_cases h0 : E = 0
 · subst h0
   have HK : Hid (PatM.putOf ⟨f, t, o, nw, s, ops⟩ = (PatM.putL ⟨f, t, o, nw, s, ops⟩, 0)) := PatM.putOf_ok HE.out; obtain ⟨hh, h2⟩ := PatM.check_parts HE.out; obtain ⟨h40, -, -, s1, s2, hg, ht⟩ := DeltaM.check_zero h2; unfold PatM.badHead at hh; simp only at hh h40 s1 s2 hg ht; have v1 : 1 ≤ f ∧ f ≤ 30 := by omega
   have v2 : 1 ≤ t ∧ t ≤ 30 := by omega
   have v3 : 0 ≤ o ∧ o ≤ 65535 := by omega
   have v4 : 0 ≤ nw ∧ nw ≤ 65535 := by omega
   obtain ⟨r0, r1, r2, r3, r4, r5, -⟩ := zak hB0; have hno := ho.len; obtain ⟨hd, hhd⟩ : ∃ hd, hd = PatM.head ⟨f, t, o, nw, s, ops⟩ := ⟨_, rfl⟩; have hb2 : Below W1.heap.size W1 (W1.alloc (.cells #[.int .i64 f, .int .i64 t, .int .i64 (o / 256), .int .i64 (o % 256), .int .i64 (nw / 256), .int .i64 (nw % 256), .int .i64 s, .int .i64 (no : Int)] 3)) := (Below.refl _ _).alloc (Nat.le_refl _) _; obtain ⟨Br, hBr⟩ : ∃ Br, W1.heap.size = Br := ⟨_, rfl⟩
   have HI : Hid (∀ k, k < 8 → (W1.alloc (.cells #[.int .i64 f, .int .i64 t, .int .i64 (o / 256), .int .i64 (o % 256), .int .i64 (nw / 256), .int .i64 (nw % 256), .int .i64 s, .int .i64 (no : Int)] 3)).cell? ⟨Br, k, none⟩ = some (.int .i64 (hd.getD k 0))) := by
    show ∀ k, _; have hblk : (W1.alloc (.cells #[.int .i64 f, .int .i64 t, .int .i64 (o / 256), .int .i64 (o % 256), .int .i64 (nw / 256), .int .i64 (nw % 256), .int .i64 s, .int .i64 (no : Int)] 3)).heap[Br]? = some (.cells #[.int .i64 f, .int .i64 t, .int .i64 (o / 256), .int .i64 (o % 256), .int .i64 (nw / 256), .int .i64 (nw % 256), .int .i64 s, .int .i64 (no : Int)] 3 (0, 0)) := by rw [hpA, if_pos hBr.symm]
    intro k hk; rw [hhd]; simp only [World.cell?, hblk, PatM.head, hno]
    match k, hk with
    | 0, _ | 1, _ | 2, _ | 3, _ | 4, _ | 5, _ | 6, _ | 7, _ => rfl
   have HBy : Hid (∀ k, k < 8 → 0 ≤ hd.getD k 0 ∧ hd.getD k 0 ≤ 255) := by
    show ∀ k, _; intro k hk; rw [hhd]; simp only [PatM.head]
    match k, hk with
    | 0, _ | 1, _ | 2, _ | 3, _ | 4, _ | 5, _ | 6, _ | 7, _ => simp; omega
   have HHd : Hid (hd.length = 8) := by show hd.length = 8; rw [hhd]; rfl
   have HPL : Hid (PatM.putL ⟨f, t, o, nw, s, ops⟩ = hd ++ PatM.encs ops) := by show _ = _; rw [hhd]; rfl
   have HO2 := LH (ho.later hb2); have HB2 := LH (bTh b1 hb2); have r5' := cell_later hb2 r5; have HG := LH hg; have HLn := LH hno; have hno40 : no ≤ 40 := by rw [← hno]; exact h40
   have HLE := LH (PatM.putL_len HE.out)
   have HBD : Hid (∀ k, (hd ++ PatM.encs (ops.take k)).length ≤ 152) := by
    show ∀ k, _; intro k; have h1 := HLE.out; have h2 : PatM.encs ops = PatM.encs (ops.take k) ++ PatM.encs (ops.drop k) := by rw [← PatM.encs_append, List.take_append_drop]
    rw [HPL.out, h2] at h1; simp only [List.length_append] at h1 ⊢; omega
   go_wp2_with fail; generalize W1.alloc (.cells #[.int .i64 f, .int .i64 t, .int .i64 (o / 256), .int .i64 (o % 256), .int .i64 (nw / 256), .int .i64 (nw % 256), .int .i64 s, .int .i64 (no : Int)] 3) = W2 at hb2 HI HO2 HB2 r5' ⊢; clear r0 r1 r2 r3 r4 r5 hh h2 hg ht h40 hhd ho b1 hno hB0; clear hBr hb2; go_loopw [5, 38] (fun out i wr => PutRel hd W2 out i wr) (fun _ i _ => 8 - (intOf i).toNat)
   case atStart => exact ⟨0, none, 0, rfl, by omega, rfl, World.ownsRow_nil _ _ _ _, Below.refl _ _⟩
   case round =>
    obtain ⟨k, a, c, rfl, hk, rfl, hown, hbw⟩ := hrel; by_cases hlt : k < 8
    · have hcell := cell_later hbw (HI.out k hlt)
      have hv := HBy.out k hlt
      have HT : Hid ((hd.take (k + 1)).map (Value.int .u8) = (hd.take k ++ [hd.getD k 0]).map (Value.int .u8)) := by
       show _ = _; rw [List.take_add_one, List.getD_eq_getElem?_getD, List.getElem?_eq_getElem (by rw [HHd.out]; exact hlt)]; simp
      generalize hd.getD k 0 = x at hcell hv HT; have hw : IntKind.u8.wrap x = x := by rw [IntKind.wrap_u8]; omega
      have hbl : Below wr.heap.size wr (wr.alloc (.cells #[.int .u8 x] 5)) := (Below.refl _ _).alloc (Nat.le_refl _) _; obtain ⟨a5, c5, W5, hrun, hown5, hg5⟩ := zbi (zaQ hown hbl) (one_lit wr x hv) (by omega) (by have := hbl.size; have := hbw.size; omega); have hb5 := (bTh hbw hbl).grown hg5 (bTh hbw hbl).size (fun g hg => (oL3 hown hg).1); have HOw := LH hown5; have HB5 := LH hb5; clear hown5 hg5 hbl hb5 hown; go_wp2_with (at_builtin; refine Lib.wpList_append_run _ rfl _ _ _ _ rfl _ _ rfl rfl _ _ hrun ?_); go_roundw
      case rel => exact ⟨k + 1, a5, c5, by go_num, by omega, rfl, by rw [HT.out]; exact HOw.out, HB5.out⟩
      case measure => simp [intOf]; omega
    · obtain rfl : k = 8 := by omega
      have r5w := cell_later hbw r5'; rw [List.take_of_length_le (by rw [HHd.out]; omega)] at hown; have HOw := LH hown; have HBw := LH hbw; clear hown hbw; go_wp2_with fail; clear r5w; go_loopw [5, 51] (fun out i wr => EncRel hd ops W2 out i wr) (fun _ i _ => no - (intOf i).toNat)
      case atStart => exact ⟨0, a, 8, c, hd, rfl, Nat.zero_le _, rfl, HHd.out, by simp [PatM.encs], by rw [HHd.out]; exact HOw.out, HBw.out⟩
      case round =>
       clear HOw HBw; obtain ⟨k, a2, n2, c2, outl, rfl, hk, rfl, hol, hou, ho2, hbw⟩ := hrel; rw [HLn.out] at hk; have HOL := LH hol; have HOU := LH hou; have hbd := HBD.out k; rw [← hou, hol] at hbd; clear hol hou; by_cases hlt : k < no
       · obtain ⟨b, off, rfl, hcs⟩ := HO2.out.cells (by omega)
         obtain ⟨va, vn, vc, q0, q1, q2, q3, -, -⟩ := hcs k hlt; replace q0 := cell_later hbw q0; replace q1 := cell_later hbw q1; replace q2 := cell_later hbw q2; have hkl : k < ops.length := by rw [HLn.out]; exact hlt
         have HT : Hid (PatM.encs (ops.take (k + 1)) = PatM.encs (ops.take k) ++ PatM.enc (ops.getD k default)) := by
          show _ = _; rw [List.take_add_one, List.getElem?_eq_getElem hkl, PatM.encs_append]; simp [PatM.encs, List.getD_eq_getElem?_getD, List.getElem?_eq_getElem hkl]
         have hg := HG.out (ops.getD k default) (by rw [List.getD_eq_getElem?_getD, List.getElem?_eq_getElem hkl]; exact List.getElem_mem hkl); generalize ops.getD k default = oo at q0 q1 q2 q3 HT hg; obtain ⟨A, L, D⟩ := oo; simp only at q0 q1 q2 q3; obtain ⟨g1, g2, g3⟩ := DeltaM.good_len hg.2; simp only at g1 g2 g3; have hDn := q3.len; obtain ⟨Bo, hBo⟩ : ∃ Bo, wr.heap.size = Bo := ⟨_, rfl⟩; have hbl : Below wr.heap.size wr (wr.alloc (.cells #[.int .i64 A, .int .i64 L, .slice va vn vc] 159)) := (Below.refl _ _).alloc (Nat.le_refl _) _
         have hst : ASt W2 Bo #[.int .i64 A, .int .i64 L, .slice va vn vc] (.slice a2 n2 c2) outl (wr.alloc (.cells #[.int .i64 A, .int .i64 L, .slice va vn vc] 159)) := by
          refine ⟨by rw [hpA, if_pos hBo.symm], zaQ ho2 hbl, fun e => ?_, bTh hbw hbl, by rw [← hBo]; exact hbw.size⟩; have := (oL3 ho2 e).2; omega
         have e1 : (wr.alloc (.cells #[.int .i64 A, .int .i64 L, .slice va vn vc] 159)).heap.size = Bo + 1 := by simp [hBo]
         by_cases hL : L = 0
         · subst hL
           obtain ⟨hform, d1, d2⟩ := PatM.form_data hg.1 rfl; simp only at d1 d2; rw [hDn] at d1 d2; have HEn : Hid (PatM.enc ⟨A, 0, D⟩ = [255, (vn : Int)] ++ D) := by show _ = _; simp [PatM.enc, hDn]
           have hw : IntKind.u8.wrap (vn : Int) = vn := by rw [IntKind.wrap_u8]; omega
           have hba : Below (wr.alloc (.cells #[.int .i64 A, .int .i64 0, .slice va vn vc] 159)).heap.size (wr.alloc (.cells #[.int .i64 A, .int .i64 0, .slice va vn vc] 159)) ((wr.alloc (.cells #[.int .i64 A, .int .i64 0, .slice va vn vc] 159)).alloc (.cells #[.int .u8 255, .int .u8 (vn : Int)] 5)) := (Below.refl _ _).alloc (Nat.le_refl _) _; have htl := two_lit (wr.alloc (.cells #[.int .i64 A, .int .i64 0, .slice va vn vc] 159)) 255 vn (by omega) (by omega); rw [e1] at htl; obtain ⟨a5, c5, W5, hrun, HS5⟩ := (hst.later hba).app htl (by omega) (by rw [HOL.out]; omega); rw [HOL.out] at hrun HS5; have q5 := q3.later HS5.out.below; obtain ⟨a7, c7, W7, hrun2, HS7⟩ := HS5.out.app q5 (by omega) (by rw [List.length_append, HOL.out]; simp only [List.length_cons, List.length_nil]; omega); have hl5 : (outl ++ [255, (vn : Int)]).length = n2 + 2 := by rw [List.length_append, HOL.out]; rfl
           rw [hl5] at hrun2 HS7; obtain ⟨d0, d1', d2'⟩ := cells_blk HS5.out.cb; clear hst hba htl HS5 q5 hbl hform hg; go_wp2_with (first | (at_builtin; refine Lib.wpList_append_run _ rfl (.tmp 58) (.tmp 63) _ _ rfl _ _ rfl rfl _ _ hrun ?_) | (at_builtin; refine Lib.wpList_append_run _ rfl (.tmp 65) (.tmp 67) _ _ rfl _ _ rfl rfl _ _ hrun2 ?_)); go_roundw
           case rel =>
            (repeat apply Exists.intro)
            refine ⟨?_, rfl⟩; refine ⟨k + 1, a7, n2 + 2 + vn, c7, outl ++ [255, (vn : Int)] ++ D, by go_num, by rw [HLn.out]; omega, rfl, ?_, ?_, HS7.out.own, HS7.out.below⟩
            · rw [List.length_append, hl5, hDn]
            · rw [HT.out, HEn.out, HOU.out]
              simp
           case measure => simp [intOf]; omega
         · have hLb : (L == 0) = false := by simp [hL]
           have hw1 : IntKind.u8.wrap A = A := by rw [IntKind.wrap_u8]; omega
           have hw2 : IntKind.u8.wrap L = L := by rw [IntKind.wrap_u8]; omega
           have HEn : Hid (PatM.enc ⟨A, L, D⟩ = [A, L]) := by show _ = _; simp [PatM.enc, hL]
           have hba : Below (wr.alloc (.cells #[.int .i64 A, .int .i64 L, .slice va vn vc] 159)).heap.size (wr.alloc (.cells #[.int .i64 A, .int .i64 L, .slice va vn vc] 159)) ((wr.alloc (.cells #[.int .i64 A, .int .i64 L, .slice va vn vc] 159)).alloc (.cells #[.int .u8 A, .int .u8 L] 5)) := (Below.refl _ _).alloc (Nat.le_refl _) _; have htl := two_lit (wr.alloc (.cells #[.int .i64 A, .int .i64 L, .slice va vn vc] 159)) A L (by omega) (by omega); rw [e1] at htl; obtain ⟨a5, c5, W5, hrun, HS5⟩ := (hst.later hba).app htl (by omega) (by rw [HOL.out]; omega); rw [HOL.out] at hrun HS5; clear hst hba htl hbl hg; go_wp2_with (at_builtin; refine Lib.wpList_append_run _ rfl (.tmp 69) (.tmp 76) _ _ rfl _ _ rfl rfl _ _ hrun ?_); go_roundw
           case rel =>
            (repeat apply Exists.intro)
            refine ⟨?_, rfl⟩; refine ⟨k + 1, a5, n2 + 2, c5, outl ++ [A, L], by go_num, by rw [HLn.out]; omega, rfl, ?_, ?_, HS5.out.own, HS5.out.below⟩
            · rw [List.length_append, HOL.out]; rfl
            · rw [HT.out, HEn.out, HOU.out]
              simp
           case measure => simp [intOf]; omega
       · obtain rfl : k = no := by omega
         have HEq : Hid (outl = PatM.putL ⟨f, t, o, nw, s, ops⟩) := by
          show outl = _; rw [HPL.out, HOU.out, List.take_of_length_le (by rw [HLn.out]; omega)]
         have HBt : Hid (∀ v ∈ outl, 0 ≤ v ∧ v ≤ 255) := by
          show ∀ v ∈ outl, _; rw [HEq.out]; exact PatM.putL_bytes HE.out (OS.bytes HO2.out)
         have HOw2 := LH ho2; have HBw2 := LH (bTh HB2.out hbw); clear ho2 hbw; go_wp2_with fail; go_ret2; refine ⟨a2, n2, c2, zbd (by rw [HK.out]), ?_, HBw2.out⟩; rw [HK.out]; simp only; rw [← HEq.out]; have := HOw2.out; rw [HOL.out] at this; exact BS.of_own this HBt.out
 · have hnb : (E != 0) = true := by simp [h0]
   have HK : Hid (PatM.putOf ⟨f, t, o, nw, s, ops⟩ = ([], E)) := by
    show _ = _; rw [PatM.putOf_bad (by rw [HE.out]; exact h0), HE.out]
   go_wp2_with fail; go_ret2; exact ⟨none, 0, 0, zbd (by rw [HK.out]), by rw [HK.out]; exact BS.nil_ _, b1⟩
theorem seqChunk_any (a : Option Addr) (n c : Nat) (w : World) :
 Calls Tryz.prog 128 #[.slice a n c, .int .i64 16] w fun e w' => e = .returned (.func (.func 177) #[] #[.pointer (some ⟨w.heap.size, 0, none⟩), .pointer (some ⟨w.heap.size + 1, 0, none⟩)]) ∧ w' = (w.alloc (.cells #[.slice a n c] 22)).alloc (.cells #[.int .i64 16] 3) := by
 have hmf : ∀ (fn : Fn) (first cap : Array Value) (w : World), (Instr.makeFunc fn first cap).run Tryz.prog w = .ok (.func fn first cap) w := fun _ _ _ _ => rfl; go_enter Tryz.func128, Tryz.ntmps128; go_wp2_with fail; go_ret; exact ⟨rfl, rfl⟩
theorem collect_any (Bs Bn : Nat) (a : Option Addr) (len cap : Nat) (hlen : len ≤ cap) (hcap : len ≤ 1000000) (w : World) (hBs : Bs < w.heap.size) (hBn : Bn < w.heap.size)
 (hcs : w.cell? ⟨Bs, 0, none⟩ = some (.slice a len cap)) (hcn : w.cell? ⟨Bn, 0, none⟩ = some (.int .i64 16)) :
 Calls Tryz.prog 127 #[.func (.func 177) #[] #[.pointer (some ⟨Bs, 0, none⟩), .pointer (some ⟨Bn, 0, none⟩)]] w fun e W' => ∃ v, e = .returned v ∧ W'.ownsRow w.heap.size 22 1 v ((len + 15) / 16) ((zaY a len ((len + 15) / 16)).map HeadV.v) ∧ Below w.heap.size w W' := by
 go_enter Tryz.func127, Tryz.ntmps127; go_wp2_with fail; refine (appendSeq_any Bs Bn a len cap hlen hcap _ hBs hBn hcs hcn).mono ?_; rintro e W' ⟨v, rfl, ho, hb⟩; have HO := LH ho; clear ho; go_wp2_with fail; go_ret; exact ⟨v, rfl, HO.out, hb⟩
theorem lt_blkO {W : World} {g : Nat} {o : Obj} (h : W.heap[g]? = some o) : g < W.heap.size := by
 rcases Nat.lt_or_ge g W.heap.size with hlt | hge
 · exact hlt
 · rw [Array.getElem?_eq_none hge] at h; cases h
theorem BS.part {w : World} {a : Option Addr} {n c : Nat} {l : List Int} (h : BS w a n c l) {k : Nat} (hk : k * 16 < n) : BS w (a.map (·.add (k * 16))) (min 16 (n - k * 16)) (min 16 (n - k * 16)) ((l.drop (k * 16)).take 16) := by
 have h1 := h.len; have h2 := h.le; have h3 := h.max; obtain ⟨b, off, rfl, hc⟩ := h.cells (by omega); refine ⟨by simp; omega, Nat.le_refl _, by omega, fun x hx => h.bytes x (List.mem_of_mem_drop (List.mem_of_mem_take hx)), fun hp => ?_, fun he => by cases he⟩; refine ⟨b, off + k * 16, by rw [Option.map_some, addr_add], fun i hi => ?_⟩; rw [Nat.add_assoc, hc (k * 16 + i) (by omega), List.getElem?_take_of_lt (by omega), List.getElem?_drop]
def ChunksRel (w1 : World) (fr tv : Int) (o : List Int) (out i : Value) (wr : World) : Prop :=
 ∃ k : Nat, i = .int .i64 k ∧ k ≤ ChunkM.parts o ∧ ChSt w1 w1.heap.size out ((ChunkM.cutL fr tv o).take k) wr ∧ Below w1.heap.size w1 wr
theorem two_new (w : World) (v1 v2 : Value) (t1 t2 : Nat) : ((w.alloc (.cells #[v1] t1)).alloc (.cells #[v2] t2)).cell? ⟨w.heap.size, 0, none⟩ = some v1 ∧ ((w.alloc (.cells #[v1] t1)).alloc (.cells #[v2] t2)).cell? ⟨w.heap.size + 1, 0, none⟩ = some v2 := by
 have e1 : (w.alloc (.cells #[v1] t1)).heap.size = w.heap.size + 1 := by simp
 refine ⟨?_, ?_⟩
 · simp only [World.cell?, hpA]
   rw [if_neg (by rw [e1]; omega), if_pos trivial]
   rfl
 · simp only [World.cell?, hpA]
   rw [if_pos e1.symm]
   rfl
theorem chunksR_any (v : Value) (p : PatR) (w : World) (hv : PV w v p) :
 Calls Tryz.prog 68 #[v] w (GivesCs p w) := by
 obtain ⟨ap, np, cp, rfl, hop, i1, i2, i3, i4, i5⟩ := hv; obtain ⟨f, t, od, nw, sz, ops⟩ := p; simp only at hop i1 i2 i3 i4 i5 ⊢; have hb0 : Below w.heap.size w (w.alloc (.cells #[.int .i64 f, .int .i64 t, .int .i64 od, .int .i64 nw, .int .i64 sz, .slice ap np cp] 35)) := (Below.refl _ _).alloc (Nat.le_refl _) _; obtain ⟨B, hBB⟩ : ∃ B, w.heap.size = B := ⟨_, rfl⟩; have hblk : (w.alloc (.cells #[.int .i64 f, .int .i64 t, .int .i64 od, .int .i64 nw, .int .i64 sz, .slice ap np cp] 35)).heap[B]? = some (.cells #[.int .i64 f, .int .i64 t, .int .i64 od, .int .i64 nw, .int .i64 sz, .slice ap np cp] 35 (0, 0)) := by rw [hpA, if_pos hBB.symm]
 have HPV : Hid (PV (w.alloc (.cells #[.int .i64 f, .int .i64 t, .int .i64 od, .int .i64 nw, .int .i64 sz, .slice ap np cp] 35)) (.agg #[.int .i64 f, .int .i64 t, .int .i64 od, .int .i64 nw, .int .i64 sz, .slice ap np cp]) ⟨f, t, od, nw, sz, ops⟩) := ⟨ap, np, cp, rfl, hop.later hb0, i1, i2, i3, i4, i5⟩; have HB0 := LH hb0; have HBLK := LH hblk; have HI : Hid (I64 f ∧ I64 t) := ⟨i1, i2⟩; clear hop i1 i2 i3 i4 i5 hb0 hblk; go_enter Tryz.func68, Tryz.ntmps68; go_wp2_with fail; refine (patPut_any _ _ _ HPV.out).mono ?_; rintro e W1 ⟨a1, n1, c1, rfl, s1, b1⟩; by_cases hc : PatM.check ⟨f, t, od, nw, sz, ops⟩ = 0
 · rw [PatM.putOf_ok hc] at s1 ⊢
   simp only at s1 ⊢; have hpl := PatM.putL_len hc; have hs1l := s1.len; have HB1 := LH (bTh HB0.out b1); have HBLK1 := LH ((b1.block B (lt_blkO HBLK.out)).trans HBLK.out); have HC := LH hc; clear b1 HB0 HBLK HPV hc; go_wp2_with fail; refine (packed_any a1 n1 c1 _ _ s1 (by omega)).mono ?_; rintro e W2 ⟨o, a2, n2, c2, hpk, rfl, s2, b2⟩; have hol := ChunkM.packed_len HC.out hpk; have hop := ChunkM.packed_parts HC.out hpk; have hs2l := s2.len; have HB2 := LH (bTh HB1.out b2); have HBLK2 := LH ((b2.block B (lt_blkO HBLK1.out)).trans HBLK1.out); have HPK := LH hpk; have HS2 := LH s2; have hle2 := s2.le; clear s1 b2 HB1 HBLK1 hpk s2 hpl hs1l; go_wp2_with fail; refine (seqChunk_any a2 n2 c2 _).mono ?_; rintro e W3 ⟨rfl, hW3⟩; have hb3 : Below W2.heap.size W2 W3 := by rw [hW3]; exact ((Below.refl _ _).alloc (Nat.le_refl _) _).alloc (by simp) _
   have hk1 : W3.cell? ⟨W2.heap.size, 0, none⟩ = some (.slice a2 n2 c2) := by rw [hW3]; exact (two_new W2 _ _ _ _).1
   have hk2 : W3.cell? ⟨W2.heap.size + 1, 0, none⟩ = some (.int .i64 16) := by rw [hW3]; exact (two_new W2 _ _ _ _).2
   have hsz : W3.heap.size = W2.heap.size + 2 := by rw [hW3]; simp
   have HCol := LH (collect_any W2.heap.size (W2.heap.size + 1) a2 n2 c2 hle2 (by omega) W3 (by omega) (by omega) hk1 hk2); have HB3 := LH (bTh HB2.out hb3); have HBLK3 := LH ((hb3.block B (lt_blkO HBLK2.out)).trans HBLK2.out); have HS3 := LH hb3; clear hk1 hk2 hsz hW3 hb3 HB2 HBLK2; go_wp2_with fail; refine HCol.out.mono ?_; rintro e W4 ⟨vr, rfl, ho4, b4⟩; have hK : (n2 + 15) / 16 = ChunkM.parts o := by unfold ChunkM.parts; rw [hs2l]
   rw [hK] at ho4; obtain ⟨K, hKK⟩ : ∃ K, ChunkM.parts o = K := ⟨_, rfl⟩; have HKK := LH hKK; rw [hKK] at ho4 hop
   obtain ⟨ar, cr, hvr⟩ : ∃ ar cr, vr = .slice ar K cr := by
    rcases ho4.2 with ⟨q1, q2⟩ | ⟨g, cap, cur, q1, _⟩
    · exact ⟨none, 0, by rw [q1, q2]⟩
    · exact ⟨_, _, q1⟩
   subst hvr; have HB4 := LH (bTh HB3.out b4); have HO4 := LH ho4; obtain ⟨k0, k1, -⟩ := zak ((b4.block B (lt_blkO HBLK3.out)).trans HBLK3.out); have HPC : Hid (∀ W, Below W4.heap.size W4 W → W.cell? ⟨B, 0, none⟩ = some (.int .i64 f) ∧ W.cell? ⟨B, 1, none⟩ = some (.int .i64 t)) := fun W h => ⟨cell_later h k0, cell_later h k1⟩; have HS4 := LH ((HS2.out.later HS3.out).later b4); clear ho4 b4 HB3 HBLK3 HCol HS2 HS3 k0 k1; go_wp2_with fail; go_loopw [7, 27] (fun out i wr => ChunksRel W4 f t o out i wr) (fun _ i _ => K - (intOf i).toNat)
   case atStart => exact ⟨0, rfl, Nat.zero_le _, by rw [List.take_zero]; exact ChSt.start _ _ _, Below.refl _ _⟩
   case round =>
    obtain ⟨k, rfl, hk, hch, hB⟩ := hrel; rw [HKK.out] at hk; have HCH := LH hch; have HB := LH hB; clear hch hB; by_cases hlt : k < K
    · obtain ⟨g, cap, hv, -, hgl⟩ := HO4.out.form (by omega)
      simp only [Value.slice.injEq, true_and] at hv; obtain ⟨rfl, rfl⟩ := hv; have e0 := HO4.out.cellAt k (by omega)
      have hpk : ((zaY a2 n2 K).map HeadV.v)[k]? = some (.slice (a2.map (·.add (k * 16))) (min 16 (n2 - k * 16)) (min 16 (n2 - k * 16))) := by
       unfold zaY; rw [List.map_map, List.getElem?_map, List.getElem?_range hlt]
       rfl
      rw [hpk] at e0; have e1 := cell_later HB.out e0; have hk16 : k * 16 < n2 := by have := HKK.out; unfold ChunkM.parts at this; omega
      have hbs := HS4.out.part hk16; obtain ⟨E, hE⟩ : ∃ E, min 16 (n2 - k * 16) = E := ⟨_, rfl⟩; rw [hE] at e1 hbs; generalize a2.map (·.add (k * 16)) = A2 at e1 hbs; obtain ⟨k0, k1⟩ := HPC.out _ HB.out; have hln : ((ChunkM.cutL f t o).take k).length = k := by rw [List.length_take, ChunkM.cutL_length, HKK.out]; omega
      have hnth : ChunkM.nth f t o k = ⟨f, t, k, K, (o.drop (k * 16)).take 16⟩ := by unfold ChunkM.nth; rw [HKK.out]
      obtain ⟨g5, cap5, W5, hrun, HS5, -⟩ := HCH.out.app (ChunkM.nth f t o k) (a := A2) (n := E) (c := E) (by rw [hnth]; exact hbs) (by rw [hnth]; exact ⟨HI.out.1, HI.out.2, by unfold I64; simp only; omega, by unfold I64; simp only; omega⟩) (by omega) HB.out.size HB.out rfl; rw [hnth] at hrun; simp only at hrun; rw [hln] at hrun HS5
      have HT : Hid ((ChunkM.cutL f t o).take (k + 1) = (ChunkM.cutL f t o).take k ++ [ChunkM.nth f t o k]) := by
       show _ = _; rw [List.take_add_one]
       congr 1
       have hkl : k < (ChunkM.cutL f t o).length := by rw [ChunkM.cutL_length, HKK.out]; exact hlt
       have := ChunkM.cutL_get f t o (k := k) (by rw [HKK.out]; exact hlt); rw [List.getD_eq_getElem?_getD, List.getElem?_eq_getElem hkl, Option.getD_some] at this; rw [List.getElem?_eq_getElem hkl, this]
       rfl
      clear e0 hpk hbs hnth hln; go_wp2_with (at_builtin; refine Lib.wpList_append_run _ rfl _ _ _ _ rfl _ _ rfl rfl _ _ hrun ?_); go_roundw
      case rel => exact ⟨k + 1, by go_num, by rw [HKK.out]; omega, by rw [HT.out]; exact HS5.out.1, HS5.out.2⟩
      case measure => simp [intOf]; omega
    · have hkK : k = K := by omega
      subst hkK; have hch := HCH.out; rw [List.take_of_length_le (by rw [ChunkM.cutL_length, HKK.out]; exact Nat.le_refl _)] at hch; obtain ⟨a9, c9, h9⟩ := hch.form; subst h9; have HCS := LH (hch.cs rfl HB.out); have HR : Hid (ChunkM.CutIs ⟨f, t, od, nw, sz, ops⟩ (ChunkM.cutL f t o) 0) := .inr ⟨HC.out, o, HPK.out, rfl, rfl⟩; have hb9 := bTh HB4.out HB.out; clear hch HCH; go_wp2_with fail; go_ret2; exact ⟨_, 0, a9, _, c9, HR.out, rfl, HCS.out, hb9⟩
 · rw [PatM.putOf_bad hc] at s1 ⊢
   obtain ⟨E, hE⟩ : ∃ E, PatM.check ⟨f, t, od, nw, sz, ops⟩ = E := ⟨_, rfl⟩; simp only [hE] at hc ⊢; have t0 : (E != 0) = true := by simp [hc]
   have hb2 := bTh HB0.out b1; have HR : Hid (ChunkM.CutIs ⟨f, t, od, nw, sz, ops⟩ [] E) := .inl ⟨by rw [hE]; exact hc, rfl, hE.symm⟩; clear s1 hE; go_wp2_with fail; go_ret2; exact ⟨[], E, none, 0, 0, HR.out, rfl, CS.nil_ _, hb2⟩
theorem put_dev (h : DevH) (d : DevR) (h' : DevH) (d' : DevR) : putAt (dvC h d) 0 (dvC h' d').toList = dvC h' d' := by kernel_rfl
def InsCut (w : World) (P1 : Nat) (h0 : DevH) (s3 s4 : Value) (W : World) : Prop :=
 ∃ P3 ap np cp lo hi lo' hi', s3 = .pointer (some ⟨P3, 0, none⟩) ∧ s4 = .int .i64 0 ∧ MH w [(P3, jbC ap np cp patL, 35), (P1, dvC h0 Inst.d0, 37)] [(lo', hi', fun V => OS V ap np cp patL.ops), (lo, hi, fun V => DH V h0 Inst.d0)] W
def InsCut6 (w : World) (P1 P3 : Nat) (C3 : Array Value) (s2 : Value) (W : World) : Prop :=
 ∃ h1 lo hi, s2 = .int .i64 0 ∧ MH w [(P3, C3, 35), (P1, dvC h1 Inst.d1, 37)] [(lo, hi, fun V => DH V h1 Inst.d1)] W
theorem installed_any (w : World) (hM : MaxCell w) : Calls Tryz.prog 13 #[] w fun e w' => e = .returned (.bool true) ∧ Below w.heap.size w w' := by
 have HCs : Hid (∀ ap np cp W, OS W ap np cp patL.ops → Calls Tryz.prog 68 #[.agg (jbC ap np cp patL)] W fun e W' => ∃ al cl, e = .returned (.tuple #[.slice al 1 cl, .int .i64 0]) ∧ CS W' al 1 cl [Inst.chL] ∧ Below W.heap.size W W') := fun ap np cp W ho => by
  refine (chunksR_any (.agg (jbC ap np cp patL)) patL W ⟨ap, np, cp, rfl, ho, by unfold I64; decide, by unfold I64; decide, by unfold I64; decide, by unfold I64; decide, by unfold I64; decide⟩).mono ?_; rintro e W' ⟨cs, err, a, n, c, hc, rfl, hs, hb⟩; obtain ⟨rfl, rfl⟩ := Inst.cut_patL hc; obtain rfl : n = 1 := hs.len.symm; exact ⟨a, c, rfl, hs, hb⟩
 have HHe : Hid (∀ h xa xm xc W, DH W h Inst.d0 → BS W xa xm xc Inst.packL → Calls Tryz.prog 19 #[.agg (dvC h Inst.d0), .agg #[.int .i64 1, .int .i64 2, .int .i64 0, .int .i64 1, .slice xa xm xc]] W (GDv (Inst.d1, 0) W)) := fun h xa xm xc W hd hx => by
  have := hearD_any h Inst.d0 Inst.chL xa xm xc W hd ⟨xa, xm, xc, rfl, hx, by unfold I64; decide, by unfold I64; decide, by unfold I64; decide, by unfold I64; decide⟩; rw [Inst.st1] at this; exact this
 have HOp : Hid (∀ h W, DH W h Inst.d1 → Calls Tryz.prog 20 #[.agg (dvC h Inst.d1)] W (GDv (Inst.d2, 0) W)) := fun h W hd => by
  have := openD_any h Inst.d1 W hd; rw [Inst.st2] at this; exact this
 have HW1 : Hid (∀ h W, DH W h Inst.d2 → Calls Tryz.prog 21 #[.agg (dvC h Inst.d2), .bool false, .int .i64 0] W (GDv (Inst.d3, 0) W)) := fun h W hd => by
  have := writeD_any h Inst.d2 false 0 W hd; rw [Inst.st3] at this; exact this
 have HFL : Hid (∀ h W, DH W h Inst.d3 → Calls Tryz.prog 22 #[.agg (dvC h Inst.d3), .bool false] W (GDv (DevM.noDev, 5) W)) := fun h W hd => by
  have := zb2 h Inst.d3 false W hd; rw [Inst.stL] at this; exact this
 have HW2 : Hid (∀ h W, DH W h Inst.d3 → Calls Tryz.prog 21 #[.agg (dvC h Inst.d3), .bool false, .int .i64 0] W (GDv (Inst.d4, 0) W)) := fun h W hd => by
  have := writeD_any h Inst.d3 false 0 W hd; rw [Inst.st4] at this; exact this
 have HFi : Hid (∀ h W, DH W h Inst.d4 → Calls Tryz.prog 22 #[.agg (dvC h Inst.d4), .bool false] W (GDv (Inst.d5, 0) W)) := fun h W hd => by
  have := zb2 h Inst.d4 false W hd; rw [Inst.st5] at this; exact this
 have HCr : Hid (∀ h W, DH W h Inst.d5 → Calls Tryz.prog 24 #[.agg (dvC h Inst.d5)] W (GDv (Inst.d6, 0) W)) := fun h W hd => by
  have := crashD_any h Inst.d5 W hd; rw [Inst.st6] at this; exact this
 have HBo : Hid (∀ h W, DH W h Inst.d6 → Calls Tryz.prog 25 #[.agg (dvC h Inst.d6)] W (GDv (Inst.d7, 0) W)) := fun h W hd => by
  have := bootD_any h Inst.d6 W hd; rw [Inst.st7] at this; exact this
 have HCo : Hid (∀ h W, DH W h Inst.d7 → Calls Tryz.prog 23 #[.agg (dvC h Inst.d7)] W (GDv (Inst.d8, 0) W)) := fun h W hd => by
  have := confirmD_any h Inst.d7 W hd; rw [Inst.st8] at this; exact this
 have HIm := LH (fun W => images_any W)
 have HNw : Hid (∀ a c W, BS W a 8 c Inst.im0 → Calls Tryz.prog 11 #[.slice a 8 c] W (GDv (Inst.d0, 0) W)) := fun a c W hb => by
  have := newD_any a 8 c Inst.im0 W hb
  rwa [Inst.st0] at this
 have HMd := LH (fun a0 a1 c0 c1 W => madeL_any a0 a1 c0 c1 W); have HMx := LH hM; clear hM; have HS := LH (MH.of (MS.start w)); go_enter Tryz.func13, Tryz.ntmps13; go_wp2_with fail; refine (HIm.out _).mono ?_; rintro e W1 ⟨B, A0, A1, A2, rfl, hB, b0, b1, -, hb⟩; replace HS := LH (HS.out.later hb); clear hb; have cB := cAt (k := 0) (v := .slice A0 8 8) hB rfl; go_wp2_with fail; clear cB; refine (HNw.out _ _ _ b0).mono ?_; rintro e W2 ⟨h0, rfl, hb, hn⟩; replace HS := LH (HS.out.gain hb hn); clear hb hn b0 b1 hB; unfold devV
 try simp only
 obtain ⟨P1, hP1⟩ : ∃ P, W2.heap.size = P := ⟨_, rfl⟩; replace HS := LH (HS.out.alloc hP1 (dvC h0 Inst.d0) 37); go_upto_region 2 with ((with_reducible show wpList _ _ _ _ _ _); refine wSN rfl 37 (.tmp 1) (.tmp 20) rfl P1 (dvC h0 Inst.d0) rfl rfl 37 _ ?_ ?_ ?_ ?_ ?_; exact hP1.symm; exact (sDv _ _); exact (zat _ _); exact (oDv _ _)); refine gnH HS.out (fun V1 HS1 => ?_); replace HS := LH HS1; clear HS1 hP1; go_cut [3, 4] (fun s3 s4 wx => InsCut w P1 h0 s3 s4 wx)
 case first =>
  replace HS := LH HS.out.drew; refine wp_region_way (S := MS w [(P1, dvC h0 Inst.d0, 37)] [] []) (.fork 0 (.one 1 (.one 2 (.fork 3 (.one 4 (.one 5 (.fork 6 (.one 7 (.one 8 (.one 9 (.call 10 (.call 11 (.one 12 .done)))))) 10 (.call 6 (.one 7 (.one 8 (.one 9 (.call 11 (.one 12 .done))))))))) 10 (.call 3 (.one 4 (.one 5 (.call 6 (.one 7 (.one 8 (.one 9 (.call 11 (.one 12 .done)))))))))))) 10 (.call 0 (.one 1 (.one 2 (.call 3 (.one 4 (.one 5 (.call 6 (.one 7 (.one 8 (.one 9 (.call 11 (.one 12 .done))))))))))))) (by kernel_rfl) (by kernel_rfl) HS.out.ms ?_; simp only [laid, Array.getD_eq_getD_getElem?, List.getElem?_toArray, List.getElem?_cons_zero, List.getElem?_cons_succ, Option.getD_some]; refine gnY (fun V => MH w [(P1, dvC h0 Inst.d0, 37)] [(W1.heap.size, W2.heap.size, fun V => DH V h0 Inst.d0)] V) HS.out (fun V2 HS1 => ?_); replace HS := LH HS1; clear HS1; refine way_fork ?_ ?_
  · refine yCa (by rfl) (fun K hK => ?_)
    go_simp; go_at_call 66; with_reducible refine (HIm.out _).mono ?_
    rintro e W101 ⟨B0, A00, A10, A20, rfl, hB, b0, b1, hlo, hb⟩; replace HS := LH (HS.out.block hb hB hlo); clear hb hB hlo; have X0 := LH b0; clear b0 b1
    try go_wp2_with fail
    refine hK.out _ _ (MS w [(B0, #[.slice A00 8 8, .slice A10 9 9, .slice A20 11 11], 22), (P1, dvC h0 Inst.d0, 37)] [] []) (fun _ h => h.sub (by repeat (first | exact List.Sublist.refl _ | apply List.Sublist.cons_cons | apply List.Sublist.cons))) (HS.out.ms.sub (by repeat (first | exact List.Sublist.refl _ | apply List.Sublist.cons_cons | apply List.Sublist.cons))) ?_; clear hK K
    try simp only [Act.put, sA, sB, sC]
    refine ySt ?_ (by rfl) (fun W9 hW9 => ?_) ?_; rotate_left
    · (go_simp <;> with_reducible rfl)
    simp only [Act.put, sA, sB, sC]; refine ySt ?_ (by rfl) (fun W9 hW9 => ?_) ?_; rotate_left
    · have cB := cAt (k := 0) (v := .slice A00 8 8) (hW9.get 0 rfl) rfl
      try simp only at cB
      (go_simp <;> with_reducible rfl)
    simp only [Act.put, sA, sB, sC]; refine way_fork ?_ ?_
    · refine yCa (by rfl) (fun K hK => ?_)
      go_simp; go_at_call 66; with_reducible refine (HIm.out _).mono ?_
      rintro e W102 ⟨B1, A01, A11, A21, rfl, hB, b0, b1, hlo, hb⟩; replace HS := LH (HS.out.block hb hB hlo); replace X0 := LH (X0.out.later hb); clear hb hB hlo; have X1 := LH b1; clear b0 b1
      try go_wp2_with fail
      refine hK.out _ _ (MS w [(B1, #[.slice A01 8 8, .slice A11 9 9, .slice A21 11 11], 22), (B0, #[.slice A00 8 8, .slice A10 9 9, .slice A20 11 11], 22), (P1, dvC h0 Inst.d0, 37)] [] []) (fun _ h => h.sub (by repeat (first | exact List.Sublist.refl _ | apply List.Sublist.cons_cons | apply List.Sublist.cons))) (HS.out.ms.sub (by repeat (first | exact List.Sublist.refl _ | apply List.Sublist.cons_cons | apply List.Sublist.cons))) ?_; clear hK K
      try simp only [Act.put, sA, sB, sC]
      refine ySt ?_ (by rfl) (fun W9 hW9 => ?_) ?_; rotate_left
      · (go_simp <;> with_reducible rfl)
      simp only [Act.put, sA, sB, sC]; refine ySt ?_ (by rfl) (fun W9 hW9 => ?_) ?_; rotate_left
      · have cB := cAt (k := 1) (v := .slice A11 9 9) (hW9.get 0 rfl) rfl
        try simp only at cB
        (go_simp <;> with_reducible rfl)
      simp only [Act.put, sA, sB, sC]; refine way_fork ?_ ?_
      · refine yCa (by rfl) (fun K hK => ?_)
        go_simp; go_at_call 67; with_reducible refine (HMd.out _ _ _ _ _ X0.out X1.out (HMx.out.later HS.out.below)).mono ?_
        rintro e W103 ⟨ap, np, cp, rfl, hb, hn⟩; replace HS := LH (HS.out.gain hb hn); clear hb hn X0 X1
        try go_wp2_with fail
        refine hK.out _ _ (MS w [(B1, #[.slice A01 8 8, .slice A11 9 9, .slice A21 11 11], 22), (B0, #[.slice A00 8 8, .slice A10 9 9, .slice A20 11 11], 22), (P1, dvC h0 Inst.d0, 37)] [] []) (fun _ h => h) (HS.out.ms.sub (by repeat (first | exact List.Sublist.refl _ | apply List.Sublist.cons_cons | apply List.Sublist.cons))) ?_; clear hK K
        try simp only [Act.put, sA, sB, sC]
        refine ySt ?_ (by rfl) (fun W9 hW9 => ?_) ?_; rotate_left
        · (go_simp <;> with_reducible rfl)
        simp only [Act.put, sA, sB, sC]; refine ySt ?_ (by rfl) (fun W9 hW9 => ?_) ?_; rotate_left
        · (go_simp <;> with_reducible rfl)
        simp only [Act.put, sA, sB, sC]; refine ySt ?_ (by rfl) (fun W9 hW9 => ?_) ?_; rotate_left
        · (go_simp <;> with_reducible rfl)
        simp only [Act.put, sA, sB, sC]; refine yCa (by rfl) (fun K hK => ?_); go_simp; obtain ⟨P3, hP3⟩ : ∃ P, W103.heap.size = P := ⟨_, rfl⟩; replace HS := LH (HS.out.alloc hP3 zPat 35); have hba : Below W103.heap.size W103 (W103.alloc (.cells zPat 35)) := (Below.refl _ _).alloc (Nat.le_refl _) _; clear hba
        try rw [hP3]
        refine hK.out _ _ (MS w [(B1, #[.slice A01 8 8, .slice A11 9 9, .slice A21 11 11], 22), (B0, #[.slice A00 8 8, .slice A10 9 9, .slice A20 11 11], 22), (P1, dvC h0 Inst.d0, 37)] [] []) (fun _ h => h) (HS.out.ms.sub (by repeat (first | exact List.Sublist.refl _ | apply List.Sublist.cons_cons | apply List.Sublist.cons))) ?_; clear hK K
        try simp only [Act.put, sA, sB, sC]
        refine gnY (fun V => MH w [(P3, zPat, 35), (B1, #[.slice A01 8 8, .slice A11 9 9, .slice A21 11 11], 22), (B0, #[.slice A00 8 8, .slice A10 9 9, .slice A20 11 11], 22), (P1, dvC h0 Inst.d0, 37)] [(W102.heap.size, W103.heap.size, fun V => OS V ap np cp patL.ops), (W1.heap.size, W2.heap.size, fun V => DH V h0 Inst.d0)] V) HS.out (fun V104 HS1 => ?_); replace HS := LH HS1; clear HS1 hP3; have HS2 := LH (HS.out.cells 0 rfl (put_zpat ap np cp patL)); refine yCa (by rfl) (fun K hK => ?_); refine wp_store_mid 35 (.tmp 3) (.tmp 30) rfl P3 0 (jbC ap np cp patL) rfl rfl (HS.out.ms.there 0 rfl (by show 6 ≤ 6; decide)) (sJb _ _ _ _) (zbg _ _ _ _) ?_; refine hK.out _ _ (MS w [(B1, #[.slice A01 8 8, .slice A11 9 9, .slice A21 11 11], 22), (B0, #[.slice A00 8 8, .slice A10 9 9, .slice A20 11 11], 22), (P1, dvC h0 Inst.d0, 37)] [] []) (fun _ h => h) (HS2.out.ms.sub (by repeat (first | exact List.Sublist.refl _ | apply List.Sublist.cons_cons | apply List.Sublist.cons))) ?_; clear hK K
        try simp only [Act.put]
        refine ySt ?_ (by rfl) (fun W9 hW9 => ?_) ?_; rotate_left
        · (go_simp <;> with_reducible rfl)
        simp only [Act.put, sA, sB, sC]; refine way_end ?_; go_wp2_with fail; go_meet; exact ⟨P3, ap, np, cp, _, _, _, _, rfl, rfl, HS2.out.subL (by repeat (first | exact List.Sublist.refl _ | apply List.Sublist.cons_cons | apply List.Sublist.cons))⟩
      · refine yCa (by rfl) (fun K hK => ?_)
        go_simp; obtain ⟨P3, hP3⟩ : ∃ P, W102.heap.size = P := ⟨_, rfl⟩; replace HS := LH (HS.out.alloc hP3 zPat 35); have hba : Below W102.heap.size W102 (W102.alloc (.cells zPat 35)) := (Below.refl _ _).alloc (Nat.le_refl _) _; replace X0 := LH (X0.out.later hba); replace X1 := LH (X1.out.later hba); clear hba
        try rw [hP3]
        refine hK.out _ _ (MS w [(B1, #[.slice A01 8 8, .slice A11 9 9, .slice A21 11 11], 22), (B0, #[.slice A00 8 8, .slice A10 9 9, .slice A20 11 11], 22), (P1, dvC h0 Inst.d0, 37)] [] []) (fun _ h => h) (HS.out.ms.sub (by repeat (first | exact List.Sublist.refl _ | apply List.Sublist.cons_cons | apply List.Sublist.cons))) ?_; clear hK K
        try simp only [Act.put, sA, sB, sC]
        refine gnY (fun V => MH w [(P3, zPat, 35), (B1, #[.slice A01 8 8, .slice A11 9 9, .slice A21 11 11], 22), (B0, #[.slice A00 8 8, .slice A10 9 9, .slice A20 11 11], 22), (P1, dvC h0 Inst.d0, 37)] [(W1.heap.size, W2.heap.size, fun V => DH V h0 Inst.d0)] V ∧ BS V A00 8 8 Inst.im0 ∧ BS V A11 9 9 Inst.im1) ⟨HS.out, X0.out, X1.out⟩ (fun V105 HX => ?_); obtain ⟨HS1, nX0, nX1⟩ := HX; replace HS := LH HS1; clear HS1 hP3; replace X0 := LH nX0; clear nX0; replace X1 := LH nX1; clear nX1; refine yCa (by rfl) (fun K hK => ?_); go_simp; go_at_call 67; with_reducible refine (HMd.out _ _ _ _ _ X0.out X1.out (HMx.out.later HS.out.below)).mono ?_
        rintro e W106 ⟨ap, np, cp, rfl, hb, hn⟩; replace HS := LH (HS.out.gain hb hn); clear hb hn X0 X1
        try go_wp2_with fail
        refine hK.out _ _ (MS w [(B1, #[.slice A01 8 8, .slice A11 9 9, .slice A21 11 11], 22), (B0, #[.slice A00 8 8, .slice A10 9 9, .slice A20 11 11], 22), (P1, dvC h0 Inst.d0, 37)] [] []) (fun _ h => h) (HS.out.ms.sub (by repeat (first | exact List.Sublist.refl _ | apply List.Sublist.cons_cons | apply List.Sublist.cons))) ?_; clear hK K
        try simp only [Act.put, sA, sB, sC]
        refine ySt ?_ (by rfl) (fun W9 hW9 => ?_) ?_; rotate_left
        · (go_simp <;> with_reducible rfl)
        simp only [Act.put, sA, sB, sC]; refine ySt ?_ (by rfl) (fun W9 hW9 => ?_) ?_; rotate_left
        · (go_simp <;> with_reducible rfl)
        simp only [Act.put, sA, sB, sC]; refine ySt ?_ (by rfl) (fun W9 hW9 => ?_) ?_; rotate_left
        · (go_simp <;> with_reducible rfl)
        simp only [Act.put, sA, sB, sC]; have HS2 := LH (HS.out.cells 0 rfl (put_zpat ap np cp patL)); refine yCa (by rfl) (fun K hK => ?_); refine wp_store_mid 35 (.tmp 3) (.tmp 30) rfl P3 0 (jbC ap np cp patL) rfl rfl (HS.out.ms.there 0 rfl (by show 6 ≤ 6; decide)) (sJb _ _ _ _) (zbg _ _ _ _) ?_; refine hK.out _ _ (MS w [(B1, #[.slice A01 8 8, .slice A11 9 9, .slice A21 11 11], 22), (B0, #[.slice A00 8 8, .slice A10 9 9, .slice A20 11 11], 22), (P1, dvC h0 Inst.d0, 37)] [] []) (fun _ h => h) (HS2.out.ms.sub (by repeat (first | exact List.Sublist.refl _ | apply List.Sublist.cons_cons | apply List.Sublist.cons))) ?_; clear hK K
        try simp only [Act.put]
        refine ySt ?_ (by rfl) (fun W9 hW9 => ?_) ?_; rotate_left
        · (go_simp <;> with_reducible rfl)
        simp only [Act.put, sA, sB, sC]; refine way_end ?_; go_wp2_with fail; go_meet; exact ⟨P3, ap, np, cp, _, _, _, _, rfl, rfl, HS2.out.subL (by repeat (first | exact List.Sublist.refl _ | apply List.Sublist.cons_cons | apply List.Sublist.cons))⟩
    · refine yCa (by rfl) (fun K hK => ?_)
      go_simp; obtain ⟨P3, hP3⟩ : ∃ P, W101.heap.size = P := ⟨_, rfl⟩; replace HS := LH (HS.out.alloc hP3 zPat 35); have hba : Below W101.heap.size W101 (W101.alloc (.cells zPat 35)) := (Below.refl _ _).alloc (Nat.le_refl _) _; replace X0 := LH (X0.out.later hba); clear hba
      try rw [hP3]
      refine hK.out _ _ (MS w [(B0, #[.slice A00 8 8, .slice A10 9 9, .slice A20 11 11], 22), (P1, dvC h0 Inst.d0, 37)] [] []) (fun _ h => h) (HS.out.ms.sub (by repeat (first | exact List.Sublist.refl _ | apply List.Sublist.cons_cons | apply List.Sublist.cons))) ?_; clear hK K
      try simp only [Act.put, sA, sB, sC]
      refine gnY (fun V => MH w [(P3, zPat, 35), (B0, #[.slice A00 8 8, .slice A10 9 9, .slice A20 11 11], 22), (P1, dvC h0 Inst.d0, 37)] [(W1.heap.size, W2.heap.size, fun V => DH V h0 Inst.d0)] V ∧ BS V A00 8 8 Inst.im0) ⟨HS.out, X0.out⟩ (fun V107 HX => ?_); obtain ⟨HS1, nX0⟩ := HX; replace HS := LH HS1; clear HS1 hP3; replace X0 := LH nX0; clear nX0; refine yCa (by rfl) (fun K hK => ?_); go_simp; go_at_call 66; with_reducible refine (HIm.out _).mono ?_
      rintro e W108 ⟨B1, A01, A11, A21, rfl, hB, b0, b1, hlo, hb⟩; replace HS := LH (HS.out.block hb hB hlo); replace X0 := LH (X0.out.later hb); clear hb hB hlo; have X1 := LH b1; clear b0 b1
      try go_wp2_with fail
      refine hK.out _ _ (MS w [(B1, #[.slice A01 8 8, .slice A11 9 9, .slice A21 11 11], 22), (B0, #[.slice A00 8 8, .slice A10 9 9, .slice A20 11 11], 22), (P1, dvC h0 Inst.d0, 37)] [] []) (fun _ h => h.sub (by repeat (first | exact List.Sublist.refl _ | apply List.Sublist.cons_cons | apply List.Sublist.cons))) (HS.out.ms.sub (by repeat (first | exact List.Sublist.refl _ | apply List.Sublist.cons_cons | apply List.Sublist.cons))) ?_; clear hK K
      try simp only [Act.put, sA, sB, sC]
      refine ySt ?_ (by rfl) (fun W9 hW9 => ?_) ?_; rotate_left
      · (go_simp <;> with_reducible rfl)
      simp only [Act.put, sA, sB, sC]; refine ySt ?_ (by rfl) (fun W9 hW9 => ?_) ?_; rotate_left
      · have cB := cAt (k := 1) (v := .slice A11 9 9) (hW9.get 0 rfl) rfl
        try simp only at cB
        (go_simp <;> with_reducible rfl)
      simp only [Act.put, sA, sB, sC]; refine yCa (by rfl) (fun K hK => ?_); go_simp; go_at_call 67; with_reducible refine (HMd.out _ _ _ _ _ X0.out X1.out (HMx.out.later HS.out.below)).mono ?_
      rintro e W109 ⟨ap, np, cp, rfl, hb, hn⟩; replace HS := LH (HS.out.gain hb hn); clear hb hn X0 X1
      try go_wp2_with fail
      refine hK.out _ _ (MS w [(B1, #[.slice A01 8 8, .slice A11 9 9, .slice A21 11 11], 22), (B0, #[.slice A00 8 8, .slice A10 9 9, .slice A20 11 11], 22), (P1, dvC h0 Inst.d0, 37)] [] []) (fun _ h => h) (HS.out.ms.sub (by repeat (first | exact List.Sublist.refl _ | apply List.Sublist.cons_cons | apply List.Sublist.cons))) ?_; clear hK K
      try simp only [Act.put, sA, sB, sC]
      refine ySt ?_ (by rfl) (fun W9 hW9 => ?_) ?_; rotate_left
      · (go_simp <;> with_reducible rfl)
      simp only [Act.put, sA, sB, sC]; refine ySt ?_ (by rfl) (fun W9 hW9 => ?_) ?_; rotate_left
      · (go_simp <;> with_reducible rfl)
      simp only [Act.put, sA, sB, sC]; refine ySt ?_ (by rfl) (fun W9 hW9 => ?_) ?_; rotate_left
      · (go_simp <;> with_reducible rfl)
      simp only [Act.put, sA, sB, sC]; have HS2 := LH (HS.out.cells 1 rfl (put_zpat ap np cp patL)); refine yCa (by rfl) (fun K hK => ?_); refine wp_store_mid 35 (.tmp 3) (.tmp 30) rfl P3 0 (jbC ap np cp patL) rfl rfl (HS.out.ms.there 1 rfl (by show 6 ≤ 6; decide)) (sJb _ _ _ _) (zbg _ _ _ _) ?_; refine hK.out _ _ (MS w [(B1, #[.slice A01 8 8, .slice A11 9 9, .slice A21 11 11], 22), (B0, #[.slice A00 8 8, .slice A10 9 9, .slice A20 11 11], 22), (P1, dvC h0 Inst.d0, 37)] [] []) (fun _ h => h) (HS2.out.ms.sub (by repeat (first | exact List.Sublist.refl _ | apply List.Sublist.cons_cons | apply List.Sublist.cons))) ?_; clear hK K
      try simp only [Act.put]
      refine ySt ?_ (by rfl) (fun W9 hW9 => ?_) ?_; rotate_left
      · (go_simp <;> with_reducible rfl)
      simp only [Act.put, sA, sB, sC]; refine way_end ?_; go_wp2_with fail; go_meet; exact ⟨P3, ap, np, cp, _, _, _, _, rfl, rfl, HS2.out.subL (by repeat (first | exact List.Sublist.refl _ | apply List.Sublist.cons_cons | apply List.Sublist.cons))⟩
  · refine yCa (by rfl) (fun K hK => ?_)
    go_simp; obtain ⟨P3, hP3⟩ : ∃ P, V2.heap.size = P := ⟨_, rfl⟩; replace HS := LH (HS.out.alloc hP3 zPat 35); have hba : Below V2.heap.size V2 (V2.alloc (.cells zPat 35)) := (Below.refl _ _).alloc (Nat.le_refl _) _; clear hba
    try rw [hP3]
    refine hK.out _ _ (MS w [(P1, dvC h0 Inst.d0, 37)] [] []) (fun _ h => h) (HS.out.ms.sub (by repeat (first | exact List.Sublist.refl _ | apply List.Sublist.cons_cons | apply List.Sublist.cons))) ?_; clear hK K
    try simp only [Act.put, sA, sB, sC]
    refine gnY (fun V => MH w [(P3, zPat, 35), (P1, dvC h0 Inst.d0, 37)] [(W1.heap.size, W2.heap.size, fun V => DH V h0 Inst.d0)] V) HS.out (fun V110 HS1 => ?_); replace HS := LH HS1; clear HS1 hP3; refine yCa (by rfl) (fun K hK => ?_); go_simp; go_at_call 66; with_reducible refine (HIm.out _).mono ?_
    rintro e W111 ⟨B0, A00, A10, A20, rfl, hB, b0, b1, hlo, hb⟩; replace HS := LH (HS.out.block hb hB hlo); clear hb hB hlo; have X0 := LH b0; clear b0 b1
    try go_wp2_with fail
    refine hK.out _ _ (MS w [(B0, #[.slice A00 8 8, .slice A10 9 9, .slice A20 11 11], 22), (P1, dvC h0 Inst.d0, 37)] [] []) (fun _ h => h.sub (by repeat (first | exact List.Sublist.refl _ | apply List.Sublist.cons_cons | apply List.Sublist.cons))) (HS.out.ms.sub (by repeat (first | exact List.Sublist.refl _ | apply List.Sublist.cons_cons | apply List.Sublist.cons))) ?_; clear hK K
    try simp only [Act.put, sA, sB, sC]
    refine ySt ?_ (by rfl) (fun W9 hW9 => ?_) ?_; rotate_left
    · (go_simp <;> with_reducible rfl)
    simp only [Act.put, sA, sB, sC]; refine ySt ?_ (by rfl) (fun W9 hW9 => ?_) ?_; rotate_left
    · have cB := cAt (k := 0) (v := .slice A00 8 8) (hW9.get 0 rfl) rfl
      try simp only at cB
      (go_simp <;> with_reducible rfl)
    simp only [Act.put, sA, sB, sC]; refine yCa (by rfl) (fun K hK => ?_); go_simp; go_at_call 66; with_reducible refine (HIm.out _).mono ?_
    rintro e W112 ⟨B1, A01, A11, A21, rfl, hB, b0, b1, hlo, hb⟩; replace HS := LH (HS.out.block hb hB hlo); replace X0 := LH (X0.out.later hb); clear hb hB hlo; have X1 := LH b1; clear b0 b1
    try go_wp2_with fail
    refine hK.out _ _ (MS w [(B1, #[.slice A01 8 8, .slice A11 9 9, .slice A21 11 11], 22), (B0, #[.slice A00 8 8, .slice A10 9 9, .slice A20 11 11], 22), (P1, dvC h0 Inst.d0, 37)] [] []) (fun _ h => h.sub (by repeat (first | exact List.Sublist.refl _ | apply List.Sublist.cons_cons | apply List.Sublist.cons))) (HS.out.ms.sub (by repeat (first | exact List.Sublist.refl _ | apply List.Sublist.cons_cons | apply List.Sublist.cons))) ?_; clear hK K
    try simp only [Act.put, sA, sB, sC]
    refine ySt ?_ (by rfl) (fun W9 hW9 => ?_) ?_; rotate_left
    · (go_simp <;> with_reducible rfl)
    simp only [Act.put, sA, sB, sC]; refine ySt ?_ (by rfl) (fun W9 hW9 => ?_) ?_; rotate_left
    · have cB := cAt (k := 1) (v := .slice A11 9 9) (hW9.get 0 rfl) rfl
      try simp only at cB
      (go_simp <;> with_reducible rfl)
    simp only [Act.put, sA, sB, sC]; refine yCa (by rfl) (fun K hK => ?_); go_simp; go_at_call 67; with_reducible refine (HMd.out _ _ _ _ _ X0.out X1.out (HMx.out.later HS.out.below)).mono ?_
    rintro e W113 ⟨ap, np, cp, rfl, hb, hn⟩; replace HS := LH (HS.out.gain hb hn); clear hb hn X0 X1
    try go_wp2_with fail
    refine hK.out _ _ (MS w [(B1, #[.slice A01 8 8, .slice A11 9 9, .slice A21 11 11], 22), (B0, #[.slice A00 8 8, .slice A10 9 9, .slice A20 11 11], 22), (P1, dvC h0 Inst.d0, 37)] [] []) (fun _ h => h) (HS.out.ms.sub (by repeat (first | exact List.Sublist.refl _ | apply List.Sublist.cons_cons | apply List.Sublist.cons))) ?_; clear hK K
    try simp only [Act.put, sA, sB, sC]
    refine ySt ?_ (by rfl) (fun W9 hW9 => ?_) ?_; rotate_left
    · (go_simp <;> with_reducible rfl)
    simp only [Act.put, sA, sB, sC]; refine ySt ?_ (by rfl) (fun W9 hW9 => ?_) ?_; rotate_left
    · (go_simp <;> with_reducible rfl)
    simp only [Act.put, sA, sB, sC]; refine ySt ?_ (by rfl) (fun W9 hW9 => ?_) ?_; rotate_left
    · (go_simp <;> with_reducible rfl)
    simp only [Act.put, sA, sB, sC]; have HS2 := LH (HS.out.cells 2 rfl (put_zpat ap np cp patL)); refine yCa (by rfl) (fun K hK => ?_); refine wp_store_mid 35 (.tmp 3) (.tmp 30) rfl P3 0 (jbC ap np cp patL) rfl rfl (HS.out.ms.there 2 rfl (by show 6 ≤ 6; decide)) (sJb _ _ _ _) (zbg _ _ _ _) ?_; refine hK.out _ _ (MS w [(B1, #[.slice A01 8 8, .slice A11 9 9, .slice A21 11 11], 22), (B0, #[.slice A00 8 8, .slice A10 9 9, .slice A20 11 11], 22), (P1, dvC h0 Inst.d0, 37)] [] []) (fun _ h => h) (HS2.out.ms.sub (by repeat (first | exact List.Sublist.refl _ | apply List.Sublist.cons_cons | apply List.Sublist.cons))) ?_; clear hK K
    try simp only [Act.put]
    refine ySt ?_ (by rfl) (fun W9 hW9 => ?_) ?_; rotate_left
    · (go_simp <;> with_reducible rfl)
    simp only [Act.put, sA, sB, sC]; refine way_end ?_; go_wp2_with fail; go_meet; exact ⟨P3, ap, np, cp, _, _, _, _, rfl, rfl, HS2.out.subL (by repeat (first | exact List.Sublist.refl _ | apply List.Sublist.cons_cons | apply List.Sublist.cons))⟩
 case rest =>
  obtain ⟨P3, ap, np, cp, lo, hi, lo', hi', rfl, rfl, hms⟩ := hcut; replace HS := LH hms; clear hms HIm HNw HMd; have bP3 := HS.out.gt 0 rfl
  go_wp2_with (first
   | ((with_reducible show wpList _ _ _ _ _ _); refine LR rfl (t := 35) U35 rfl (.tmp 3) rfl P3 rfl bP3 (sJb ap np cp patL) ?_))
  clear bP3; refine (HCs.out ap np cp _ (HS.out.fact 0 rfl)).mono ?_; rintro e W4 ⟨al, cl, rfl, sl, hb⟩; replace HS := LH (HS.out.later hb); have HL := LH sl; clear hb sl HCs; go_upto_region 6 with fail; go_cut [2] (fun s2 wx => InsCut6 w P1 P3 (jbC ap np cp patL) s2 wx)
  case first =>
   obtain ⟨b, off, rfl, hcs⟩ := (HL.out.later (Below.refl _ _).drew).cells (by omega); obtain ⟨va, vm, vc, q0, q1, q2, q3, q4, q5, -⟩ := hcs 0 (by omega); clear hcs; simp only [Nat.zero_mul, Nat.add_zero] at q0 q1 q2 q3 q4; replace q0 : W4.drew.cell? ⟨b, off, none⟩ = some (.int .i64 1) := q0; replace q1 : W4.drew.cell? ⟨b, off + 1, none⟩ = some (.int .i64 2) := q1; replace q2 : W4.drew.cell? ⟨b, off + 2, none⟩ = some (.int .i64 0) := q2; replace q3 : W4.drew.cell? ⟨b, off + 3, none⟩ = some (.int .i64 1) := q3; replace q5 : BS W4.drew va vm vc Inst.packL := q5; have HD0 := LH q5; clear q5; refine wp_region_way (S := (fun _ => True)) (.one 1 (.one 2 (.fork 0 (.call 3 (.call 4 (.one 5 (.one 6 (.one 7 (.call 8 (.one 9 .done))))))) 3 (.call 0 (.call 4 (.one 5 (.one 6 (.one 7 (.call 8 (.one 9 .done)))))))))) (by kernel_rfl) (by kernel_rfl) trivial ?_; simp only [laid, Array.getD_eq_getD_getElem?, List.getElem?_toArray, List.getElem?_cons_zero, List.getElem?_cons_succ, Option.getD_some]; replace HS := LH HS.out.drew; refine ySt ?_ (by rfl) (fun W9 hW9 => ?_) ?_; rotate_left
   · (go_simp <;> with_reducible rfl)
   simp only [Act.put, sA, sB, sC]; refine ySt ?_ (by rfl) (fun W9 hW9 => ?_) ?_; rotate_left
   · (go_simp <;> with_reducible rfl)
   simp only [Act.put, sA, sB, sC]; refine way_fork ?_ ?_
   · refine yCa (by rfl) (fun K hK => ?_)
     refine wp_load_row 37 (.tmp 1) rfl P1 rfl 37 (dvC h0 Inst.d0) (0, 0) _ (HS.out.get 1 rfl) U37 rfl (sDv _ _) ?_; refine hK.out _ _ _ (fun _ h => h) trivial ?_; clear hK K
     try simp only [Act.put, sA, sB, sC]
     refine yCa (by rfl) (fun K hK => ?_); go_simp; refine hK.out _ _ _ (fun _ h => h) trivial ?_; clear hK K
     try simp only [Act.put, sA, sB, sC]
     refine yCa (by rfl) (fun K hK => ?_); go_simp; go_at_call 19; with_reducible refine (HHe.out h0 va vm vc _ (HS.out.fact 1 rfl) HD0.out).mono ?_
     rintro e W5 ⟨h1, rfl, hb, hn⟩; replace HS := LH (HS.out.gain hb hn); clear hb hn; unfold devV
     try go_wp2_with fail
     refine hK.out _ _ _ (fun _ h => h) trivial ?_; clear hK K
     try simp only [Act.put, sA, sB, sC]
     refine ySt ?_ (by rfl) (fun W9 hW9 => ?_) ?_; rotate_left
     · (go_simp <;> with_reducible rfl)
     simp only [Act.put, sA, sB, sC]; refine ySt ?_ (by rfl) (fun W9 hW9 => ?_) ?_; rotate_left
     · (go_simp <;> with_reducible rfl)
     simp only [Act.put, sA, sB, sC]; refine ySt ?_ (by rfl) (fun W9 hW9 => ?_) ?_; rotate_left
     · (go_simp <;> with_reducible rfl)
     simp only [Act.put, sA, sB, sC]; have HS2 := LH (HS.out.cells 1 rfl (put_dev h0 Inst.d0 h1 Inst.d1)); refine yCa (by rfl) (fun K hK => ?_); refine wp_store_mid 37 (.tmp 1) (.tmp 58) rfl P1 0 (dvC h1 Inst.d1) rfl rfl (HS.out.ms.there 1 rfl (by show 37 ≤ 37; decide)) (sDv _ _) (oDv _ _) ?_; refine hK.out _ _ _ (fun _ h => h) trivial ?_; clear hK K
     try simp only [Act.put]
     refine ySt ?_ (by rfl) (fun W9 hW9 => ?_) ?_; rotate_left
     · (go_simp <;> with_reducible rfl)
     simp only [Act.put, sA, sB, sC]; refine way_end ?_; go_wp2_with fail; go_meet; exact ⟨h1, _, _, rfl, HS2.out.sub (fun q hq => by rw [List.mem_singleton] at hq; subst hq; exact List.mem_cons_self)⟩
   · refine yCa (by rfl) (fun K hK => ?_)
     go_simp; refine hK.out _ _ _ (fun _ h => h) trivial ?_; clear hK K
     try simp only [Act.put, sA, sB, sC]
     refine yCa (by rfl) (fun K hK => ?_); refine wp_load_row 37 (.tmp 1) rfl P1 rfl 37 (dvC h0 Inst.d0) (0, 0) _ (HS.out.get 1 rfl) U37 rfl (sDv _ _) ?_; refine hK.out _ _ _ (fun _ h => h) trivial ?_; clear hK K
     try simp only [Act.put, sA, sB, sC]
     refine yCa (by rfl) (fun K hK => ?_); go_simp; go_at_call 19; with_reducible refine (HHe.out h0 va vm vc _ (HS.out.fact 1 rfl) HD0.out).mono ?_
     rintro e W5 ⟨h1, rfl, hb, hn⟩; replace HS := LH (HS.out.gain hb hn); clear hb hn; unfold devV
     try go_wp2_with fail
     refine hK.out _ _ _ (fun _ h => h) trivial ?_; clear hK K
     try simp only [Act.put, sA, sB, sC]
     refine ySt ?_ (by rfl) (fun W9 hW9 => ?_) ?_; rotate_left
     · (go_simp <;> with_reducible rfl)
     simp only [Act.put, sA, sB, sC]; refine ySt ?_ (by rfl) (fun W9 hW9 => ?_) ?_; rotate_left
     · (go_simp <;> with_reducible rfl)
     simp only [Act.put, sA, sB, sC]; refine ySt ?_ (by rfl) (fun W9 hW9 => ?_) ?_; rotate_left
     · (go_simp <;> with_reducible rfl)
     simp only [Act.put, sA, sB, sC]; have HS2 := LH (HS.out.cells 1 rfl (put_dev h0 Inst.d0 h1 Inst.d1)); refine yCa (by rfl) (fun K hK => ?_); refine wp_store_mid 37 (.tmp 1) (.tmp 58) rfl P1 0 (dvC h1 Inst.d1) rfl rfl (HS.out.ms.there 1 rfl (by show 37 ≤ 37; decide)) (sDv _ _) (oDv _ _) ?_; refine hK.out _ _ _ (fun _ h => h) trivial ?_; clear hK K
     try simp only [Act.put]
     refine ySt ?_ (by rfl) (fun W9 hW9 => ?_) ?_; rotate_left
     · (go_simp <;> with_reducible rfl)
     simp only [Act.put, sA, sB, sC]; refine way_end ?_; go_wp2_with fail; go_meet; exact ⟨h1, _, _, rfl, HS2.out.sub (fun q hq => by rw [List.mem_singleton] at hq; subst hq; exact List.mem_cons_self)⟩
  case rest =>
   obtain ⟨h1, lo1, hi1, rfl, hms⟩ := hcut; replace HS := LH hms; clear hms HHe HL; have bP1 := HS.out.gt 1 rfl
   go_wp2_with (first
    | ((with_reducible show wpList _ _ _ _ _ _); refine LR rfl (t := 37) U37 rfl (.tmp 1) rfl P1 rfl bP1 (sDv h1 Inst.d1) ?_))
   clear bP1; refine (HOp.out _ _ (HS.out.fact 0 rfl)).mono ?_; rintro e X2 ⟨h2, rfl, hb, hn⟩; unfold devV
   try simp only
   replace HS := LH (HS.out.gain hb hn); clear hb hn HOp; have HS2 := LH ((HS.out.set 1 rfl (dvC h2 Inst.d2)).sub (H' := [(_, _, fun V => DH V h2 Inst.d2)]) (fun q hq => by rw [List.mem_singleton] at hq; subst hq; exact List.mem_cons_self)); have bP1 := HS.out.gt 1 rfl
   go_upto_region 8 with (first
    | ((with_reducible show wpList _ _ _ _ _ _); refine wpList_store_row rfl 37 (.tmp 1) (.tmp 63) rfl P1 (dvC h2 Inst.d2) rfl rfl 37 (dvC h1 Inst.d1) ?_ ?_ ?_ ?_ ?_; exact bP1; exact (sDv h2 Inst.d2); exact (lDv h1 h2 Inst.d1 Inst.d2); exact (oDv h2 Inst.d2)))
   clear bP1; refine gnH HS2.out (fun V202 HS1 => ?_); replace HS := LH HS1; clear HS1 HS2; have bP1 := HS.out.gt 1 rfl
   go_wp2_with (first
    | ((with_reducible show wpList _ _ _ _ _ _); refine LR rfl (t := 37) U37 rfl (.tmp 1) rfl P1 rfl bP1 (sDv h2 Inst.d2) ?_))
   clear bP1; refine (HW1.out _ _ (HS.out.fact 0 rfl)).mono ?_; rintro e X3 ⟨h3, rfl, hb, hn⟩; unfold devV
   try simp only
   replace HS := LH (HS.out.gain hb hn); clear hb hn HW1; have HS2 := LH ((HS.out.set 1 rfl (dvC h3 Inst.d3)).sub (H' := [(_, _, fun V => DH V h3 Inst.d3)]) (fun q hq => by rw [List.mem_singleton] at hq; subst hq; exact List.mem_cons_self)); have bP1 := HS.out.gt 1 rfl
   go_upto_region 9 with (first
    | ((with_reducible show wpList _ _ _ _ _ _); refine wpList_store_row rfl 37 (.tmp 1) (.tmp 68) rfl P1 (dvC h3 Inst.d3) rfl rfl 37 (dvC h2 Inst.d2) ?_ ?_ ?_ ?_ ?_; exact bP1; exact (sDv h3 Inst.d3); exact (lDv h2 h3 Inst.d2 Inst.d3); exact (oDv h3 Inst.d3)))
   clear bP1; refine gnH HS2.out (fun V203 HS1 => ?_); replace HS := LH HS1; clear HS1 HS2; have bP1 := HS.out.gt 1 rfl
   go_wp2_with (first
    | ((with_reducible show wpList _ _ _ _ _ _); refine LR rfl (t := 37) U37 rfl (.tmp 1) rfl P1 rfl bP1 (sDv h3 Inst.d3) ?_))
   clear bP1; refine (HFL.out _ _ (HS.out.fact 0 rfl)).mono ?_; rintro e X31 ⟨h31, rfl, hb, hn⟩; unfold devV
   try simp only
   replace HS := LH (HS.out.later hb); clear hb hn HFL; obtain ⟨P7, hP7⟩ : ∃ P, X31.heap.size = P := ⟨_, rfl⟩; replace HS := LH (HS.out.alloc hP7 (dvC h31 DevM.noDev) 37); go_upto_region 10 with ((with_reducible show wpList _ _ _ _ _ _); refine wSN rfl 37 (.tmp 7) (.tmp 73) rfl P7 (dvC h31 DevM.noDev) rfl rfl 37 _ ?_ ?_ ?_ ?_ ?_; exact hP7.symm; exact (sDv _ _); exact (zat _ _); exact (oDv _ _)); refine gnH HS.out (fun V231 HS1 => ?_); replace HS := LH HS1; clear HS1 hP7; have bP1 := HS.out.gt 2 rfl
   go_wp2_with (first
    | ((with_reducible show wpList _ _ _ _ _ _); refine LR rfl (t := 37) U37 rfl (.tmp 1) rfl P1 rfl bP1 (sDv h3 Inst.d3) ?_))
   clear bP1; refine (HW2.out _ _ (HS.out.fact 0 rfl)).mono ?_; rintro e X4 ⟨h4, rfl, hb, hn⟩; unfold devV
   try simp only
   replace HS := LH (HS.out.gain hb hn); clear hb hn HW2; have HS2 := LH ((HS.out.set 2 rfl (dvC h4 Inst.d4)).sub (H' := [(_, _, fun V => DH V h4 Inst.d4)]) (fun q hq => by rw [List.mem_singleton] at hq; subst hq; exact List.mem_cons_self)); have bP1 := HS.out.gt 2 rfl
   go_upto_region 11 with (first
    | ((with_reducible show wpList _ _ _ _ _ _); refine wpList_store_row rfl 37 (.tmp 1) (.tmp 78) rfl P1 (dvC h4 Inst.d4) rfl rfl 37 (dvC h3 Inst.d3) ?_ ?_ ?_ ?_ ?_; exact bP1; exact (sDv h4 Inst.d4); exact (lDv h3 h4 Inst.d3 Inst.d4); exact (oDv h4 Inst.d4)))
   clear bP1; refine gnH HS2.out (fun V204 HS1 => ?_); replace HS := LH HS1; clear HS1 HS2; have bP1 := HS.out.gt 2 rfl
   go_wp2_with (first
    | ((with_reducible show wpList _ _ _ _ _ _); refine LR rfl (t := 37) U37 rfl (.tmp 1) rfl P1 rfl bP1 (sDv h4 Inst.d4) ?_))
   clear bP1; refine (HFi.out _ _ (HS.out.fact 0 rfl)).mono ?_; rintro e X5 ⟨h5, rfl, hb, hn⟩; unfold devV
   try simp only
   replace HS := LH (HS.out.gain hb hn); clear hb hn HFi; have HS2 := LH ((HS.out.set 2 rfl (dvC h5 Inst.d5)).sub (H' := [(_, _, fun V => DH V h5 Inst.d5)]) (fun q hq => by rw [List.mem_singleton] at hq; subst hq; exact List.mem_cons_self)); have bP1 := HS.out.gt 2 rfl
   go_upto_region 12 with (first
    | ((with_reducible show wpList _ _ _ _ _ _); refine wpList_store_row rfl 37 (.tmp 1) (.tmp 83) rfl P1 (dvC h5 Inst.d5) rfl rfl 37 (dvC h4 Inst.d4) ?_ ?_ ?_ ?_ ?_; exact bP1; exact (sDv h5 Inst.d5); exact (lDv h4 h5 Inst.d4 Inst.d5); exact (oDv h5 Inst.d5)))
   clear bP1; refine gnH HS2.out (fun V205 HS1 => ?_); replace HS := LH HS1; clear HS1 HS2; have bP1 := HS.out.gt 2 rfl
   go_wp2_with (first
    | ((with_reducible show wpList _ _ _ _ _ _); refine LR rfl (t := 37) U37 rfl (.tmp 1) rfl P1 rfl bP1 (sDv h5 Inst.d5) ?_))
   clear bP1; refine (HCr.out _ _ (HS.out.fact 0 rfl)).mono ?_; rintro e X6 ⟨h6, rfl, hb, hn⟩; unfold devV
   try simp only
   replace HS := LH (HS.out.gain hb hn); clear hb hn HCr; have HS2 := LH ((HS.out.set 2 rfl (dvC h6 Inst.d6)).sub (H' := [(_, _, fun V => DH V h6 Inst.d6)]) (fun q hq => by rw [List.mem_singleton] at hq; subst hq; exact List.mem_cons_self)); have bP1 := HS.out.gt 2 rfl
   go_upto_region 13 with (first
    | ((with_reducible show wpList _ _ _ _ _ _); refine wpList_store_row rfl 37 (.tmp 1) (.tmp 88) rfl P1 (dvC h6 Inst.d6) rfl rfl 37 (dvC h5 Inst.d5) ?_ ?_ ?_ ?_ ?_; exact bP1; exact (sDv h6 Inst.d6); exact (lDv h5 h6 Inst.d5 Inst.d6); exact (oDv h6 Inst.d6)))
   clear bP1; refine gnH HS2.out (fun V206 HS1 => ?_); replace HS := LH HS1; clear HS1 HS2; have bP1 := HS.out.gt 2 rfl
   go_wp2_with (first
    | ((with_reducible show wpList _ _ _ _ _ _); refine LR rfl (t := 37) U37 rfl (.tmp 1) rfl P1 rfl bP1 (sDv h6 Inst.d6) ?_))
   clear bP1; refine (HBo.out _ _ (HS.out.fact 0 rfl)).mono ?_; rintro e X7 ⟨h7, rfl, hb, hn⟩; unfold devV
   try simp only
   replace HS := LH (HS.out.gain hb hn); clear hb hn HBo; have HS2 := LH ((HS.out.set 2 rfl (dvC h7 Inst.d7)).sub (H' := [(_, _, fun V => DH V h7 Inst.d7)]) (fun q hq => by rw [List.mem_singleton] at hq; subst hq; exact List.mem_cons_self)); have bP1 := HS.out.gt 2 rfl
   go_upto_region 14 with (first
    | ((with_reducible show wpList _ _ _ _ _ _); refine wpList_store_row rfl 37 (.tmp 1) (.tmp 93) rfl P1 (dvC h7 Inst.d7) rfl rfl 37 (dvC h6 Inst.d6) ?_ ?_ ?_ ?_ ?_; exact bP1; exact (sDv h7 Inst.d7); exact (lDv h6 h7 Inst.d6 Inst.d7); exact (oDv h7 Inst.d7)))
   clear bP1; refine gnH HS2.out (fun V207 HS1 => ?_); replace HS := LH HS1; clear HS1 HS2; have bP1 := HS.out.gt 2 rfl
   go_wp2_with (first
    | ((with_reducible show wpList _ _ _ _ _ _); refine LR rfl (t := 37) U37 rfl (.tmp 1) rfl P1 rfl bP1 (sDv h7 Inst.d7) ?_))
   clear bP1; refine (HCo.out _ _ (HS.out.fact 0 rfl)).mono ?_; rintro e X8 ⟨h8, rfl, hb, hn⟩; unfold devV
   try simp only
   replace HS := LH (HS.out.gain hb hn); clear hb hn HCo; obtain ⟨P13, hP13⟩ : ∃ P, X8.heap.size = P := ⟨_, rfl⟩; replace HS := LH (HS.out.alloc hP13 (dvC h8 Inst.d8) 37); go_upto_region 15 with ((with_reducible show wpList _ _ _ _ _ _); refine wSN rfl 37 (.tmp 13) (.tmp 98) rfl P13 (dvC h8 Inst.d8) rfl rfl 37 _ ?_ ?_ ?_ ?_ ?_; exact hP13.symm; exact (sDv _ _); exact (zat _ _); exact (oDv _ _)); refine gnH HS.out (fun V208 HS1 => ?_); replace HS := LH HS1; clear HS1 hP13; have c27 := HS.out.cel 3 27 (v := .int .i64 Inst.d7.run) rfl rfl; rw [Inst.run7] at c27; have c1 := HS.out.cel 3 1 (v := .slice h7.a1 h7.n1 h7.c1) rfl rfl; have b7 := (HS.out.fact 1 rfl).b1; have hn7 : h7.n1 = 64 := by rw [← b7.len]; exact Inst.len7
   have hc7 := b7.le; have hcut : ∀ W, (Instr.slice 22 (.slice h7.a1 h7.n1 h7.c1) none (some (.int .i64 (9 : Int))) none).run Tryz.prog W = .ok (.slice h7.a1 9 h7.c1) W := fun W => rCh h7.a1 h7.n1 h7.c1 W 9 (by omega); have hst := (b7.head 9 (by omega)).string; rw [Inst.slot7, show strOfNums Inst.im1 = { data := #[120, 101, 102, 103, 104, 97, 98, 99, 100] } by kernel_rfl] at hst
   have HCk : Hid (∀ W, DH W h8 Inst.d8 → Calls Tryz.prog 14 #[.agg (dvC h8 Inst.d8)] W fun e w' => e = .returned (.int .i64 0) ∧ Below W.heap.size W w') := fun W hd => by
    have := ckD h8 Inst.d8 W hd; rw [Inst.ck8] at this; exact this
   have HSm : Hid (∀ W, DH W h8 Inst.d8 → Calls Tryz.prog 15 #[.agg (dvC h8 Inst.d8), .agg (dvC h8 Inst.d8)] W fun e w' => e = .returned (.bool true) ∧ Below W.heap.size W w') := fun W hd => by
    have := sameD_any h8 h8 Inst.d8 Inst.d8 W hd hd; rw [decide_eq_true rfl] at this; exact this
   clear b7 hn7 hc7; have bP13 := HS.out.gt 0 rfl
   go_wp2_with (first
    | ((with_reducible show wpList _ _ _ _ _ _); refine wLW (by rfl) 37 (.tmp 13) rfl P13 rfl 37 (dvC h8 Inst.d8) (0, 0) _ ?_ U37 rfl ?_ ?_; exact bP13; exact (sDv h8 Inst.d8)))
   clear c27 c1 hcut hst bP13; refine (HCk.out _ (HS.out.fact 0 rfl)).mono ?_; rintro e Y1 ⟨rfl, hb⟩; replace HS := LH (HS.out.later hb); clear hb; have bP13 := HS.out.gt 0 rfl
   go_wp2_with (first
    | ((with_reducible show wpList _ _ _ _ _ _); refine wLW (by rfl) 37 (.tmp 13) rfl P13 rfl 37 (dvC h8 Inst.d8) (0, 0) _ ?_ U37 rfl ?_ ?_; exact bP13; exact (sDv h8 Inst.d8)))
   clear bP13; refine (HSm.out _ (HS.out.fact 0 rfl)).mono ?_; rintro e Y2 ⟨rfl, hb⟩; replace HS := LH (HS.out.later hb); clear hb; go_wp2_with fail; go_ret; exact ⟨rfl, HS.out.below⟩
theorem tmod_pos (k n : Int) (hn : 0 < n) (h : 0 ≤ k.tmod n) : k.tmod n = k % n := by
 have e := Int.tmod_add_mul_tdiv k n; have h2 := Int.tmod_lt_of_pos k hn
 conv => rhs; rw [← e, Int.add_mul_emod_self_left, Int.emod_eq_of_lt h h2]
theorem tmod_neg (k n : Int) (hn : 0 < n) (hn2 : n ≤ 9223372036854775807) (h : k.tmod n < 0) : wrap64 (k.tmod n + n) = k % n := by
 have e := Int.tmod_add_mul_tdiv k n; have h2 := Int.lt_tmod_of_pos k hn
 have e2 : k % n = k.tmod n + n := by
  conv => lhs; rw [← e, Int.add_mul_emod_self_left, ← Int.add_emod_right, Int.emod_eq_of_lt (by omega) (by omega)]
 rw [e2]; unfold wrap64; omega
theorem ret_at {a b : Int} (h : a = b) : Ending.returned (.int .i64 a) = .returned (.int .i64 b) := by rw [h]
theorem at_any (k n : Int) (w : World) (hn : 0 < n) (hn2 : n ≤ 9223372036854775807) :
 Calls Tryz.prog 18 #[.int .i64 k, .int .i64 n] w fun e w' => e = .returned (.int .i64 (k % n)) ∧ w = w' := by
 have hz : (n == 0) = false := by simp; omega
 by_cases h0 : 0 ≤ k
 · have hm : k.tmod n = k % n := Int.tmod_eq_emod_of_nonneg h0
   have hm1 : 0 ≤ k % n := Int.emod_nonneg _ (by omega); have hm2 : k % n < n := Int.emod_lt_of_pos _ hn; go_enter Tryz.func18, Tryz.ntmps18; go_wp2; go_ret; exact ⟨rfl, rfl⟩
 · go_enter Tryz.func18, Tryz.ntmps18
   go_wp2
   · go_ret
     exact ⟨ret_at (tmod_neg k n hn hn2 ‹_›), rfl⟩
   · go_ret
     exact ⟨ret_at (tmod_pos k n hn ‹_›), rfl⟩
theorem MH.gainE {w W W' : World} {L : List (Nat × Array Value × TypeId)} {H : Hlds} (h : MH w L H W) (hb : Below W.heap.size W W') {r : World → Prop} (hr : NewR W.heap.size W' r) : ∃ lo hi, MH w L ((lo, hi, r) :: H) W' := ⟨_, _, h.gain hb hr⟩
theorem zb4 {P : Program} {ops : Array Oper} {Q : Exit → Act → World → Prop} {S : World → Prop} {fin : Bool} {r : List (Oper × Bool)} {o : Oper} {a : Act} {w : World} (hw : Region.wanted o (yielded ops a.tmps) = false) (hS : S w) (h : zaT P ops Q S fin r (a.put o.dst undef) w) : zaT P ops Q S fin ((o, true) :: r) a w :=
 tCa (fun K hK => by
  rw [if_neg (by rw [hw]; decide)]
  exact hK.out _ _ hS h)
theorem new_cases (l : List Int) : (64 < l.length ∧ DevM.newOf l = (DevM.noDev, 1)) ∨ (l.length ≤ 64 ∧ (DevM.newOf l).2 = 0) := by
 unfold DevM.newOf; by_cases h : 64 < l.length
 · exact .inl ⟨h, if_pos h⟩
 · refine .inr ⟨by omega, ?_⟩
   rw [if_neg h]
def sayK : Nat → Int
 | 0 => 2
 | 1 => 5
 | 2 => 6
 | 3 => 7
 | 4 => 8
 | 5 => 9
 | 6 => 10
 | 7 => 11
 | _ => 12
def zbL (w : World) (Y : DevR) (F : Int) (W : World) (e : Ending) (w' : World) : Prop :=
 ∃ h3, e = .returned (.tuple #[.agg (dvC h3 Y), .int .i64 F]) ∧ Below W.heap.size W w' ∧ NewR W.heap.size w' (fun V => Below w.heap.size w V → DH V h3 Y)
def SayCut (w : World) (h : DevH) (d : DevR) (x : ChR) (xa : Option Addr) (xm xc : Nat) (nn K E0 : Int) (P16 : Nat) (L : List (Nat × Array Value × TypeId)) (H : Hlds) (s17 : Value) (wx : World) : Prop :=
 ∃ hy Y F lo hi, s17 = .int .i64 F ∧ MH w ((P16, dvC hy Y, 37) :: L) ((lo, hi, fun V => DH V hy Y) :: H) wx ∧
   (E0 = 0 → ∀ W, Below w.heap.size w W → Calls Tryz.prog 26 #[.agg (dvC h d), .agg #[.int .i64 K, .int .i64 nn], .agg #[.int .i64 x.fr, .int .i64 x.to_, .int .i64 x.n, .int .i64 x.of_, .slice xa xm xc]] W (zbL w Y F W)) ∧ (E0 ≠ 0 → Y = DevM.noDev ∧ F = E0)
theorem sayK_at (j : Nat) (hj : j < 9) : (#[.int .i64 2, .int .i64 5, .int .i64 6, .int .i64 7, .int .i64 8, .int .i64 9, .int .i64 10, .int .i64 11, .int .i64 12] : Array Value)[j]? = some (.int .i64 (sayK j)) := by
 rcases (by omega : j = 0 ∨ j = 1 ∨ j = 2 ∨ j = 3 ∨ j = 4 ∨ j = 5 ∨ j = 6 ∨ j = 7 ∨ j = 8) with rfl | rfl | rfl | rfl | rfl | rfl | rfl | rfl | rfl <;> rfl
theorem started_any (r : RecR) (hk : RecM.check r = 0) (w : World) :
 Calls Tryz.prog 93 #[recV r] w fun e w' => e = .returned (.tuple #[.int .i64 (RecM.slot r), recV (RecM.after r)]) ∧ Below w.heap.size w w' := by
 have hn := RecM.check_nums hk; clear hk; obtain ⟨g, a, tr, n, f, ⟨v0, s0, u0⟩, ⟨v1, s1, u1⟩⟩ := r; simp only at hn; have hw : IntKind.i64.wrap (1 - a) = 1 - a := IntWalk.i64_in _ (by omega); have HV : Hid (∀ x, recV x = .agg (rcC x)) := fun _ => rfl; show Calls Tryz.prog 93 #[.agg #[.int .i64 g, .int .i64 a, .bool tr, .int .i64 n, .int .i64 f, .int .i64 v0, .int .i64 s0, .int .i64 u0, .int .i64 v1, .int .i64 s1, .int .i64 u1]] w _
 cases tr
 · obtain ⟨hn1, hn2, hn3, hn4⟩ := hn
   clear hn1 hn3 hn4
   have HAf : Hid (RecM.after (⟨g, a, false, n, f, ⟨v0, s0, u0⟩, ⟨v1, s1, u1⟩⟩ : RecR) = (⟨g, a, false, n, f, ⟨v0, s0, u0⟩, ⟨v1, s1, u1⟩⟩ : RecR)) := by
    show _ = _; simp [RecM.after]
   have HSl : Hid (RecM.slot (⟨g, a, false, n, f, ⟨v0, s0, u0⟩, ⟨v1, s1, u1⟩⟩ : RecR) = a) := by
    show _ = _; simp [RecM.slot]
   have HST3 : Hid (RSt1 w (⟨g, a, false, n, f, ⟨v0, s0, u0⟩, ⟨v1, s1, u1⟩⟩ : RecR) ((w.alloc (.cells #[.int .i64 g, .int .i64 a, .bool false, .int .i64 n, .int .i64 f, .int .i64 v0, .int .i64 s0, .int .i64 u0, .int .i64 v1, .int .i64 s1, .int .i64 u1] 28)).alloc (.cells #[.int .i64 0, .int .i64 0, .bool false, .int .i64 0, .int .i64 0, .int .i64 0, .int .i64 0, .int .i64 0, .int .i64 0, .int .i64 0, .int .i64 0] 28))) := RSt1.start w (⟨g, a, false, n, f, ⟨v0, s0, u0⟩, ⟨v1, s1, u1⟩⟩ : RecR); go_enter Tryz.func93, Tryz.ntmps93; go_wp2_with fail; generalize (w.alloc (.cells #[.int .i64 g, .int .i64 a, .bool false, .int .i64 n, .int .i64 f, .int .i64 v0, .int .i64 s0, .int .i64 u0, .int .i64 v1, .int .i64 s1, .int .i64 u1] 28)).alloc (.cells #[.int .i64 0, .int .i64 0, .bool false, .int .i64 0, .int .i64 0, .int .i64 0, .int .i64 0, .int .i64 0, .int .i64 0, .int .i64 0, .int .i64 0] 28) = W3 at HST3 ⊢; have HST4 := LH HST3.out.drew; have q1 := HST4.out.cells.2.1; simp only at q1; have hc0 := HST4.out.c0; have hc1 := HST4.out.c1; have HG := LH HST4.out.give; have hi := sRc (⟨g, a, false, n, f, ⟨v0, s0, u0⟩, ⟨v1, s1, u1⟩⟩ : RecR); have ha := oRc (⟨g, a, false, n, f, ⟨v0, s0, u0⟩, ⟨v1, s1, u1⟩⟩ : RecR); refine wp_region_still_tail 4 (by kernel_rfl) (by kernel_rfl) ?_; simp only [List.take_succ_cons, List.take_zero, List.drop_succ_cons, List.drop_zero]
   change wpStill _ _ W3.drew _ _ _
   still_step
   still_step
   refine zaA rfl 28 (.tmp 1) rfl w.heap.size rfl 28 (rcC (⟨g, a, false, n, f, ⟨v0, s0, u0⟩, ⟨v1, s1, u1⟩⟩ : RecR)) (0, 0) _ hc0 U28 rfl hi ?_
   still_step
   refine wpStill_nil ?_; go_wp2_with (refine wpList_store_row rfl 28 (.tmp 3) (.tmp 22) rfl (w.heap.size + 1) (rcC (⟨g, a, false, n, f, ⟨v0, s0, u0⟩, ⟨v1, s1, u1⟩⟩ : RecR)) rfl rfl 28 _ hc1 hi rfl ha ?_); refine bodyPost_ret (v := .tuple #[.int .i64 (a), .agg (rcC (⟨g, a, false, n, f, ⟨v0, s0, u0⟩, ⟨v1, s1, u1⟩⟩ : RecR))]) ?_ rfl ?_
   · exact res_tc (fn := Tryz.f93) (p := 3) (a := 2) rfl rfl rfl HG.out.1 U28 rfl hi
   · exact ⟨by rw [HSl.out, HAf.out]; rfl, HG.out.2⟩
 · by_cases ht : n = 0
   · subst ht
     clear hn
     have HAf : Hid (RecM.after (⟨g, a, true, 0, f, ⟨v0, s0, u0⟩, ⟨v1, s1, u1⟩⟩ : RecR) = (⟨g, a, false, 0, f, ⟨v0, s0, u0⟩, ⟨v1, s1, u1⟩⟩ : RecR)) := by
      show _ = _; simp [RecM.after]
     have HSl : Hid (RecM.slot (⟨g, a, true, 0, f, ⟨v0, s0, u0⟩, ⟨v1, s1, u1⟩⟩ : RecR) = a) := by
      show _ = _; simp [RecM.slot]
     have HST3 : Hid (RSt1 w (⟨g, a, false, 0, f, ⟨v0, s0, u0⟩, ⟨v1, s1, u1⟩⟩ : RecR) ((w.alloc (.cells #[.int .i64 g, .int .i64 a, .bool false, .int .i64 0, .int .i64 f, .int .i64 v0, .int .i64 s0, .int .i64 u0, .int .i64 v1, .int .i64 s1, .int .i64 u1] 28)).alloc (.cells #[.int .i64 0, .int .i64 0, .bool false, .int .i64 0, .int .i64 0, .int .i64 0, .int .i64 0, .int .i64 0, .int .i64 0, .int .i64 0, .int .i64 0] 28))) := RSt1.start w (⟨g, a, false, 0, f, ⟨v0, s0, u0⟩, ⟨v1, s1, u1⟩⟩ : RecR); go_enter Tryz.func93, Tryz.ntmps93; go_wp2_with fail; generalize (w.alloc (.cells #[.int .i64 g, .int .i64 a, .bool false, .int .i64 0, .int .i64 f, .int .i64 v0, .int .i64 s0, .int .i64 u0, .int .i64 v1, .int .i64 s1, .int .i64 u1] 28)).alloc (.cells #[.int .i64 0, .int .i64 0, .bool false, .int .i64 0, .int .i64 0, .int .i64 0, .int .i64 0, .int .i64 0, .int .i64 0, .int .i64 0, .int .i64 0] 28) = W3 at HST3 ⊢; have HST4 := LH HST3.out.drew; have q1 := HST4.out.cells.2.1; simp only at q1; have hc0 := HST4.out.c0; have hc1 := HST4.out.c1; have HG := LH HST4.out.give; have hi := sRc (⟨g, a, false, 0, f, ⟨v0, s0, u0⟩, ⟨v1, s1, u1⟩⟩ : RecR); have ha := oRc (⟨g, a, false, 0, f, ⟨v0, s0, u0⟩, ⟨v1, s1, u1⟩⟩ : RecR); refine wp_region_still_tail 4 (by kernel_rfl) (by kernel_rfl) ?_; simp only [List.take_succ_cons, List.take_zero, List.drop_succ_cons, List.drop_zero]
     change wpStill _ _ W3.drew _ _ _
     still_step
     still_step
     refine zaA rfl 28 (.tmp 1) rfl w.heap.size rfl 28 (rcC (⟨g, a, false, 0, f, ⟨v0, s0, u0⟩, ⟨v1, s1, u1⟩⟩ : RecR)) (0, 0) _ hc0 U28 rfl hi ?_
     still_step
     refine wpStill_nil ?_; go_wp2_with (refine wpList_store_row rfl 28 (.tmp 3) (.tmp 22) rfl (w.heap.size + 1) (rcC (⟨g, a, false, 0, f, ⟨v0, s0, u0⟩, ⟨v1, s1, u1⟩⟩ : RecR)) rfl rfl 28 _ hc1 hi rfl ha ?_); refine bodyPost_ret (v := .tuple #[.int .i64 (a), .agg (rcC (⟨g, a, false, 0, f, ⟨v0, s0, u0⟩, ⟨v1, s1, u1⟩⟩ : RecR))]) ?_ rfl ?_
     · exact res_tc (fn := Tryz.f93) (p := 3) (a := 2) rfl rfl rfl HG.out.1 U28 rfl hi
     · exact ⟨by rw [HSl.out, HAf.out]; rfl, HG.out.2⟩
   · have hgt : (0 : Int) < n := by omega
     obtain ⟨T, hT⟩ : ∃ T, n - 1 = T := ⟨_, rfl⟩; have hwT : IntKind.i64.wrap T = T := IntWalk.i64_in _ (by omega)
     have HAf : Hid (RecM.after (⟨g, a, true, n, f, ⟨v0, s0, u0⟩, ⟨v1, s1, u1⟩⟩ : RecR) = (⟨g, a, true, T, f, ⟨v0, s0, u0⟩, ⟨v1, s1, u1⟩⟩ : RecR)) := by
      show _ = _; simp [RecM.after, ht]; exact hT
     have HSl : Hid (RecM.slot (⟨g, a, true, n, f, ⟨v0, s0, u0⟩, ⟨v1, s1, u1⟩⟩ : RecR) = 1 - a) := by
      show _ = _; simp [RecM.slot, ht]
     have HST3 : Hid (RSt1 w (⟨g, a, true, T, f, ⟨v0, s0, u0⟩, ⟨v1, s1, u1⟩⟩ : RecR) ((w.alloc (.cells #[.int .i64 g, .int .i64 a, .bool true, .int .i64 T, .int .i64 f, .int .i64 v0, .int .i64 s0, .int .i64 u0, .int .i64 v1, .int .i64 s1, .int .i64 u1] 28)).alloc (.cells #[.int .i64 0, .int .i64 0, .bool false, .int .i64 0, .int .i64 0, .int .i64 0, .int .i64 0, .int .i64 0, .int .i64 0, .int .i64 0, .int .i64 0] 28))) := RSt1.start w (⟨g, a, true, T, f, ⟨v0, s0, u0⟩, ⟨v1, s1, u1⟩⟩ : RecR); go_enter Tryz.func93, Tryz.ntmps93; go_wp2_with fail; generalize (w.alloc (.cells #[.int .i64 g, .int .i64 a, .bool true, .int .i64 T, .int .i64 f, .int .i64 v0, .int .i64 s0, .int .i64 u0, .int .i64 v1, .int .i64 s1, .int .i64 u1] 28)).alloc (.cells #[.int .i64 0, .int .i64 0, .bool false, .int .i64 0, .int .i64 0, .int .i64 0, .int .i64 0, .int .i64 0, .int .i64 0, .int .i64 0, .int .i64 0] 28) = W3 at HST3 ⊢; have HST4 := LH HST3.out.drew; have q1 := HST4.out.cells.2.1; simp only at q1; have hc0 := HST4.out.c0; have hc1 := HST4.out.c1; have HG := LH HST4.out.give; have hi := sRc (⟨g, a, true, T, f, ⟨v0, s0, u0⟩, ⟨v1, s1, u1⟩⟩ : RecR); have ha := oRc (⟨g, a, true, T, f, ⟨v0, s0, u0⟩, ⟨v1, s1, u1⟩⟩ : RecR); refine wp_region_still_tail 5 (by kernel_rfl) (by kernel_rfl) ?_; simp only [List.take_succ_cons, List.take_zero, List.drop_succ_cons, List.drop_zero]
     change wpStill _ _ W3.drew _ _ _
     still_step
     still_step
     still_step
     refine zaA rfl 28 (.tmp 1) rfl w.heap.size rfl 28 (rcC (⟨g, a, true, T, f, ⟨v0, s0, u0⟩, ⟨v1, s1, u1⟩⟩ : RecR)) (0, 0) _ hc0 U28 rfl hi ?_
     still_step
     refine wpStill_nil ?_; go_wp2_with (refine wpList_store_row rfl 28 (.tmp 3) (.tmp 18) rfl (w.heap.size + 1) (rcC (⟨g, a, true, T, f, ⟨v0, s0, u0⟩, ⟨v1, s1, u1⟩⟩ : RecR)) rfl rfl 28 _ hc1 hi rfl ha ?_); refine bodyPost_ret (v := .tuple #[.int .i64 (1 - a), .agg (rcC (⟨g, a, true, T, f, ⟨v0, s0, u0⟩, ⟨v1, s1, u1⟩⟩ : RecR))]) ?_ rfl ?_
     · exact res_tc (fn := Tryz.f93) (p := 3) (a := 2) rfl rfl rfl HG.out.1 U28 rfl hi
     · exact ⟨by rw [HSl.out, HAf.out]; rfl, HG.out.2⟩
theorem confirmed_any (r : RecR) (hk : RecM.check r = 0) (ht : r.trying = true) (w : World) :
 Calls Tryz.prog 92 #[recV r] w fun e w' => e = .returned (recV (RecM.conf r)) ∧ Below w.heap.size w w' := by
 have hn := (RecM.check_nums hk).2.1; have hr := RecM.check_rec hk; clear hk; obtain ⟨g, a, tr, n, f, ⟨v0, s0, u0⟩, ⟨v1, s1, u1⟩⟩ := r; simp only at hn ht; subst ht; show Calls Tryz.prog 92 #[.agg #[.int .i64 g, .int .i64 a, .bool true, .int .i64 n, .int .i64 f, .int .i64 v0, .int .i64 s0, .int .i64 u0, .int .i64 v1, .int .i64 s1, .int .i64 u1]] w _; rcases hn with rfl | rfl
 · have hfl : f ≤ v1 := hr.2.1 rfl
   have HCf : Hid (RecM.conf (⟨g, 0, true, n, f, ⟨v0, s0, u0⟩, ⟨v1, s1, u1⟩⟩ : RecR) = (⟨g, 1, false, 0, v1, ⟨v0, s0, u0⟩, ⟨v1, s1, u1⟩⟩ : RecR)) := by
    show _ = _; show (⟨g, 1 - 0, false, 0, max f v1, ⟨v0, s0, u0⟩, ⟨v1, s1, u1⟩⟩ : RecR) = _; rw [Int.max_eq_right hfl]
    rfl
   have m1 : (if f < v1 then v1 else f) = v1 := by split <;> omega
   have m2 : (if v1 < f then f else v1) = v1 := by split <;> omega
   have m3 : max f v1 = v1 := Int.max_eq_right hfl; have m4 : max v1 f = v1 := Int.max_eq_left hfl; have HST3 : Hid (RSt1 w (⟨g, 0, true, n, f, ⟨v0, s0, u0⟩, ⟨v1, s1, u1⟩⟩ : RecR) ((w.alloc (.cells #[.int .i64 g, .int .i64 0, .bool true, .int .i64 n, .int .i64 f, .int .i64 v0, .int .i64 s0, .int .i64 u0, .int .i64 v1, .int .i64 s1, .int .i64 u1] 28)).alloc (.cells #[.int .i64 0, .int .i64 0, .bool false, .int .i64 0, .int .i64 0, .int .i64 0, .int .i64 0, .int .i64 0, .int .i64 0, .int .i64 0, .int .i64 0] 28))) := RSt1.start w (⟨g, 0, true, n, f, ⟨v0, s0, u0⟩, ⟨v1, s1, u1⟩⟩ : RecR); clear hr hfl; go_enter Tryz.func92, Tryz.ntmps92; go_wp2_with fail; generalize (w.alloc (.cells #[.int .i64 g, .int .i64 0, .bool true, .int .i64 n, .int .i64 f, .int .i64 v0, .int .i64 s0, .int .i64 u0, .int .i64 v1, .int .i64 s1, .int .i64 u1] 28)).alloc (.cells #[.int .i64 0, .int .i64 0, .bool false, .int .i64 0, .int .i64 0, .int .i64 0, .int .i64 0, .int .i64 0, .int .i64 0, .int .i64 0, .int .i64 0] 28) = W3 at HST3 ⊢; have HST4 := LH HST3.out.drew; obtain ⟨q0, q1, q2, q3, q4, q5, q6, q7, q8, q9, q10⟩ := zbu (show W3.drew.heap[w.heap.size]? = some (.cells #[.int .i64 g, .int .i64 0, .bool true, .int .i64 n, .int .i64 f, .int .i64 v0, .int .i64 s0, .int .i64 u0, .int .i64 v1, .int .i64 s1, .int .i64 u1] 28 (0, 0)) from HST4.out.c0); have hc1 := HST4.out.c1; have HG : Hid ((W3.drew.setRow (w.heap.size + 1) (rcC (⟨g, 1, false, 0, v1, ⟨v0, s0, u0⟩, ⟨v1, s1, u1⟩⟩ : RecR))).heap[w.heap.size + 1]? = some (.cells (rcC (⟨g, 1, false, 0, v1, ⟨v0, s0, u0⟩, ⟨v1, s1, u1⟩⟩ : RecR)) 28 (0, 0)) ∧ Below w.heap.size w (W3.drew.setRow (w.heap.size + 1) (rcC (⟨g, 1, false, 0, v1, ⟨v0, s0, u0⟩, ⟨v1, s1, u1⟩⟩ : RecR)))) := ⟨setRow_heap _ _ _ _ _ _ hc1, zaZ HST4.out.below (by omega) _⟩; have hi := sRc (⟨g, 1, false, 0, v1, ⟨v0, s0, u0⟩, ⟨v1, s1, u1⟩⟩ : RecR); have ha := oRc (⟨g, 1, false, 0, v1, ⟨v0, s0, u0⟩, ⟨v1, s1, u1⟩⟩ : RecR); go_still_tail 14, (by kernel_rfl)
   change wpList _ _ _ _ _ W3.drew
   go_wp2_with (refine wpList_store_row rfl 28 (.tmp 2) (.tmp 20) rfl (w.heap.size + 1) (rcC (⟨g, 1, false, 0, v1, ⟨v0, s0, u0⟩, ⟨v1, s1, u1⟩⟩ : RecR)) rfl rfl 28 _ hc1 hi rfl ha ?_); refine bodyPost_ret (v := .agg (rcC (⟨g, 1, false, 0, v1, ⟨v0, s0, u0⟩, ⟨v1, s1, u1⟩⟩ : RecR))) ?_ rfl ?_
   · exact results_cell_row (fn := Tryz.f92) (p := 2) rfl _ _ (w.heap.size + 1) 28 _ (0, 0) _ rfl HG.out.1 U28 rfl hi
   · exact ⟨by rw [HCf.out]; rfl, HG.out.2⟩
 · have hfl : f ≤ v0 := hr.2.1 rfl
   have HCf : Hid (RecM.conf (⟨g, 1, true, n, f, ⟨v0, s0, u0⟩, ⟨v1, s1, u1⟩⟩ : RecR) = (⟨g, 0, false, 0, v0, ⟨v0, s0, u0⟩, ⟨v1, s1, u1⟩⟩ : RecR)) := by
    show _ = _; show (⟨g, 1 - 1, false, 0, max f v0, ⟨v0, s0, u0⟩, ⟨v1, s1, u1⟩⟩ : RecR) = _; rw [Int.max_eq_right hfl]
    rfl
   have m1 : (if f < v0 then v0 else f) = v0 := by split <;> omega
   have m2 : (if v0 < f then f else v0) = v0 := by split <;> omega
   have m3 : max f v0 = v0 := Int.max_eq_right hfl; have m4 : max v0 f = v0 := Int.max_eq_left hfl; have HST3 : Hid (RSt1 w (⟨g, 1, true, n, f, ⟨v0, s0, u0⟩, ⟨v1, s1, u1⟩⟩ : RecR) ((w.alloc (.cells #[.int .i64 g, .int .i64 1, .bool true, .int .i64 n, .int .i64 f, .int .i64 v0, .int .i64 s0, .int .i64 u0, .int .i64 v1, .int .i64 s1, .int .i64 u1] 28)).alloc (.cells #[.int .i64 0, .int .i64 0, .bool false, .int .i64 0, .int .i64 0, .int .i64 0, .int .i64 0, .int .i64 0, .int .i64 0, .int .i64 0, .int .i64 0] 28))) := RSt1.start w (⟨g, 1, true, n, f, ⟨v0, s0, u0⟩, ⟨v1, s1, u1⟩⟩ : RecR); clear hr hfl; go_enter Tryz.func92, Tryz.ntmps92; go_wp2_with fail; generalize (w.alloc (.cells #[.int .i64 g, .int .i64 1, .bool true, .int .i64 n, .int .i64 f, .int .i64 v0, .int .i64 s0, .int .i64 u0, .int .i64 v1, .int .i64 s1, .int .i64 u1] 28)).alloc (.cells #[.int .i64 0, .int .i64 0, .bool false, .int .i64 0, .int .i64 0, .int .i64 0, .int .i64 0, .int .i64 0, .int .i64 0, .int .i64 0, .int .i64 0] 28) = W3 at HST3 ⊢; have HST4 := LH HST3.out.drew; obtain ⟨q0, q1, q2, q3, q4, q5, q6, q7, q8, q9, q10⟩ := zbu (show W3.drew.heap[w.heap.size]? = some (.cells #[.int .i64 g, .int .i64 1, .bool true, .int .i64 n, .int .i64 f, .int .i64 v0, .int .i64 s0, .int .i64 u0, .int .i64 v1, .int .i64 s1, .int .i64 u1] 28 (0, 0)) from HST4.out.c0); have hc1 := HST4.out.c1; have HG : Hid ((W3.drew.setRow (w.heap.size + 1) (rcC (⟨g, 0, false, 0, v0, ⟨v0, s0, u0⟩, ⟨v1, s1, u1⟩⟩ : RecR))).heap[w.heap.size + 1]? = some (.cells (rcC (⟨g, 0, false, 0, v0, ⟨v0, s0, u0⟩, ⟨v1, s1, u1⟩⟩ : RecR)) 28 (0, 0)) ∧ Below w.heap.size w (W3.drew.setRow (w.heap.size + 1) (rcC (⟨g, 0, false, 0, v0, ⟨v0, s0, u0⟩, ⟨v1, s1, u1⟩⟩ : RecR)))) := ⟨setRow_heap _ _ _ _ _ _ hc1, zaZ HST4.out.below (by omega) _⟩; have hi := sRc (⟨g, 0, false, 0, v0, ⟨v0, s0, u0⟩, ⟨v1, s1, u1⟩⟩ : RecR); have ha := oRc (⟨g, 0, false, 0, v0, ⟨v0, s0, u0⟩, ⟨v1, s1, u1⟩⟩ : RecR); go_still_tail 14, (by kernel_rfl)
   change wpList _ _ _ _ _ W3.drew
   go_wp2_with (refine wpList_store_row rfl 28 (.tmp 2) (.tmp 20) rfl (w.heap.size + 1) (rcC (⟨g, 0, false, 0, v0, ⟨v0, s0, u0⟩, ⟨v1, s1, u1⟩⟩ : RecR)) rfl rfl 28 _ hc1 hi rfl ha ?_); refine bodyPost_ret (v := .agg (rcC (⟨g, 0, false, 0, v0, ⟨v0, s0, u0⟩, ⟨v1, s1, u1⟩⟩ : RecR))) ?_ rfl ?_
   · exact results_cell_row (fn := Tryz.f92) (p := 2) rfl _ _ (w.heap.size + 1) 28 _ (0, 0) _ rfl HG.out.1 U28 rfl hi
   · exact ⟨by rw [HCf.out]; rfl, HG.out.2⟩
attribute [local go_sem] run_store_func
theorem slot_i64 {r : RecR} (hk : RecM.check r = 0) : I64 (RecM.slot r) := by
 have h := (RecM.check_nums hk).2.1; unfold RecM.slot I64; split <;> omega
theorem acts_boot (w0 : World) (h : DevH) (d : DevR) (nn : Int) (x : ChR) (xa : Option Addr) (xm xc : Nat) (w : World) (hk : Below w0.heap.size w0 w) (HD : DH w0 h d) (hok : DevM.Ok d) (hu : d.up = false) : Calls Tryz.prog 26 #[devV h d, .agg #[.int .i64 10, .int .i64 nn], .agg #[.int .i64 x.fr, .int .i64 x.to_, .int .i64 x.n, .int .i64 x.of_, .slice xa xm xc]] w (zbK (fun V => Below w0.heap.size w0 V) (DevM.boot d) w) := by
 obtain ⟨⟨L, E⟩, hW⟩ : ∃ y, RecM.writeOf d.c (RecM.after (DevM.rc d)) false = y := ⟨_, rfl⟩; have HCz := LH (fun q : E = 0 => cops_w (RecM.writeOf_zero hok.cops (r := RecM.after (DevM.rc d)) (torn := false) (by rw [hW]; exact q)).2.1); rw [hW] at HCz; have HWW := LH hW; clear hW; have HNe : Hid (∀ W, Calls Tryz.prog 60 #[.agg (cpC d.c)] W fun e w' => e = .returned (.tuple #[.agg (rcC (DevM.rc d)), .int .i64 (RecM.newest d.c)]) ∧ Below W.heap.size W w') := fun W => zaP d.c hok.cops W; have HOk := LH hok; clear hok; have HDh := LH (HD.later hk); have HD0 := LH HD; have HK0 := LH hk; clear HD hk; unfold devV; obtain ⟨P1, hP1⟩ : ∃ P, w.heap.size = P := ⟨_, rfl⟩; have HS := LH (((((((((MS.start w).alloc (p := P1) (by simp [hP1]) (dvC h d) 37)).alloc (p := (P1 + 1)) (by simp [hP1]) #[.int .i64 10, .int .i64 nn] 55)).alloc (p := (P1 + 2)) (by simp [hP1]) #[.int .i64 x.fr, .int .i64 x.to_, .int .i64 x.n, .int .i64 x.of_, .slice xa xm xc] 39)).alloc (p := (P1 + 3)) (by simp [hP1]) zDev 37)); go_enter Tryz.func26, Tryz.ntmps26; go_upto_region 1 with fail; refine zau HS.out (fun V0 HS1 => ?_); replace HS := LH HS1; clear HS1 hP1; replace HS := LH (MH.of HS.out); obtain ⟨P8, hP8⟩ : ∃ P, V0.heap.size = P := ⟨_, rfl⟩; replace HS := LH (HS.out.alloc hP8 #[.nilFunc] 118); refine zaj ?_; refine zar (fun K hK => ?_); go_simp; refine hK.out _ _ ?_; clear hK K
 try simp only [Act.put, sA, sB, sC]
 refine zaF HS.out (fun V1 HS1 => ?_); replace HS := LH HS1; clear HS1 hP8; have c8 := cAt (k := 0) (v := .nilFunc) (HS.out.get 0 rfl) rfl; have z8 := tAt (k := 0) (HS.out.get 0 rfl); simp only at c8 z8; refine zar (fun K hK => ?_); go_simp; refine hK.out _ _ ?_; clear hK K c8 z8
 try simp only [Act.put, sA, sB, sC]
 refine zaF (HS.out.cell 0 rfl (k := 0) (v := (.func (.func 85) #[] #[])) (c' := #[(.func (.func 85) #[] #[])]) rfl) (fun V2 HS1 => ?_); replace HS := LH HS1; clear HS1; refine zal ?_; have cP1_26 := HS.out.cel 4 26 (v := .bool d.up) rfl rfl; have cP1p1_0 := HS.out.cel 3 0 (v := .int .i64 10) rfl rfl; rw [hu] at cP1_26; have bP1 := HS.out.gt 4 rfl
 go_wp2_with (first
  | ((with_reducible show wpList _ _ _ _ _ _); refine wLP rfl 31 (.tmp 39) rfl P1 2 rfl (dvC h d) 37 (0, 0) ?_ (cpC d.c) ?_ _ U31 rfl ?_ ?_; exact bP1; exact (zai h d); exact (sCp d.c)))
 clear cP1_26 cP1p1_0 bP1; refine (HNe.out _).mono ?_; rintro e W1 ⟨rfl, hb⟩; replace HS := LH (HS.out.later hb); clear hb; obtain ⟨P9, hP9⟩ : ∃ P, W1.heap.size = P := ⟨_, rfl⟩; replace HS := LH (HS.out.alloc hP9 (rcC (DevM.rc d)) 28); have cP1p1_0 := HS.out.cel 4 0 (v := .int .i64 10) rfl rfl; go_upto_region 7 with ((with_reducible show wpList _ _ _ _ _ _); refine wSN rfl 28 (.tmp 9) (.tmp 42) rfl P9 (rcC (DevM.rc d)) rfl rfl 28 _ ?_ ?_ ?_ ?_ ?_; exact hP9.symm; exact (sRc (DevM.rc d)); exact (lRc (DevM.rc d)); exact (oRc (DevM.rc d))); clear cP1p1_0; refine gnH HS.out (fun V3 HS1 => ?_); replace HS := LH HS1; clear HS1 hP9 HNe; have cP1p1_0 := HS.out.cel 4 0 (v := .int .i64 10) rfl rfl; have HUp := LH hu; clear hu; have HSt : Hid (∀ W, Calls Tryz.prog 93 #[.agg (rcC (DevM.rc d))] W fun e w' => e = .returned (.tuple #[.int .i64 (RecM.slot (DevM.rc d)), .agg (rcC (RecM.after (DevM.rc d)))]) ∧ Below W.heap.size W w') := fun W => started_any (DevM.rc d) (RecM.cur_ok HOk.out.cops) W; have HSl : Hid (I64 (RecM.slot (DevM.rc d))) := slot_i64 (RecM.cur_ok HOk.out.cops); have bP9 := HS.out.gt 0 rfl
 go_wp2_with (first
  | ((with_reducible show wpList _ _ _ _ _ _); refine LR rfl (t := 28) U28 rfl (.tmp 9) rfl P9 rfl bP9 (sRc (DevM.rc d)) ?_))
 clear cP1p1_0 bP9; refine (HSt.out _).mono ?_; rintro e W2 ⟨rfl, hb⟩; replace HS := LH (HS.out.later hb); clear hb; obtain ⟨P26, hP26⟩ : ∃ P, W2.heap.size = P := ⟨_, rfl⟩; replace HS := LH (HS.out.alloc hP26 (rcC (RecM.after (DevM.rc d))) 28); go_upto_region 68 with ((with_reducible show wpList _ _ _ _ _ _); refine wSN rfl 28 (.tmp 26) (.tmp 312) rfl P26 (rcC (RecM.after (DevM.rc d))) rfl rfl 28 _ ?_ ?_ ?_ ?_ ?_; exact hP26.symm; exact (sRc (RecM.after (DevM.rc d))); exact (lRc _); exact (oRc (RecM.after (DevM.rc d)))); refine gnH HS.out (fun V6 HS1 => ?_); replace HS := LH HS1; clear HS1 hP26 HSt; have z2 : ∀ W, (binOp .neq 28 (.agg (rcC (RecM.after (DevM.rc d)))) (.agg (rcC (DevM.rc d)))).run Tryz.prog W = .ok (.bool (!decide (RecM.after (DevM.rc d) = DevM.rc d))) W := fun W => rec_neq _ _ W; by_cases hs : RecM.after (DevM.rc d) = DevM.rc d
 · have bP26 := HS.out.gt 0 rfl; have bP9 := HS.out.gt 1 rfl; have HR2 : Hid (DevM.boot d = ({ d with up := true, run := RecM.slot (DevM.rc d) }, 0)) := if_pos hs; rw [decide_eq_true hs] at z2; clear hs; have bP26 := HS.out.gt 0 rfl; have bP9 := HS.out.gt 1 rfl
   go_upto_region 70 with (first
    | ((with_reducible show wpList _ _ _ _ _ _); refine LR rfl (t := 28) U28 rfl (.tmp 26) rfl P26 rfl bP26 (sRc (RecM.after (DevM.rc d))) ?_)
    | ((with_reducible show wpList _ _ _ _ _ _); refine LR rfl (t := 28) U28 rfl (.tmp 9) rfl P9 rfl bP9 (sRc (DevM.rc d)) ?_))
   clear bP26 bP9; clear z2; have cP1_26 := HS.out.cel 6 26 (v := .bool d.up) rfl rfl; have fP1_26 := HS.out.thw 6 26 rfl; have cP1_27 := HS.out.cel 6 27 (v := .int .i64 d.run) rfl rfl; have fP1_27 := HS.out.thw 6 27 rfl; go_upto_region 71 with fail; clear cP1_26 fP1_26 cP1_27 fP1_27; refine gnH ((HS.out.cell 6 rfl (put_up h d true)).cell 6 rfl (put_run h ({ d with up := true } : DevR) (RecM.slot (DevM.rc d)))) (fun V7 HS1 => ?_); replace HS := LH HS1; clear HS1; have cP8_0 := HS.out.cel 2 0 (v := (.func (.func 85) #[] #[])) rfl rfl; go_wp2_with fail; clear cP8_0; refine (zbW h ({ d with up := true, run := RecM.slot (DevM.rc d) } : DevR) P1 P8 _ (HS.out.get 6 rfl) (HS.out.get 2 rfl)).mono ?_; rintro e W3 ⟨rfl, hb⟩; replace HS := LH (HS.out.later hb); clear hb; have HG := LH (HS.out.set 3 rfl (dvC h ({ d with up := true, run := RecM.slot (DevM.rc d) } : DevR))); have bP1p3 := HS.out.gt 3 rfl
   go_wp2_with (first
    | ((with_reducible show wpList _ _ _ _ _ _); refine wpList_store_row rfl 37 (.tmp 6) (.tmp 325) rfl (P1 + 3) (dvC h ({ d with up := true, run := RecM.slot (DevM.rc d) } : DevR)) rfl rfl 37 zDev ?_ ?_ ?_ ?_ ?_; exact bP1p3; exact (sDv h ({ d with up := true, run := RecM.slot (DevM.rc d) } : DevR)); exact (zat _ _); exact (oDv h ({ d with up := true, run := RecM.slot (DevM.rc d) } : DevR))))
   clear bP1p3; refine bodyPost_ret (v := .tuple #[.agg (dvC h ({ d with up := true, run := RecM.slot (DevM.rc d) } : DevR)), .int .i64 0]) ?_ rfl ?_
   · exact zam (fn := Tryz.f26) (p := 6) (a := 7) rfl rfl rfl (HG.out.get 3 rfl) U37 rfl (sDv _ _)
   · rw [HR2.out]
     refine ⟨h, rfl, HG.out.below, fun V v1 v2 hV => ?_⟩; have k0 := HD0.out.later hV; exact ⟨k0.b0, k0.b1, k0.got, k0.ops, k0.copsW, HSl.out, k0.jobI, k0.doneI⟩
 · have HR : Hid (DevM.boot d = DevM.wrong E ({ d with c := L, up := true, run := RecM.slot (DevM.rc d) }, 0)) := by
    show _ = _; unfold DevM.boot; rw [if_neg hs, HWW.out]
   rw [decide_eq_false hs] at z2; clear hs
   have HWc : Hid (∀ W, W.heap[P1]? = some (.cells (dvC h d) 37 (0, 0)) → Calls Tryz.prog 86 #[.agg (rcC (RecM.after (DevM.rc d))), .bool false, .pointer (some ⟨P1, 0, none⟩)] W (GivesAW P1 (L, E) W)) := fun W hB => by
    have := acts2_any h d (RecM.after (DevM.rc d)) false P1 W HOk.out.cops hB
    rwa [HWW.out] at this
   have bP26 := HS.out.gt 0 rfl; have bP9 := HS.out.gt 1 rfl
   go_wp2_with (first
    | ((with_reducible show wpList _ _ _ _ _ _); refine LR rfl (t := 28) U28 rfl (.tmp 26) rfl P26 rfl bP26 (sRc (RecM.after (DevM.rc d))) ?_)
    | ((with_reducible show wpList _ _ _ _ _ _); refine LR rfl (t := 28) U28 rfl (.tmp 9) rfl P9 rfl bP9 (sRc (DevM.rc d)) ?_))
   clear bP26 bP9; clear z2; refine (HWc.out _ (HS.out.get 6 rfl)).mono ?_; rintro e W3 ⟨V9, rfl, hb, hw⟩; replace HS := LH (HS.out.later hb); clear hb HWc; simp only at hw; by_cases hE : E = 0
   · subst hE
     rw [if_pos rfl] at hw; have HS9 := LH (HS.out.cells 6 rfl (zbr h d L)); rw [← hw] at HS9; clear hw; replace HS := HS9; clear HS9; have HR2 : Hid (DevM.boot d = ({ d with c := L, up := true, run := RecM.slot (DevM.rc d) }, 0)) := HR.out; have HLW := LH (HCz.out rfl); have cP1_26 := HS.out.cel 6 26 (v := .bool d.up) rfl rfl; have fP1_26 := HS.out.thw 6 26 rfl; have cP1_27 := HS.out.cel 6 27 (v := .int .i64 d.run) rfl rfl; have fP1_27 := HS.out.thw 6 27 rfl; go_upto_region 71 with fail; clear cP1_26 fP1_26 cP1_27 fP1_27; refine gnH ((HS.out.cell 6 rfl (put_up h ({ d with c := L } : DevR) true)).cell 6 rfl (put_run h ({ ({ d with c := L } : DevR) with up := true } : DevR) (RecM.slot (DevM.rc d)))) (fun V7 HS1 => ?_); replace HS := LH HS1; clear HS1; have cP8_0 := HS.out.cel 2 0 (v := (.func (.func 85) #[] #[])) rfl rfl; go_wp2_with fail; clear cP8_0; refine (zbW h ({ ({ d with c := L } : DevR) with up := true, run := RecM.slot (DevM.rc d) } : DevR) P1 P8 _ (HS.out.get 6 rfl) (HS.out.get 2 rfl)).mono ?_; rintro e W4 ⟨rfl, hb⟩; replace HS := LH (HS.out.later hb); clear hb; have HG := LH (HS.out.set 3 rfl (dvC h ({ ({ d with c := L } : DevR) with up := true, run := RecM.slot (DevM.rc d) } : DevR))); have bP1p3 := HS.out.gt 3 rfl
     go_wp2_with (first
      | ((with_reducible show wpList _ _ _ _ _ _); refine wpList_store_row rfl 37 (.tmp 6) (.tmp 325) rfl (P1 + 3) (dvC h ({ ({ d with c := L } : DevR) with up := true, run := RecM.slot (DevM.rc d) } : DevR)) rfl rfl 37 zDev ?_ ?_ ?_ ?_ ?_; exact bP1p3; exact (sDv h ({ ({ d with c := L } : DevR) with up := true, run := RecM.slot (DevM.rc d) } : DevR)); exact (zat _ _); exact (oDv h ({ ({ d with c := L } : DevR) with up := true, run := RecM.slot (DevM.rc d) } : DevR))))
     clear bP1p3; refine bodyPost_ret (v := .tuple #[.agg (dvC h ({ ({ d with c := L } : DevR) with up := true, run := RecM.slot (DevM.rc d) } : DevR)), .int .i64 0]) ?_ rfl ?_
     · exact zam (fn := Tryz.f26) (p := 6) (a := 7) rfl rfl rfl (HG.out.get 3 rfl) U37 rfl (sDv _ _)
     · rw [HR2.out]
       refine ⟨h, rfl, HG.out.below, fun V v1 v2 hV => ?_⟩; have k0 := HD0.out.later hV; exact ⟨k0.b0, k0.b1, k0.got, k0.ops, HLW.out, HSl.out, k0.jobI, k0.doneI⟩
   · rw [if_neg hE] at hw
     subst hw; have HR2 : Hid (DevM.boot d = (DevM.noDev, E)) := HR.out.trans (if_pos hE); have cP1_26 := HS.out.cel 6 26 (v := .bool d.up) rfl rfl; have fP1_26 := HS.out.thw 6 26 rfl; have cP1_27 := HS.out.cel 6 27 (v := .int .i64 d.run) rfl rfl; have fP1_27 := HS.out.thw 6 27 rfl; go_upto_region 71 with fail; clear cP1_26 fP1_26 cP1_27 fP1_27; refine gnH ((HS.out.cell 6 rfl (put_up h d true)).cell 6 rfl (put_run h ({ d with up := true } : DevR) (RecM.slot (DevM.rc d)))) (fun V7 HS1 => ?_); replace HS := LH HS1; clear HS1; have cP8_0 := HS.out.cel 2 0 (v := (.func (.func 85) #[] #[])) rfl rfl; go_wp2_with fail; clear cP8_0; refine (zbU h ({ d with up := true, run := RecM.slot (DevM.rc d) } : DevR) E hE P1 P8 _ (HS.out.get 6 rfl) (HS.out.get 2 rfl)).mono ?_; rintro e W4 ⟨rfl, hb⟩; replace HS := LH (HS.out.later hb); clear hb; have HG := LH (HS.out.set 3 rfl zDev); have bP1p3 := HS.out.gt 3 rfl
     go_wp2_with (first
      | ((with_reducible show wpList _ _ _ _ _ _); refine wpList_store_row rfl 37 (.tmp 6) (.tmp 325) rfl (P1 + 3) zDev rfl rfl 37 zDev ?_ ?_ ?_ ?_ ?_; exact bP1p3; exact zac; exact zav; exact zaq))
     clear bP1p3; refine bodyPost_ret (v := .tuple #[.agg zDev, .int .i64 E]) ?_ rfl ?_
     · exact zam (fn := Tryz.f26) (p := 6) (a := 7) rfl rfl rfl (HG.out.get 3 rfl) U37 rfl zac
     · rw [HR2.out]
       exact ⟨noH, by rw [zaK], HG.out.below, NewR.any (fun W _ => DH.none_ W)⟩
attribute [local go_sem] run_store_func
theorem acts_finishfalse (w0 : World) (h : DevH) (d : DevR) (nn : Int) (x : ChR) (xa : Option Addr) (xm xc : Nat) (w : World) (hk : Below w0.heap.size w0 w) (HD : DH w0 h d) (hok : DevM.Ok d) (hu : d.up = true) : Calls Tryz.prog 26 #[devV h d, .agg #[.int .i64 7, .int .i64 nn], .agg #[.int .i64 x.fr, .int .i64 x.to_, .int .i64 x.n, .int .i64 x.of_, .slice xa xm xc]] w (zbK (fun V => Below w0.heap.size w0 V) (DevM.finish d false) w) := by
 obtain ⟨⟨L, E⟩, hW⟩ : ∃ y, RecM.writeOf d.c (DevM.tried d) false = y := ⟨_, rfl⟩; have HCz := LH (fun q : E = 0 => cops_w (RecM.writeOf_zero hok.cops (r := DevM.tried d) (torn := false) (by rw [hW]; exact q)).2.1); rw [hW] at HCz; have HWF := LH hW; clear hW; have HNe : Hid (∀ W, Calls Tryz.prog 60 #[.agg (cpC d.c)] W fun e w' => e = .returned (.tuple #[.agg (rcC (DevM.rc d)), .int .i64 (RecM.newest d.c)]) ∧ Below W.heap.size W w') := fun W => zaP d.c hok.cops W; have HOk := LH hok; clear hok; have HDh := LH (HD.later hk); have HD0 := LH HD; have HK0 := LH hk; clear HD hk; unfold devV; obtain ⟨P1, hP1⟩ : ∃ P, w.heap.size = P := ⟨_, rfl⟩; have HS := LH (((((((((MS.start w).alloc (p := P1) (by simp [hP1]) (dvC h d) 37)).alloc (p := (P1 + 1)) (by simp [hP1]) #[.int .i64 7, .int .i64 nn] 55)).alloc (p := (P1 + 2)) (by simp [hP1]) #[.int .i64 x.fr, .int .i64 x.to_, .int .i64 x.n, .int .i64 x.of_, .slice xa xm xc] 39)).alloc (p := (P1 + 3)) (by simp [hP1]) zDev 37)); go_enter Tryz.func26, Tryz.ntmps26; go_upto_region 1 with fail; refine zau HS.out (fun V0 HS1 => ?_); replace HS := LH HS1; clear HS1 hP1; replace HS := LH (MH.of HS.out); obtain ⟨P8, hP8⟩ : ∃ P, V0.heap.size = P := ⟨_, rfl⟩; replace HS := LH (HS.out.alloc hP8 #[.nilFunc] 118); refine zaj ?_; refine zar (fun K hK => ?_); go_simp; refine hK.out _ _ ?_; clear hK K
 try simp only [Act.put, sA, sB, sC]
 refine zaF HS.out (fun V1 HS1 => ?_); replace HS := LH HS1; clear HS1 hP8; have c8 := cAt (k := 0) (v := .nilFunc) (HS.out.get 0 rfl) rfl; have z8 := tAt (k := 0) (HS.out.get 0 rfl); simp only at c8 z8; refine zar (fun K hK => ?_); go_simp; refine hK.out _ _ ?_; clear hK K c8 z8
 try simp only [Act.put, sA, sB, sC]
 refine zaF (HS.out.cell 0 rfl (k := 0) (v := (.func (.func 85) #[] #[])) (c' := #[(.func (.func 85) #[] #[])]) rfl) (fun V2 HS1 => ?_); replace HS := LH HS1; clear HS1; refine zal ?_; have cP1_26 := HS.out.cel 4 26 (v := .bool d.up) rfl rfl; have cP1p1_0 := HS.out.cel 3 0 (v := .int .i64 7) rfl rfl; rw [hu] at cP1_26; have bP1 := HS.out.gt 4 rfl
 go_wp2_with (first
  | ((with_reducible show wpList _ _ _ _ _ _); refine wLP rfl 31 (.tmp 39) rfl P1 2 rfl (dvC h d) 37 (0, 0) ?_ (cpC d.c) ?_ _ U31 rfl ?_ ?_; exact bP1; exact (zai h d); exact (sCp d.c)))
 clear cP1_26 cP1p1_0 bP1; refine (HNe.out _).mono ?_; rintro e W1 ⟨rfl, hb⟩; replace HS := LH (HS.out.later hb); clear hb; obtain ⟨P9, hP9⟩ : ∃ P, W1.heap.size = P := ⟨_, rfl⟩; replace HS := LH (HS.out.alloc hP9 (rcC (DevM.rc d)) 28); have cP1p1_0 := HS.out.cel 4 0 (v := .int .i64 7) rfl rfl; go_upto_region 7 with ((with_reducible show wpList _ _ _ _ _ _); refine wSN rfl 28 (.tmp 9) (.tmp 42) rfl P9 (rcC (DevM.rc d)) rfl rfl 28 _ ?_ ?_ ?_ ?_ ?_; exact hP9.symm; exact (sRc (DevM.rc d)); exact (lRc (DevM.rc d)); exact (oRc (DevM.rc d))); clear cP1p1_0; refine gnH HS.out (fun V3 HS1 => ?_); replace HS := LH HS1; clear HS1 hP9 HNe; have cP1p1_0 := HS.out.cel 4 0 (v := .int .i64 7) rfl rfl; have HUp := LH hu; clear hu; have cP1_29 := HS.out.cel 5 29 (v := .bool d.busy) rfl rfl; have cP1_36 := HS.out.cel 5 36 (v := .int .i64 d.done) rfl rfl; have cP1_34 := HS.out.cel 5 34 (v := .int .i64 d.job.size) rfl rfl; by_cases hl : d.busy = false ∨ d.done < d.job.size
 case pos =>
  have HR : Hid (DevM.finish d false = (DevM.noDev, 5)) := if_pos hl; rcases Bool.eq_false_or_eq_true d.busy with hb | hb
  · have t2 : decide (d.done < d.job.size) = true := by
     rcases hl with z | z
     · rw [hb] at z; cases z
     · simp [z]
    rw [hb] at cP1_29; clear hl hb; have cP8_0 := HS.out.cel 1 0 (v := (.func (.func 85) #[] #[])) rfl rfl; go_wp2_with fail; clear cP1p1_0 cP1_29 cP1_36 cP1_34 cP8_0; refine (zaI 5 _).mono ?_; rintro e W2 ⟨rfl, hb⟩; replace HS := LH (HS.out.later hb); clear hb; have HG := LH (HS.out.set 2 rfl zDev); have bP1p3 := HS.out.gt 2 rfl
    go_wp2_with (first
     | ((with_reducible show wpList _ _ _ _ _ _); refine wpList_store_row rfl 37 (.tmp 6) (.tmp 241) rfl (P1 + 3) zDev rfl rfl 37 zDev ?_ ?_ ?_ ?_ ?_; exact bP1p3; exact zac; exact zav; exact zaq))
    clear bP1p3; refine bodyPost_ret (v := .tuple #[.agg zDev, .int .i64 5]) ?_ rfl ?_
    · exact zam (fn := Tryz.f26) (p := 6) (a := 7) rfl rfl rfl (HG.out.get 2 rfl) U37 rfl zac
    · rw [HR.out]
      exact ⟨noH, by rw [zaK], HG.out.below, NewR.any (fun W _ => DH.none_ W)⟩
  · rw [hb] at cP1_29
    clear hl hb; have cP8_0 := HS.out.cel 1 0 (v := (.func (.func 85) #[] #[])) rfl rfl; go_wp2_with fail; clear cP1p1_0 cP1_29 cP1_36 cP1_34 cP8_0; refine (zaI 5 _).mono ?_; rintro e W2 ⟨rfl, hb⟩; replace HS := LH (HS.out.later hb); clear hb; have HG := LH (HS.out.set 2 rfl zDev); have bP1p3 := HS.out.gt 2 rfl
    go_wp2_with (first
     | ((with_reducible show wpList _ _ _ _ _ _); refine wpList_store_row rfl 37 (.tmp 6) (.tmp 241) rfl (P1 + 3) zDev rfl rfl 37 zDev ?_ ?_ ?_ ?_ ?_; exact bP1p3; exact zac; exact zav; exact zaq))
    clear bP1p3; refine bodyPost_ret (v := .tuple #[.agg zDev, .int .i64 5]) ?_ rfl ?_
    · exact zam (fn := Tryz.f26) (p := 6) (a := 7) rfl rfl rfl (HG.out.get 2 rfl) U37 rfl zac
    · rw [HR.out]
      exact ⟨noH, by rw [zaK], HG.out.below, NewR.any (fun W _ => DH.none_ W)⟩
 have HR : Hid (DevM.finish d false = DevM.wrong E (({ d with c := L, busy := false, done := 0, job := zap }, 0) : DevR × Int)) := by
  show _ = _; unfold DevM.finish; rw [if_neg hl, HWF.out]
  rfl
 have hbu : d.busy = true := by
  cases q : d.busy with
  | true => rfl
  | false => exact absurd (.inl q) hl
 have t2 : decide (d.done < d.job.size) = false := by
  have : ¬ d.done < d.job.size := fun q => hl (.inr q); simp; omega
 rw [hbu] at cP1_29; clear hl hbu; have ha := HOk.out.act01; unfold DevM.act at ha; obtain ⟨O, hO, hO2⟩ := zb9 ha; have hO0 : (0 : Int) ≤ (O : Int) := by omega
 have hOI : (O : Int) < 2 := by omega
 have hOw : IntKind.i64.wrap (O : Int) = (O : Int) := IntWalk.i64_in _ (by omega)
 have HWW : Hid (RecM.writeOf d.c (RecR.setI ({ DevM.rc d with trying := true, tries := 3 } : RecR) O ⟨d.job.to_, d.job.size, d.job.new⟩) false = (L, E)) := by
  have := HWF.out
  rwa [tried_is d O hO hO2] at this
 have HWc : Hid (∀ W, W.heap[P1]? = some (.cells (dvC h d) 37 (0, 0)) → Calls Tryz.prog 86 #[.agg (rcC (RecR.setI ({ DevM.rc d with trying := true, tries := 3 } : RecR) O ⟨d.job.to_, d.job.size, d.job.new⟩)), .bool false, .pointer (some ⟨P1, 0, none⟩)] W (GivesAW P1 (L, E) W)) := fun W hB => by
  have := acts2_any h d (RecR.setI ({ DevM.rc d with trying := true, tries := 3 } : RecR) O ⟨d.job.to_, d.job.size, d.job.new⟩) false P1 W HOk.out.cops hB
  rwa [HWW.out] at this
 have cP9_2 := HS.out.cel 0 2 (v := .bool (DevM.rc d).trying) rfl rfl; have fP9_2 := HS.out.thw 0 2 rfl; have cP9_3 := HS.out.cel 0 3 (v := .int .i64 (DevM.rc d).tries) rfl rfl; have fP9_3 := HS.out.thw 0 3 rfl; go_upto_region 53 with fail; clear cP1p1_0 cP1_29 cP1_36 cP1_34 cP9_2 fP9_2 cP9_3 fP9_3; refine gnH ((HS.out.cell 0 rfl (put_tryR (DevM.rc d) true)).cell 0 rfl (put_triesR ({ DevM.rc d with trying := true } : RecR) 3)) (fun V4 HS1 => ?_); replace HS := LH HS1; clear HS1 t2; have cP9_1 := HS.out.cel 0 1 (v := .int .i64 (DevM.rc d).act) rfl rfl; have cP1_31 := HS.out.cel 5 31 (v := .int .i64 d.job.to_) rfl rfl; have cP1_34 := HS.out.cel 5 34 (v := .int .i64 d.job.size) rfl rfl; have cP1_33 := HS.out.cel 5 33 (v := .int .i64 d.job.new) rfl rfl; have HS2 := LH (HS.out.cells 0 rfl (put_infV ({ DevM.rc d with trying := true, tries := 3 } : RecR) O ⟨d.job.to_, d.job.size, d.job.new⟩ hO2))
 go_upto_region 54 with (first
  | ((with_reducible show wpList _ _ _ _ _ _); refine zaE rfl 25 _ rfl [(0, .int .i64 d.job.to_), (1, .int .i64 d.job.size), (2, .int .i64 d.job.new)] rfl #[Value.int .i64 d.job.to_, .int .i64 d.job.size, .int .i64 d.job.new] (by kernel_rfl) ?_)
  | ((with_reducible show wpList _ _ _ _ _ _); refine wpList_store_mid rfl 25 (.tmp 259) (.tmp 257) rfl P9 (5 + O * 3) #[Value.int .i64 d.job.to_, .int .i64 d.job.size, .int .i64 d.job.new] rfl rfl ?_ ?_ ?_ ?_; exact HS.out.ms.there 0 rfl (by show 5 + O * 3 + 3 ≤ 11; omega); exact size_inf ⟨d.job.to_, d.job.size, d.job.new⟩; exact one_inf ⟨d.job.to_, d.job.size, d.job.new⟩))
 clear cP9_1 cP1_31 cP1_34 cP1_33; refine gnH HS2.out (fun V5 HS1 => ?_); replace HS := LH HS1; clear HS1 HS2; have cP1p1_0 := HS.out.cel 4 0 (v := .int .i64 7) rfl rfl; have bP9 := HS.out.gt 0 rfl
 go_wp2_with (first
  | ((with_reducible show wpList _ _ _ _ _ _); refine LR rfl (t := 28) U28 rfl (.tmp 9) rfl P9 rfl bP9 (sRc (RecR.setI ({ DevM.rc d with trying := true, tries := 3 } : RecR) O ⟨d.job.to_, d.job.size, d.job.new⟩)) ?_))
 clear cP1p1_0 bP9; refine (HWc.out _ (HS.out.get 5 rfl)).mono ?_; rintro e W2 ⟨V9, rfl, hb, hw⟩; replace HS := LH (HS.out.later hb); clear hb HWc; simp only at hw; by_cases hE : E = 0
 · subst hE
   rw [if_pos rfl] at hw; have HS9 := LH (HS.out.cells 5 rfl (zbr h d L)); rw [← hw] at HS9; clear hw; replace HS := HS9; clear HS9; have HLW := LH (HCz.out rfl); have HR2 : Hid (DevM.finish d false = (({ d with c := L, busy := false, done := 0, job := zap }, 0) : DevR × Int)) := HR.out; have cP1_29 := HS.out.cel 5 29 (v := .bool d.busy) rfl rfl; have fP1_29 := HS.out.thw 5 29 rfl; have cP1_36 := HS.out.cel 5 36 (v := .int .i64 d.done) rfl rfl; have fP1_36 := HS.out.thw 5 36 rfl; go_upto_region 56 with fail; clear cP1_29 fP1_29 cP1_36 fP1_36; refine gnH ((HS.out.cell 5 rfl (zbH h ({ d with c := L } : DevR) false)).cell 5 rfl (zbe h ({ ({ d with c := L } : DevR) with busy := false } : DevR) 0)) (fun V6 HS1 => ?_); replace HS := LH HS1; clear HS1; have cP1p1_0 := HS.out.cel 4 0 (v := .int .i64 7) rfl rfl; go_upto_region 58 with fail; clear cP1p1_0; have HS2 := LH (HS.out.cells 5 rfl (put_job h ({ ({ d with c := L } : DevR) with busy := false, done := 0 } : DevR) none 0 0 zap))
   go_upto_region 59 with (first
    | ((with_reducible show wpList _ _ _ _ _ _); refine wpList_store_mid rfl 35 (.tmp 274) (.tmp 273) rfl P1 30 (jbC none 0 0 zap) rfl rfl ?_ ?_ ?_ ?_; exact HS.out.ms.there 5 rfl (by show 36 ≤ 37; decide); exact sJb _ _ _ _; exact zbg _ _ _ _))
   refine gnH HS2.out (fun V8 HS1 => ?_); replace HS := LH HS1; clear HS1 HS2; have cP8_0 := HS.out.cel 1 0 (v := (.func (.func 85) #[] #[])) rfl rfl; go_wp2_with fail; clear cP8_0; refine (zbW ({ h with oa := none, on := 0, oc := 0 } : DevH) ({ ({ ({ d with c := L } : DevR) with busy := false, done := 0 } : DevR) with job := zap } : DevR) P1 P8 _ (HS.out.get 5 rfl) (HS.out.get 1 rfl)).mono ?_; rintro e W3 ⟨rfl, hb⟩; replace HS := LH (HS.out.later hb); clear hb; have HG := LH (HS.out.set 2 rfl (dvC ({ h with oa := none, on := 0, oc := 0 } : DevH) ({ ({ ({ d with c := L } : DevR) with busy := false, done := 0 } : DevR) with job := zap } : DevR))); have bP1p3 := HS.out.gt 2 rfl
   go_wp2_with (first
    | ((with_reducible show wpList _ _ _ _ _ _); refine wpList_store_row rfl 37 (.tmp 6) (.tmp 278) rfl (P1 + 3) (dvC ({ h with oa := none, on := 0, oc := 0 } : DevH) ({ ({ ({ d with c := L } : DevR) with busy := false, done := 0 } : DevR) with job := zap } : DevR)) rfl rfl 37 zDev ?_ ?_ ?_ ?_ ?_; exact bP1p3; exact (sDv ({ h with oa := none, on := 0, oc := 0 } : DevH) ({ ({ ({ d with c := L } : DevR) with busy := false, done := 0 } : DevR) with job := zap } : DevR)); exact (zat _ _); exact (oDv ({ h with oa := none, on := 0, oc := 0 } : DevH) ({ ({ ({ d with c := L } : DevR) with busy := false, done := 0 } : DevR) with job := zap } : DevR))))
   clear bP1p3; refine bodyPost_ret (v := .tuple #[.agg (dvC ({ h with oa := none, on := 0, oc := 0 } : DevH) ({ ({ ({ d with c := L } : DevR) with busy := false, done := 0 } : DevR) with job := zap } : DevR)), .int .i64 0]) ?_ rfl ?_
   · exact zam (fn := Tryz.f26) (p := 6) (a := 7) rfl rfl rfl (HG.out.get 2 rfl) U37 rfl (sDv _ _)
   · rw [HR2.out]
     refine ⟨({ h with oa := none, on := 0, oc := 0 } : DevH), rfl, HG.out.below, fun V v1 v2 hV => ?_⟩; have k0 := HD0.out.later hV; exact ⟨k0.b0, k0.b1, k0.got, OS.nil_ _, HLW.out, k0.runI, zbv, zaS⟩
 · rw [if_neg hE] at hw
   subst hw; have HR2 : Hid (DevM.finish d false = (DevM.noDev, E)) := HR.out.trans (if_pos hE); have cP1_29 := HS.out.cel 5 29 (v := .bool d.busy) rfl rfl; have fP1_29 := HS.out.thw 5 29 rfl; have cP1_36 := HS.out.cel 5 36 (v := .int .i64 d.done) rfl rfl; have fP1_36 := HS.out.thw 5 36 rfl; go_upto_region 56 with fail; clear cP1_29 fP1_29 cP1_36 fP1_36; refine gnH ((HS.out.cell 5 rfl (zbH h d false)).cell 5 rfl (zbe h ({ d with busy := false } : DevR) 0)) (fun V6 HS1 => ?_); replace HS := LH HS1; clear HS1; have cP1p1_0 := HS.out.cel 4 0 (v := .int .i64 7) rfl rfl; go_upto_region 58 with fail; clear cP1p1_0; have HS2 := LH (HS.out.cells 5 rfl (put_job h ({ d with busy := false, done := 0 } : DevR) none 0 0 zap))
   go_upto_region 59 with (first
    | ((with_reducible show wpList _ _ _ _ _ _); refine wpList_store_mid rfl 35 (.tmp 274) (.tmp 273) rfl P1 30 (jbC none 0 0 zap) rfl rfl ?_ ?_ ?_ ?_; exact HS.out.ms.there 5 rfl (by show 36 ≤ 37; decide); exact sJb _ _ _ _; exact zbg _ _ _ _))
   refine gnH HS2.out (fun V8 HS1 => ?_); replace HS := LH HS1; clear HS1 HS2; have cP8_0 := HS.out.cel 1 0 (v := (.func (.func 85) #[] #[])) rfl rfl; go_wp2_with fail; clear cP8_0; refine (zbU ({ h with oa := none, on := 0, oc := 0 } : DevH) ({ ({ d with busy := false, done := 0 } : DevR) with job := zap } : DevR) E hE P1 P8 _ (HS.out.get 5 rfl) (HS.out.get 1 rfl)).mono ?_; rintro e W3 ⟨rfl, hb⟩; replace HS := LH (HS.out.later hb); clear hb; have HG := LH (HS.out.set 2 rfl zDev); have bP1p3 := HS.out.gt 2 rfl
   go_wp2_with (first
    | ((with_reducible show wpList _ _ _ _ _ _); refine wpList_store_row rfl 37 (.tmp 6) (.tmp 278) rfl (P1 + 3) zDev rfl rfl 37 zDev ?_ ?_ ?_ ?_ ?_; exact bP1p3; exact zac; exact zav; exact zaq))
   clear bP1p3; refine bodyPost_ret (v := .tuple #[.agg zDev, .int .i64 E]) ?_ rfl ?_
   · exact zam (fn := Tryz.f26) (p := 6) (a := 7) rfl rfl rfl (HG.out.get 2 rfl) U37 rfl zac
   · rw [HR2.out]
     exact ⟨noH, by rw [zaK], HG.out.below, NewR.any (fun W _ => DH.none_ W)⟩
theorem acts_finishtrue (w0 : World) (h : DevH) (d : DevR) (nn : Int) (x : ChR) (xa : Option Addr) (xm xc : Nat) (w : World) (hk : Below w0.heap.size w0 w) (HD : DH w0 h d) (hok : DevM.Ok d) (hu : d.up = true) : Calls Tryz.prog 26 #[devV h d, .agg #[.int .i64 12, .int .i64 nn], .agg #[.int .i64 x.fr, .int .i64 x.to_, .int .i64 x.n, .int .i64 x.of_, .slice xa xm xc]] w (zbK (fun V => Below w0.heap.size w0 V) (DevM.finish d true) w) := by
 obtain ⟨⟨L, E⟩, hW⟩ : ∃ y, RecM.writeOf d.c (DevM.tried d) true = y := ⟨_, rfl⟩; have HCz := LH (fun q : E = 0 => cops_w (RecM.writeOf_zero hok.cops (r := DevM.tried d) (torn := true) (by rw [hW]; exact q)).2.1); rw [hW] at HCz; have HWF := LH hW; clear hW; have HNe : Hid (∀ W, Calls Tryz.prog 60 #[.agg (cpC d.c)] W fun e w' => e = .returned (.tuple #[.agg (rcC (DevM.rc d)), .int .i64 (RecM.newest d.c)]) ∧ Below W.heap.size W w') := fun W => zaP d.c hok.cops W; have HOk := LH hok; clear hok; have HDh := LH (HD.later hk); have HD0 := LH HD; have HK0 := LH hk; clear HD hk; unfold devV; obtain ⟨P1, hP1⟩ : ∃ P, w.heap.size = P := ⟨_, rfl⟩; have HS := LH (((((((((MS.start w).alloc (p := P1) (by simp [hP1]) (dvC h d) 37)).alloc (p := (P1 + 1)) (by simp [hP1]) #[.int .i64 12, .int .i64 nn] 55)).alloc (p := (P1 + 2)) (by simp [hP1]) #[.int .i64 x.fr, .int .i64 x.to_, .int .i64 x.n, .int .i64 x.of_, .slice xa xm xc] 39)).alloc (p := (P1 + 3)) (by simp [hP1]) zDev 37)); go_enter Tryz.func26, Tryz.ntmps26; go_upto_region 1 with fail; refine zau HS.out (fun V0 HS1 => ?_); replace HS := LH HS1; clear HS1 hP1; replace HS := LH (MH.of HS.out); obtain ⟨P8, hP8⟩ : ∃ P, V0.heap.size = P := ⟨_, rfl⟩; replace HS := LH (HS.out.alloc hP8 #[.nilFunc] 118); refine zaj ?_; refine zar (fun K hK => ?_); go_simp; refine hK.out _ _ ?_; clear hK K
 try simp only [Act.put, sA, sB, sC]
 refine zaF HS.out (fun V1 HS1 => ?_); replace HS := LH HS1; clear HS1 hP8; have c8 := cAt (k := 0) (v := .nilFunc) (HS.out.get 0 rfl) rfl; have z8 := tAt (k := 0) (HS.out.get 0 rfl); simp only at c8 z8; refine zar (fun K hK => ?_); go_simp; refine hK.out _ _ ?_; clear hK K c8 z8
 try simp only [Act.put, sA, sB, sC]
 refine zaF (HS.out.cell 0 rfl (k := 0) (v := (.func (.func 85) #[] #[])) (c' := #[(.func (.func 85) #[] #[])]) rfl) (fun V2 HS1 => ?_); replace HS := LH HS1; clear HS1; refine zal ?_; have cP1_26 := HS.out.cel 4 26 (v := .bool d.up) rfl rfl; have cP1p1_0 := HS.out.cel 3 0 (v := .int .i64 12) rfl rfl; rw [hu] at cP1_26; have bP1 := HS.out.gt 4 rfl
 go_wp2_with (first
  | ((with_reducible show wpList _ _ _ _ _ _); refine wLP rfl 31 (.tmp 39) rfl P1 2 rfl (dvC h d) 37 (0, 0) ?_ (cpC d.c) ?_ _ U31 rfl ?_ ?_; exact bP1; exact (zai h d); exact (sCp d.c)))
 clear cP1_26 cP1p1_0 bP1; refine (HNe.out _).mono ?_; rintro e W1 ⟨rfl, hb⟩; replace HS := LH (HS.out.later hb); clear hb; obtain ⟨P9, hP9⟩ : ∃ P, W1.heap.size = P := ⟨_, rfl⟩; replace HS := LH (HS.out.alloc hP9 (rcC (DevM.rc d)) 28); have cP1p1_0 := HS.out.cel 4 0 (v := .int .i64 12) rfl rfl; go_upto_region 7 with ((with_reducible show wpList _ _ _ _ _ _); refine wSN rfl 28 (.tmp 9) (.tmp 42) rfl P9 (rcC (DevM.rc d)) rfl rfl 28 _ ?_ ?_ ?_ ?_ ?_; exact hP9.symm; exact (sRc (DevM.rc d)); exact (lRc (DevM.rc d)); exact (oRc (DevM.rc d))); clear cP1p1_0; refine gnH HS.out (fun V3 HS1 => ?_); replace HS := LH HS1; clear HS1 hP9 HNe; have cP1p1_0 := HS.out.cel 4 0 (v := .int .i64 12) rfl rfl; have HUp := LH hu; clear hu; have cP1_29 := HS.out.cel 5 29 (v := .bool d.busy) rfl rfl; have cP1_36 := HS.out.cel 5 36 (v := .int .i64 d.done) rfl rfl; have cP1_34 := HS.out.cel 5 34 (v := .int .i64 d.job.size) rfl rfl; by_cases hl : d.busy = false ∨ d.done < d.job.size
 case pos =>
  have HR : Hid (DevM.finish d true = (DevM.noDev, 5)) := if_pos hl; rcases Bool.eq_false_or_eq_true d.busy with hb | hb
  · have t2 : decide (d.done < d.job.size) = true := by
     rcases hl with z | z
     · rw [hb] at z; cases z
     · simp [z]
    rw [hb] at cP1_29; clear hl hb; have cP8_0 := HS.out.cel 1 0 (v := (.func (.func 85) #[] #[])) rfl rfl; go_wp2_with fail; clear cP1p1_0 cP1_29 cP1_36 cP1_34 cP8_0; refine (zaI 5 _).mono ?_; rintro e W2 ⟨rfl, hb⟩; replace HS := LH (HS.out.later hb); clear hb; have HG := LH (HS.out.set 2 rfl zDev); have bP1p3 := HS.out.gt 2 rfl
    go_wp2_with (first
     | ((with_reducible show wpList _ _ _ _ _ _); refine wpList_store_row rfl 37 (.tmp 6) (.tmp 241) rfl (P1 + 3) zDev rfl rfl 37 zDev ?_ ?_ ?_ ?_ ?_; exact bP1p3; exact zac; exact zav; exact zaq))
    clear bP1p3; refine bodyPost_ret (v := .tuple #[.agg zDev, .int .i64 5]) ?_ rfl ?_
    · exact zam (fn := Tryz.f26) (p := 6) (a := 7) rfl rfl rfl (HG.out.get 2 rfl) U37 rfl zac
    · rw [HR.out]
      exact ⟨noH, by rw [zaK], HG.out.below, NewR.any (fun W _ => DH.none_ W)⟩
  · rw [hb] at cP1_29
    clear hl hb; have cP8_0 := HS.out.cel 1 0 (v := (.func (.func 85) #[] #[])) rfl rfl; go_wp2_with fail; clear cP1p1_0 cP1_29 cP1_36 cP1_34 cP8_0; refine (zaI 5 _).mono ?_; rintro e W2 ⟨rfl, hb⟩; replace HS := LH (HS.out.later hb); clear hb; have HG := LH (HS.out.set 2 rfl zDev); have bP1p3 := HS.out.gt 2 rfl
    go_wp2_with (first
     | ((with_reducible show wpList _ _ _ _ _ _); refine wpList_store_row rfl 37 (.tmp 6) (.tmp 241) rfl (P1 + 3) zDev rfl rfl 37 zDev ?_ ?_ ?_ ?_ ?_; exact bP1p3; exact zac; exact zav; exact zaq))
    clear bP1p3; refine bodyPost_ret (v := .tuple #[.agg zDev, .int .i64 5]) ?_ rfl ?_
    · exact zam (fn := Tryz.f26) (p := 6) (a := 7) rfl rfl rfl (HG.out.get 2 rfl) U37 rfl zac
    · rw [HR.out]
      exact ⟨noH, by rw [zaK], HG.out.below, NewR.any (fun W _ => DH.none_ W)⟩
 have HR : Hid (DevM.finish d true = DevM.wrong E ((DevM.off { d with c := L }, 0) : DevR × Int)) := by
  show _ = _; unfold DevM.finish; rw [if_neg hl, HWF.out]
  rfl
 have hbu : d.busy = true := by
  cases q : d.busy with
  | true => rfl
  | false => exact absurd (.inl q) hl
 have t2 : decide (d.done < d.job.size) = false := by
  have : ¬ d.done < d.job.size := fun q => hl (.inr q); simp; omega
 rw [hbu] at cP1_29; clear hl hbu; have ha := HOk.out.act01; unfold DevM.act at ha; obtain ⟨O, hO, hO2⟩ := zb9 ha; have hO0 : (0 : Int) ≤ (O : Int) := by omega
 have hOI : (O : Int) < 2 := by omega
 have hOw : IntKind.i64.wrap (O : Int) = (O : Int) := IntWalk.i64_in _ (by omega)
 have HWW : Hid (RecM.writeOf d.c (RecR.setI ({ DevM.rc d with trying := true, tries := 3 } : RecR) O ⟨d.job.to_, d.job.size, d.job.new⟩) true = (L, E)) := by
  have := HWF.out
  rwa [tried_is d O hO hO2] at this
 have HWc : Hid (∀ W, W.heap[P1]? = some (.cells (dvC h d) 37 (0, 0)) → Calls Tryz.prog 86 #[.agg (rcC (RecR.setI ({ DevM.rc d with trying := true, tries := 3 } : RecR) O ⟨d.job.to_, d.job.size, d.job.new⟩)), .bool true, .pointer (some ⟨P1, 0, none⟩)] W (GivesAW P1 (L, E) W)) := fun W hB => by
  have := acts2_any h d (RecR.setI ({ DevM.rc d with trying := true, tries := 3 } : RecR) O ⟨d.job.to_, d.job.size, d.job.new⟩) true P1 W HOk.out.cops hB
  rwa [HWW.out] at this
 have cP9_2 := HS.out.cel 0 2 (v := .bool (DevM.rc d).trying) rfl rfl; have fP9_2 := HS.out.thw 0 2 rfl; have cP9_3 := HS.out.cel 0 3 (v := .int .i64 (DevM.rc d).tries) rfl rfl; have fP9_3 := HS.out.thw 0 3 rfl; go_upto_region 53 with fail; clear cP1p1_0 cP1_29 cP1_36 cP1_34 cP9_2 fP9_2 cP9_3 fP9_3; refine gnH ((HS.out.cell 0 rfl (put_tryR (DevM.rc d) true)).cell 0 rfl (put_triesR ({ DevM.rc d with trying := true } : RecR) 3)) (fun V4 HS1 => ?_); replace HS := LH HS1; clear HS1 t2; have cP9_1 := HS.out.cel 0 1 (v := .int .i64 (DevM.rc d).act) rfl rfl; have cP1_31 := HS.out.cel 5 31 (v := .int .i64 d.job.to_) rfl rfl; have cP1_34 := HS.out.cel 5 34 (v := .int .i64 d.job.size) rfl rfl; have cP1_33 := HS.out.cel 5 33 (v := .int .i64 d.job.new) rfl rfl; have HS2 := LH (HS.out.cells 0 rfl (put_infV ({ DevM.rc d with trying := true, tries := 3 } : RecR) O ⟨d.job.to_, d.job.size, d.job.new⟩ hO2))
 go_upto_region 54 with (first
  | ((with_reducible show wpList _ _ _ _ _ _); refine zaE rfl 25 _ rfl [(0, .int .i64 d.job.to_), (1, .int .i64 d.job.size), (2, .int .i64 d.job.new)] rfl #[Value.int .i64 d.job.to_, .int .i64 d.job.size, .int .i64 d.job.new] (by kernel_rfl) ?_)
  | ((with_reducible show wpList _ _ _ _ _ _); refine wpList_store_mid rfl 25 (.tmp 259) (.tmp 257) rfl P9 (5 + O * 3) #[Value.int .i64 d.job.to_, .int .i64 d.job.size, .int .i64 d.job.new] rfl rfl ?_ ?_ ?_ ?_; exact HS.out.ms.there 0 rfl (by show 5 + O * 3 + 3 ≤ 11; omega); exact size_inf ⟨d.job.to_, d.job.size, d.job.new⟩; exact one_inf ⟨d.job.to_, d.job.size, d.job.new⟩))
 clear cP9_1 cP1_31 cP1_34 cP1_33; refine gnH HS2.out (fun V5 HS1 => ?_); replace HS := LH HS1; clear HS1 HS2; have cP1p1_0 := HS.out.cel 4 0 (v := .int .i64 12) rfl rfl; have bP9 := HS.out.gt 0 rfl
 go_wp2_with (first
  | ((with_reducible show wpList _ _ _ _ _ _); refine LR rfl (t := 28) U28 rfl (.tmp 9) rfl P9 rfl bP9 (sRc (RecR.setI ({ DevM.rc d with trying := true, tries := 3 } : RecR) O ⟨d.job.to_, d.job.size, d.job.new⟩)) ?_))
 clear cP1p1_0 bP9; refine (HWc.out _ (HS.out.get 5 rfl)).mono ?_; rintro e W2 ⟨V9, rfl, hb, hw⟩; replace HS := LH (HS.out.later hb); clear hb HWc; simp only at hw; by_cases hE : E = 0
 · subst hE
   rw [if_pos rfl] at hw; have HS9 := LH (HS.out.cells 5 rfl (zbr h d L)); rw [← hw] at HS9; clear hw; replace HS := HS9; clear HS9; have HLW := LH (HCz.out rfl); have HR2 : Hid (DevM.finish d true = ((DevM.off { d with c := L }, 0) : DevR × Int)) := HR.out; have cP1_29 := HS.out.cel 5 29 (v := .bool d.busy) rfl rfl; have fP1_29 := HS.out.thw 5 29 rfl; have cP1_36 := HS.out.cel 5 36 (v := .int .i64 d.done) rfl rfl; have fP1_36 := HS.out.thw 5 36 rfl; go_upto_region 56 with fail; clear cP1_29 fP1_29 cP1_36 fP1_36; refine gnH ((HS.out.cell 5 rfl (zbH h ({ d with c := L } : DevR) false)).cell 5 rfl (zbe h ({ ({ d with c := L } : DevR) with busy := false } : DevR) 0)) (fun V6 HS1 => ?_); replace HS := LH HS1; clear HS1; have cP1p1_0 := HS.out.cel 4 0 (v := .int .i64 12) rfl rfl; have HWo := LH (fun W => zb3 h ({ ({ d with c := L } : DevR) with busy := false, done := 0 } : DevR) W); unfold devV at HWo; have bP1 := HS.out.gt 5 rfl
   go_wp2_with (first
    | ((with_reducible show wpList _ _ _ _ _ _); refine LR rfl (t := 37) U37 rfl (.tmp 3) rfl P1 rfl bP1 (sDv h ({ ({ d with c := L } : DevR) with busy := false, done := 0 } : DevR)) ?_))
   clear cP1p1_0 bP1; refine (HWo.out _).mono ?_; rintro e W3 ⟨rfl, hb⟩; replace HS := LH (HS.out.later hb); clear hb; have HS2 := LH (HS.out.set 5 rfl (dvC (offH h) (DevM.off ({ d with c := L } : DevR)))); have bP1 := HS.out.gt 5 rfl; have bP1 := HS.out.gt 5 rfl
   go_upto_region 58 with (first
    | ((with_reducible show wpList _ _ _ _ _ _); refine wpList_store_row rfl 37 (.tmp 3) (.tmp 272) rfl P1 (dvC (offH h) (DevM.off ({ d with c := L } : DevR))) rfl rfl 37 (dvC h ({ ({ d with c := L } : DevR) with busy := false, done := 0 } : DevR)) ?_ ?_ ?_ ?_ ?_; exact bP1; exact (sDv (offH h) (DevM.off ({ d with c := L } : DevR))); exact (lDv _ _ _ _); exact (oDv (offH h) (DevM.off ({ d with c := L } : DevR)))))
   clear bP1; refine gnH HS2.out (fun V7 HS1 => ?_); replace HS := LH HS1; clear HS1 HS2; have HS2 := LH (HS.out.cells 5 rfl (put_job (offH h) (DevM.off ({ d with c := L } : DevR)) none 0 0 zap))
   go_upto_region 59 with (first
    | ((with_reducible show wpList _ _ _ _ _ _); refine wpList_store_mid rfl 35 (.tmp 274) (.tmp 273) rfl P1 30 (jbC none 0 0 zap) rfl rfl ?_ ?_ ?_ ?_; exact HS.out.ms.there 5 rfl (by show 36 ≤ 37; decide); exact sJb _ _ _ _; exact zbg _ _ _ _))
   refine gnH HS2.out (fun V8 HS1 => ?_); replace HS := LH HS1; clear HS1 HS2; have cP8_0 := HS.out.cel 1 0 (v := (.func (.func 85) #[] #[])) rfl rfl; go_wp2_with fail; clear cP8_0; refine (zbW ({ (offH h) with oa := none, on := 0, oc := 0 } : DevH) ({ (DevM.off ({ d with c := L } : DevR)) with job := zap } : DevR) P1 P8 _ (HS.out.get 5 rfl) (HS.out.get 1 rfl)).mono ?_; rintro e W4 ⟨rfl, hb⟩; replace HS := LH (HS.out.later hb); clear hb; have HG := LH (HS.out.set 2 rfl (dvC ({ (offH h) with oa := none, on := 0, oc := 0 } : DevH) ({ (DevM.off ({ d with c := L } : DevR)) with job := zap } : DevR))); have bP1p3 := HS.out.gt 2 rfl
   go_wp2_with (first
    | ((with_reducible show wpList _ _ _ _ _ _); refine wpList_store_row rfl 37 (.tmp 6) (.tmp 278) rfl (P1 + 3) (dvC ({ (offH h) with oa := none, on := 0, oc := 0 } : DevH) ({ (DevM.off ({ d with c := L } : DevR)) with job := zap } : DevR)) rfl rfl 37 zDev ?_ ?_ ?_ ?_ ?_; exact bP1p3; exact (sDv ({ (offH h) with oa := none, on := 0, oc := 0 } : DevH) ({ (DevM.off ({ d with c := L } : DevR)) with job := zap } : DevR)); exact (zat _ _); exact (oDv ({ (offH h) with oa := none, on := 0, oc := 0 } : DevH) ({ (DevM.off ({ d with c := L } : DevR)) with job := zap } : DevR))))
   clear bP1p3; refine bodyPost_ret (v := .tuple #[.agg (dvC ({ (offH h) with oa := none, on := 0, oc := 0 } : DevH) ({ (DevM.off ({ d with c := L } : DevR)) with job := zap } : DevR)), .int .i64 0]) ?_ rfl ?_
   · exact zam (fn := Tryz.f26) (p := 6) (a := 7) rfl rfl rfl (HG.out.get 2 rfl) U37 rfl (sDv _ _)
   · rw [HR2.out]
     refine ⟨({ (offH h) with oa := none, on := 0, oc := 0 } : DevH), rfl, HG.out.below, fun V v1 v2 hV => ?_⟩; have k0 := HD0.out.later hV; exact ⟨k0.b0, k0.b1, CS.nil_ _, OS.nil_ _, HLW.out, zaS, zbv, zaS⟩
 · rw [if_neg hE] at hw
   subst hw; have HR2 : Hid (DevM.finish d true = (DevM.noDev, E)) := HR.out.trans (if_pos hE); have cP1_29 := HS.out.cel 5 29 (v := .bool d.busy) rfl rfl; have fP1_29 := HS.out.thw 5 29 rfl; have cP1_36 := HS.out.cel 5 36 (v := .int .i64 d.done) rfl rfl; have fP1_36 := HS.out.thw 5 36 rfl; go_upto_region 56 with fail; clear cP1_29 fP1_29 cP1_36 fP1_36; refine gnH ((HS.out.cell 5 rfl (zbH h d false)).cell 5 rfl (zbe h ({ d with busy := false } : DevR) 0)) (fun V6 HS1 => ?_); replace HS := LH HS1; clear HS1; have cP1p1_0 := HS.out.cel 4 0 (v := .int .i64 12) rfl rfl; have HWo := LH (fun W => zb3 h ({ d with busy := false, done := 0 } : DevR) W); unfold devV at HWo; have bP1 := HS.out.gt 5 rfl
   go_wp2_with (first
    | ((with_reducible show wpList _ _ _ _ _ _); refine LR rfl (t := 37) U37 rfl (.tmp 3) rfl P1 rfl bP1 (sDv h ({ d with busy := false, done := 0 } : DevR)) ?_))
   clear cP1p1_0 bP1; refine (HWo.out _).mono ?_; rintro e W3 ⟨rfl, hb⟩; replace HS := LH (HS.out.later hb); clear hb; have HS2 := LH (HS.out.set 5 rfl (dvC (offH h) (DevM.off d))); have bP1 := HS.out.gt 5 rfl; have bP1 := HS.out.gt 5 rfl
   go_upto_region 58 with (first
    | ((with_reducible show wpList _ _ _ _ _ _); refine wpList_store_row rfl 37 (.tmp 3) (.tmp 272) rfl P1 (dvC (offH h) (DevM.off d)) rfl rfl 37 (dvC h ({ d with busy := false, done := 0 } : DevR)) ?_ ?_ ?_ ?_ ?_; exact bP1; exact (sDv (offH h) (DevM.off d)); exact (lDv _ _ _ _); exact (oDv (offH h) (DevM.off d))))
   clear bP1; refine gnH HS2.out (fun V7 HS1 => ?_); replace HS := LH HS1; clear HS1 HS2; have HS2 := LH (HS.out.cells 5 rfl (put_job (offH h) (DevM.off d) none 0 0 zap))
   go_upto_region 59 with (first
    | ((with_reducible show wpList _ _ _ _ _ _); refine wpList_store_mid rfl 35 (.tmp 274) (.tmp 273) rfl P1 30 (jbC none 0 0 zap) rfl rfl ?_ ?_ ?_ ?_; exact HS.out.ms.there 5 rfl (by show 36 ≤ 37; decide); exact sJb _ _ _ _; exact zbg _ _ _ _))
   refine gnH HS2.out (fun V8 HS1 => ?_); replace HS := LH HS1; clear HS1 HS2; have cP8_0 := HS.out.cel 1 0 (v := (.func (.func 85) #[] #[])) rfl rfl; go_wp2_with fail; clear cP8_0; refine (zbU ({ (offH h) with oa := none, on := 0, oc := 0 } : DevH) ({ (DevM.off d) with job := zap } : DevR) E hE P1 P8 _ (HS.out.get 5 rfl) (HS.out.get 1 rfl)).mono ?_; rintro e W4 ⟨rfl, hb⟩; replace HS := LH (HS.out.later hb); clear hb; have HG := LH (HS.out.set 2 rfl zDev); have bP1p3 := HS.out.gt 2 rfl
   go_wp2_with (first
    | ((with_reducible show wpList _ _ _ _ _ _); refine wpList_store_row rfl 37 (.tmp 6) (.tmp 278) rfl (P1 + 3) zDev rfl rfl 37 zDev ?_ ?_ ?_ ?_ ?_; exact bP1p3; exact zac; exact zav; exact zaq))
   clear bP1p3; refine bodyPost_ret (v := .tuple #[.agg zDev, .int .i64 E]) ?_ rfl ?_
   · exact zam (fn := Tryz.f26) (p := 6) (a := 7) rfl rfl rfl (HG.out.get 2 rfl) U37 rfl zac
   · rw [HR2.out]
     exact ⟨noH, by rw [zaK], HG.out.below, NewR.any (fun W _ => DH.none_ W)⟩
theorem isN_any (v : Value) (r : ChR) (B : Nat) (N : Int) (w : World) (hv : CV w v r) (hB : w.cell? ⟨B, 0, none⟩ = some (.int .i64 N)) :
 Calls Tryz.prog 145 #[v, .pointer (some ⟨B, 0, none⟩)] w fun e w' => e = .returned (.bool (decide (r.n = N))) ∧ Below w.heap.size w w' := by
 obtain ⟨a, m, c, rfl, hd, -⟩ := hv; obtain ⟨f, t, n, o, D⟩ := r; simp only at hd ⊢; have hb : Below w.heap.size w (w.alloc (.cells #[.int .i64 f, .int .i64 t, .int .i64 n, .int .i64 o, .slice a m c] 39)) := (Below.refl _ _).alloc (Nat.le_refl _) _; have hc := cell_later hb hB; have HB := LH hb; clear hb hd; by_cases h : n = N
 · subst h
   have t1 : (n == n) = true := by simp
   go_enter Tryz.func145, Tryz.ntmps145; go_wp2_with fail; go_ret; exact ⟨zaB (by simp), HB.out⟩
 · have t1 : (n == N) = false := by simp [h]
   go_enter Tryz.func145, Tryz.ntmps145; go_wp2_with fail; go_ret; exact ⟨zaB (by simp [h]), HB.out⟩
def IdxIs (l : List ChR) (N i : Int) : Prop := (i = -1 ∧ ∀ x ∈ l, x.n ≠ N) ∨ ∃ k : Nat, i = k ∧ k < l.length ∧ (l.getD k default).n = N
def IdxRel (l : List ChR) (N : Int) (w : World) (i : Value) (wr : World) : Prop :=
 ∃ k : Nat, i = .int .i64 k ∧ k ≤ l.length ∧ (∀ x ∈ l.take k, x.n ≠ N) ∧ Below w.heap.size w wr
theorem idxCh_any (a : Option Addr) (n c : Nat) (l : List ChR) (B : Nat) (N : Int) (w : World) (hl : CS w a n c l) (hB : w.cell? ⟨B, 0, none⟩ = some (.int .i64 N)) :
 Calls Tryz.prog 136 #[.slice a n c, .func (.func 145) #[] #[.pointer (some ⟨B, 0, none⟩)]] w fun e w' => ∃ i, e = .returned (.int .i64 i) ∧ IdxIs l N i ∧ Below w.heap.size w w' := by
 have hlen : n ≤ 9223372036854775807 := by have := hl.le; have := hl.max; omega
 have HL := LH hl; have HLn := LH hl.len; have HB0 := LH hB; clear hl hB; go_enter Tryz.func136, Tryz.ntmps136; go_wp2_with fail; go_loopw [8] (fun i wr => IdxRel l N w i wr) (fun i _ => n - (intOf i).toNat)
 case atStart => exact ⟨0, rfl, Nat.zero_le _, by simp, Below.refl _ _⟩
 case round =>
  obtain ⟨k, rfl, hk, ht, hB⟩ := hrel; rw [HLn.out] at hk; have HT := LH ht; have HB := LH hB; clear ht hB; by_cases hlt : k < n
  · obtain ⟨b, off, rfl, hcs⟩ := (HL.out.later HB.out).cells (by omega)
    obtain ⟨va, vm, vc, q0, q1, q2, q3, q4, q5, qI⟩ := hcs k hlt
    have HTk : Hid (l.take (k + 1) = l.take k ++ [l.getD k default]) := by
     show _ = _; have hkl : k < l.length := by rw [HLn.out]; exact hlt
     rw [List.take_add_one, List.getD_eq_getElem?_getD, List.getElem?_eq_getElem hkl]
     rfl
    obtain ⟨x, hx⟩ : ∃ x, l.getD k default = x := ⟨_, rfl⟩; have HX := LH hx; rw [hx] at q0 q1 q2 q3 q5 qI HTk; obtain ⟨F, T, M, O, D⟩ := x; simp only at q0 q1 q2 q3 q4 q5; have HCV : Hid (CV wr (.agg #[.int .i64 F, .int .i64 T, .int .i64 M, .int .i64 O, .slice va vm vc]) ⟨F, T, M, O, D⟩) := ⟨va, vm, vc, rfl, q5, qI⟩; have HCB := LH (cell_later HB.out HB0.out); clear hcs q5 qI hx; go_wp2_with fail; refine (isN_any _ _ B N _ HCV.out HCB.out).mono ?_; rintro e W2 ⟨rfl, b2⟩; have HB2 := LH (bTh HB.out b2); clear b2; by_cases hm : M = N
    · rw [decide_eq_true hm]
      have HR : Hid (IdxIs l N k) := .inr ⟨k, rfl, by rw [HLn.out]; exact hlt, by rw [HX.out]; exact hm⟩; go_wp2_with fail; go_ret; exact ⟨_, rfl, HR.out, HB2.out⟩
    · rw [decide_eq_false hm]
      have HM := LH hm; clear hm; go_wp2_with fail; go_roundw
      case rel =>
       refine ⟨k + 1, by go_num, by rw [HLn.out]; omega, fun x hx => ?_, HB2.out⟩; rw [HTk.out] at hx; rcases List.mem_append.1 hx with hx | hx
       · exact HT.out x hx
       · obtain rfl : x = _ := by simpa using hx
         exact HM.out
      case measure => simp [intOf]; omega
  · have HR : Hid (IdxIs l N (-1)) := by
     refine .inl ⟨rfl, fun x hx => HT.out x ?_⟩
     rwa [List.take_of_length_le (by rw [HLn.out]; omega)]
    go_wp2_with fail; go_ret; exact ⟨_, rfl, HR.out, HB.out⟩
def AddRel (L : List ChR) (w0 W2 : World) (out i : Value) (wr : World) : Prop :=
 ∃ k : Nat, i = .int .i64 k ∧ k ≤ 52 ∧ ChSt w0 W2.heap.size out (ChunkM.under k L) wr ∧ Below W2.heap.size W2 wr
theorem under_le {k : Int} {l : List ChR} : (ChunkM.under k l).length ≤ l.length := List.length_filter_le _ _
def GivesAdS (w0 : World) (l : List ChR) (x : ChR) (w : World) (e : Ending) (w' : World) : Prop :=
 ∃ a n c, e = .returned (.tuple #[.slice a n c, .int .i64 (ChunkM.addOf l x).2]) ∧ NewR w.heap.size w' (fun V => Below w0.heap.size w0 V → CS V a n c (ChunkM.addOf l x).1) ∧ Below w.heap.size w w'
theorem addedR_n (w0 : World) (a : Option Addr) (n c : Nat) (l : List ChR) (v : Value) (x : ChR) (w : World) (hk : Below w0.heap.size w0 w) (hl0 : CS w0 a n c l) (hv : CV w0 v x) :
 Calls Tryz.prog 89 #[.slice a n c, v] w (GivesAdS w0 l x w) := by
 have hl := hl0.later hk; obtain ⟨xa, xm, xc, rfl, hd0, hI⟩ := hv; obtain ⟨F, T, N, O, D⟩ := x; simp only at hd0 ⊢; have hd := hd0.later hk; have HL0 := LH hl0; have HD0 := LH hd0; have HK0 := LH hk; clear hl0 hd0 hk; have hlen : n ≤ 9223372036854775807 := by have := hl.le; have := hl.max; omega
 have HL := LH hl; have HLn := LH hl.len; have HI := LH hI; obtain ⟨B, hBB⟩ : ∃ B, w.heap.size = B := ⟨_, rfl⟩; have hb0 : Below w.heap.size w (w.alloc (.cells #[.int .i64 F, .int .i64 T, .int .i64 N, .int .i64 O, .slice xa xm xc] 39)) := (Below.refl _ _).alloc (Nat.le_refl _) _; have hblk : (w.alloc (.cells #[.int .i64 F, .int .i64 T, .int .i64 N, .int .i64 O, .slice xa xm xc] 39)).heap[B]? = some (.cells #[.int .i64 F, .int .i64 T, .int .i64 N, .int .i64 O, .slice xa xm xc] 39 (0, 0)) := by rw [hpA, if_pos hBB.symm]
 have HB0 := LH hb0; have HBLK := LH hblk; have HD := LH hd; clear hl hb0 hblk hd hI; go_enter Tryz.func89, Tryz.ntmps89; go_wp2_with fail; refine (checkChs_any a n c l _ (HL.out.later HB0.out)).mono ?_; rintro e W1 ⟨rfl, b1⟩; have HB1 := LH (bTh HB0.out b1); have hblk1 := (b1.block B (zax HBLK.out)).trans HBLK.out; have HBLK1 := LH hblk1; obtain ⟨E, hE⟩ : ∃ E, ChunkM.checks l = E := ⟨_, rfl⟩; rw [hE]; clear b1 HB0 HBLK; by_cases hE0 : E = 0
 · subst hE0
   have HE := LH hE; obtain ⟨k0, k1, k2, k3, k4⟩ := zbx hblk1; have HCV : Hid (CV W1 (.agg #[.int .i64 F, .int .i64 T, .int .i64 N, .int .i64 O, .slice xa xm xc]) ⟨F, T, N, O, D⟩) := ⟨xa, xm, xc, rfl, HD.out.later HB1.out, HI.out⟩; clear hE hblk1; go_wp2_with fail; refine (checkCh_any _ _ _ HCV.out).mono ?_; rintro e W2 ⟨rfl, b2⟩; have HB2 := LH (bTh HB1.out b2); have hblk2 := (b2.block B (zax HBLK1.out)).trans HBLK1.out; have HBLK2 := LH hblk2; obtain ⟨E2, hE2⟩ : ∃ E, ChunkM.check ⟨F, T, N, O, D⟩ = E := ⟨_, rfl⟩; rw [hE2]; clear b2 HB1 HBLK1 HCV k0 k1 k2 k3 k4; by_cases hE20 : E2 = 0
   · subst hE20
     have HE2 := LH hE2; have hgood := ChunkM.check_good hE2; simp only at hgood; obtain ⟨-, -, gO, gN, -⟩ := hgood
     have HK : Hid (ChunkM.addOf l ⟨F, T, N, O, D⟩ = (ChunkM.ins (ChunkM.those l ⟨F, T, N, O, D⟩) ⟨F, T, N, O, D⟩, 0)) := by
      show _ = _; unfold ChunkM.addOf; rw [if_neg (by rw [HE.out]; simp), if_neg (by rw [HE2.out]; simp)]
     obtain ⟨k0, k1, k2, k3, k4⟩ := zbx hblk2; have HL2 := LH (HL.out.later HB2.out); clear hE2 hblk2; go_upto_if 50 with fail; go_cut [50] (fun s50 wx => ∃ q : Bool, s50 = .bool q ∧ ((q = true ∧ ChunkM.those l ⟨F, T, N, O, D⟩ = []) ∨ (q = false ∧ ChunkM.those l ⟨F, T, N, O, D⟩ = l)) ∧ Below W2.heap.size W2 wx)
     case first =>
      by_cases hn0 : n = 0
      · subst hn0
        have HTh : Hid (ChunkM.those l ⟨F, T, N, O, D⟩ = l) := by
         show _ = _; unfold ChunkM.those; rw [if_neg (fun h => h.1 (List.eq_nil_of_length_eq_zero HLn.out))]
        go_wp2_with fail; go_quiet (fail); have hbq := below_drewN (Below.refl W2.heap.size W2) nq; go_wp2_with fail; go_meet; exact ⟨_, rfl, .inr ⟨rfl, HTh.out⟩, hbq⟩
      · obtain ⟨b, off, rfl, hcs⟩ := HL2.out.cells (by omega)
        obtain ⟨za, zm, zc, z0, z1, z2, z3, -, -, -⟩ := hcs 0 (by omega)
        have HNil : Hid (l ≠ []) := by
         show l ≠ []; rintro rfl; exact hn0 HLn.out.symm
        obtain ⟨zz, hzz⟩ : ∃ zz, l.getD 0 default = zz := ⟨_, rfl⟩; rw [hzz] at z0 z1 z3; have HZZ := LH hzz; obtain ⟨ZF, ZT, ZN, ZO, ZD⟩ := zz; simp only [Nat.zero_mul, Nat.add_zero] at z0 z1 z3; have h0n : (0 : Int) < (n : Int) := by omega
        have h0m : 0 < n := by omega
        clear hcs z2 hzz
        have HOth : Hid (¬ (F = ZF ∧ T = ZT ∧ O = ZO) → ChunkM.those l ⟨F, T, N, O, D⟩ = []) := by
         show _ → _; intro h; unfold ChunkM.those; rw [if_pos ⟨HNil.out, by rw [HZZ.out]; exact h⟩]
        by_cases e1 : F = ZF
        · subst e1
          have t1 : (F != F) = false := by simp
          by_cases e2 : T = ZT
          · subst e2
            have t2 : (T != T) = false := by simp
            by_cases e3 : O = ZO
            · subst e3
              have t3 : (O != O) = false := by simp
              have HTh : Hid (ChunkM.those l ⟨F, T, N, O, D⟩ = l) := by
               show _ = _; unfold ChunkM.those; rw [if_neg (fun h => h.2 (by rw [HZZ.out]; exact ⟨rfl, rfl, rfl⟩))]
              go_wp2_with fail; go_quiet (fail); have hbq := below_drewN (Below.refl W2.heap.size W2) nq; go_wp2_with fail; go_meet; exact ⟨_, rfl, .inr ⟨rfl, HTh.out⟩, hbq⟩
            · have t3 : (O != ZO) = true := by simp [e3]
              have HTh := LH (HOth.out (fun h => e3 h.2.2)); go_wp2_with fail; go_quiet (fail); have hbq := below_drewN (Below.refl W2.heap.size W2) nq; go_wp2_with fail; go_meet; exact ⟨_, rfl, .inl ⟨rfl, HTh.out⟩, hbq⟩
          · have t2 : (T != ZT) = true := by simp [e2]
            have HTh := LH (HOth.out (fun h => e2 h.2.1)); go_wp2_with fail; go_quiet (fail); have hbq := below_drewN (Below.refl W2.heap.size W2) nq; go_wp2_with fail; go_meet; exact ⟨_, rfl, .inl ⟨rfl, HTh.out⟩, hbq⟩
        · have t1 : (F != ZF) = true := by simp [e1]
          have HTh := LH (HOth.out (fun h => e1 h.1)); go_wp2_with fail; go_quiet (fail); have hbq := below_drewN (Below.refl W2.heap.size W2) nq; go_wp2_with fail; go_meet; exact ⟨_, rfl, .inl ⟨rfl, HTh.out⟩, hbq⟩
     case rest =>
      obtain ⟨qb, rfl, hqb, hbw⟩ := hcut; have HQB := LH hqb; have HBW := LH hbw; clear hqb hbw k0 k1 k2 k3 k4; generalize wc = W7 at HBW ⊢; go_upto_if 50 with fail; go_cut [0] (fun s0 wx => ∃ a9 n9 c9, s0 = .slice a9 n9 c9 ∧ CS w0 a9 n9 c9 (ChunkM.those l ⟨F, T, N, O, D⟩) ∧ Below W2.heap.size W2 wx)
      case first =>
       rcases HQB.out with ⟨rfl, hth⟩ | ⟨rfl, hth⟩
       · have HTh := LH hth
         clear hth; go_wp2_with fail; go_meet; exact ⟨none, 0, 0, rfl, by rw [HTh.out]; exact CS.nil_ _, HBW.out⟩
       · have HTh := LH hth
         clear hth; go_wp2_with fail; go_meet; exact ⟨a, n, c, rfl, by rw [HTh.out]; exact HL0.out, HBW.out⟩
      case rest =>
       obtain ⟨a9, n9, c9, rfl, hcs9, hb9⟩ := hcut
       have HTh : Hid (ChunkM.Up (ChunkM.those l ⟨F, T, N, O, D⟩) ∧ ∀ y ∈ ChunkM.those l ⟨F, T, N, O, D⟩, 0 ≤ y.n ∧ y.n < 52) := by
        show ChunkM.Up _ ∧ _; unfold ChunkM.those; split
        · exact ⟨trivial, by simp⟩
        · refine ⟨ChunkM.checks_up HE.out, fun y hy => ?_⟩
          have h1 := ChunkM.checks_all HE.out y hy; have h2 := (ChunkM.check_good h1.1).2.2; omega
       obtain ⟨l9, hl9⟩ : ∃ l9, ChunkM.those l ⟨F, T, N, O, D⟩ = l9 := ⟨_, rfl⟩; rw [hl9] at HTh HK hcs9; have HL90 := LH hcs9; have HK9 := LH (bTh HK0.out (bTh HB2.out hb9)); have HL9 := LH (hcs9.later HK9.out); have HLn9 := LH hcs9.len; have HB9 := LH (bTh HB2.out hb9); have hblk9 := (hb9.block B (zax HBLK2.out)).trans HBLK2.out; have HBLK9 := LH hblk9; have HD9 := LH (HD.out.later (bTh HB2.out hb9)); clear hl9 hcs9 hb9 hblk9 HL2 HL HQB HBW; generalize wc = W3 at HL9 HB9 HBLK9 HD9 HK9 ⊢; obtain ⟨L, hLL⟩ : ∃ L, ChunkM.ins l9 ⟨F, T, N, O, D⟩ = L := ⟨_, rfl⟩; have HLL := LH hLL; have HUp : Hid (ChunkM.Up L) := by show ChunkM.Up L; rw [← hLL]; exact ChunkM.ins_up HTh.out.1
       have HRng : Hid (∀ y ∈ L, 0 ≤ y.n ∧ y.n < 52) := by
        show ∀ y ∈ L, _; intro y hy; rw [← hLL] at hy; rcases ChunkM.ins_mem hy with hy | rfl
        · exact HTh.out.2 y hy
        · simp only
          omega
       have HLen : Hid (∀ k : Nat, k ≤ 52 → (ChunkM.under k L).length ≤ 100) := by
        show ∀ k : Nat, _; intro k hk; have h1 := ChunkM.up_len (l := L) HUp.out (lo := 0) (hi := 52) (fun y hy => HRng.out y hy) (by omega); have h2 := under_le (k := (k : Int)) (l := L); omega
       have hmf : ∀ (fn : Fn) (first cap : Array Value) (w : World), (Instr.makeFunc fn first cap).run Tryz.prog w = .ok (.func fn first cap) w := fun _ _ _ _ => rfl; clear hLL; go_wp2_with fail; go_loopw [8, 51] (fun out i wr => AddRel L w0 W3 out i wr) (fun _ i _ => 52 - (intOf i).toNat)
       case atStart => exact ⟨0, rfl, by omega, by rw [ChunkM.under_none (k := ((0 : Nat) : Int)) (fun y hy => by have := HRng.out y hy; omega)]; exact ChSt.start _ _ _, Below.refl _ _⟩
       case round =>
        obtain ⟨k, rfl, hk, hch, hB⟩ := hrel; have HCH := LH hch; have HB := LH hB; have hul := HLen.out k hk; clear hch hB; by_cases hlt : k < 52
        · have hba : Below wr.heap.size wr (wr.alloc (.cells #[.int .i64 (k : Int)] 3)) := (Below.refl _ _).alloc (Nat.le_refl _) _
          have hbn : (wr.alloc (.cells #[.int .i64 (k : Int)] 3)).heap[wr.heap.size]? = some (.cells #[.int .i64 (k : Int)] 3 (0, 0)) := by rw [hpA, if_pos rfl]
          have HIx := LH (idxCh_any a9 n9 c9 l9 wr.heap.size k _ ((HL9.out.later HB.out).later hba) (za0 hbn)); have HCH1 := LH (HCH.out.later hba); have HB1 := LH (bTh HB.out hba); have HBN := LH hbn; clear hba hbn; go_wp2_with fail; refine HIx.out.mono ?_; rintro e W5 ⟨i, rfl, hix, b5⟩; have HCH5 := LH (HCH1.out.later b5); have HB5 := LH (bTh HB1.out b5); have kn := za0 ((b5.block _ (zax HBN.out)).trans HBN.out); obtain ⟨k0, k1, k2, k3, k4⟩ := zbx ((HB5.out.block B (zax HBLK9.out)).trans HBLK9.out); clear b5 HCH1 HB1 HIx HBN; rcases hix with ⟨rfl, hno⟩ | ⟨j, rfl, hj, hjn⟩
          · have HNo := LH hno
            clear hno; by_cases hN : (k : Int) = N
            · have tN : ((k : Int) == N) = true := by simp [hN]
              have HU : Hid (ChunkM.under ((k + 1 : Nat) : Int) L = ChunkM.under k L ++ [⟨F, T, N, O, D⟩]) := by
               show _ = _; rw [show ((k + 1 : Nat) : Int) = (k : Int) + 1 by omega]; refine ChunkM.under_hit HUp.out ?_ hN.symm; rw [← HLL.out]; exact ChunkM.ins_self (fun y hy => by have := HNo.out y hy; simp only; omega)
              obtain ⟨g5, cap5, W6, hrun, HS6, -⟩ := HCH5.out.app ⟨F, T, N, O, D⟩ HD0.out HI.out (by omega) HB5.out.size HB5.out rfl; obtain ⟨ul, hull⟩ : ∃ ul, (ChunkM.under k L).length = ul := ⟨_, rfl⟩; rw [hull] at hrun HS6 hul; simp only at hrun; clear hN hull; go_wp2_with (at_builtin; refine Lib.wpList_append_run _ rfl _ _ _ _ rfl _ _ rfl rfl _ _ hrun ?_); go_roundw
              case rel => exact ⟨k + 1, by go_num, by omega, by rw [HU.out]; exact HS6.out.1, HS6.out.2⟩
              case measure => simp [intOf]; omega
            · have tN : ((k : Int) == N) = false := by simp [hN]
              have HU : Hid (ChunkM.under ((k + 1 : Nat) : Int) L = ChunkM.under k L) := by
               show _ = _; rw [show ((k + 1 : Nat) : Int) = (k : Int) + 1 by omega]; refine ChunkM.under_miss (fun y hy => ?_); rw [← HLL.out] at hy; rcases ChunkM.ins_mem hy with hy | rfl
               · exact HNo.out y hy
               · simp only
                 omega
              go_wp2_with fail; go_roundw
              case rel => exact ⟨k + 1, by go_num, by omega, by rw [HU.out]; exact HCH5.out, HB5.out⟩
              case measure => simp [intOf]; omega
          · rw [HLn9.out] at hj
            obtain ⟨b, off, rfl, hcs⟩ := HL90.out.cells (by omega); obtain ⟨va, vm, vc, q0, q1, q2, q3, q4, q5, qI⟩ := hcs j hj
            have HMem : Hid (l9.getD j default ∈ l9) := by
             show _ ∈ l9; have hjl : j < l9.length := by rw [HLn9.out]; exact hj
             rw [List.getD_eq_getElem?_getD, List.getElem?_eq_getElem hjl]; exact List.getElem_mem _
            generalize l9.getD j default = y at q0 q1 q2 q3 q4 q5 qI hjn HMem; obtain ⟨yF, yT, yN, yO, yD⟩ := y; simp only at q0 q1 q2 q3 q4 q5 hjn; replace q0 := cell_later (bTh HK9.out HB5.out) q0; replace q1 := cell_later (bTh HK9.out HB5.out) q1; replace q2 := cell_later (bTh HK9.out HB5.out) q2; replace q3 := cell_later (bTh HK9.out HB5.out) q3; replace q4 := cell_later (bTh HK9.out HB5.out) q4
            have HU : Hid (ChunkM.under ((k + 1 : Nat) : Int) L = ChunkM.under k L ++ [⟨yF, yT, yN, yO, yD⟩]) := by
             show _ = _; rw [show ((k + 1 : Nat) : Int) = (k : Int) + 1 by omega]; refine ChunkM.under_hit HUp.out ?_ hjn; rw [← HLL.out]; exact ChunkM.ins_old HMem.out
            obtain ⟨g5, cap5, W6, hrun, HS6, -⟩ := HCH5.out.app ⟨yF, yT, yN, yO, yD⟩ q5 qI (by omega) HB5.out.size HB5.out rfl; obtain ⟨ul, hull⟩ : ∃ ul, (ChunkM.under k L).length = ul := ⟨_, rfl⟩; rw [hull] at hrun HS6 hul; simp only at hrun; have hj0 : (0 : Int) ≤ (j : Int) := by omega
            have hjn9 : (j : Int) < (n9 : Int) := by omega
            clear hcs q5 qI hull hjn; go_wp2_with (at_builtin; refine Lib.wpList_append_run _ rfl _ _ _ _ rfl _ _ rfl rfl _ _ hrun ?_); go_roundw
            case rel => exact ⟨k + 1, by go_num, by omega, by rw [HU.out]; exact HS6.out.1, HS6.out.2⟩
            case measure => simp [intOf]; omega
        · have hk52 : k = 52 := by omega
          subst hk52; have hch := HCH.out; rw [ChunkM.under_all (fun y hy => by have := HRng.out y hy; omega)] at hch; obtain ⟨a8, c8, h8⟩ := hch.form; subst h8
          have HCS : Hid (NewR w.heap.size wr (fun V => Below w0.heap.size w0 V → CS V a8 L.length c8 L)) := by
           intro V v1 v2 hV; have hge := HB9.out.size; exact (hch.keep (fun g hg => v2 g (by have := (hch.own hg).1; omega) (hch.own hg).2)).cs rfl hV
          have hb8 := bTh HB9.out HB.out; clear hch HCH; go_wp2_with fail; go_ret2; exact ⟨a8, _, c8, zbd (by rw [HK.out]), by rw [HK.out, HLL.out]; exact HCS.out, hb8⟩
   · have t0 : (E2 != 0) = true := by simp [hE20]
     have HK : Hid (ChunkM.addOf l ⟨F, T, N, O, D⟩ = ([], E2)) := by
      show _ = _; unfold ChunkM.addOf; rw [if_neg (by rw [HE.out]; simp), if_pos (by rw [hE2]; exact hE20), hE2]
     clear hE2 hblk2; go_wp2_with fail; go_ret2; exact ⟨none, 0, 0, zbd (by rw [HK.out]), by rw [HK.out]; exact NewR.any (fun V _ => CS.nil_ V), HB2.out⟩
 · have t0 : (E != 0) = true := by simp [hE0]
   have HK : Hid (ChunkM.addOf l ⟨F, T, N, O, D⟩ = ([], E)) := by
    show _ = _; unfold ChunkM.addOf; rw [if_pos (by rw [hE]; exact hE0), hE]
   clear hE hblk1; go_wp2_with fail; go_ret2; exact ⟨none, 0, 0, zbd (by rw [HK.out]), by rw [HK.out]; exact NewR.any (fun V _ => CS.nil_ V), HB1.out⟩
attribute [local go_sem] run_store_func
theorem acts_hear (w0 : World) (h : DevH) (d : DevR) (nn : Int) (x : ChR) (xa : Option Addr) (xm xc : Nat) (w : World) (hk : Below w0.heap.size w0 w) (HD : DH w0 h d) (HX : CV w0 (.agg #[.int .i64 x.fr, .int .i64 x.to_, .int .i64 x.n, .int .i64 x.of_, .slice xa xm xc]) x) (hok : DevM.Ok d) (hu : d.up = true) : Calls Tryz.prog 26 #[devV h d, .agg #[.int .i64 2, .int .i64 nn], .agg #[.int .i64 x.fr, .int .i64 x.to_, .int .i64 x.n, .int .i64 x.of_, .slice xa xm xc]] w (zbK (fun V => Below w0.heap.size w0 V) (DevM.hear d x) w) := by
 have HX0 := LH HX; clear HX; have HNe : Hid (∀ W, Calls Tryz.prog 60 #[.agg (cpC d.c)] W fun e w' => e = .returned (.tuple #[.agg (rcC (DevM.rc d)), .int .i64 (RecM.newest d.c)]) ∧ Below W.heap.size W w') := fun W => zaP d.c hok.cops W; have HOk := LH hok; clear hok; have HDh := LH (HD.later hk); have HD0 := LH HD; have HK0 := LH hk; clear HD hk; unfold devV; obtain ⟨P1, hP1⟩ : ∃ P, w.heap.size = P := ⟨_, rfl⟩; have HS := LH (((((((((MS.start w).alloc (p := P1) (by simp [hP1]) (dvC h d) 37)).alloc (p := (P1 + 1)) (by simp [hP1]) #[.int .i64 2, .int .i64 nn] 55)).alloc (p := (P1 + 2)) (by simp [hP1]) #[.int .i64 x.fr, .int .i64 x.to_, .int .i64 x.n, .int .i64 x.of_, .slice xa xm xc] 39)).alloc (p := (P1 + 3)) (by simp [hP1]) zDev 37)); go_enter Tryz.func26, Tryz.ntmps26; go_upto_region 1 with fail; refine zau HS.out (fun V0 HS1 => ?_); replace HS := LH HS1; clear HS1 hP1; replace HS := LH (MH.of HS.out); obtain ⟨P8, hP8⟩ : ∃ P, V0.heap.size = P := ⟨_, rfl⟩; replace HS := LH (HS.out.alloc hP8 #[.nilFunc] 118); refine zaj ?_; refine zar (fun K hK => ?_); go_simp; refine hK.out _ _ ?_; clear hK K
 try simp only [Act.put, sA, sB, sC]
 refine zaF HS.out (fun V1 HS1 => ?_); replace HS := LH HS1; clear HS1 hP8; have c8 := cAt (k := 0) (v := .nilFunc) (HS.out.get 0 rfl) rfl; have z8 := tAt (k := 0) (HS.out.get 0 rfl); simp only at c8 z8; refine zar (fun K hK => ?_); go_simp; refine hK.out _ _ ?_; clear hK K c8 z8
 try simp only [Act.put, sA, sB, sC]
 refine zaF (HS.out.cell 0 rfl (k := 0) (v := (.func (.func 85) #[] #[])) (c' := #[(.func (.func 85) #[] #[])]) rfl) (fun V2 HS1 => ?_); replace HS := LH HS1; clear HS1; refine zal ?_; have cP1_26 := HS.out.cel 4 26 (v := .bool d.up) rfl rfl; have cP1p1_0 := HS.out.cel 3 0 (v := .int .i64 2) rfl rfl; rw [hu] at cP1_26; have bP1 := HS.out.gt 4 rfl
 go_wp2_with (first
  | ((with_reducible show wpList _ _ _ _ _ _); refine wLP rfl 31 (.tmp 39) rfl P1 2 rfl (dvC h d) 37 (0, 0) ?_ (cpC d.c) ?_ _ U31 rfl ?_ ?_; exact bP1; exact (zai h d); exact (sCp d.c)))
 clear cP1_26 cP1p1_0 bP1; refine (HNe.out _).mono ?_; rintro e W1 ⟨rfl, hb⟩; replace HS := LH (HS.out.later hb); clear hb; obtain ⟨P9, hP9⟩ : ∃ P, W1.heap.size = P := ⟨_, rfl⟩; replace HS := LH (HS.out.alloc hP9 (rcC (DevM.rc d)) 28); have cP1p1_0 := HS.out.cel 4 0 (v := .int .i64 2) rfl rfl; go_upto_region 7 with ((with_reducible show wpList _ _ _ _ _ _); refine wSN rfl 28 (.tmp 9) (.tmp 42) rfl P9 (rcC (DevM.rc d)) rfl rfl 28 _ ?_ ?_ ?_ ?_ ?_; exact hP9.symm; exact (sRc (DevM.rc d)); exact (lRc (DevM.rc d)); exact (oRc (DevM.rc d))); clear cP1p1_0; refine gnH HS.out (fun V3 HS1 => ?_); replace HS := LH HS1; clear HS1 hP9 HNe; have cP1p1_0 := HS.out.cel 4 0 (v := .int .i64 2) rfl rfl; have HUp := LH hu; clear hu; have cP1_29 := HS.out.cel 5 29 (v := .bool d.busy) rfl rfl; rcases Bool.eq_false_or_eq_true d.busy with hb | hb
 · have HR : Hid (DevM.hear d x = (DevM.noDev, 5)) := if_pos hb
   rw [hb] at cP1_29; clear hb; have cP8_0 := HS.out.cel 1 0 (v := (.func (.func 85) #[] #[])) rfl rfl; go_wp2_with fail; clear cP1p1_0 cP1_29 cP8_0; refine (zaI 5 _).mono ?_; rintro e W2 ⟨rfl, hb⟩; replace HS := LH (HS.out.later hb); clear hb; have HG := LH (HS.out.set 2 rfl zDev); have bP1p3 := HS.out.gt 2 rfl
   go_wp2_with (first
    | ((with_reducible show wpList _ _ _ _ _ _); refine wpList_store_row rfl 37 (.tmp 6) (.tmp 54) rfl (P1 + 3) zDev rfl rfl 37 zDev ?_ ?_ ?_ ?_ ?_; exact bP1p3; exact zac; exact zav; exact zaq))
   clear bP1p3; refine bodyPost_ret (v := .tuple #[.agg zDev, .int .i64 5]) ?_ rfl ?_
   · exact zam (fn := Tryz.f26) (p := 6) (a := 7) rfl rfl rfl (HG.out.get 2 rfl) U37 rfl zac
   · rw [HR.out]
     exact ⟨noH, by rw [zaK], HG.out.below, NewR.any (fun W _ => DH.none_ W)⟩
 · have HR : Hid (DevM.hear d x = DevM.wrong (ChunkM.addOf d.got x).2 ({ d with got := (ChunkM.addOf d.got x).1 }, 0)) := if_neg (by rw [hb]; decide)
   rw [hb] at cP1_29; clear hb; obtain ⟨⟨L, E⟩, hL⟩ : ∃ y, ChunkM.addOf d.got x = y := ⟨_, rfl⟩
   have HAd : Hid (∀ W, Below w0.heap.size w0 W → Calls Tryz.prog 89 #[.slice h.ga h.gn h.gc, .agg #[.int .i64 x.fr, .int .i64 x.to_, .int .i64 x.n, .int .i64 x.of_, .slice xa xm xc]] W fun e w' => ∃ a n c, e = .returned (.tuple #[.slice a n c, .int .i64 E]) ∧ NewR W.heap.size w' (fun V => Below w0.heap.size w0 V → CS V a n c L) ∧ Below W.heap.size W w') := fun W hW => by
    have := addedR_n w0 _ _ _ _ _ x W hW HD0.out.got HX0.out; unfold GivesAdS at this; rw [hL] at this; exact this
   rw [hL] at HR; clear hL; have cP1_28 := HS.out.cel 5 28 (v := .slice h.ga h.gn h.gc) rfl rfl; have bP1p2 := HS.out.gt 3 rfl
   go_wp2_with (first
    | ((with_reducible show wpList _ _ _ _ _ _); refine LR rfl (t := 39) U39 rfl (.tmp 5) rfl (P1 + 2) rfl bP1p2 (by kernel_rfl) ?_))
   clear cP1p1_0 cP1_29 cP1_28 bP1p2; refine (HAd.out _ (bTn HK0.out HS.out.below)).mono ?_; rintro e W2 ⟨ga, gn, gc, rfl, hn, hb⟩; replace HS := LH (HS.out.gain hb hn); clear hb hn HAd; have cP1_28 := HS.out.cel 5 28 (v := .slice h.ga h.gn h.gc) rfl rfl; have fP1_28 := HS.out.thw 5 28 rfl; go_upto_region 13 with fail; clear cP1_28 fP1_28; refine gnH (HS.out.cell 5 rfl (put_got h d ga gn gc L)) (fun V5 HS1 => ?_); replace HS := LH HS1; clear HS1; by_cases hE : E = 0
   · subst hE
     have HR2 : Hid (DevM.hear d x = (({ d with got := L } : DevR), 0)) := HR.out; have cP8_0 := HS.out.cel 1 0 (v := (.func (.func 85) #[] #[])) rfl rfl; go_wp2_with fail; clear cP8_0; refine (zbW ({ h with ga := ga, gn := gn, gc := gc } : DevH) ({ d with got := L } : DevR) P1 P8 _ (HS.out.get 5 rfl) (HS.out.get 1 rfl)).mono ?_; rintro e W3 ⟨rfl, hb⟩; replace HS := LH (HS.out.later hb); clear hb; have HG := LH (HS.out.set 2 rfl (dvC ({ h with ga := ga, gn := gn, gc := gc } : DevH) ({ d with got := L } : DevR))); have bP1p3 := HS.out.gt 2 rfl
     go_wp2_with (first
      | ((with_reducible show wpList _ _ _ _ _ _); refine wpList_store_row rfl 37 (.tmp 6) (.tmp 68) rfl (P1 + 3) (dvC ({ h with ga := ga, gn := gn, gc := gc } : DevH) ({ d with got := L } : DevR)) rfl rfl 37 zDev ?_ ?_ ?_ ?_ ?_; exact bP1p3; exact (sDv ({ h with ga := ga, gn := gn, gc := gc } : DevH) ({ d with got := L } : DevR)); exact (zat _ _); exact (oDv ({ h with ga := ga, gn := gn, gc := gc } : DevH) ({ d with got := L } : DevR))))
     clear bP1p3; refine bodyPost_ret (v := .tuple #[.agg (dvC ({ h with ga := ga, gn := gn, gc := gc } : DevH) ({ d with got := L } : DevR)), .int .i64 0]) ?_ rfl ?_
     · exact zam (fn := Tryz.f26) (p := 6) (a := 7) rfl rfl rfl (HG.out.get 2 rfl) U37 rfl (sDv _ _)
     · rw [HR2.out]
       refine ⟨({ h with ga := ga, gn := gn, gc := gc } : DevH), rfl, HG.out.below, fun V v1 v2 hV => ?_⟩; have k0 := HD0.out.later hV; have k1 := HG.out.newR 0 rfl V v1 v2 hV; exact ⟨k0.b0, k0.b1, k1, k0.ops, k0.copsW, k0.runI, k0.jobI, k0.doneI⟩
   · have HR2 : Hid (DevM.hear d x = (DevM.noDev, E)) := HR.out.trans (if_pos hE)
     have cP8_0 := HS.out.cel 1 0 (v := (.func (.func 85) #[] #[])) rfl rfl; go_wp2_with fail; clear cP8_0; refine (zbU ({ h with ga := ga, gn := gn, gc := gc } : DevH) ({ d with got := L } : DevR) E hE P1 P8 _ (HS.out.get 5 rfl) (HS.out.get 1 rfl)).mono ?_; rintro e W3 ⟨rfl, hb⟩; replace HS := LH (HS.out.later hb); clear hb; have HG := LH (HS.out.set 2 rfl zDev); have bP1p3 := HS.out.gt 2 rfl
     go_wp2_with (first
      | ((with_reducible show wpList _ _ _ _ _ _); refine wpList_store_row rfl 37 (.tmp 6) (.tmp 68) rfl (P1 + 3) zDev rfl rfl 37 zDev ?_ ?_ ?_ ?_ ?_; exact bP1p3; exact zac; exact zav; exact zaq))
     clear bP1p3; refine bodyPost_ret (v := .tuple #[.agg zDev, .int .i64 E]) ?_ rfl ?_
     · exact zam (fn := Tryz.f26) (p := 6) (a := 7) rfl rfl rfl (HG.out.get 2 rfl) U37 rfl zac
     · rw [HR2.out]
       exact ⟨noH, by rw [zaK], HG.out.below, NewR.any (fun W _ => DH.none_ W)⟩
attribute [local go_sem] run_store_func
theorem acts_confirm (w0 : World) (h : DevH) (d : DevR) (nn : Int) (x : ChR) (xa : Option Addr) (xm xc : Nat) (w : World) (hk : Below w0.heap.size w0 w) (HD : DH w0 h d) (hok : DevM.Ok d) (hu : d.up = true) : Calls Tryz.prog 26 #[devV h d, .agg #[.int .i64 8, .int .i64 nn], .agg #[.int .i64 x.fr, .int .i64 x.to_, .int .i64 x.n, .int .i64 x.of_, .slice xa xm xc]] w (zbK (fun V => Below w0.heap.size w0 V) (DevM.confirm d) w) := by
 obtain ⟨⟨L, E⟩, hW⟩ : ∃ y, RecM.writeOf d.c (RecM.conf (DevM.rc d)) false = y := ⟨_, rfl⟩; have HCz := LH (fun q : E = 0 => cops_w (RecM.writeOf_zero hok.cops (r := RecM.conf (DevM.rc d)) (torn := false) (by rw [hW]; exact q)).2.1); rw [hW] at HCz; have HWW := LH hW; clear hW; have HNe : Hid (∀ W, Calls Tryz.prog 60 #[.agg (cpC d.c)] W fun e w' => e = .returned (.tuple #[.agg (rcC (DevM.rc d)), .int .i64 (RecM.newest d.c)]) ∧ Below W.heap.size W w') := fun W => zaP d.c hok.cops W; have HOk := LH hok; clear hok; have HDh := LH (HD.later hk); have HD0 := LH HD; have HK0 := LH hk; clear HD hk; unfold devV; obtain ⟨P1, hP1⟩ : ∃ P, w.heap.size = P := ⟨_, rfl⟩; have HS := LH (((((((((MS.start w).alloc (p := P1) (by simp [hP1]) (dvC h d) 37)).alloc (p := (P1 + 1)) (by simp [hP1]) #[.int .i64 8, .int .i64 nn] 55)).alloc (p := (P1 + 2)) (by simp [hP1]) #[.int .i64 x.fr, .int .i64 x.to_, .int .i64 x.n, .int .i64 x.of_, .slice xa xm xc] 39)).alloc (p := (P1 + 3)) (by simp [hP1]) zDev 37)); go_enter Tryz.func26, Tryz.ntmps26; go_upto_region 1 with fail; refine zau HS.out (fun V0 HS1 => ?_); replace HS := LH HS1; clear HS1 hP1; replace HS := LH (MH.of HS.out); obtain ⟨P8, hP8⟩ : ∃ P, V0.heap.size = P := ⟨_, rfl⟩; replace HS := LH (HS.out.alloc hP8 #[.nilFunc] 118); refine zaj ?_; refine zar (fun K hK => ?_); go_simp; refine hK.out _ _ ?_; clear hK K
 try simp only [Act.put, sA, sB, sC]
 refine zaF HS.out (fun V1 HS1 => ?_); replace HS := LH HS1; clear HS1 hP8; have c8 := cAt (k := 0) (v := .nilFunc) (HS.out.get 0 rfl) rfl; have z8 := tAt (k := 0) (HS.out.get 0 rfl); simp only at c8 z8; refine zar (fun K hK => ?_); go_simp; refine hK.out _ _ ?_; clear hK K c8 z8
 try simp only [Act.put, sA, sB, sC]
 refine zaF (HS.out.cell 0 rfl (k := 0) (v := (.func (.func 85) #[] #[])) (c' := #[(.func (.func 85) #[] #[])]) rfl) (fun V2 HS1 => ?_); replace HS := LH HS1; clear HS1; refine zal ?_; have cP1_26 := HS.out.cel 4 26 (v := .bool d.up) rfl rfl; have cP1p1_0 := HS.out.cel 3 0 (v := .int .i64 8) rfl rfl; rw [hu] at cP1_26; have bP1 := HS.out.gt 4 rfl
 go_wp2_with (first
  | ((with_reducible show wpList _ _ _ _ _ _); refine wLP rfl 31 (.tmp 39) rfl P1 2 rfl (dvC h d) 37 (0, 0) ?_ (cpC d.c) ?_ _ U31 rfl ?_ ?_; exact bP1; exact (zai h d); exact (sCp d.c)))
 clear cP1_26 cP1p1_0 bP1; refine (HNe.out _).mono ?_; rintro e W1 ⟨rfl, hb⟩; replace HS := LH (HS.out.later hb); clear hb; obtain ⟨P9, hP9⟩ : ∃ P, W1.heap.size = P := ⟨_, rfl⟩; replace HS := LH (HS.out.alloc hP9 (rcC (DevM.rc d)) 28); have cP1p1_0 := HS.out.cel 4 0 (v := .int .i64 8) rfl rfl; go_upto_region 7 with ((with_reducible show wpList _ _ _ _ _ _); refine wSN rfl 28 (.tmp 9) (.tmp 42) rfl P9 (rcC (DevM.rc d)) rfl rfl 28 _ ?_ ?_ ?_ ?_ ?_; exact hP9.symm; exact (sRc (DevM.rc d)); exact (lRc (DevM.rc d)); exact (oRc (DevM.rc d))); clear cP1p1_0; refine gnH HS.out (fun V3 HS1 => ?_); replace HS := LH HS1; clear HS1 hP9 HNe; have cP1p1_0 := HS.out.cel 4 0 (v := .int .i64 8) rfl rfl; have HUp := LH hu; clear hu; have cP1_27 := HS.out.cel 5 27 (v := .int .i64 d.run) rfl rfl; have cP9_1 := HS.out.cel 0 1 (v := .int .i64 (DevM.rc d).act) rfl rfl; have cP9_2 := HS.out.cel 0 2 (v := .bool (DevM.rc d).trying) rfl rfl; by_cases hl : d.run = DevM.act d ∨ (DevM.rc d).trying = false
 case pos =>
  have HR : Hid (DevM.confirm d = (DevM.noDev, 5)) := if_pos hl; by_cases q : d.run = (DevM.rc d).act
  · have t1 : (d.run == (DevM.rc d).act) = true := by simp [q]
    clear hl q; have cP8_0 := HS.out.cel 1 0 (v := (.func (.func 85) #[] #[])) rfl rfl; go_wp2_with fail; clear cP1p1_0 cP1_27 cP9_1 cP9_2 cP8_0; refine (zaI 5 _).mono ?_; rintro e W2 ⟨rfl, hb⟩; replace HS := LH (HS.out.later hb); clear hb; have HG := LH (HS.out.set 2 rfl zDev); have bP1p3 := HS.out.gt 2 rfl
    go_wp2_with (first
     | ((with_reducible show wpList _ _ _ _ _ _); refine wpList_store_row rfl 37 (.tmp 6) (.tmp 294) rfl (P1 + 3) zDev rfl rfl 37 zDev ?_ ?_ ?_ ?_ ?_; exact bP1p3; exact zac; exact zav; exact zaq))
    clear bP1p3; refine bodyPost_ret (v := .tuple #[.agg zDev, .int .i64 5]) ?_ rfl ?_
    · exact zam (fn := Tryz.f26) (p := 6) (a := 7) rfl rfl rfl (HG.out.get 2 rfl) U37 rfl zac
    · rw [HR.out]
      exact ⟨noH, by rw [zaK], HG.out.below, NewR.any (fun W _ => DH.none_ W)⟩
  · have t1 : (d.run == (DevM.rc d).act) = false := by simp [q]
    have ht : (DevM.rc d).trying = false := by
     rcases hl with z | z
     · exact absurd z q
     · exact z
    rw [ht] at cP9_2; clear ht; clear hl q; have cP8_0 := HS.out.cel 1 0 (v := (.func (.func 85) #[] #[])) rfl rfl; go_wp2_with fail; clear cP1p1_0 cP1_27 cP9_1 cP9_2 cP8_0; refine (zaI 5 _).mono ?_; rintro e W2 ⟨rfl, hb⟩; replace HS := LH (HS.out.later hb); clear hb; have HG := LH (HS.out.set 2 rfl zDev); have bP1p3 := HS.out.gt 2 rfl
    go_wp2_with (first
     | ((with_reducible show wpList _ _ _ _ _ _); refine wpList_store_row rfl 37 (.tmp 6) (.tmp 294) rfl (P1 + 3) zDev rfl rfl 37 zDev ?_ ?_ ?_ ?_ ?_; exact bP1p3; exact zac; exact zav; exact zaq))
    clear bP1p3; refine bodyPost_ret (v := .tuple #[.agg zDev, .int .i64 5]) ?_ rfl ?_
    · exact zam (fn := Tryz.f26) (p := 6) (a := 7) rfl rfl rfl (HG.out.get 2 rfl) U37 rfl zac
    · rw [HR.out]
      exact ⟨noH, by rw [zaK], HG.out.below, NewR.any (fun W _ => DH.none_ W)⟩
 have HR : Hid (DevM.confirm d = DevM.wrong E ({ d with c := L }, 0)) := by
  show _ = _; unfold DevM.confirm; rw [if_neg hl, HWW.out]
 have t1 : (d.run == (DevM.rc d).act) = false := by
  have : ¬ d.run = (DevM.rc d).act := fun z => hl (.inl z); simp [this]
 have ht : (DevM.rc d).trying = true := by
  cases q : (DevM.rc d).trying with
  | true => rfl
  | false => exact absurd (.inr q) hl
 rw [ht] at cP9_2; have HCf : Hid (∀ W, Calls Tryz.prog 92 #[.agg (rcC (DevM.rc d))] W fun e w' => e = .returned (.agg (rcC (RecM.conf (DevM.rc d)))) ∧ Below W.heap.size W w') := fun W => confirmed_any (DevM.rc d) (RecM.cur_ok HOk.out.cops) ht W; clear hl ht
 have HWc : Hid (∀ W, W.heap[P1]? = some (.cells (dvC h d) 37 (0, 0)) → Calls Tryz.prog 86 #[.agg (rcC (RecM.conf (DevM.rc d))), .bool false, .pointer (some ⟨P1, 0, none⟩)] W (GivesAW P1 (L, E) W)) := fun W hB => by
  have := acts2_any h d (RecM.conf (DevM.rc d)) false P1 W HOk.out.cops hB
  rwa [HWW.out] at this
 have bP9 := HS.out.gt 0 rfl
 go_wp2_with (first
  | ((with_reducible show wpList _ _ _ _ _ _); refine LR rfl (t := 28) U28 rfl (.tmp 9) rfl P9 rfl bP9 (sRc (DevM.rc d)) ?_))
 clear cP1p1_0 cP1_27 cP9_1 cP9_2 bP9; refine (HCf.out _).mono ?_; rintro e W2 ⟨rfl, hb⟩; replace HS := LH (HS.out.later hb); clear hb; go_wp2_with fail; refine (HWc.out _ (HS.out.get 5 rfl)).mono ?_; rintro e W3 ⟨V9, rfl, hb, hw⟩; replace HS := LH (HS.out.later hb); clear hb HWc; simp only at hw; by_cases hE : E = 0
 · subst hE
   rw [if_pos rfl] at hw; have HS9 := LH (HS.out.cells 5 rfl (zbr h d L)); rw [← hw] at HS9; clear hw; replace HS := HS9; clear HS9; have HR2 : Hid (DevM.confirm d = (({ d with c := L } : DevR), 0)) := HR.out; have HLW := LH (HCz.out rfl); have cP8_0 := HS.out.cel 1 0 (v := (.func (.func 85) #[] #[])) rfl rfl; go_wp2_with fail; clear cP8_0; refine (zbW h ({ d with c := L } : DevR) P1 P8 _ (HS.out.get 5 rfl) (HS.out.get 1 rfl)).mono ?_; rintro e W4 ⟨rfl, hb⟩; replace HS := LH (HS.out.later hb); clear hb; have HG := LH (HS.out.set 2 rfl (dvC h ({ d with c := L } : DevR))); have bP1p3 := HS.out.gt 2 rfl
   go_wp2_with (first
    | ((with_reducible show wpList _ _ _ _ _ _); refine wpList_store_row rfl 37 (.tmp 6) (.tmp 302) rfl (P1 + 3) (dvC h ({ d with c := L } : DevR)) rfl rfl 37 zDev ?_ ?_ ?_ ?_ ?_; exact bP1p3; exact (sDv h ({ d with c := L } : DevR)); exact (zat _ _); exact (oDv h ({ d with c := L } : DevR))))
   clear bP1p3; refine bodyPost_ret (v := .tuple #[.agg (dvC h ({ d with c := L } : DevR)), .int .i64 0]) ?_ rfl ?_
   · exact zam (fn := Tryz.f26) (p := 6) (a := 7) rfl rfl rfl (HG.out.get 2 rfl) U37 rfl (sDv _ _)
   · rw [HR2.out]
     refine ⟨h, rfl, HG.out.below, fun V v1 v2 hV => ?_⟩; have k0 := HD0.out.later hV; exact ⟨k0.b0, k0.b1, k0.got, k0.ops, HLW.out, k0.runI, k0.jobI, k0.doneI⟩
 · rw [if_neg hE] at hw
   subst hw; have HR2 : Hid (DevM.confirm d = (DevM.noDev, E)) := HR.out.trans (if_pos hE); have cP8_0 := HS.out.cel 1 0 (v := (.func (.func 85) #[] #[])) rfl rfl; go_wp2_with fail; clear cP8_0; refine (zbU h d E hE P1 P8 _ (HS.out.get 5 rfl) (HS.out.get 1 rfl)).mono ?_; rintro e W4 ⟨rfl, hb⟩; replace HS := LH (HS.out.later hb); clear hb; have HG := LH (HS.out.set 2 rfl zDev); have bP1p3 := HS.out.gt 2 rfl
   go_wp2_with (first
    | ((with_reducible show wpList _ _ _ _ _ _); refine wpList_store_row rfl 37 (.tmp 6) (.tmp 302) rfl (P1 + 3) zDev rfl rfl 37 zDev ?_ ?_ ?_ ?_ ?_; exact bP1p3; exact zac; exact zav; exact zaq))
   clear bP1p3; refine bodyPost_ret (v := .tuple #[.agg zDev, .int .i64 E]) ?_ rfl ?_
   · exact zam (fn := Tryz.f26) (p := 6) (a := 7) rfl rfl rfl (HG.out.get 2 rfl) U37 rfl zac
   · rw [HR2.out]
     exact ⟨noH, by rw [zaK], HG.out.below, NewR.any (fun W _ => DH.none_ W)⟩
theorem drop_at (l : List Int) (k : Nat) (h : k < l.length) : l.drop k = l[k]?.getD 0 :: l.drop (k + 1) := by
 rw [List.drop_eq_getElem_cons h]; simp [List.getElem?_eq_getElem h]
def UnpRelI (most : Int) (l : List Int) (w : World) (out i : Value) (wr : World) : Prop :=
 ∃ (j : Nat) (a' : Option Addr) (k c' : Nat) (outl : List Int), i = .int .i64 j ∧ out = .slice a' k c' ∧ j ≤ l.length ∧
   wr.ownsRow w.heap.size 5 1 (.slice a' k c') k (outl.map (Value.int .u8)) ∧ (∀ r, PackM.Unp most (l.drop j) outl r → PackM.Unp most l [] r) ∧ k ≤ 127 * j ∧ (∀ x ∈ outl, 0 ≤ x ∧ x ≤ 255) ∧ Below w.heap.size w wr
def GivesUN (most : Int) (l : List Int) (w : World) (e : Ending) (w' : World) : Prop :=
 ∃ (r : List Int × Int) (a : Option Addr) (n c : Nat), PackM.Unp most l [] r ∧ e = .returned (.tuple #[.slice a n c, .int .i64 r.2]) ∧ NewR w.heap.size w' (fun V => BS V a n c r.1) ∧ Below w.heap.size w w'
theorem unpacked_n (a : Option Addr) (n c : Nat) (l : List Int) (most : Int) (w : World) (hr : BS w a n c l) (hn : n ≤ 4194304) :
 Calls Tryz.prog 146 #[.slice a n c, .int .i64 most] w (GivesUN most l w) := by
 have HR := LH hr; have HLn := LH hr.len; have hnc := hr.le; have hcm := hr.max; clear hr; go_enter Tryz.func146, Tryz.ntmps146; go_wp2; go_loopw [6, 7] (fun out i wr => UnpRelI most l w out i wr) (fun _ i _ => n - (intOf i).toNat)
 case atStart => exact ⟨0, none, 0, 0, [], rfl, rfl, Nat.zero_le _, World.ownsRow_nil _ _ _ _, fun r h => h, by omega, by simp, Below.refl _ _⟩
 case round =>
  obtain ⟨i, a2, k, c2, outl, rfl, rfl, hi, ho, hu, hbd, hby, hB⟩ := hrel; rw [HLn.out] at hi; have HO := LH ho; have HU := LH hu; have HY := LH hby; have hk : k ≤ 532676608 := by omega
  clear ho hby hu; by_cases hlt : i < n
  · obtain ⟨blk, off, rfl, hc⟩ := (HR.out.later hB).cells (by omega)
    have hc0 := hc i hlt; have hx := HR.out.byte i; have HD := LH (drop_at l i (by rw [HLn.out]; exact hlt)); generalize l[i]?.getD 0 = x at hc0 hx HD; clear hc; obtain ⟨I, hI⟩ : ∃ I : Nat, (i : Int) + 1 = I := ⟨i + 1, by omega⟩; obtain ⟨L, hL⟩ : ∃ L : Nat, (n : Int) - I = L := ⟨n - I, by omega⟩; have hIn : I ≤ n := by omega
    have HI : Hid (i + 1 = I) := by show i + 1 = I; omega
    have HT : Hid ((l.drop I).length = L) := by show (l.drop I).length = L; rw [List.length_drop, HLn.out]; omega
    rw [HI.out] at HD; have hol : outl.length = k := by simpa using HO.out.1
    have HL := LH hol; clear hol; have hdm1 : 0 ≤ x % 128 := by omega
    have hdm2 : x % 128 ≤ 127 := by omega
    obtain ⟨N, hN⟩ : ∃ N : Nat, x % 128 = N := ⟨(x % 128).toNat, by omega⟩; have hN2 : N ≤ 127 := by omega
    have HX := LH hN; obtain ⟨t, ht⟩ : ∃ t, l.drop I = t := ⟨_, rfl⟩; have HTT := LH ht; rw [ht] at HT HD; clear ht; by_cases h128 : 128 ≤ x
    · have HF : Hid (PackM.follow x = 1) := by show PackM.follow x = 1; unfold PackM.follow; rw [if_pos h128]
      have HG : Hid (PackM.grp x t = List.replicate N (t[0]?.getD 0)) := by show PackM.grp x t = _; unfold PackM.grp; rw [if_pos h128, hN]; rfl
      clear hdm1 hdm2 hN; go_wp2; go_quiet (fail); rw [HX.out]; have hB1 := below_drewN hB nq; have HO1 : Hid ((wr.drewN nq).ownsRow w.heap.size 5 1 (.slice a2 k c2) k (outl.map (Value.int .u8))) := HO; generalize wr.drewN nq = W1 at hB1 HO1 ⊢; clear hB HO hc0 wr hx; by_cases hN0 : N = 0
      · subst hN0
        go_wp2; go_ret2; exact ⟨([], 3), none, 0, 0, HU.out _ (by rw [HD.out]; exact .form x t outl (by rw [HX.out]; rfl)), rfl, NewR.any (fun V => BS.nil_ V), hB1⟩
      · have hNb : ((N : Int) == 0) = false := by simp; omega
        have HN0 : Hid (x % 128 ≠ 0) := by show x % 128 ≠ 0; rw [HX.out]; omega
        by_cases hM0 : L < 1
        · have hLz : L = 0 := by omega
          subst hLz; go_wp2; go_ret2; exact ⟨([], 7), none, 0, 0, HU.out _ (by rw [HD.out]; exact .torn x t outl HN0.out (by rw [HF.out, HT.out]; omega)), rfl, NewR.any (fun V => BS.nil_ V), hB1⟩
        · have hL1 : ¬ (L : Int) < 1 := by omega
          by_cases hmost : most < (k : Int) + N
          · go_wp2
            go_ret2; exact ⟨([], 1), none, 0, 0, HU.out _ (by rw [HD.out]; exact .many x t outl HN0.out (by rw [HF.out, HT.out]; omega) (by rw [HL.out, HX.out]; exact hmost)), rfl, NewR.any (fun V => BS.nil_ V), hB1⟩
          · obtain ⟨J, hJ⟩ : ∃ J : Nat, (I : Int) + 1 = J := ⟨I + 1, by omega⟩
            have hcut1 : ∀ W, (Instr.slice 22 (.slice (some ⟨blk, off, none⟩) n c) (some (.int .i64 I)) (some (.int .i64 J)) none).run Tryz.prog W = .ok (.slice (cutA (some ⟨blk, off, none⟩) c I) (J - I) (c - I)) W := fun W => za6 _ n c W I J (by omega) (by omega); have hh := (HR.out.later hB1).mid I J (by omega) (by omega); have hJI : J - I = 1 := by omega
            have e1 : (l.drop I).take (J - I) = [t[0]?.getD 0] := by
             rw [HTT.out, hJI]
             cases t with
             | nil => have := HT.out; simp at this; omega
             | cons y t => simp
            rw [e1, hJI] at hh; simp only [hJI] at hcut1; clear e1 hJI; generalize cutA (some ⟨blk, off, none⟩) c I = A3 at hcut1 hh; generalize c - I = C3 at hcut1 hh; go_wp2_with fail; refine (repeat_one A3 C3 (t[0]?.getD 0) N _ hh (by omega) hN2).mono ?_; rintro e W2 ⟨a4, n4, c4, rfl, hb4, hB2⟩; have hn4 : n4 = N := by have := hb4.len; simpa using this.symm
            subst hn4; obtain ⟨a5, c5, W3, hrun, hown5, hg5⟩ := zbi (zaQ HO1.out hB2) hb4 (by omega) (by have := hB1.size; have := hB2.size; omega); have hB3 := (bTh hB1 hB2).grown hg5 (by have := hB1.size; have := hB2.size; omega) (fun g hg => ((zaQ HO1.out hB2).lt g hg).1); have HO5 := LH hown5; clear hown5 hb4; go_wp2_with (at_builtin; refine Lib.wpList_append_run _ rfl _ _ _ _ rfl _ _ rfl rfl _ _ hrun ?_); go_roundw
            case rel =>
             refine ⟨J, a5, k + n4, c5, outl ++ List.replicate n4 (t[0]?.getD 0), rfl, rfl, by rw [HLn.out]; omega, HO5.out, ?_, by omega, ?_, hB3⟩
             · intro r hr
               refine HU.out r ?_; rw [HD.out]; refine .step x t outl r HN0.out (by rw [HF.out, HT.out]; omega) (by rw [HL.out, HX.out]; omega) ?_; rw [HF.out, HG.out, ← HTT.out, List.drop_drop, show I + 1 = J by omega, HTT.out]; exact hr
             · intro y hy
               rcases List.mem_append.1 hy with hy | hy
               · exact HY.out y hy
               · rw [List.mem_replicate] at hy
                 rw [hy.2]; have := HR.out.byte I; rw [← HTT.out, List.getElem?_drop]; exact this
            case measure => simp [intOf]; omega
    · have HF : Hid (PackM.follow x = N) := by show PackM.follow x = N; unfold PackM.follow; rw [if_neg h128, hN]; rfl
      have HG : Hid (PackM.grp x t = t.take N) := by show PackM.grp x t = _; unfold PackM.grp; rw [if_neg h128, hN]; rfl
      clear hdm1 hdm2 hN; go_wp2; go_quiet (fail); rw [HX.out]; have hB1 := below_drewN hB nq; have HO1 : Hid ((wr.drewN nq).ownsRow w.heap.size 5 1 (.slice a2 k c2) k (outl.map (Value.int .u8))) := HO; generalize wr.drewN nq = W1 at hB1 HO1 ⊢; clear hB HO hc0 wr hx; by_cases hN0 : N = 0
      · subst hN0
        go_wp2; go_ret2; exact ⟨([], 3), none, 0, 0, HU.out _ (by rw [HD.out]; exact .form x t outl (by rw [HX.out]; rfl)), rfl, NewR.any (fun V => BS.nil_ V), hB1⟩
      · have hNb : ((N : Int) == 0) = false := by simp; omega
        have HN0 : Hid (x % 128 ≠ 0) := by show x % 128 ≠ 0; rw [HX.out]; omega
        by_cases hM0 : L < N
        · go_wp2
          go_ret2; exact ⟨([], 7), none, 0, 0, HU.out _ (by rw [HD.out]; exact .torn x t outl HN0.out (by rw [HF.out, HT.out]; omega)), rfl, NewR.any (fun V => BS.nil_ V), hB1⟩
        · by_cases hmost : most < (k : Int) + N
          · go_wp2
            go_ret2; exact ⟨([], 1), none, 0, 0, HU.out _ (by rw [HD.out]; exact .many x t outl HN0.out (by rw [HF.out, HT.out]; omega) (by rw [HL.out, HX.out]; exact hmost)), rfl, NewR.any (fun V => BS.nil_ V), hB1⟩
          · obtain ⟨J, hJ⟩ : ∃ J : Nat, (I : Int) + N = J := ⟨I + N, by omega⟩
            have hcut1 : ∀ W, (Instr.slice 22 (.slice (some ⟨blk, off, none⟩) n c) (some (.int .i64 I)) (some (.int .i64 J)) none).run Tryz.prog W = .ok (.slice (cutA (some ⟨blk, off, none⟩) c I) (J - I) (c - I)) W := fun W => za6 _ n c W I J (by omega) (by omega); have hh := (HR.out.later hB1).mid I J (by omega) (by omega); have hJI : J - I = N := by omega
            rw [HTT.out, hJI] at hh; simp only [hJI] at hcut1; clear hJI; generalize cutA (some ⟨blk, off, none⟩) c I = A3 at hcut1 hh; generalize c - I = C3 at hcut1 hh; obtain ⟨a5, c5, W3, hrun, hown5, hg5⟩ := zbi HO1.out hh (by omega) hB1.size; have hB3 := hB1.grown hg5 hB1.size (fun g hg => (HO1.out.lt g hg).1); have HO5 := LH hown5; clear hown5 hh; go_wp2_with (at_builtin; refine Lib.wpList_append_run _ rfl _ _ _ _ rfl _ _ rfl rfl _ _ hrun ?_); go_roundw
            case rel =>
             refine ⟨J, a5, k + N, c5, outl ++ t.take N, rfl, rfl, by rw [HLn.out]; omega, HO5.out, ?_, by omega, ?_, hB3⟩
             · intro r hr
               refine HU.out r ?_; rw [HD.out]; refine .step x t outl r HN0.out (by rw [HF.out, HT.out]; omega) (by rw [HL.out, HX.out]; omega) ?_; rw [HF.out, HG.out, ← HTT.out, List.drop_drop, show I + N = J by omega, HTT.out]; exact hr
             · intro y hy
               rcases List.mem_append.1 hy with hy | hy
               · exact HY.out y hy
               · rw [← HTT.out] at hy
                 exact HR.out.bytes y (List.mem_of_mem_drop (List.mem_of_mem_take hy))
            case measure => simp [intOf]; omega
  · go_wp2
    go_ret2; have hin : i = n := by omega
    exact ⟨(outl, 0), a2, k, c2, HU.out _ (by rw [List.drop_eq_nil_of_le (by rw [HLn.out]; omega)]; exact .done _), rfl, (BS.of_own HO.out HY.out).new (fun p hp => oL3 HO.out (g := p.block) (by rw [hp]; rfl)), hB⟩
theorem bad_any (e : Int) (w : World) : Calls Tryz.prog 189 #[.int .i64 e] w fun en w' => en = .returned (.tuple #[.agg #[.int .i64 0, .int .i64 0, .int .i64 0, .int .i64 0, .int .i64 0, .slice none 0 0], .int .i64 e]) ∧ Below w.heap.size w w' := by
 have hb : Below w.heap.size w (w.alloc (.cells #[.int .i64 0, .int .i64 0, .int .i64 0, .int .i64 0, .int .i64 0, .slice none 0 0] 35)) := (Below.refl _ _).alloc (Nat.le_refl _) _; go_enter Tryz.func189, Tryz.ntmps189; go_wp2_with fail; go_returns; exact ⟨rfl, hb⟩
theorem num_any (Bb blk off n c k : Nat) (x y : Int) (w : World) (hb : w.cell? ⟨Bb, 0, none⟩ = some (.slice (some ⟨blk, off, none⟩) n c)) (h1 : w.cell? ⟨blk, off + k, none⟩ = some (.int .u8 x)) (h2 : w.cell? ⟨blk, off + (k + 1), none⟩ = some (.int .u8 y))
 (hk : k + 1 < n) (hn : n ≤ 400) (x1 : 0 ≤ x ∧ x ≤ 255) (x2 : 0 ≤ y ∧ y ≤ 255) :
 Calls Tryz.prog 190 #[.int .i64 (k : Int), .pointer (some ⟨Bb, 0, none⟩)] w fun e w' => e = .returned (.int .i64 (x * 256 + y)) ∧ zbD w w' := by
 obtain ⟨J, hJ⟩ : ∃ J : Nat, (k : Int) + 1 = J := ⟨k + 1, by omega⟩; have hJ2 : k + 1 = J := by omega
 rw [hJ2] at hk h2; have hkn : k < n := by omega
 clear hJ2; go_enter Tryz.func190, Tryz.ntmps190; go_wp2; go_quiet (fail); go_wp2; go_ret; exact ⟨rfl, nq, rfl⟩
def ReadsA (S : World → Prop) (o : OpV) (r : OpR) : Prop :=
 o.at_ = r.at_ ∧ o.len = r.len ∧ I64 r.at_ ∧ I64 r.len ∧ ∃ a n c, o.v = .slice a n c ∧ ∀ W', S W' → BS W' a n c r.data
def OutA (S : World → Prop) (W : World) (base : Nat) (vo : Value) (out : List OpR) : Prop :=
 ∃ vs : List OpV, vs.length = out.length ∧ W.ownsRow base 159 3 vo out.length (zaJ vs) ∧ ∀ i, i < out.length → ReadsA S (vs.getD i default) (out.getD i default)
theorem OutA.keep {S : World → Prop} {W W' : World} {base : Nat} {vo : Value} {out : List OpR} (h : OutA S W base vo out) (hk : ∀ g, base ≤ g → g < W.heap.size → W'.heap[g]? = W.heap[g]?) : OutA S W' base vo out := by
 obtain ⟨vs, h1, h2, h3⟩ := h; exact ⟨vs, h1, za1 h2 (fun g hg => hk g (oL3 h2 hg).1 (oL3 h2 hg).2), h3⟩
theorem OutA.app {S : World → Prop} {W : World} {base : Nat} {vo : Value} {out : List OpR} (h : OutA S W base vo out) {B : Nat} {A L : Int} {a : Option Addr} {n c : Nat} {d : List Int}
 (hB : W.heap[B]? = some (.cells #[.int .i64 A, .int .i64 L, .slice a n c] 159 (0, 0))) (hd : ∀ W', S W' → BS W' a n c d) (hA : I64 A) (hL : I64 L) (hn : out.length ≤ 1000) (hbase : base ≤ W.heap.size) :
 ∃ g cap W5, (Builtin.append_ #[33, 33] 33 #[vo, .slice (some ⟨B, 0, none⟩) 1 1]).run Tryz.prog W = .ok (.slice (some ⟨g, 0, none⟩) (out.length + 1) cap) W5 ∧
   OutA S W5 base (.slice (some ⟨g, 0, none⟩) (out.length + 1) cap) (out ++ [⟨A, L, d⟩]) ∧ W.grownBy W5 vo.ownBlock := by
 obtain ⟨i0, hi, hz0, hz1, hz2⟩ := info_parts Tryz.info_op; obtain ⟨vs, h1, h2, h3⟩ := h
 obtain ⟨g, cap, W5, hr, ho, hg, hlies, hlt⟩ := run_append_lies (P := Tryz.prog) W 33 33 base 159 i0 _ 3 40 U33 hi hz0 hz1 hz2 rfl (by decide) vo out.length _ h2 ⟨B, 0, none⟩ 1 1 (zaJ [⟨A, L, .slice a n c⟩])
  rfl (one_op hB) (by intro u hu; simp [zaJ] at hu; rcases hu with rfl | rfl | rfl <;> rfl) (by omega) (by unfold maxLen; omega) (by omega) hbase W.heap.size rfl
 refine ⟨g, cap, W5, hr, ⟨vs ++ [⟨A, L, .slice a n c⟩], by simp [h1], ?_, ?_⟩, hg⟩
 · rw [zb0, List.length_append]
   exact ho
 · intro i hi'
   rw [List.length_append] at hi'; simp only [List.length_cons, List.length_nil] at hi'; rcases Nat.lt_or_ge i out.length with hlt2 | hge
   · have e1 : (vs ++ [(⟨A, L, .slice a n c⟩ : OpV)]).getD i default = vs.getD i default := by simp [List.getD_eq_getElem?_getD, List.getElem?_append_left (show i < vs.length by omega)]
     have e2 : (out ++ [(⟨A, L, d⟩ : OpR)]).getD i default = out.getD i default := by simp [List.getD_eq_getElem?_getD, List.getElem?_append_left hlt2]
     rw [e1, e2]; exact h3 i hlt2
   · obtain rfl : i = out.length := by omega
     have e1 : (vs ++ [(⟨A, L, .slice a n c⟩ : OpV)]).getD out.length default = ⟨A, L, .slice a n c⟩ := by rw [← h1]; simp [List.getD_eq_getElem?_getD]
     have e2 : (out ++ [(⟨A, L, d⟩ : OpR)]).getD out.length default = ⟨A, L, d⟩ := by simp [List.getD_eq_getElem?_getD]
     rw [e1, e2]; exact ⟨rfl, rfl, hA, hL, a, n, c, rfl, hd⟩
theorem OutA.os {S : World → Prop} {W : World} {base : Nat} {vo : Value} {out : List OpR} (h : OutA S W base vo out) (hS : S W) : ∃ a c, vo = .slice a out.length c ∧ OS W a out.length c out := by
 obtain ⟨vs, h1, h2, h3⟩ := h; rcases h2.2 with ⟨rfl, h0⟩ | ⟨g, cap, cur, rfl, _, hcells, hle, hmx, hsz, htk⟩
 · obtain rfl : out = [] := List.eq_nil_of_length_eq_zero h0
   exact ⟨none, 0, rfl, OS.nil_ W⟩
 · refine ⟨_, cap, rfl, rfl, hle, by unfold maxLen at hmx; omega, fun hp => ⟨g, 0, rfl, fun i hi => ?_⟩, fun h => by cases h⟩
   have cell : ∀ j u, (zaJ vs)[j]? = some u → W.cell? ⟨g, j, none⟩ = some u := by
    intro j u hu
    have hj : j < (zaJ vs).length := by
     rcases Nat.lt_or_ge j (zaJ vs).length with q | q
     · exact q
     · rw [List.getElem?_eq_none q] at hu; cases hu
    rw [← htk, List.getElem?_take] at hu; split at hu
    · simp only [World.cell?, hcells]
      simpa using hu
    · cases hu
   obtain ⟨g0, g1, g2⟩ := zbR vs i (by omega); obtain ⟨r1, r2, r3, r4, a, n, c, r5, r6⟩ := h3 i hi; refine ⟨a, n, c, ?_, ?_, ?_, r6 _ hS, r3, r4⟩
   · rw [Nat.zero_add, cell _ _ g0, r1]
   · rw [Nat.zero_add, cell _ _ g1, r2]
   · rw [Nat.zero_add, cell _ _ g2, r5]
structure RSt (S : World → Prop) (w0 : World) (B0 B1 B2 : Nat) (vb : Value) (f t o nw s : Int) (vo : Value) (out : List OpR) (W : World) : Prop where
 c0 : W.heap[B0]? = some (.cells #[vb] 22 (0, 0))
 c1 : W.heap[B1]? = some (.cells #[.int .i64 0, .int .i64 0, .int .i64 0, .int .i64 0, .int .i64 0, .slice none 0 0] 35 (0, 0))
 c2 : W.heap[B2]? = some (.cells #[.int .i64 f, .int .i64 t, .int .i64 o, .int .i64 nw, .int .i64 s, vo] 35 (0, 0))
 o : OutA S W (B2 + 1) vo out
 below : Below w0.heap.size w0 W
 le0 : w0.heap.size ≤ B0
 le1 : B0 < B1
 le2 : B1 < B2
 hs : ∀ W', Below w0.heap.size w0 W' → S W'
section
variable {S : World → Prop} {w0 : World} {B0 B1 B2 : Nat} {vb : Value} {f t o nw s : Int} {vo : Value} {out : List OpR} {W W' : World}
theorem RSt.later (h : RSt S w0 B0 B1 B2 vb f t o nw s vo out W) (hb : Below W.heap.size W W') : RSt S w0 B0 B1 B2 vb f t o nw s vo out W' :=
 ⟨(hb.block _ (zax h.c0)).trans h.c0, (hb.block _ (zax h.c1)).trans h.c1, (hb.block _ (zax h.c2)).trans h.c2, h.o.keep (fun g _ g2 => hb.block g g2), bTh h.below hb, h.le0, h.le1, h.le2, h.hs⟩
theorem RSt.drewN (h : RSt S w0 B0 B1 B2 vb f t o nw s vo out W) (q : Nat) : RSt S w0 B0 B1 B2 vb f t o nw s vo out (W.drewN q) := h.later (below_drewN (Below.refl _ _) q)
theorem RSt.app (h : RSt S w0 B0 B1 B2 vb f t o nw s vo out W) {B : Nat} {A L : Int} {a : Option Addr} {n c : Nat} {d : List Int}
 (hB : W.heap[B]? = some (.cells #[.int .i64 A, .int .i64 L, .slice a n c] 159 (0, 0))) (hd : ∀ W', S W' → BS W' a n c d) (hA : I64 A) (hL : I64 L) (hn : out.length ≤ 1000) :
 ∃ g cap W5, (Builtin.append_ #[33, 33] 33 #[vo, .slice (some ⟨B, 0, none⟩) 1 1]).run Tryz.prog W = .ok (.slice (some ⟨g, 0, none⟩) (out.length + 1) cap) W5 ∧
   W5.cell? ⟨B2, 5, none⟩ = some vo ∧ W5.frozen? ⟨B2, 5, none⟩ = false ∧
   Hid (RSt S w0 B0 B1 B2 vb f t o nw s (.slice (some ⟨g, 0, none⟩) (out.length + 1) cap) (out ++ [⟨A, L, d⟩]) (W5.setCell ⟨B2, 5, none⟩ (.slice (some ⟨g, 0, none⟩) (out.length + 1) cap))) := by
 have hl0 := zax h.c0; have hl1 := zax h.c1; have hl2 := zax h.c2; have hle1 := h.le1; have hle2 := h.le2; obtain ⟨g, cap, W5, hr, hO, hg⟩ := h.o.app hB hd hA hL hn (by omega)
 have far : ∀ k, k < B2 + 1 → some k ≠ vo.ownBlock := by
  intro k hk2 e; obtain ⟨vs, _, q, _⟩ := h.o; have := (oL3 q e.symm).1; omega
 have e0 := (hg.block B0 hl0 (far _ (by omega))).trans h.c0; have e1 := (hg.block B1 hl1 (far _ (by omega))).trans h.c1; have e2 := (hg.block B2 hl2 (far _ (by omega))).trans h.c2
 have hB5 := h.below.grown hg h.below.size (fun g' hg' => by
  obtain ⟨vs, _, q, _⟩ := h.o; have := (oL3 q hg').1; have := h.le0
  omega)
 obtain ⟨p0, p1, p2, p3, p4, p5, f0, f1, f2, f3, f4, f5⟩ := zak e2; refine ⟨g, cap, W5, hr, p5, f5, ?_⟩; refine ⟨(Below.heap_setCell W5 _ _ B0 (by show B0 ≠ B2; omega)).trans e0, (Below.heap_setCell W5 _ _ B1 (by show B1 ≠ B2; omega)).trans e1, by simp [World.setCell, Array.getElem?_modify, e2], ?_, hB5.setCell (by show w0.heap.size ≤ B2; have := h.le0; omega) _, h.le0, h.le1, h.le2, h.hs⟩; exact hO.keep (fun k k1 _ => Below.heap_setCell W5 _ _ k (by show k ≠ B2; omega))
theorem RSt.pv (h : RSt S w0 B0 B1 B2 vb f t o nw s vo out W) (hf : I64 f ∧ I64 t ∧ I64 o ∧ I64 nw ∧ I64 s) : PV W (.agg #[.int .i64 f, .int .i64 t, .int .i64 o, .int .i64 nw, .int .i64 s, vo]) ⟨f, t, o, nw, s, out⟩ := by
 obtain ⟨a, c, rfl, hos⟩ := h.o.os (h.hs _ h.below); exact ⟨a, out.length, c, rfl, hos, hf.1, hf.2.1, hf.2.2.1, hf.2.2.2.1, hf.2.2.2.2⟩
end
end Go.Proofs.YtnnmpoknghbdnacGreat
