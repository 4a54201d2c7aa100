/-
  slices.Chunk of bytes, an iterator: bytes cut into parts of so many each; slices.AppendSeq and slices.Collect over it.
-/
import Derived.Test.YtmpmaljkmfgagabRowToOpenN
import Derived.RangeFuncBox
import Derived.RangeFuncLeaves
import Derived.Shelf.Abstract
import Derived.WalkKit
import Derived.OwnWalkIn
import Derived.TacticsInMore
import Derived.LoopNIn
import Derived.LoopIn
import Derived.Maps.AppendAt
namespace Go.Proofs.Ytmpmaljkmfgagab
open Go.RowKit Go.Shelf

attribute [local go_sem] Oper.semAt_some

/-- a slice's head: where it lies, how long it is, how much room there is -/
abbrev HeadV : Type := Option Addr × Nat × Nat
def HeadV.v (x : HeadV) : Value := .slice x.1 x.2.1 x.2.2
/-- the k-th part of so many bytes: at most sixteen -/
def partK (a : Option Addr) (n k : Nat) : HeadV := (a.map (·.add (k * 16)), min 16 (n - k * 16), min 16 (n - k * 16))
/-- so many parts -/
def partsTo (a : Option Addr) (n k : Nat) : List HeadV := (List.range k).map (partK a n)
theorem partsTo_succ (a : Option Addr) (n k : Nat) : partsTo a n (k + 1) = partsTo a n k ++ [partK a n k] := by simp [partsTo, List.range_succ]
theorem partsTo_length (a : Option Addr) (n k : Nat) : (partsTo a n k).length = k := by simp [partsTo]
theorem run_cut_lhm (a : Option Addr) (n c : Nat) (W : World) (k h : Nat) (hk : k < h) (hh : h ≤ c) : (Instr.slice 22 (.slice a n c) (some (.int .i64 (k : Int))) (some (.int .i64 (h : Int))) (some (.int .i64 (h : Int)))).run Try.prog W = .ok (.slice (a.map (·.add k)) (h - k) (h - k)) W := by
  have ht : Try.prog.underlying 22 = some (.slice (Try.prog.elem 22)) := by simp [Program.elem, Try.underlying22]
  have he : Try.prog.elem 22 = 5 := by simp [Program.elem, Try.underlying22]
  have hne : h ≠ k := by omega
  rw [run_slice_lhm W 22 _ _ _ ht .i64 .i64 .i64 _ _ _ (by omega) (by omega) (by omega) (by omega), he, size_run_u8]
  simp [Result.andThen, sliced, hne]

set_option maxRecDepth 100000 in
set_option maxHeartbeats 2000000 in
theorem chunk1_in (F : Fence) (n : Nat) (h7 : F.fn 123) (hro : F.round = none) (hn : 1 ≤ n) (l Bs Bn n₀ : Nat) (a : Option Addr) (len cap : Nat) (hlen : len ≤ cap) (hcap : len ≤ 1000000) (hBs : Bs < n₀) (hBn : Bn < n₀) (J Jx : List HeadV → World → Prop) (B : Nat) (hJ : AbidesFrom B J)
    (hY : ∀ pre x W, J pre W → pre.length < (len + 15) / 16 → YieldAt F (n - 1) Try.prog l #[HeadV.v x] W fun e W' =>
      (e = .returned (.bool true) ∧ J (pre ++ [x]) W' ∧ Below n₀ W W') ∨ (e = .returned (.bool false) ∧ Jx (pre ++ [x]) W'))
    (W : World) (hcs : W.cell? ⟨Bs, 0, none⟩ = some (.slice a len cap)) (hcn : W.cell? ⟨Bn, 0, none⟩ = some (.int .i64 16)) (h0 : J [] W) :
    CallsIn F n Try.prog 123 #[.func (.yield l) #[] #[], .pointer (some ⟨Bs, 0, none⟩), .pointer (some ⟨Bn, 0, none⟩)] W fun e W' => (∃ v, e = .returned v) ∧
      ((∃ ys, ys = partsTo a len ((len + 15) / 16) ∧ J ys W') ∨ (∃ pre, (∃ k, k ≤ (len + 15) / 16 ∧ pre = partsTo a len k) ∧ Jx pre W')) := by
  refine callsIn_of_wp Try.func123 rfl h7 ?_ hro
  simp only [Try.ntmps123, List.size_toArray, List.length_cons, List.length_nil, Nat.reduceAdd, Nat.reduceSub, Array.replicate_succ, Array.replicate_zero, List.push_toArray, List.append_toArray, List.nil_append, List.cons_append]
  gi_wp2
  gi_loopw [4] (fun i wr => ∃ k : Nat, k ≤ (len + 15) / 16 ∧ i = .int .i64 ((k * 16 : Nat) : Int) ∧ J (partsTo a len k) wr ∧ Below n₀ W wr)
    (fun i _ => len + 16 - (intOf i).toNat)
  case atStart => exact ⟨0, Nat.zero_le _, rfl, h0, Below.refl _ _⟩
  case round =>
    obtain ⟨k, hk, rfl, hJs, hnx⟩ := hrel
    have qs := (hnx.cell (p := ⟨Bs, 0, none⟩) hBs).trans hcs
    have qn := (hnx.cell (p := ⟨Bn, 0, none⟩) hBn).trans hcn
    obtain ⟨I, hI⟩ : ∃ I : Nat, k * 16 = I := ⟨_, rfl⟩
    rw [hI]
    by_cases hlt : I < len
    · have hJd := hJ _ wr wr.drew none hJs ⟨rfl, rfl, rfl, Nat.le_refl _, fun _ _ _ => rfl⟩ (fun r e => by cases e)
      have hnd : Below n₀ W wr.drew := hnx.drew
      obtain ⟨fn, tmps, assign, body, hy, hR⟩ := hY _ (partK a len k) wr.drew hJd (by rw [partsTo_length]; omega)
      obtain ⟨M, hM⟩ : ∃ M : Nat, len - I = M := ⟨_, rfl⟩
      obtain ⟨E, hE⟩ : ∃ E : Nat, (if (M : Int) < 16 then (M : Int) else 16) = E := ⟨min 16 M, by split <;> omega⟩
      have hE2 : min 16 (len - I) = E := by rw [hM]; split at hE <;> omega
      obtain ⟨H, hH⟩ : ∃ H : Nat, (I : Int) + (E : Int) = H := ⟨I + E, by omega⟩
      have hE3 : 0 < E := by omega
      have hHc : H ≤ cap := by omega
      have hHI : H - I = E := by omega
      have hcut1 : ∀ W, (Instr.slice 22 (.slice a len cap) (some (.int .i64 (I : Int))) none none).run Try.prog W = .ok (.slice (cutA a cap I) M (cap - I)) W := fun W => by rw [run_cut_l a len cap W I (by omega), hM]
      have hcut2 : ∀ W, (Instr.slice 22 (.slice a len cap) (some (.int .i64 (I : Int))) (some (.int .i64 (H : Int))) (some (.int .i64 (H : Int)))).run Try.prog W = .ok (.slice (a.map (·.add I)) E E) W := fun W => by rw [run_cut_lhm a len cap W I H (by omega) hHc, hHI]
      have hpk : (partK a len k).v = .slice (a.map (·.add I)) E E := by unfold partK HeadV.v; simp only; rw [hI, hE2]
      rw [hpk] at hy
      generalize cutA a cap I = A1 at hcut1
      generalize a.map (·.add I) = A2 at hcut2 hpk hy
      gi_wp2
      gi_region
      all_goals
        clear hJs hnx
        gi_wp2
        refine hR.mono ?_
        rintro e W3 (⟨rfl, hJ3, hk3⟩ | ⟨rfl, hJx3⟩)
        · have qn3 := (hk3.cell (p := ⟨Bn, 0, none⟩) hBn).trans ((hnd.cell (p := ⟨Bn, 0, none⟩) hBn).trans hcn)
          gi_wp2
          go_roundw
          case rel => exact ⟨k + 1, by omega, by rw [← hI]; congr 1; omega, by rw [partsTo_succ]; exact hJ3, hnd.trans hk3⟩
          case measure => simp [intOf]; omega
        · gi_wp2
          refine bodyPost_ret (results_none rfl _ _ _) rfl ?_
          exact ⟨⟨_, rfl⟩, .inr ⟨_, ⟨k + 1, by omega, (partsTo_succ _ _ _).symm⟩, hJx3⟩⟩
    · obtain rfl : k = (len + 15) / 16 := by omega
      gi_wp2
      go_end0
      exact ⟨⟨_, rfl⟩, .inl ⟨_, rfl, hJs⟩⟩
end Go.Proofs.Ytmpmaljkmfgagab
