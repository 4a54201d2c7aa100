/-
  Proved: for every slice of chunks l and every chunk c, the law ChunkOther returns true, and leaves its arguments as they were. Conditions: none.
-/
import Derived.Test.YtmpmaljkmfgagabRows
import Derived.WalkKit
import Derived.ProofKit
import Derived.OpenShut
import Derived.ChangeOld
import Derived.Below
import Derived.HandedShaped
import Derived.Test.YtmpmaljkmfgagabChunkOtherW
import Derived.Test.YtmpmaljkmfgagabCList
import Derived.Test.YtmpmaljkmfgagabCSame
import Derived.Test.YtmpmaljkmfgagabCCut
import Derived.Test.YtmpmaljkmfgagabCAdd
import Derived.Test.YtmpmaljkmfgagabCJoin
import Derived.Test.YtmpmaljkmfgagabPSame
namespace Go.Proofs.Ytmpmaljkmfgagab.chunkOther
open Go.ChangeShapes Go.WideShapes Go.ChangeAt Go.RowKit
set_option linter.unusedVariables false

theorem own : ownKnob Try.prog.godebug = none := by kernel_rfl
theorem laidOut : laidOutB Try.prog = true := by kernel_rfl

theorem walk (a0 : Option Addr) (len0 cap0 : Nat) (l0 : List ChR) (x1 : Value) (l1 : ChR) (w : World) (w0 : CS w a0 len0 cap0 l0) (w1 : CV w x1 l1) (hsh : w.ShapedOpen Try.prog) :
    Calls Try.prog 14 #[.slice a0 len0 cap0, x1] w fun e w' => e = .returned (.bool true) ∧ Below w.heap.size w w' := by
  exact chunkOther_walk listC_ok sameC_ok cutC_ok addC_ok joinC_ok sameP_ok a0 len0 cap0 l0 x1 l1 w w0 w1 (MaxCell.of_shaped hsh)

set_option maxRecDepth 100000 in
theorem lifted (os : Os) (started : os.Started) (H : Type) (enc : TypeId × Value → H) :
    ReturnsInHanded {} Try.checked os 14 .any (Rows.chunkOtherSpec.pre6 enc Try.prog Try.f14 Rows.chunkOtherRow.domain false) (Rows.chunkOtherSpec.post enc Try.prog Try.f14 false true false false) := by
  refine returnsInHanded_of_change_shaped (C := Try.checked) own started (by kernel_rfl) Try.func14
    (ChangeSpec.witness6 (enc := enc) (C := Try.checked) false ⟨#[], #[.slice none 0 0, .agg #[.int .i64 0, .int .i64 0, .int .i64 0, .int .i64 0, .slice none 0 0]], []⟩ 8 (by kernel_rfl) (by kernel_rfl) (by kernel_rfl) (by kernel_rfl)) ?_
  intro W base args ds gs before hval0 hW hcnd _ hsh _
  have hval : ∀ (j : Nat) t v, Try.f14.params[j]? = some t → args[j]? = some v → Value.okWide Try.prog W .any base t v := hval0
  have hW' := hW
  obtain ⟨p, q, hA0, hV, rfl, hfz, hnd⟩ := hW
  have hA : DataW.TrodAll enc Try.prog W 0 (fun _ => true) true Try.f14.params.toList args.toList ds p := hA0
  rw [Try.params14] at hA hval
  obtain ⟨v0, vs0, d0, ds0, p0, q0, hargs, rfl, rfl, h0, r0⟩ := trodAll_cons hA
  obtain ⟨v1, vs1, d1, ds1, p1, q1, rfl, rfl, rfl, h1, r1⟩ := trodAll_cons r0
  obtain ⟨rfl, rfl, rfl⟩ := trodAll_nil r1
  obtain rfl : args = #[v0, v1] := by cases args; simp_all
  obtain ⟨rfl, rfl⟩ := trodVars_none hV
  obtain ⟨a0, len0, cap0, rfl⟩ := okWide_slice Try.underlying67 (hval 0 67 v0 rfl rfl)
  have k0 := h0
  have lt0 : ∀ x ∈ p0, x.block < W.heap.size := by obtain ⟨m, hm⟩ := k0; exact DataW.trod_lt m _ _ _ hm
  obtain ⟨l0, w0⟩ : ∃ l, CS W a0 len0 cap0 l := by
    obtain ⟨fuel, hf⟩ := h0
    obtain ⟨a, n, c, l, e, hw⟩ := open_cs (v := .slice a0 len0 cap0) hf
    cases e
    exact ⟨l, hw⟩
  have k1 := h1
  have lt1 : ∀ x ∈ p1, x.block < W.heap.size := by obtain ⟨m, hm⟩ := k1; exact DataW.trod_lt m _ _ _ hm
  obtain ⟨l1, w1⟩ := open_cv (hval 1 69 v1 rfl rfl) h1
  clear hA0 hval0
  refine (walk a0 len0 cap0 l0 v1 l1 W w0 w1 hsh).mono fun e W' ⟨he, bel⟩ => ?_
  subst he
  exact ⟨_, rfl, _, _, _, [], _, [], hW', trodAll_mk1 (shut_bool Try.underlying4 _), (trodAll_cons_mk (Below.trod laidOut (by kernel_rfl) (of_decide_eq_true (by kernel_rfl)) k0 bel lt0) (trodAll_cons_mk (Below.trod laidOut (by kernel_rfl) (of_decide_eq_true (by kernel_rfl)) k1 bel lt1) trodAll_mk0)), rfl, bel.frame _, fun h => by cases h⟩

theorem over : Rows.chunkOtherRow.holds Try.pinned (OpenSpec.ofChange Rows.chunkOtherSpec) :=
  OpenClaim.holds_of_wide 14 Try.f14 rfl rfl rfl rfl rfl rfl rfl ⟨rfl, rfl, rfl, rfl, rfl⟩ rfl rfl rfl rfl rfl (by kernel_rfl) Try.func14 (by kernel_rfl)
    (of_decide_eq_true (by kernel_rfl)) (by unfold Func.isWrapper; first | (rw [if_pos (by decide +kernel)]; kernel_rfl) | (rw [if_neg (by decide +kernel)]; exact ⟨rfl, rfl⟩))
    (fun os started H enc _ => lifted os started H enc)

theorem proved : Rows.ChunkOtherSaid := over
end Go.Proofs.Ytmpmaljkmfgagab.chunkOther
namespace Go.Proofs.Ytmpmaljkmfgagab
theorem chunkOther_holds : Rows.ChunkOtherSaid := chunkOther.proved
end Go.Proofs.Ytmpmaljkmfgagab
