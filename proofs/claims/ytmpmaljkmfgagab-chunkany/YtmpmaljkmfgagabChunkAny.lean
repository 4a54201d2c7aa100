/-
  Proved: for every patch p and every slice of ints, the law ChunkAny returns true, and leaves its arguments as they were. Conditions: none.
-/
import Derived.Test.YtmpmaljkmfgagabRows
import Derived.WalkKit
import Derived.ProofKit
import Derived.OpenShut
import Derived.ChangeOld
import Derived.Below
import Derived.HandedShaped
import Derived.Test.YtmpmaljkmfgagabChunkAnyW
import Derived.Test.YtmpmaljkmfgagabRowToOpenN
import Derived.Test.YtmpmaljkmfgagabCList
import Derived.Test.YtmpmaljkmfgagabCSame
import Derived.Test.YtmpmaljkmfgagabCCut
import Derived.Test.YtmpmaljkmfgagabCAdd
import Derived.Test.YtmpmaljkmfgagabCJoin
import Derived.Test.YtmpmaljkmfgagabPSame
namespace Go.Proofs.Ytmpmaljkmfgagab.chunkAny
open Go.ChangeShapes Go.WideShapes Go.ChangeAt Go.RowKit
set_option linter.unusedVariables false

theorem own : ownKnob Try.prog.godebug = none := by kernel_rfl
theorem laidOut : laidOutB Try.prog = true := by kernel_rfl

theorem walk (x0 : Value) (l0 : PatR) (a1 : Option Addr) (len1 cap1 : Nat) (l1 : List Int) (w : World) (w0 : PV w x0 l0) (w1 : NS w a1 len1 cap1 l1) (hsh : w.ShapedOpen Try.prog) :
    Calls Try.prog 13 #[x0, .slice a1 len1 cap1] w fun e w' => e = .returned (.bool true) ∧ Below w.heap.size w w' := by
  exact chunkAny_walk listC_ok sameC_ok cutC_ok addC_ok joinC_ok sameP_ok x0 l0 a1 len1 cap1 l1 w w0 w1 (MaxCell.of_shaped hsh)

set_option maxRecDepth 100000 in
theorem lifted (os : Os) (started : os.Started) (H : Type) (enc : TypeId × Value → H) :
    ReturnsInHanded {} Try.checked os 13 .any (Rows.chunkAnySpec.pre6 enc Try.prog Try.f13 Rows.chunkAnyRow.domain false) (Rows.chunkAnySpec.post enc Try.prog Try.f13 false true false false) := by
  refine returnsInHanded_of_change_shaped (C := Try.checked) own started (by kernel_rfl) Try.func13
    (ChangeSpec.witness6 (enc := enc) (C := Try.checked) false ⟨#[], #[.agg #[.int .i64 0, .int .i64 0, .int .i64 0, .int .i64 0, .int .i64 0, .slice none 0 0], .slice none 0 0], []⟩ 8 (by kernel_rfl) (by kernel_rfl) (by kernel_rfl) (by kernel_rfl)) ?_
  intro W base args ds gs before hval0 hW hcnd _ hsh _
  have hval : ∀ (j : Nat) t v, Try.f13.params[j]? = some t → args[j]? = some v → Value.okWide Try.prog W .any base t v := hval0
  have hW' := hW
  obtain ⟨p, q, hA0, hV, rfl, hfz, hnd⟩ := hW
  have hA : DataW.TrodAll enc Try.prog W 0 (fun _ => true) true Try.f13.params.toList args.toList ds p := hA0
  rw [Try.params13] at hA hval
  obtain ⟨v0, vs0, d0, ds0, p0, q0, hargs, rfl, rfl, h0, r0⟩ := trodAll_cons hA
  obtain ⟨v1, vs1, d1, ds1, p1, q1, rfl, rfl, rfl, h1, r1⟩ := trodAll_cons r0
  obtain ⟨rfl, rfl, rfl⟩ := trodAll_nil r1
  obtain rfl : args = #[v0, v1] := by cases args; simp_all
  obtain ⟨rfl, rfl⟩ := trodVars_none hV
  have k0 := h0
  have lt0 : ∀ x ∈ p0, x.block < W.heap.size := by obtain ⟨m, hm⟩ := k0; exact DataW.trod_lt m _ _ _ hm
  obtain ⟨l0, w0⟩ := open_pv (hval 0 41 v0 rfl rfl) h0
  obtain ⟨a1, len1, cap1, rfl⟩ := okWide_slice Try.underlying53 (hval 1 53 v1 rfl rfl)
  have k1 := h1
  have lt1 : ∀ x ∈ p1, x.block < W.heap.size := by obtain ⟨m, hm⟩ := k1; exact DataW.trod_lt m _ _ _ hm
  obtain ⟨l1, w1⟩ : ∃ l, NS W a1 len1 cap1 l := by
    obtain ⟨fuel, hf⟩ := h1
    obtain ⟨a, n, c, l, e, hw⟩ := open_ns (v := .slice a1 len1 cap1) hf
    cases e
    exact ⟨l, hw⟩
  clear hA0 hval0
  refine (walk v0 l0 a1 len1 cap1 l1 W w0 w1 hsh).mono fun e W' ⟨he, bel⟩ => ?_
  subst he
  exact ⟨_, rfl, _, _, _, [], _, [], hW', trodAll_mk1 (shut_bool Try.underlying4 _), (trodAll_cons_mk (Below.trod laidOut (by kernel_rfl) (of_decide_eq_true (by kernel_rfl)) k0 bel lt0) (trodAll_cons_mk (Below.trod laidOut (by kernel_rfl) (of_decide_eq_true (by kernel_rfl)) k1 bel lt1) trodAll_mk0)), rfl, bel.frame _, fun h => by cases h⟩

theorem over : Rows.chunkAnyRow.holds Try.pinned (OpenSpec.ofChange Rows.chunkAnySpec) :=
  OpenClaim.holds_of_wide 13 Try.f13 rfl rfl rfl rfl rfl rfl rfl ⟨rfl, rfl, rfl, rfl, rfl⟩ rfl rfl rfl rfl rfl (by kernel_rfl) Try.func13 (by kernel_rfl)
    (of_decide_eq_true (by kernel_rfl)) (by unfold Func.isWrapper; first | (rw [if_pos (by decide +kernel)]; kernel_rfl) | (rw [if_neg (by decide +kernel)]; exact ⟨rfl, rfl⟩))
    (fun os started H enc _ => lifted os started H enc)

theorem proved : Rows.ChunkAnySaid := over
end Go.Proofs.Ytmpmaljkmfgagab.chunkAny
namespace Go.Proofs.Ytmpmaljkmfgagab
theorem chunkAny_holds : Rows.ChunkAnySaid := chunkAny.proved
end Go.Proofs.Ytmpmaljkmfgagab
