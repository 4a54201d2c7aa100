/-
  Proved: for every record r, the law RecordStarts returns true, and leaves its argument as it was. Conditions: none.
-/
import Derived.Test.YtmpmaljkmfgagacRows
import Derived.WalkKit
import Derived.ProofKit
import Derived.OpenShut
import Derived.ChangeOld
import Derived.Below
import Derived.HandedShaped
import Derived.Test.YtmpmaljkmfgagacOpenRec
import Derived.Test.YtmpmaljkmfgagacStaF
import Derived.Test.YtmpmaljkmfgagacStaT
namespace Go.Proofs.Ytmpmaljkmfgagac.recordStarts
open Go.ChangeShapes Go.WideShapes Go.ChangeAt Go.RowKit
set_option linter.unusedVariables false

theorem own : ownKnob Try.prog.godebug = none := by kernel_rfl
theorem laidOut : laidOutB Try.prog = true := by kernel_rfl

theorem walk (l0 : RecR) (w : World) (w0 : RecW l0) (hsh : w.ShapedOpen Try.prog) :
    Calls Try.prog 5 #[recV l0] w fun e w' => e = .returned (.bool true) ∧ Below w.heap.size w w' := by
  by_cases h : RecM.check l0 = 0
  · have ha := (RecM.check_nums h).2.1
    obtain ⟨g, a, tr, n, f, i0, i1⟩ := l0
    simp only at ha
    rcases ha with rfl | rfl
    · cases tr
      · exact starts_f0 g n f i0 i1 h w
      · exact starts_t0 g n f i0 i1 h w
    · cases tr
      · exact starts_f1 g n f i0 i1 h w
      · exact starts_t1 g n f i0 i1 h w
  · exact starts_bad l0 h w

set_option maxRecDepth 100000 in
theorem lifted (os : Os) (started : os.Started) (H : Type) (enc : TypeId × Value → H) :
    ReturnsInHanded {} Try.checked os 5 .any (Rows.recordStartsSpec.pre6 enc Try.prog Try.f5 Rows.recordStartsRow.domain false) (Rows.recordStartsSpec.post enc Try.prog Try.f5 false true false false) := by
  refine returnsInHanded_of_change_shaped (C := Try.checked) own started (by kernel_rfl) Try.func5
    (ChangeSpec.witness6 (enc := enc) (C := Try.checked) false ⟨#[], #[.agg #[.int .i64 0, .int .i64 0, .bool false, .int .i64 0, .int .i64 0, .int .i64 0, .int .i64 0, .int .i64 0, .int .i64 0, .int .i64 0, .int .i64 0]], []⟩ 8 (by kernel_rfl) (by kernel_rfl) (by kernel_rfl) (by kernel_rfl)) ?_
  intro W base args ds gs before hval0 hW hcnd _ hsh _
  have hval : ∀ (j : Nat) t v, Try.f5.params[j]? = some t → args[j]? = some v → Value.okWide Try.prog W .any base t v := hval0
  have hW' := hW
  obtain ⟨p, q, hA0, hV, rfl, hfz, hnd⟩ := hW
  have hA : DataW.TrodAll enc Try.prog W 0 (fun _ => true) true Try.f5.params.toList args.toList ds p := hA0
  rw [Try.params5] at hA hval
  obtain ⟨v0, vs0, d0, ds0, p0, q0, hargs, rfl, rfl, h0, r0⟩ := trodAll_cons hA
  obtain ⟨rfl, rfl, rfl⟩ := trodAll_nil r0
  obtain rfl : args = #[v0] := by cases args; simp_all
  obtain ⟨rfl, rfl⟩ := trodVars_none hV
  have k0 := h0
  have lt0 : ∀ x ∈ p0, x.block < W.heap.size := by obtain ⟨m, hm⟩ := k0; exact DataW.trod_lt m _ _ _ hm
  obtain ⟨l0, rfl, w0⟩ := open_rec (hval 0 26 v0 rfl rfl)
  clear hA0 hval0
  refine (walk l0 W w0 hsh).mono fun e W' ⟨he, bel⟩ => ?_
  subst he
  exact ⟨_, rfl, _, _, _, [], _, [], hW', trodAll_mk1 (shut_bool Try.underlying4 _), (trodAll_cons_mk (Below.trod laidOut (by kernel_rfl) (of_decide_eq_true (by kernel_rfl)) k0 bel lt0) trodAll_mk0), rfl, bel.frame _, fun h => by cases h⟩

theorem over : Rows.recordStartsRow.holds Try.pinned (OpenSpec.ofChange Rows.recordStartsSpec) :=
  OpenClaim.holds_of_wide 5 Try.f5 rfl rfl rfl rfl rfl rfl rfl ⟨rfl, rfl, rfl, rfl, rfl⟩ rfl rfl rfl rfl rfl (by kernel_rfl) Try.func5 (by kernel_rfl)
    (of_decide_eq_true (by kernel_rfl)) (by unfold Func.isWrapper; first | (rw [if_pos (by decide +kernel)]; kernel_rfl) | (rw [if_neg (by decide +kernel)]; exact ⟨rfl, rfl⟩))
    (fun os started H enc _ => lifted os started H enc)

theorem proved : Rows.RecordStartsSaid := over
end Go.Proofs.Ytmpmaljkmfgagac.recordStarts
namespace Go.Proofs.Ytmpmaljkmfgagac
theorem recordStarts_holds : Rows.RecordStartsSaid := recordStarts.proved
end Go.Proofs.Ytmpmaljkmfgagac
