/-
  Proved: for every two slices of bytes and every three ints, the law DeviceInstalls returns true, and leaves its arguments as they were. Conditions: none.
-/
import Derived.Test.YtmpmaljkmfgagacGreatRows
import Derived.WalkKit
import Derived.ProofKit
import Derived.OpenShut
import Derived.ChangeOld
import Derived.Below
import Derived.HandedShaped
import Derived.Test.YtmpmaljkmfgagacGreatDvInsWToInstW
set_option maxRecDepth 100000
set_option maxHeartbeats 4000000
namespace Go.Proofs.YtmpmaljkmfgagacGreat.deviceInstalls
open Go.ChangeShapes Go.WideShapes Go.ChangeAt Go.RowKit
set_option linter.unusedVariables false
theorem own : ownKnob Tryz.prog.godebug = none := by kernel_rfl
theorem laidOut : laidOutB Tryz.prog = true := by kernel_rfl
theorem walk (a0 : Option Addr) (len0 cap0 : Nat) (l0 : List Int) (a1 : Option Addr) (len1 cap1 : Nat) (l1 : List Int) (a2 : Int) (a3 : Int) (a4 : Int) (w : World) (w0 : BS w a0 len0 cap0 l0) (w1 : BS w a1 len1 cap1 l1) (w2 : I64 a2) (w3 : I64 a3) (w4 : I64 a4) (hsh : w.ShapedOpen Tryz.prog) :
   Calls Tryz.prog 4 #[.slice a0 len0 cap0, .slice a1 len1 cap1, .int .i64 a2, .int .i64 a3, .int .i64 a4] w fun e w' => e = .returned (.bool true) ∧ Below w.heap.size w w' := by
 exact installs_walk a0 len0 cap0 l0 a1 len1 cap1 l1 a2 a3 a4 w w0 w1 (MaxCell.of_shaped hsh)
theorem lifted (os : Os) (started : os.Started) (H : Type) (enc : TypeId × Value → H) :
   ReturnsInHanded {} Tryz.checked os 4 .any (Rows.deviceInstallsSpec.pre6 enc Tryz.prog Tryz.f4 Rows.deviceInstallsRow.domain false) (Rows.deviceInstallsSpec.post enc Tryz.prog Tryz.f4 false true false false) := by
 refine returnsInHanded_of_change_shaped (C := Tryz.checked) own started (by kernel_rfl) Tryz.func4
   (ChangeSpec.witness6 (enc := enc) (C := Tryz.checked) false ⟨#[], #[.slice none 0 0, .slice none 0 0, .int .i64 0, .int .i64 0, .int .i64 0], []⟩ 8 (by kernel_rfl) (by kernel_rfl) (by kernel_rfl) (by kernel_rfl)) ?_
 intro W base args ds gs before hval0 hW hcnd _ hsh _
 have hval : ∀ (j : Nat) t v, Tryz.f4.params[j]? = some t → args[j]? = some v → Value.okWide Tryz.prog W .any base t v := hval0
 have hW' := hW
 obtain ⟨p, q, hA0, hV, rfl, hfz, hnd⟩ := hW
 have hA : DataW.TrodAll enc Tryz.prog W 0 (fun _ => true) true Tryz.f4.params.toList args.toList ds p := hA0
 rw [Tryz.params4] at hA hval
 obtain ⟨v0, vs0, d0, ds0, p0, q0, hargs, rfl, rfl, h0, r0⟩ := trodAll_cons hA
 obtain ⟨v1, vs1, d1, ds1, p1, q1, rfl, rfl, rfl, h1, r1⟩ := trodAll_cons r0
 obtain ⟨v2, vs2, d2, ds2, p2, q2, rfl, rfl, rfl, h2, r2⟩ := trodAll_cons r1
 obtain ⟨v3, vs3, d3, ds3, p3, q3, rfl, rfl, rfl, h3, r3⟩ := trodAll_cons r2
 obtain ⟨v4, vs4, d4, ds4, p4, q4, rfl, rfl, rfl, h4, r4⟩ := trodAll_cons r3
 obtain ⟨rfl, rfl, rfl⟩ := trodAll_nil r4
 obtain rfl : args = #[v0, v1, v2, v3, v4] := by cases args; simp_all
 obtain ⟨rfl, rfl⟩ := trodVars_none hV
 obtain ⟨a0, len0, cap0, rfl⟩ := okWide_slice Tryz.underlying22 (hval 0 22 v0 rfl rfl)
 have k0 := h0
 have lt0 : ∀ x ∈ p0, x.block < W.heap.size := by obtain ⟨m, hm⟩ := k0; exact DataW.trod_lt m _ _ _ hm
 obtain ⟨l0, w0⟩ : ∃ l, BS W a0 len0 cap0 l := by
   obtain ⟨fuel, hf⟩ := h0
   obtain ⟨a, n, c, l, e, hw⟩ := open_bs (v := .slice a0 len0 cap0) hf
   cases e
   exact ⟨l, hw⟩
 obtain ⟨a1, len1, cap1, rfl⟩ := okWide_slice Tryz.underlying22 (hval 1 22 v1 rfl rfl)
 have k1 := h1
 have lt1 : ∀ x ∈ p1, x.block < W.heap.size := by obtain ⟨m, hm⟩ := k1; exact DataW.trod_lt m _ _ _ hm
 obtain ⟨l1, w1⟩ : ∃ l, BS W a1 len1 cap1 l := by
   obtain ⟨fuel, hf⟩ := h1
   obtain ⟨a, n, c, l, e, hw⟩ := open_bs (v := .slice a1 len1 cap1) hf
   cases e
   exact ⟨l, hw⟩
 have k2 := h2
 obtain ⟨a2, rfl, rfl, rfl, f2⟩ := open_int Tryz.underlying3 (hval 2 3 v2 rfl rfl) h2
 have w2 := I64.of_wf f2
 have k3 := h3
 obtain ⟨a3, rfl, rfl, rfl, f3⟩ := open_int Tryz.underlying3 (hval 3 3 v3 rfl rfl) h3
 have w3 := I64.of_wf f3
 have k4 := h4
 obtain ⟨a4, rfl, rfl, rfl, f4⟩ := open_int Tryz.underlying3 (hval 4 3 v4 rfl rfl) h4
 have w4 := I64.of_wf f4
 clear hA0 hval0
 refine (walk a0 len0 cap0 l0 a1 len1 cap1 l1 a2 a3 a4 W w0 w1 w2 w3 w4 hsh).mono fun e W' ⟨he, bel⟩ => ?_
 subst he
 exact ⟨_, rfl, _, _, _, [], _, [], hW', trodAll_mk1 (shut_bool Tryz.underlying4 _), (trodAll_cons_mk (Below.trod laidOut (by kernel_rfl) (of_decide_eq_true (by kernel_rfl)) k0 bel lt0) (trodAll_cons_mk (Below.trod laidOut (by kernel_rfl) (of_decide_eq_true (by kernel_rfl)) k1 bel lt1) (trodAll_cons_mk (shut_int Tryz.underlying3 f2) (trodAll_cons_mk (shut_int Tryz.underlying3 f3) (trodAll_cons_mk (shut_int Tryz.underlying3 f4) trodAll_mk0))))), rfl, bel.frame _, fun h => by cases h⟩
theorem over : Rows.deviceInstallsRow.holds Tryz.pinned (OpenSpec.ofChange Rows.deviceInstallsSpec) :=
 OpenClaim.holds_of_wide 4 Tryz.f4 rfl rfl rfl rfl rfl rfl rfl ⟨rfl, rfl, rfl, rfl, rfl⟩ rfl rfl rfl rfl rfl (by kernel_rfl) Tryz.func4 (by kernel_rfl)
   (of_decide_eq_true (by kernel_rfl)) (by unfold Func.isWrapper; first | (rw [if_pos (by decide +kernel)]; kernel_rfl) | (rw [if_neg (by decide +kernel)]; exact ⟨rfl, rfl⟩))
   (fun os started H enc _ => lifted os started H enc)
theorem proved : Rows.DeviceInstallsSaid := over
end Go.Proofs.YtmpmaljkmfgagacGreat.deviceInstalls
namespace Go.Proofs.YtmpmaljkmfgagacGreat
theorem deviceInstalls_holds : Rows.DeviceInstallsSaid := deviceInstalls.proved
end Go.Proofs.YtmpmaljkmfgagacGreat
