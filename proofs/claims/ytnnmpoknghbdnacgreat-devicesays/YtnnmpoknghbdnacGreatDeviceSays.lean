/-
  Proved: for every two devices, every chunk, every two ints and all bytes, the law DeviceSays returns true, and leaves its arguments as they were. Conditions: none.
-/
import Derived.Test.YtnnmpoknghbdnacGreatRows
import Derived.WalkKit
import Derived.ProofKit
import Derived.OpenShut
import Derived.ChangeOld
import Derived.Below
import Derived.HandedShaped
import Derived.Test.YtnnmpoknghbdnacGreatPatReadToOpenDev
set_option maxRecDepth 100000
set_option maxHeartbeats 4000000
namespace Go.Proofs.YtnnmpoknghbdnacGreat.deviceSays
open Go.ChangeShapes Go.WideShapes Go.ChangeAt Go.RowKit
set_option linter.unusedVariables false
theorem own : ownKnob Tryz.prog.godebug = none := by kernel_rfl
theorem laidOut : laidOutB Tryz.prog = true := by kernel_rfl
theorem walk (z0 : DevH) (l0 : DevR) (x1 : Value) (l1 : ChR) (a2 : Int) (a3 : Int) (a4 : Option Addr) (len4 cap4 : Nat) (l4 : List Int) (z5 : DevH) (l5 : DevR) (w : World) (w0 : DH w z0 l0) (w1 : CV w x1 l1) (w2 : I64 a2) (w3 : I64 a3) (w4 : BS w a4 len4 cap4 l4) (w5 : DH w z5 l5) (hsh : w.ShapedOpen Tryz.prog) :
 Calls Tryz.prog 3 #[devV z0 l0, x1, .int .i64 a2, .int .i64 a3, .slice a4 len4 cap4, devV z5 l5] w fun e w' => e = .returned (.bool true) ∧ Below w.heap.size w w' := by
 obtain ⟨xa, xm, xc, rfl, hb, hI⟩ := w1; exact saysD_walk z0 l0 l1 xa xm xc a2 a3 a4 len4 cap4 l4 z5 l5 w w0 ⟨xa, xm, xc, rfl, hb, hI⟩ w4 w5 (MaxCell.of_shaped hsh)
theorem lifted (os : Os) (started : os.Started) (H : Type) (enc : TypeId × Value → H) :
 ReturnsInHanded {} Tryz.checked os 3 .any (Rows.deviceSaysSpec.pre6 enc Tryz.prog Tryz.f3 Rows.deviceSaysRow.domain false) (Rows.deviceSaysSpec.post enc Tryz.prog Tryz.f3 false true false false) := by
 refine returnsInHanded_of_change_shaped (C := Tryz.checked) own started (by kernel_rfl) Tryz.func3
  (ChangeSpec.witness6 (enc := enc) (C := Tryz.checked) false ⟨#[], #[.agg zDev, .agg #[.int .i64 0, .int .i64 0, .int .i64 0, .int .i64 0, .slice none 0 0], .int .i64 0, .int .i64 0, .slice none 0 0, .agg zDev], []⟩ 8 (by kernel_rfl) (by kernel_rfl) (by kernel_rfl) (by kernel_rfl)) ?_
 intro W base args ds gs before hval0 hW hcnd _ hsh _; have hval : ∀ (j : Nat) t v, Tryz.f3.params[j]? = some t → args[j]? = some v → Value.okWide Tryz.prog W .any base t v := hval0; have hW' := hW; obtain ⟨p, q, hA0, hV, rfl, hfz, hnd⟩ := hW; have hA : DataW.TrodAll enc Tryz.prog W 0 (fun _ => true) true Tryz.f3.params.toList args.toList ds p := hA0; rw [Tryz.params3] at hA hval; obtain ⟨v0, vs0, d0, ds0, p0, q0, hargs, rfl, rfl, h0, r0⟩ := trodAll_cons hA; obtain ⟨v1, vs1, d1, ds1, p1, q1, rfl, rfl, rfl, h1, r1⟩ := trodAll_cons r0; obtain ⟨v2, vs2, d2, ds2, p2, q2, rfl, rfl, rfl, h2, r2⟩ := trodAll_cons r1; obtain ⟨v3, vs3, d3, ds3, p3, q3, rfl, rfl, rfl, h3, r3⟩ := trodAll_cons r2; obtain ⟨v4, vs4, d4, ds4, p4, q4, rfl, rfl, rfl, h4, r4⟩ := trodAll_cons r3; obtain ⟨v5, vs5, d5, ds5, p5, q5, rfl, rfl, rfl, h5, r5⟩ := trodAll_cons r4; obtain ⟨rfl, rfl, rfl⟩ := trodAll_nil r5; obtain rfl : args = #[v0, v1, v2, v3, v4, v5] := by cases args; simp_all
 obtain ⟨rfl, rfl⟩ := trodVars_none hV; have k0 := h0; have lt0 : ∀ x ∈ p0, x.block < W.heap.size := by obtain ⟨m, hm⟩ := k0; exact DataW.trod_lt m _ _ _ hm
 obtain ⟨z0, l0, rfl, w0⟩ := open_dev (hval 0 37 v0 rfl rfl) h0; have k1 := h1; have lt1 : ∀ x ∈ p1, x.block < W.heap.size := by obtain ⟨m, hm⟩ := k1; exact DataW.trod_lt m _ _ _ hm
 obtain ⟨l1, w1⟩ := open_cv (hval 1 39 v1 rfl rfl) h1; have k2 := h2; obtain ⟨a2, rfl, rfl, rfl, f2⟩ := open_int U3 (hval 2 3 v2 rfl rfl) h2; have w2 := I64.of_wf f2; have k3 := h3; obtain ⟨a3, rfl, rfl, rfl, f3⟩ := open_int U3 (hval 3 3 v3 rfl rfl) h3; have w3 := I64.of_wf f3; obtain ⟨a4, len4, cap4, rfl⟩ := okWide_slice U22 (hval 4 22 v4 rfl rfl); have k4 := h4; have lt4 : ∀ x ∈ p4, x.block < W.heap.size := by obtain ⟨m, hm⟩ := k4; exact DataW.trod_lt m _ _ _ hm
 obtain ⟨l4, w4⟩ : ∃ l, BS W a4 len4 cap4 l := by
  obtain ⟨fuel, hf⟩ := h4; obtain ⟨a, n, c, l, e, hw⟩ := open_bs (v := .slice a4 len4 cap4) hf
  cases e
  exact ⟨l, hw⟩
 have k5 := h5; have lt5 : ∀ x ∈ p5, x.block < W.heap.size := by obtain ⟨m, hm⟩ := k5; exact DataW.trod_lt m _ _ _ hm
 obtain ⟨z5, l5, rfl, w5⟩ := open_dev (hval 5 37 v5 rfl rfl) h5; clear hA0 hval0; refine (walk z0 l0 v1 l1 a2 a3 a4 len4 cap4 l4 z5 l5 W w0 w1 w2 w3 w4 w5 hsh).mono fun e W' ⟨he, bel⟩ => ?_; subst he; exact ⟨_, rfl, _, _, _, [], _, [], hW', trodAll_mk1 (shut_bool U4 _), (trodAll_cons_mk (Below.trod laidOut (by kernel_rfl) (of_decide_eq_true (by kernel_rfl)) k0 bel lt0) (trodAll_cons_mk (Below.trod laidOut (by kernel_rfl) (of_decide_eq_true (by kernel_rfl)) k1 bel lt1) (trodAll_cons_mk (shut_int U3 f2) (trodAll_cons_mk (shut_int U3 f3) (trodAll_cons_mk (Below.trod laidOut (by kernel_rfl) (of_decide_eq_true (by kernel_rfl)) k4 bel lt4) (trodAll_cons_mk (Below.trod laidOut (by kernel_rfl) (of_decide_eq_true (by kernel_rfl)) k5 bel lt5) trodAll_mk0)))))), rfl, bel.frame _, fun h => by cases h⟩
theorem over : Rows.deviceSaysRow.holds Tryz.pinned (OpenSpec.ofChange Rows.deviceSaysSpec) :=
 OpenClaim.holds_of_wide 3 Tryz.f3 rfl rfl rfl rfl rfl rfl rfl ⟨rfl, rfl, rfl, rfl, rfl⟩ rfl rfl rfl rfl rfl (by kernel_rfl) Tryz.func3 (by kernel_rfl)
  (of_decide_eq_true (by kernel_rfl)) (by unfold Func.isWrapper; first | (rw [if_pos (by decide +kernel)]; kernel_rfl) | (rw [if_neg (by decide +kernel)]; exact ⟨rfl, rfl⟩))
  (fun os started H enc _ => lifted os started H enc)
theorem proved : Rows.DeviceSaysSaid := over
end Go.Proofs.YtnnmpoknghbdnacGreat.deviceSays
namespace Go.Proofs.YtnnmpoknghbdnacGreat
theorem deviceSays_holds : Rows.DeviceSaysSaid := deviceSays.proved
end Go.Proofs.YtnnmpoknghbdnacGreat
