/-
  Proved: the closed law Names returns true. Conditions: none.
-/
import Derived.Test.YtmpmaljkmfgagaaRows
import Derived.WalkKit
import Derived.ProofKit
import Derived.OpenShut
import Derived.ShutString
import Derived.Test.YtmpmaljkmfgagaaEqInts
namespace Go.Proofs.Ytmpmaljkmfgagaa.names
open Go.ChangeShapes Go.WideShapes Go.ChangeAt Go.RowKit
open Go.ChangeMaps (open_string shut_string)
set_option linter.unusedVariables false      -- a walk need not use every 'w<i>' (that an integer argument fits its kind)

theorem own : ownKnob Try.prog.godebug = none := by kernel_rfl

theorem walk  (w : World) :
    Calls Try.prog 3 #[] w fun e w' => e = .returned (.bool true) ∧ Grown w w' := by
  go_enter Try.func3, Try.ntmps3
  go_wp2
  have hcell : ∀ k : Nat, k < 8 → (w.alloc (Obj.cells #[.int .i64 0, .int .i64 1, .int .i64 2, .int .i64 3, .int .i64 4, .int .i64 5, .int .i64 6, .int .i64 7] 22)).cell? ⟨w.heap.size, k, none⟩ = some (.int .i64 k) := by
    intro k hk
    rcases k with _ | _ | _ | _ | _ | _ | _ | _ | k
    all_goals first | (simp; done) | omega
  have HC := Lib.hid hcell
  clear hcell
  go_loop [9] (fun i => ∃ k : Nat, k ≤ 8 ∧ i = .int .i64 k) (fun i => 8 - (intOf i).toNat)
  case atStart => exact ⟨0, by omega, rfl⟩
  case round =>
    obtain ⟨k, hk, rfl⟩ := hrel
    by_cases hlt : k < 8
    · have hc := HC.out k hlt
      have hne : ((k : Int) != (k : Int)) = false := by simp
      go_wp2
      go_round
      case rel => exact ⟨k + 1, by omega, by go_num⟩
      case measure => simp [intOf]; omega
    · go_wp2_with fail
      refine (eqInts_same _ _ 15 15 15 [64, 8, 8, 40, 400, 16, 52, 4, 30, 3, 1000000, 120, 60, 1000, 200] [64, 8, 8, 40, 400, 16, 52, 4, 30, 3, 1000000, 120, 60, 1000, 200] _ ?_ ?_ rfl).mono ?_
      · exact lit_row .i64 _ _ 3 _ (0, 0) _ 15 (by simp only [heap_at, World.size_alloc]; simp) rfl rfl (by unfold maxLen; omega) (by decide)
      · exact lit_row .i64 _ _ 3 _ (0, 0) _ 15 (by simp only [heap_at, World.size_alloc]; simp) rfl rfl (by unfold maxLen; omega) (by decide)
      rintro e w' ⟨rfl, nq, rfl⟩
      go_wp2_with fail
      refine (eqInts_same _ _ 12 12 12 [1, 2, 3, 4, 5, 6, 7, 8, 9, 10, 11, 12] [1, 2, 3, 4, 5, 6, 7, 8, 9, 10, 11, 12] _ ?_ ?_ rfl).mono ?_
      · exact lit_row .i64 _ _ 3 _ (0, 0) _ 12 (by simp only [heap_at, World.size_alloc, World.heap_drewN]; simp) rfl rfl (by unfold maxLen; omega) (by decide)
      · exact lit_row .i64 _ _ 3 _ (0, 0) _ 12 (by simp only [heap_at, World.size_alloc, World.heap_drewN]; simp) rfl rfl (by unfold maxLen; omega) (by decide)
      rintro e w' ⟨rfl, nq', rfl⟩
      go_wp2_with fail
      go_ret
      refine ⟨rfl, ?_⟩
      show Grown w (((((w.alloc _).alloc _).alloc _).alloc _).alloc _)
      exact (((((Grown.refl _).alloc _ _).alloc _ _).alloc _ _).alloc _ _).alloc _ _
  -- go_enter Try.func3, Try.ntmps3
  -- go_wp2
  -- go_ret
  -- exact ⟨rfl, by repeat (first | exact Grown.refl _ | apply Grown.drew | apply Grown.alloc)⟩

set_option maxRecDepth 100000 in
theorem lifted (os : Os) (started : os.Started) (H : Type) (enc : TypeId × Value → H) :
    ReturnsInHanded {} Try.checked os 3 .any (Rows.namesSpec.pre6 enc Try.prog Try.f3 Rows.namesRow.domain false) (Rows.namesSpec.post enc Try.prog Try.f3 false true false false) := by
  refine returnsInHanded_of_change (C := Try.checked) own started (by kernel_rfl) Try.func3
    (ChangeSpec.witness6 (enc := enc) (C := Try.checked) false ⟨#[], #[], []⟩ 8 (by kernel_rfl) (by kernel_rfl) (by kernel_rfl) (by kernel_rfl)) ?_
  intro W base args ds gs before hval0 hW hcnd _
  have hval : ∀ (j : Nat) t v, Try.f3.params[j]? = some t → args[j]? = some v → Value.okWide Try.prog W .any base t v := hval0
  have hW' := hW
  obtain ⟨p, q, hA0, hV, rfl, hfz, hnd⟩ := hW
  have hA : DataW.TrodAll enc Try.prog W 0 (fun _ => true) true Try.f3.params.toList args.toList ds p := hA0
  rw [Try.params3] at hA hval
  obtain ⟨rfl, rfl, rfl⟩ := trodAll_none hA
  obtain ⟨rfl, rfl⟩ := trodVars_none hV
  clear hA0 hval0
  simp only [List.append_nil] at hW'
  refine (walk  W).mono fun e W' ⟨he, hg⟩ => ?_
  subst he
  exact ⟨_, rfl, post_of_same (pa := []) (pv := []) hW' (fun _ _ _ => (trodAll_cons_mk (shut_bool Try.underlying4 _) trodAll_mk0)) (fun sp _ => rfl) (fun _ _ => rfl) rfl
    (hg.frame _) hg.2.1 (ok_one (by kernel_rfl) rfl (okWide_bool_mk Try.underlying4 _))⟩

theorem over : Rows.namesRow.holds Try.pinned (OpenSpec.ofChange Rows.namesSpec) :=
  OpenClaim.holds_of_wide 3 Try.f3 rfl rfl rfl rfl rfl rfl rfl ⟨rfl, rfl, rfl, rfl, rfl⟩ rfl rfl rfl rfl rfl (by kernel_rfl) Try.func3 (by kernel_rfl)
    (of_decide_eq_true (by kernel_rfl)) (by unfold Func.isWrapper; first | (rw [if_pos (by decide +kernel)]; kernel_rfl) | (rw [if_neg (by decide +kernel)]; exact ⟨rfl, rfl⟩))
    (fun os started H enc _ => lifted os started H enc)

theorem proved : Rows.NamesSaid :=
  over
end Go.Proofs.Ytmpmaljkmfgagaa.names
namespace Go.Proofs.Ytmpmaljkmfgagaa
theorem names_holds : Rows.NamesSaid := names.proved
end Go.Proofs.Ytmpmaljkmfgagaa
