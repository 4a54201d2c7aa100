/-
  RecordStarts: a record that is not right; the memory of its rounds.
-/
import Derived.Test.YtmpmaljkmfgagacKeptW
import Derived.Test.YtmpmaljkmfgagacLawG
namespace Go.Proofs.Ytmpmaljkmfgagac
open Go.RowKit

set_option maxRecDepth 100000 in
set_option maxHeartbeats 2000000 in
theorem starts_bad (r : RecR) (h : RecM.check r ≠ 0) (w : World) : Calls Try.prog 5 #[recV r] w fun e w' => e = .returned (.bool true) ∧ Below w.heap.size w w' := by
  obtain ⟨E, hE⟩ : ∃ E, RecM.check r = E := ⟨_, rfl⟩
  have HCk : Hid (∀ W, Calls Try.prog 13 #[.agg (recCells r)] W fun e w' => e = .returned (.int .i64 E) ∧ Below W.heap.size W w') := fun W => by
    have := checkR_any r W
    rw [hE] at this
    exact this
  rw [hE] at h
  have t0 : (E != 0) = true := by simp [h]
  clear hE h
  have HK : Hid (∀ W, Calls Try.prog 12 #[] W fun e w' => e = .returned (.bool true) ∧ Below W.heap.size W w') := fun W => kept_any W
  have HS := Lib.hid ((LS.start w).alloc rfl (recCells r) 26)
  have HV : Hid (∀ x, recV x = .agg (recCells x)) := fun _ => rfl
  rw [HV.out]
  go_enter Try.func5, Try.ntmps5
  go_wp2_with fail
  refine (HK.out _).mono ?_
  rintro e W1 ⟨rfl, hb⟩
  replace HS := Lib.hid (HS.out.later hb)
  clear hb
  have bwheapsize := HS.out.get 0 rfl
  simp only at bwheapsize
  go_wp2_with (first
    | (refine wpList_load_want (by rfl) 26 (.tmp 1) rfl w.heap.size rfl 26 (recCells r) (0, 0) _ bwheapsize Try.underlying26 rfl (size_rec r) ?_))
  clear bwheapsize
  refine (HCk.out _).mono ?_
  rintro e W2 ⟨rfl, hb⟩
  replace HS := Lib.hid (HS.out.later hb)
  clear hb
  go_wp2_with fail
  refine (HK.out _).mono ?_
  rintro e W3 ⟨rfl, hb⟩
  replace HS := Lib.hid (HS.out.later hb)
  clear hb
  go_wp2_with fail
  go_ret
  exact ⟨rfl, HS.out.below⟩

theorem like_two (r s : RecR) : (recCells r).size = (recCells s).size := by kernel_rfl
/-- the rounds of RecordStarts: the record that was started so often, and the one that came -/
def StaRel (w : World) (P3 : Nat) (r : RecR) (i : Value) (wr : World) : Prop :=
  ∃ k : Nat, i = .int .i64 k ∧ k ≤ 5 ∧ LS w [(P3, recCells (RecM.nowAt r k), 26), (w.heap.size, recCells r, 26)] wr
theorem LS.put3 {w W : World} {x : Nat × Array Value × TypeId} {p q : Nat} {c d c' : Array Value} {t u : TypeId} (h : LS w [x, (p, c, t), (q, d, u)] W) (hpq : q ≠ p) (hp : w.heap.size ≤ p) : LS w [(p, c', t), (q, d, u)] (W.setRow p c') := by
  refine ⟨fun y hy => ?_, bel_row h.below hp _⟩
  simp only [List.mem_cons, List.not_mem_nil, or_false] at hy
  rcases hy with rfl | rfl
  · exact setRow_heap W _ _ _ _ _ (h.get 1 rfl)
  · exact (setRow_other W _ _ _ hpq).trans (h.get 2 rfl)
theorem RecM.now_facts {r : RecR} (h : RecM.check r = 0) (k : Nat) : RecM.startOf (RecM.nowAt r k) = (RecM.slot (RecM.nowAt r k), RecM.nowAt r (k + 1), 0) ∧ RecM.check (RecM.nowAt r (k + 1)) = 0 ∧ r.floor ≤ (RecM.inf (RecM.nowAt r (k + 1)) (RecM.slot (RecM.nowAt r k))).ver := by
  refine ⟨RecM.startOf_ok (RecM.nowAt_ok h k), RecM.nowAt_ok h (k + 1), ?_⟩
  have h1 := RecM.slot_floor (RecM.nowAt_ok h k)
  obtain ⟨-, -, e3, -⟩ := RecM.nowAt_fields r k
  rw [e3] at h1
  have h2 : RecM.inf (RecM.nowAt r (k + 1)) (RecM.slot (RecM.nowAt r k)) = RecM.inf (RecM.nowAt r k) (RecM.slot (RecM.nowAt r k)) := RecM.inf_after _ _
  rw [h2]
  exact h1
end Go.Proofs.Ytmpmaljkmfgagac
