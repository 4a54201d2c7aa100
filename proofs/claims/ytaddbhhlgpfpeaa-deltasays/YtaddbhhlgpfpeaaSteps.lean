/-
  The steps of the closed facts; a literal of steps.
-/
import Derived.Test.YtaddbhhlgpfpeaaOpsOwn
import Derived.Test.YtaddbhhlgpfpeaaLit
namespace Go.Proofs.Ytaddbhhlgpfpeaa
open Go.RowKit

/-- the steps of the closed facts -/
def stepsL : List OpR := [⟨0, 0, [120]⟩, ⟨4, 4, []⟩, ⟨0, 4, []⟩]

theorem block_cell (w : World) (cs : Array Value) (t : Nat) (fz : Nat × Nat) (j : Nat) : (w.alloc (.cells cs t fz)).cell? ⟨w.heap.size, j, none⟩ = cs[j]? := by
  simp only [World.cell?, heap_at, if_pos]
  simp
/-- a literal of steps -/
theorem lit_os (W : World) (vs : List OpV) (l : List OpR) (n : Nat) (hv : vs.length = n) (hl : l.length = n) (hn : n ≤ 1000)
    (hr : ∀ i, i < n → ∃ a m c, vs.getD i default = ⟨(l.getD i default).at_, (l.getD i default).len, .slice a m c⟩ ∧ BS W a m c (l.getD i default).data ∧ I64 (l.getD i default).at_ ∧ I64 (l.getD i default).len) :
    OS (W.alloc (.cells (cellsV vs).toArray 56)) (some ⟨W.heap.size, 0, none⟩) n n l := by
  have hb : Below W.heap.size W (W.alloc (.cells (cellsV vs).toArray 56)) := (Below.refl _ _).alloc (Nat.le_refl _) _
  refine ⟨hl, Nat.le_refl _, by omega, fun _ => ⟨_, 0, rfl, fun i hi => ?_⟩, fun h => by cases h⟩
  obtain ⟨a, m, c, he, hbs, h1, h2⟩ := hr i hi
  obtain ⟨g0, g1, g2⟩ := cellsV_get vs i (by omega)
  rw [he] at g0 g1 g2
  refine ⟨a, m, c, ?_, ?_, ?_, hbs.later hb, h1, h2⟩
  · rw [block_cell, Nat.zero_add]; simpa using g0
  · rw [block_cell, Nat.zero_add]; simpa using g1
  · rw [block_cell, Nat.zero_add]; simpa using g2

set_option maxRecDepth 100000 in
set_option maxHeartbeats 1000000 in
theorem steps_any (w : World) :
    Calls Try.prog 58 #[] w fun e w' => ∃ a, e = .returned (.slice a 3 3) ∧ OS w' a 3 3 stepsL ∧ Below w.heap.size w w' := by
  have kc := fun (w : World) (C : Array Value) (n c : Nat) => Lib.run_convert_bytes_const (P := Try.prog) w 27 5 C n c Try.underlying27 Try.underlying5
  have l1 := lit_bs_marked w [120] 1 (1, 2) rfl (by omega) (by decide)
  have b1 : Below w.heap.size w (w.alloc (.cells (([120] : List Int).map (Value.int .u8)).toArray 5 (1, 2))) := (Below.refl _ _).alloc (Nat.le_refl _) _
  have sz : (w.alloc (.cells (([120] : List Int).map (Value.int .u8)).toArray 5 (1, 2))).heap.size = w.heap.size + 1 := by simp
  have l2 := lit_os (w.alloc (.cells (([120] : List Int).map (Value.int .u8)).toArray 5 (1, 2))) [⟨0, 0, .slice (some ⟨w.heap.size, 0, none⟩) 1 1⟩, ⟨4, 4, .slice none 0 0⟩, ⟨0, 4, .slice none 0 0⟩] stepsL 3 rfl rfl (by omega) (by
    intro i hi
    rcases (show i = 0 ∨ i = 1 ∨ i = 2 by omega) with rfl | rfl | rfl
    · exact ⟨_, _, _, rfl, l1, by unfold I64; decide, by unfold I64; decide⟩
    · exact ⟨_, _, _, rfl, BS.nil_ _, by unfold I64; decide, by unfold I64; decide⟩
    · exact ⟨_, _, _, rfl, BS.nil_ _, by unfold I64; decide, by unfold I64; decide⟩)
  rw [sz] at l2
  have b2 := b1.alloc b1.size (.cells (cellsV [⟨0, 0, .slice (some ⟨w.heap.size, 0, none⟩) 1 1⟩, ⟨4, 4, .slice none 0 0⟩, ⟨0, 4, .slice none 0 0⟩]).toArray 56)
  have HL2 := Lib.hid l2
  have HB2 := Lib.hid b2
  clear l1 l2 b1 b2 sz
  go_enter Try.func58, Try.ntmps58
  go_wp2_with fail
  go_ret
  exact ⟨_, rfl, HL2.out, HB2.out⟩
end Go.Proofs.Ytaddbhhlgpfpeaa
