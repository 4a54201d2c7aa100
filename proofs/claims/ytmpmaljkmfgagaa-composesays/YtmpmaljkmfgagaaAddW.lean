/-
  compose.add: its memory; it adds a step where there is none yet.
-/
import Derived.Test.YtmpmaljkmfgagaaAddFns
import Derived.Test.YtmpmaljkmfgagaaDeltaSt
import Derived.Test.YtmpmaljkmfgagaaDeltaCheck
import Derived.Deep.RegionHeld3
namespace Go.Proofs.Ytmpmaljkmfgagaa
open Go.RowKit

/-- what add returns -/
def GivesAdd (w0 : World) (ex : Option Nat) (r : List OpR) (o : OpR) (W : World) (e : Ending) (W' : World) : Prop :=
  ∃ vo lb, e = .returned vo ∧ JSt w0 ex vo lb (CompM.addR r o) W' ∧ Left ex W W'

/-- the memory of add: what is made, the step in block B -/
structure AddW (w0 : World) (ex : Option Nat) (vo : Value) (lb : Option Nat) (r : List OpR) (W0 : World) (B : Nat) (A L : Int) (v : Value) (W : World) : Prop where
  s : JSt w0 ex vo lb r W
  left : Left ex W0 W
  blk : W.heap[B]? = some (.cells #[.int .i64 A, .int .i64 L, v] 56 (0, 0))
  ne : some B ≠ vo.ownBlock
section
variable {w0 : World} {ex : Option Nat} {vo : Value} {lb : Option Nat} {r : List OpR} {W0 : World} {B : Nat} {A L : Int} {v : Value} {W W' : World}
theorem AddW.later (h : AddW w0 ex vo lb r W0 B A L v W) (hb : Below W.heap.size W W') : AddW w0 ex vo lb r W0 B A L v W' :=
  ⟨h.s.later hb, h.left.trans (h.s.left hb), (hb.block B (lt_blk h.blk)).trans h.blk, h.ne⟩
theorem AddW.start (h : JSt w0 ex vo lb r W0) (A L : Int) (v : Value) : AddW w0 ex vo lb r W0 W0.heap.size A L v (W0.alloc (.cells #[.int .i64 A, .int .i64 L, v] 56)) := by
  have hb : Below W0.heap.size W0 (W0.alloc (.cells #[.int .i64 A, .int .i64 L, v] 56)) := (Below.refl _ _).alloc (Nat.le_refl _) _
  refine ⟨h.later hb, h.left hb, by rw [heap_at, if_pos rfl], fun e => ?_⟩
  have := (h.own e.symm).2
  omega
theorem AddW.cells (h : AddW w0 ex vo lb r W0 B A L v W) : W.cell? ⟨B, 0, none⟩ = some (.int .i64 A) ∧ W.cell? ⟨B, 1, none⟩ = some (.int .i64 L) ∧ W.cell? ⟨B, 2, none⟩ = some v := step_cells h.blk
end

section
variable {w0 : World} {ex : Option Nat} {lb : Option Nat} {W0 : World} {B : Nat} {A L : Int} {v : Value} {W : World}
/-- the cells of the step and of the last one -/
theorem AddW.six {g N cap : Nat} {x : OpR} {t : List OpR} (h : AddW w0 ex (.slice (some ⟨g, 0, none⟩) (N + 1) cap) lb (x :: t) W0 B A L v W) (hN : t.length = N) :
    ∃ u, W.cell? ⟨B, 0, none⟩ = some (.int .i64 A) ∧ W.cell? ⟨B, 1, none⟩ = some (.int .i64 L) ∧ W.cell? ⟨B, 2, none⟩ = some v ∧
      W.cell? ⟨g, N * 3, none⟩ = some (.int .i64 x.at_) ∧ W.cell? ⟨g, N * 3 + 1, none⟩ = some (.int .i64 x.len) ∧ W.cell? ⟨g, N * 3 + 2, none⟩ = some u ∧ (∀ j, W.frozen? ⟨g, j, none⟩ = false) := by
  subst hN
  obtain ⟨g', cap', u, e, _, _, q0, q1, q2, qf, _⟩ := h.s.lastAt
  simp only [Value.slice.injEq, Option.some.injEq, Addr.mk.injEq, and_true, true_and] at e
  obtain ⟨rfl, rfl⟩ := e
  obtain ⟨k0, k1, k2⟩ := h.cells
  exact ⟨u, k0, k1, k2, q0, q1, q2, qf⟩
end

set_option maxRecDepth 100000 in
set_option maxHeartbeats 1000000 in
theorem add_none {w0 : World} {ex : Option Nat} {va : Option Addr} {vc : Nat} {lb : Option Nat} {W : World} (h : JSt w0 ex (.slice va 0 vc) lb [] W) (A L : Int) (D : List Int) {a : Option Addr} {n c : Nat} (hd : BS w0 a n c D)
    (hA : I64 A) (hL : I64 L) (hn : n ≤ 64) :
    Calls Try.prog 68 #[.slice va 0 vc, .agg #[.int .i64 A, .int .i64 L, .slice a n c]] W (GivesAdd w0 ex [] ⟨A, L, D⟩ W) := by
  have HD := Lib.hid hd
  have HBT := Lib.hid hd.bytes
  have HCL := Lib.hid (fun W => bytesClone_any a n c D W)
  have hn' : n ≤ 140737488355328 := by omega
  have HI1 := Lib.hid hA
  have HI2 := Lib.hid hL
  have H1 := Lib.hid (AddW.start h A L (.slice a n c))
  obtain ⟨B, hBB⟩ : ∃ B, W.heap.size = B := ⟨_, rfl⟩
  rw [hBB] at H1
  obtain ⟨k0, k1, k2⟩ := H1.out.cells
  clear h hd hA hL
  go_enter Try.func68, Try.ntmps68
  go_wp2_with fail
  go_quiet (fail)
  have H2 := Lib.hid (H1.out.later (below_drewN (Below.refl _ _) nq))
  clear H1 k0 k1 k2
  generalize (W.alloc (.cells #[.int .i64 A, .int .i64 L, .slice a n c] 56)).drewN nq = W1 at H2 ⊢
  obtain ⟨k0, k1, k2⟩ := H2.out.cells
  go_wp2_with fail
  go_quiet (fail)
  have H3 := Lib.hid ((H2.out.later (below_drewN (Below.refl _ _) nq)).later (Below.refl _ _).drew)
  clear H2 k0 k1 k2
  generalize W1.drewN nq = W3 at H3 ⊢
  obtain ⟨k0, k1, k2⟩ := H3.out.cells
  go_wp2_with fail
  go_region_held3 (fun W => W.cell? ⟨B, 0, none⟩ = some (.int .i64 A) ∧ W.cell? ⟨B, 1, none⟩ = some (.int .i64 L) ∧ W.cell? ⟨B, 2, none⟩ = some (.slice a n c)) (first | exact ⟨k0, k1, k2⟩ | exact ⟨p0, p1, p2⟩ | exact ⟨q0, q1, q2⟩ | exact ⟨s0, s1, s2⟩) (first
    | (refine step_append_run rfl (.tmp 9) (.tmp 18) 48 48 rfl (.slice va 0 vc) (.slice (some ⟨W2.heap.size, 0, none⟩) 1 1) (by simp [Act.eval]) (by simp [Act.eval]) _ _ hrun ?_)
    | (go_at_call 60; refine (HCL.out _ (HD.out.later H3.out.s.below) hn').mono ?_; rintro e W2 ⟨ac, nc, cc, rfl, hown, hb⟩
       have hp := (hb.block B (lt_blk H3.out.blk)).trans H3.out.blk
       obtain ⟨p0, p1, p2⟩ := step_cells hp
       have hnc : D.length = nc := by have := hown.1; simpa using this
       rw [← hnc] at hown
       obtain ⟨g5, cap5, W5, hrun, HS5, hk5⟩ := H3.out.s.app hb A L hown HBT.out HI1.out HI2.out (by simp)
       rw [hnc] at hrun
       obtain ⟨q0, q1, q2⟩ := step_cells ((((Below.refl _ _).alloc (Nat.le_refl _) (.cells #[.int .i64 A, .int .i64 L, .slice ac nc cc] 56)).block B (lt_blk hp)).trans hp)
       obtain ⟨s0, s1, s2⟩ := step_cells ((hk5 B (lt_blk H3.out.blk) H3.out.ne).trans H3.out.blk)
       clear hown hb hp hk5))
  all_goals
    go_wp2_with fail
    go_ret
    exact ⟨_, _, rfl, HS5.out.1, H3.out.left.trans HS5.out.2⟩

end Go.Proofs.Ytmpmaljkmfgagaa
