/-
  Texts put into one: CCheck, CKin.
-/
import Derived.Test.YtmpmaljkmfgagabChunkC
import Derived.Test.YtmpmaljkmfgagabRowToOpenN
/-
  Contracts of chunk.isVersion and chunk.Check: they return what the document says.
-/
namespace Go.Proofs.Ytmpmaljkmfgagab
open Go.RowKit

theorem isVersionC_any (x : Int) (w : World) :
    Calls Try.prog 99 #[.int .i64 x] w fun e w' => e = .returned (.bool (decide (1 ≤ x ∧ x ≤ 30))) ∧ w = w' := by
  by_cases h : 1 ≤ x
  · go_enter Try.func99, Try.ntmps99
    go_wp2
    go_ret
    exact ⟨by simp [h], rfl⟩
  · go_enter Try.func99, Try.ntmps99
    go_wp2
    go_ret
    exact ⟨by simp; omega, rfl⟩

set_option maxRecDepth 100000 in
set_option maxHeartbeats 1000000 in
theorem checkC_ok : CheckCC := by
  intro v r w hv
  obtain ⟨a, m, c, rfl, hd, h1, h2, h3, h4⟩ := hv
  obtain ⟨f, t, n, o, D⟩ := r
  simp only at hd h1 h2 h3 h4 ⊢
  have HDL := Lib.hid hd.len
  have hm : m ≤ 9223372036854775807 := by have := hd.le; have := hd.max; omega
  have HB := Lib.hid ((Below.refl w.heap.size w).alloc (Nat.le_refl _) (.cells #[.int .i64 f, .int .i64 t, .int .i64 n, .int .i64 o, .slice a m c] 69))
  have HBad : Hid (ChunkM.badNums ⟨f, t, n, o, D⟩ → ChunkM.check ⟨f, t, n, o, D⟩ = 2) := by
    show _ → _
    intro h
    unfold ChunkM.check
    rw [if_pos h]
  unfold I64 at h1 h2 h3 h4
  clear hd
  go_enter Try.func52, Try.ntmps52
  go_wp2_with fail
  refine (isVersionC_any f _).mono ?_
  rintro e w' ⟨rfl, rfl⟩
  by_cases c1 : 1 ≤ f ∧ f ≤ 30
  · rw [decide_eq_true c1]
    go_wp2_with fail
    refine (isVersionC_any t _).mono ?_
    rintro e w' ⟨rfl, rfl⟩
    by_cases c2 : 1 ≤ t ∧ t ≤ 30
    · rw [decide_eq_true c2]
      by_cases c3 : o < 1
      · have HE := Lib.hid (HBad.out (.inr (.inr (.inl (fun h => absurd h.1 (by simp only; omega))))))
        go_wp2_with fail
        go_ret
        exact ⟨ret_chk HE.out.symm, HB.out⟩
      by_cases c3' : 52 < o
      · have HE := Lib.hid (HBad.out (.inr (.inr (.inl (fun h => absurd h.2 (by simp only; omega))))))
        go_wp2_with fail
        go_ret
        exact ⟨ret_chk HE.out.symm, HB.out⟩
      by_cases c4 : n < 0
      · have HE := Lib.hid (HBad.out (.inr (.inr (.inr (.inl c4)))))
        go_wp2_with fail
        go_ret
        exact ⟨ret_chk HE.out.symm, HB.out⟩
      by_cases c5 : o ≤ n
      · have HE := Lib.hid (HBad.out (.inr (.inr (.inr (.inr c5)))))
        go_wp2_with fail
        go_ret
        exact ⟨ret_chk HE.out.symm, HB.out⟩
      have HG : Hid (¬ ChunkM.badNums ⟨f, t, n, o, D⟩) := by
        show ¬ _
        unfold ChunkM.badNums
        simp only
        omega
      obtain ⟨O1, hO1⟩ : ∃ O1, o - 1 = O1 := ⟨_, rfl⟩
      by_cases c6 : n = O1
      · subst c6
        have t6 : (n == n) = true := by simp
        have HE : Hid (ChunkM.check ⟨f, t, n, o, D⟩ = if ¬ (1 ≤ (m : Int) ∧ (m : Int) ≤ 16) then 3 else 0) := by
          show _ = _
          rw [ChunkM.check_last HG.out hO1.symm]
          simp only [HDL.out]
        by_cases c7 : (m : Int) < 1
        · go_wp2_with fail
          go_ret
          exact ⟨ret_chk (by rw [HE.out, if_pos (by omega)]), HB.out⟩
        by_cases c8 : (16 : Int) < m
        · have c8' : 16 < m := by omega
          go_wp2_with fail
          go_ret
          exact ⟨ret_chk (by rw [HE.out, if_pos (by omega)]), HB.out⟩
        · have c8' : ¬ 16 < m := by omega
          go_wp2_with fail
          go_ret
          exact ⟨ret_chk (by rw [HE.out, if_neg (by omega)]), HB.out⟩
      · have t6 : (n == O1) = false := by simp [c6]
        have HE : Hid (ChunkM.check ⟨f, t, n, o, D⟩ = if ¬ (16 ≤ (m : Int) ∧ (m : Int) ≤ 16) then 3 else 0) := by
          show _ = _
          rw [ChunkM.check_mid HG.out (by simp only; rw [hO1]; exact c6)]
          simp only [HDL.out]
        by_cases c7 : (m : Int) < 16
        · have c7' : m < 16 := by omega
          go_wp2_with fail
          go_ret
          exact ⟨ret_chk (by rw [HE.out, if_pos (by omega)]), HB.out⟩
        have c7' : ¬ m < 16 := by omega
        by_cases c8 : (16 : Int) < m
        · have c8' : 16 < m := by omega
          go_wp2_with fail
          go_ret
          exact ⟨ret_chk (by rw [HE.out, if_pos (by omega)]), HB.out⟩
        · have c8' : ¬ 16 < m := by omega
          go_wp2_with fail
          go_ret
          exact ⟨ret_chk (by rw [HE.out, if_neg (by omega)]), HB.out⟩
    · rw [decide_eq_false c2]
      have HE := Lib.hid (HBad.out (.inr (.inl c2)))
      go_wp2_with fail
      go_ret
      exact ⟨ret_chk HE.out.symm, HB.out⟩
  · rw [decide_eq_false c1]
    have HE := Lib.hid (HBad.out (.inl c1))
    go_wp2_with fail
    go_ret
    exact ⟨ret_chk HE.out.symm, HB.out⟩
end Go.Proofs.Ytmpmaljkmfgagab
/-
  Contract of chunk.ofOnePatch: whether two chunks are of the same patch.
-/
namespace Go.Proofs.Ytmpmaljkmfgagab
open Go.RowKit

/-- two chunks that are new: where their cells are later -/
theorem two_chs (w : World) (A B C E A' B' C' E' : Int) (v v' : Value) : ∀ W, Below ((w.alloc (.cells #[.int .i64 A, .int .i64 B, .int .i64 C, .int .i64 E, v] 69)).alloc (.cells #[.int .i64 A', .int .i64 B', .int .i64 C', .int .i64 E', v'] 69)).heap.size ((w.alloc (.cells #[.int .i64 A, .int .i64 B, .int .i64 C, .int .i64 E, v] 69)).alloc (.cells #[.int .i64 A', .int .i64 B', .int .i64 C', .int .i64 E', v'] 69)) W →
    W.cell? ⟨w.heap.size, 2, none⟩ = some (.int .i64 C) ∧ W.cell? ⟨w.heap.size, 4, none⟩ = some v ∧ W.cell? ⟨w.heap.size + 1, 2, none⟩ = some (.int .i64 C') ∧ W.cell? ⟨w.heap.size + 1, 4, none⟩ = some v' := by
  intro W hb
  have e1 : (w.alloc (.cells #[.int .i64 A, .int .i64 B, .int .i64 C, .int .i64 E, v] 69)).heap.size = w.heap.size + 1 := by simp
  have h0 : ((w.alloc (.cells #[.int .i64 A, .int .i64 B, .int .i64 C, .int .i64 E, v] 69)).alloc (.cells #[.int .i64 A', .int .i64 B', .int .i64 C', .int .i64 E', v'] 69)).heap[w.heap.size]? = some (.cells #[.int .i64 A, .int .i64 B, .int .i64 C, .int .i64 E, v] 69 (0, 0)) := by
    rw [heap_at, if_neg (by rw [e1]; omega), heap_at, if_pos rfl]
  have h1 : ((w.alloc (.cells #[.int .i64 A, .int .i64 B, .int .i64 C, .int .i64 E, v] 69)).alloc (.cells #[.int .i64 A', .int .i64 B', .int .i64 C', .int .i64 E', v'] 69)).heap[w.heap.size + 1]? = some (.cells #[.int .i64 A', .int .i64 B', .int .i64 C', .int .i64 E', v'] 69 (0, 0)) := by
    rw [heap_at, if_pos e1.symm]
  refine ⟨cell_later hb ?_, cell_later hb ?_, cell_later hb ?_, cell_later hb ?_⟩
  · simp only [World.cell?, h0]; rfl
  · simp only [World.cell?, h0]; rfl
  · simp only [World.cell?, h1]; rfl
  · simp only [World.cell?, h1]; rfl

set_option maxRecDepth 100000 in
set_option maxHeartbeats 1000000 in
theorem kinC_any (v v' : Value) (x y : ChR) (w : World) (h : CV w v x) (h' : CV w v' y) :
    Calls Try.prog 88 #[v, v'] w fun e w' => e = .returned (.bool (decide (ChunkM.kin x y))) ∧ Below w.heap.size w w' := by
  obtain ⟨va, vn, vc, rfl, hd, -⟩ := h
  obtain ⟨va', vn', vc', rfl, hd', -⟩ := h'
  obtain ⟨A, B, C, E, D⟩ := x
  obtain ⟨A', B', C', E', D'⟩ := y
  simp only at hd hd' ⊢
  have hB1 := (Below.refl w.heap.size w).alloc (Nat.le_refl _) (.cells #[.int .i64 A, .int .i64 B, .int .i64 C, .int .i64 E, .slice va vn vc] 69)
  have HB := Lib.hid (hB1.alloc (by simp) (.cells #[.int .i64 A', .int .i64 B', .int .i64 C', .int .i64 E', .slice va' vn' vc'] 69))
  clear hB1 hd hd'
  by_cases h1 : A = A'
  · subst h1
    have t1 : (A == A) = true := by simp
    by_cases h2 : B = B'
    · subst h2
      have t2 : (B == B) = true := by simp
      by_cases h4 : E = E'
      · subst h4
        have t4 : (E == E) = true := by simp
        go_enter Try.func88, Try.ntmps88
        go_wp2_with fail
        go_ret
        exact ⟨ret_bool (by simp [ChunkM.kin]), HB.out⟩
      · have t4 : (E == E') = false := by simp [h4]
        go_enter Try.func88, Try.ntmps88
        go_wp2_with fail
        go_ret
        exact ⟨ret_bool (by simp [ChunkM.kin, h4]), HB.out⟩
    · have t2 : (B == B') = false := by simp [h2]
      go_enter Try.func88, Try.ntmps88
      go_wp2_with fail
      go_ret
      exact ⟨ret_bool (by simp [ChunkM.kin, h2]), HB.out⟩
  · have t1 : (A == A') = false := by simp [h1]
    go_enter Try.func88, Try.ntmps88
    go_wp2_with fail
    go_ret
    exact ⟨ret_bool (by simp [ChunkM.kin, h1]), HB.out⟩

/-- two chunks that are loaded: one of a slice, one in a block of its own -/
structure KinW (w : World) (b o C : Nat) (x y : ChR) (xa : Option Addr) (xm xc : Nat) (ya : Option Addr) (ym yc : Nat) (W : World) : Prop where
  x0 : W.cell? ⟨b, o, none⟩ = some (.int .i64 x.fr)
  x1 : W.cell? ⟨b, o + 1, none⟩ = some (.int .i64 x.to_)
  x2 : W.cell? ⟨b, o + 2, none⟩ = some (.int .i64 x.n)
  x3 : W.cell? ⟨b, o + 3, none⟩ = some (.int .i64 x.of_)
  x4 : W.cell? ⟨b, o + 4, none⟩ = some (.slice xa xm xc)
  blk : W.heap[C]? = some (.cells #[.int .i64 y.fr, .int .i64 y.to_, .int .i64 y.n, .int .i64 y.of_, .slice ya ym yc] 69 (0, 0))
  cx : CV W (.agg #[.int .i64 x.fr, .int .i64 x.to_, .int .i64 x.n, .int .i64 x.of_, .slice xa xm xc]) x
  cy : CV W (.agg #[.int .i64 y.fr, .int .i64 y.to_, .int .i64 y.n, .int .i64 y.of_, .slice ya ym yc]) y
  below : Below w.heap.size w W
section
variable {w : World} {b o C : Nat} {x y : ChR} {xa : Option Addr} {xm xc : Nat} {ya : Option Addr} {ym yc : Nat} {W W' : World}
theorem KinW.later (h : KinW w b o C x y xa xm xc ya ym yc W) (hb : Below W.heap.size W W') : KinW w b o C x y xa xm xc ya ym yc W' :=
  ⟨cell_later hb h.x0, cell_later hb h.x1, cell_later hb h.x2, cell_later hb h.x3, cell_later hb h.x4, (hb.block C (lt_blk h.blk)).trans h.blk, h.cx.later hb, h.cy.later hb, below_then h.below hb⟩
theorem KinW.cells (h : KinW w b o C x y xa xm xc ya ym yc W) : W.cell? ⟨b, o, none⟩ = some (.int .i64 x.fr) ∧ W.cell? ⟨b, o + 1, none⟩ = some (.int .i64 x.to_) ∧ W.cell? ⟨b, o + 2, none⟩ = some (.int .i64 x.n) ∧ W.cell? ⟨b, o + 3, none⟩ = some (.int .i64 x.of_) ∧ W.cell? ⟨b, o + 4, none⟩ = some (.slice xa xm xc) ∧
    W.cell? ⟨C, 0, none⟩ = some (.int .i64 y.fr) ∧ W.cell? ⟨C, 1, none⟩ = some (.int .i64 y.to_) ∧ W.cell? ⟨C, 2, none⟩ = some (.int .i64 y.n) ∧ W.cell? ⟨C, 3, none⟩ = some (.int .i64 y.of_) ∧ W.cell? ⟨C, 4, none⟩ = some (.slice ya ym yc) := by
  refine ⟨h.x0, h.x1, h.x2, h.x3, h.x4, ?_⟩
  simp [World.cell?, h.blk]
end
end Go.Proofs.Ytmpmaljkmfgagab
