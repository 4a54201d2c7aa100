/-
  compose.add: a step that copies goes on where the last one ends.
-/
import Derived.Test.YtmpmaljkmfgagaaAddW
namespace Go.Proofs.Ytmpmaljkmfgagaa
open Go.RowKit

set_option maxRecDepth 100000 in
set_option maxHeartbeats 1000000 in
theorem add_go {w0 : World} {ex : Option Nat} {g N cap : Nat} {lb : Option Nat} {XA XL : Int} {XD : List Int} {t : List OpR} {W : World} (h : JSt w0 ex (.slice (some ⟨g, 0, none⟩) (N + 1) cap) lb (⟨XA, XL, XD⟩ :: t) W) (hN : t.length = N) (A L : Int) (D : List Int) {a : Option Addr} {n c : Nat} (hd : BS w0 a n c D)
    (hb : CompM.Bd 64 (⟨XA, XL, XD⟩ :: t)) (_hA0 : 0 ≤ A) (_hA : A ≤ 64) (hL0 : 0 ≤ L) (hL : L ≤ 64) (_hn : n ≤ 64) (h1 : XL ≠ 0) (h2 : L ≠ 0) (h3 : XA + XL = A) :
    Calls Try.prog 68 #[.slice (some ⟨g, 0, none⟩) (N + 1) cap, .agg #[.int .i64 A, .int .i64 L, .slice a n c]] W (GivesAdd w0 ex (⟨XA, XL, XD⟩ :: t) ⟨A, L, D⟩ W) := by
  have hrl := hb.1
  simp only [List.length_cons, hN] at hrl
  obtain ⟨b1, b2, b3, b4, b5, -⟩ := hb.2 _ (List.mem_cons_self)
  simp only at b1 b2 b3 b4 b5
  have HD := Lib.hid hd
  have H1 := Lib.hid (AddW.start h A L (.slice a n c))
  obtain ⟨B, hBB⟩ : ∃ B, W.heap.size = B := ⟨_, rfl⟩
  rw [hBB] at H1
  obtain ⟨u, k0, k1, k2, q0, q1, q2, -⟩ := H1.out.six hN
  simp only at q0 q1
  have HN := Lib.hid hN
  have hN1 : ((N + 1 : Nat) : Int) - 1 = N := by omega
  have hN2 : (N : Int) < (N : Int) + 1 := by omega
  have hN3 : (0 : Int) ≤ N := by omega
  have HI := Lib.hid (fun w => bothInsert_any XA XL u A L (.slice a n c) w)
  rw [show decide (XL = 0 ∧ L = 0) = false by simp [h1]] at HI
  clear h hd hb hN
  go_enter Try.func68, Try.ntmps68
  go_wp2_with fail
  go_region_held3 (fun W => W.cell? ⟨B, 0, none⟩ = some (.int .i64 A) ∧ W.cell? ⟨B, 1, none⟩ = some (.int .i64 L) ∧ W.cell? ⟨B, 2, none⟩ = some (.slice a n c) ∧ W.cell? ⟨g, N * 3, none⟩ = some (.int .i64 XA) ∧ W.cell? ⟨g, N * 3 + 1, none⟩ = some (.int .i64 XL) ∧ W.cell? ⟨g, N * 3 + 2, none⟩ = some u)
    (first | exact ⟨k0, k1, k2, q0, q1, q2⟩ | exact ⟨p0, p1, p2, r0, r1, r2⟩) (first
    | (go_at_call 75; refine (HI.out _).mono ?_; rintro e W2 ⟨rfl, hb2⟩
       have H2 := Lib.hid ((H1.out.later (Below.refl _ _).drew).later hb2)
       obtain ⟨u2, p0, p1, p2, r0, r1, r2, -⟩ := H2.out.six HN.out
       have hu : u2 = u := by have := cell_later hb2 q2; rw [r2] at this; exact Option.some.inj this
       subst hu
       clear hb2))
  clear H1 k0 k1 k2 q0 q1 q2 HI
  have HC := Lib.hid (fun w => continues_any XA XL u2 A L (.slice a n c) w ⟨b1, by omega⟩ ⟨b3, by omega⟩)
  rw [show decide (XL ≠ 0 ∧ L ≠ 0 ∧ XA + XL = A) = true by simp [h1, h2, h3]] at HC
  go_wp2_with fail
  go_region_held3 (fun W => W.cell? ⟨B, 0, none⟩ = some (.int .i64 A) ∧ W.cell? ⟨B, 1, none⟩ = some (.int .i64 L) ∧ W.cell? ⟨B, 2, none⟩ = some (.slice a n c) ∧ W.cell? ⟨g, N * 3, none⟩ = some (.int .i64 XA) ∧ W.cell? ⟨g, N * 3 + 1, none⟩ = some (.int .i64 XL) ∧ W.cell? ⟨g, N * 3 + 2, none⟩ = some u2)
    (first | exact ⟨p0, p1, p2, r0, r1, r2⟩ | exact ⟨k0, k1, k2, q0, q1, q2⟩) (first
    | (go_at_call 76; refine (HC.out _).mono ?_; rintro e W3 ⟨rfl, hb3⟩
       have H3 := Lib.hid ((H2.out.later (Below.refl _ _).drew).later hb3)
       obtain ⟨u3, k0, k1, k2, q0, q1, q2, qf⟩ := H3.out.six HN.out
       have hu : u3 = u2 := by have := cell_later hb3 r2; rw [q2] at this; exact Option.some.inj this
       subst hu
       clear hb3))
  clear H2 p0 p1 p2 r0 r1 r2 HC
  have HP : Hid (CompM.addR (⟨XA, XL, XD⟩ :: t) ⟨A, L, D⟩ = ⟨XA, XL + L, XD⟩ :: t) := by show _ = _; simp [CompM.addR, h1, h2, h3]
  obtain ⟨S, hS⟩ : ∃ S : Int, XL + L = S := ⟨_, rfl⟩
  rw [hS] at HP
  have f1 := qf (N * 3 + 1)
  clear qf
  go_wp2_with fail
  go_region
  all_goals
    go_wp2_with fail
    go_ret
    have hs := (H3.out.later (Below.refl _ _).drew).s
    have hl := (H3.out.later (Below.refl _ _).drew).left
    rw [← HN.out] at hs
    have hm := hs.moreC S (by unfold I64; omega)
    rw [HN.out] at hm
    exact ⟨_, _, rfl, by rw [HP.out]; exact hm.1, hl.trans hm.2⟩
end Go.Proofs.Ytmpmaljkmfgagaa
