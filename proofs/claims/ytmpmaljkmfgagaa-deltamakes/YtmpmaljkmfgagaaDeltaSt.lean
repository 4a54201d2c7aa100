/-
  What delta.Diff keeps in memory (the new image, the steps that are made, how much of the image is in them), and the contract of its closure; bytes.Clone.
-/
import Derived.Test.YtmpmaljkmfgagaaDiffSt
import Derived.Test.YtmpmaljkmfgagaaStep
namespace Go.Proofs.Ytmpmaljkmfgagaa
open Go.RowKit

set_option maxHeartbeats 400000 in
theorem bytesClone_any (a : Option Addr) (n c : Nat) (l : List Int) (w : World) (hs : BS w a n c l) (hn : n ≤ 140737488355328) :
    Calls Try.prog 60 #[.slice a n c] w (GivesB w l) := by
  have hq := fun (A : Option Addr) (n c : Nat) (w : World) => Lib.run_eql_slice_nil (P := Try.prog) w 27 5 A n c 0 0 Try.underlying27
  cases a with
  | none =>
    have hc := hs.none_ rfl
    subst hc
    obtain rfl : n = 0 := by have := hs.le; omega
    obtain rfl : l = [] := List.eq_nil_of_length_eq_zero hs.len
    go_enter Try.func60, Try.ntmps60
    go_wp2
    go_ret
    exact ⟨none, 0, 0, rfl, World.ownsRow_nil _ _ _ _, Below.refl _ _⟩
  | some ad =>
    have hown := World.ownsRow_lit (base := w.heap.size) (e := 5) (size := 1) w #[] 0 (Nat.le_refl _) (by unfold maxLen; omega) rfl
    have hb1 := (Below.refl w.heap.size w).alloc (Nat.le_refl _) (.cells #[] 5)
    obtain ⟨a', c', w', hrun, hown', hg⟩ := app_run (l := []) hown (hs.later hb1) (by omega) (by simp)
    have hb' := hb1.grown hg (by simp) (fun g hg => (hown.lt g hg).1)
    have HO := Lib.hid hown'
    clear hown' hown
    go_enter Try.func60, Try.ntmps60
    go_wp2_with (at_builtin; refine Lib.wpList_append_run _ rfl _ _ _ _ rfl _ _ rfl rfl _ _ hrun ?_)
    go_ret
    exact ⟨a', n, c', rfl, by simpa using HO.out, hb'⟩

/-- the memory of Diff: the blocks of 'b', of 'l' and of 'done', what they hold -/
structure FSt (w0 : World) (B0 B1 B2 : Nat) (a : Option Addr) (n c : Nat) (vo : Value) (out : List OpR) (dn : Nat) (W : World) : Prop where
  c0 : W.heap[B0]? = some (.cells #[.slice a n c] 27 (0, 0))
  c1 : W.heap[B1]? = some (.cells #[vo] 48 (0, 0))
  c2 : W.heap[B2]? = some (.cells #[.int .i64 (dn : Int)] 3 (0, 0))
  o : OutSt W (B2 + 1) none vo out
  below : Below w0.heap.size w0 W
  le0 : w0.heap.size ≤ B0
  le1 : B0 < B1
  le2 : B1 < B2
section
variable {w0 : World} {B0 B1 B2 : Nat} {a : Option Addr} {n c : Nat} {vo : Value} {out : List OpR} {dn : Nat} {W W' : World}
theorem FSt.later (h : FSt w0 B0 B1 B2 a n c vo out dn W) (hb : Below W.heap.size W W') : FSt w0 B0 B1 B2 a n c vo out dn W' :=
  ⟨(hb.block _ (lt_blk h.c0)).trans h.c0, (hb.block _ (lt_blk h.c1)).trans h.c1, (hb.block _ (lt_blk h.c2)).trans h.c2, h.o.later hb, below_then h.below hb, h.le0, h.le1, h.le2⟩
/-- 'done' is set -/
theorem FSt.set_ (h : FSt w0 B0 B1 B2 a n c vo out dn W) (t : Nat) : FSt w0 B0 B1 B2 a n c vo out t (W.setCell ⟨B2, 0, none⟩ (.int .i64 (t : Int))) :=
  ⟨(Below.heap_setCell W _ _ B0 (by have := h.le1; have := h.le2; show B0 ≠ B2; omega)).trans h.c0, (Below.heap_setCell W _ _ B1 (by have := h.le2; show B1 ≠ B2; omega)).trans h.c1, set_blk h.c2 _,
    h.o.set (by show B2 < B2 + 1; omega) _, h.below.setCell (by show w0.heap.size ≤ B2; have := h.le0; have := h.le1; have := h.le2; omega) _, h.le0, h.le1, h.le2⟩
/-- one more step -/
theorem FSt.app (h : FSt w0 B0 B1 B2 a n c vo out dn W) (A L : Int) {ad : Option Addr} {m cd : Nat} {d : List Int} (hd : BS W ad m cd d) (hap : ∀ p, ad = some p → B2 < p.block ∧ p.block < W.heap.size ∧ some p.block ≠ vo.ownBlock)
    (hA : I64 A) (hL : I64 L) (hk : out.length ≤ 1000) :
    ∃ g cap W5, (Builtin.append_ #[48, 48] 48 #[vo, .slice (some ⟨W.heap.size, 0, none⟩) 1 1]).run Try.prog (W.alloc (.cells #[.int .i64 A, .int .i64 L, .slice ad m cd] 56)) = .ok (.slice (some ⟨g, 0, none⟩) (out.length + 1) cap) W5 ∧
      W5.cell? ⟨B1, 0, none⟩ = some vo ∧ W5.frozen? ⟨B1, 0, none⟩ = false ∧ W5.cell? ⟨B0, 0, none⟩ = some (.slice a n c) ∧ W5.cell? ⟨B2, 0, none⟩ = some (.int .i64 (dn : Int)) ∧
      Hid (FSt w0 B0 B1 B2 a n c (.slice (some ⟨g, 0, none⟩) (out.length + 1) cap) (out ++ [⟨A, L, d⟩]) dn (W5.setCell ⟨B1, 0, none⟩ (.slice (some ⟨g, 0, none⟩) (out.length + 1) cap))) := by
  have hl0 := lt_blk h.c0
  have hl1 := lt_blk h.c1
  have hl2 := lt_blk h.c2
  have hle1 := h.le1
  have hle2 := h.le2
  have hbl : Below W.heap.size W (W.alloc (.cells #[.int .i64 A, .int .i64 L, .slice ad m cd] 56)) := (Below.refl _ _).alloc (Nat.le_refl _) _
  have hsz := hbl.size
  have h2 := h.later hbl
  obtain ⟨g, cap, W5, hr, hO, hg, hlies⟩ := h2.o.app (B := W.heap.size) (A := A) (L := L) (a := ad) (n := m) (c := cd) (d := d) (by rw [heap_at, if_pos rfl]) (hd.later hbl) (fun p hp => by
    have := hap p hp
    exact ⟨by omega, by omega, this.2.2, by simp⟩) hA hL hk (by omega)
  have far : ∀ k, k < B2 + 1 → some k ≠ vo.ownBlock := by
    intro k hk2 e
    obtain ⟨⟨vs, _, q, _⟩, _⟩ := h.o
    have := (own_lt3 q e.symm).1
    omega
  have e0 := (hg.block B0 (by omega) (far _ (by omega))).trans h2.c0
  have e1 := (hg.block B1 (by omega) (far _ (by omega))).trans h2.c1
  have e2 := (hg.block B2 (by omega) (far _ (by omega))).trans h2.c2
  refine ⟨g, cap, W5, hr, cell_blk e1, frozen_blk e1, cell_blk e0, cell_blk e2, ?_⟩
  have hB5 := h2.below.grown hg h2.below.size (fun g' hg' => by
    obtain ⟨⟨vs, _, q, _⟩, _⟩ := h.o
    have := (own_lt3 q hg').1
    have := h.le0
    omega)
  exact ⟨(Below.heap_setCell W5 _ _ B0 (by show B0 ≠ B1; omega)).trans e0, set_blk e1 _, (Below.heap_setCell W5 _ _ B2 (by show B2 ≠ B1; omega)).trans e2, hO.set (by show B1 < B2 + 1; omega) _,
    hB5.setCell (by show w0.heap.size ≤ B1; have := h.le0; omega) _, h.le0, h.le1, h.le2⟩
end

/-- what a call has made lies behind what was there -/
theorem newer {w0 : World} {B0 B1 B2 : Nat} {a : Option Addr} {n c : Nat} {vo : Value} {out : List OpR} {dn : Nat} {W W2 : World} (h : FSt w0 B0 B1 B2 a n c vo out dn W) {p : Addr} {m cd k : Nat} {xs : List Value} (ho : W2.ownsRow W.drew.heap.size 5 1 (.slice (some p) m cd) k xs) :
    B2 < p.block ∧ p.block < W2.heap.size ∧ some p.block ≠ vo.ownBlock := by
  have h1 := own_lt3 ho (g := p.block) rfl
  have h2 := lt_blk h.c2
  have h3 : W.heap.size ≤ p.block := h1.1
  refine ⟨by omega, h1.2, fun e => ?_⟩
  obtain ⟨⟨vs, _, q, _⟩, _⟩ := h.o
  have := (own_lt3 q e.symm).2
  omega

/-- a call that puts the bytes up to a place as a step -/
def InsertTo (w0 : World) (B0 B1 B2 : Nat) (a : Option Addr) (n c : Nat) (out : List OpR) (pl : List Int) (t : Nat) (e : Ending) (W' : World) : Prop :=
  e = .returned (.tuple #[]) ∧ ∃ vo', FSt w0 B0 B1 B2 a n c vo' (out ++ DeltaM.flushL pl) t W'

set_option maxRecDepth 100000 in
set_option maxHeartbeats 1000000 in
theorem insert_any {w0 : World} {B0 B1 B2 : Nat} {a : Option Addr} {n c : Nat} {vo : Value} {out : List OpR} {dn : Nat} {y : List Int} {W : World} (t : Nat) (h : FSt w0 B0 B1 B2 a n c vo out dn W) (hy : BS w0 a n c y)
    (hdt : dn ≤ t) (htn : t ≤ n) (hn : n ≤ 64) (hk : out.length ≤ 1000) :
    Calls Try.prog 59 #[.int .i64 (t : Int), .pointer (some ⟨B2, 0, none⟩), .pointer (some ⟨B1, 0, none⟩), .pointer (some ⟨B0, 0, none⟩)] W (InsertTo w0 B0 B1 B2 a n c out ((y.drop dn).take (t - dn)) t) := by
  have k0 := cell_blk h.c0
  have k1 := cell_blk h.c1
  have k2 := cell_blk h.c2
  have HH := Lib.hid h
  by_cases hlt : dn < t
  · obtain ⟨D, hD⟩ : ∃ D : Nat, t - dn = D := ⟨_, rfl⟩
    have hyl := hy.le
    have hcut : ∀ W, (Instr.slice 27 (.slice a n c) (some (.int .i64 dn)) (some (.int .i64 t)) none).run Try.prog W = .ok (.slice (cutA a c dn) (t - dn) (c - dn)) W := fun W => run_cut_lh a n c W dn t hdt (by omega)
    have hsrc := (hy.mid dn t hdt htn).later h.below
    have hpl : ((y.drop dn).take (t - dn)).length = t - dn := by have := hy.len; simp; omega
    rw [hD] at hsrc hpl
    simp only [hD] at hcut
    have HF : Hid (DeltaM.flushL ((y.drop dn).take D) = [⟨0, 0, (y.drop dn).take D⟩]) := by
      show DeltaM.flushL _ = _
      unfold DeltaM.flushL
      rw [if_neg (by intro e; rw [e] at hpl; simp at hpl; omega)]
    rw [hD]
    have hbt := hsrc.bytes
    generalize (y.drop dn).take D = pl at hsrc hpl HF hbt
    generalize cutA a c dn = A3 at hcut hsrc
    generalize c - dn = C3 at hcut hsrc
    have HS := Lib.hid hsrc
    have HCL := Lib.hid (fun W => bytesClone_any A3 D C3 pl W)
    have HBT := Lib.hid hbt
    have hDs : D ≤ 140737488355328 := by omega
    have hk1 : W.drew.cell? ⟨B1, 0, none⟩ = some vo := k1
    have hk0 : W.drew.cell? ⟨B0, 0, none⟩ = some (.slice a n c) := k0
    have hk2 : W.drew.cell? ⟨B2, 0, none⟩ = some (.int .i64 dn) := k2
    obtain ⟨M, hM⟩ : ∃ M, out.length = M := ⟨_, rfl⟩
    have HM := Lib.hid hM
    rw [hM] at hk
    clear h hsrc hpl hbt hD hM hy hyl
    go_enter Try.func59, Try.ntmps59
    go_wp2
    go_region_law (first
      | (refine step_append_run rfl (.tmp 8) (.tmp 15) 48 48 rfl vo (.slice (some ⟨W2.heap.size, 0, none⟩) 1 1) (by simp [Act.eval]) (by simp [Act.eval]) _ _ hrun ?_)
      | (go_simp; go_at_call 60; refine (HCL.out _ (HS.out.later (Below.refl _ _).drew) hDs).mono ?_; rintro e W2 ⟨ac, nc, cc, rfl, hown, hb⟩
         have h2 := (HH.out.later (Below.refl _ _).drew).later hb
         have p0 := cell_blk h2.c0
         have p1 := cell_blk h2.c1
         have p2 := cell_blk h2.c2
         have hba : Below W2.heap.size W2 (W2.alloc (.cells #[.int .i64 0, .int .i64 0, .slice ac nc cc] 56)) := (Below.refl _ _).alloc (Nat.le_refl _) _
         have q0 := cell_blk (h2.later hba).c0
         have q1 := cell_blk (h2.later hba).c1
         have q2 := cell_blk (h2.later hba).c2
         have happ := h2.app 0 0 (BS.of_own hown HBT.out) (fun p hp => by subst hp; exact newer HH.out hown) (by unfold I64; omega) (by unfold I64; omega) (by rw [HM.out]; exact hk)
         rw [HM.out] at happ
         obtain ⟨g, cap, W5, hrun, k5, f5, k50, k52, HS5⟩ := happ
         clear h2 hown hb hba))
    all_goals
      generalize W5.setCell ⟨B1, 0, none⟩ (.slice (some ⟨g, 0, none⟩) (M + 1) cap) = W8 at HS5 ⊢
      clear k5 f5 k50 k52 hrun W5 p0 p1 p2 q0 q1 q2 k0 k1 k2 hk0 hk1 hk2
      have r2 := cell_blk HS5.out.c2
      have f2 := frozen_blk HS5.out.c2
      go_wp2
      go_end0
      exact ⟨rfl, _, by rw [HF.out]; exact HS5.out.set_ t⟩
  · obtain rfl : dn = t := by omega
    go_enter Try.func59, Try.ntmps59
    go_wp2
    go_end0
    exact ⟨rfl, vo, by rw [Nat.sub_self, List.take_zero, show out ++ DeltaM.flushL [] = out by simp [DeltaM.flushL]]; exact HH.out⟩
end Go.Proofs.Ytmpmaljkmfgagaa
