/-
  Contract of route.extended: a path and an edge behind it, in new memory.
-/
import Derived.Test.YtmpmaljkmfgagabCloneN
import Derived.Test.YtmpmaljkmfgagabRouteMath5
import Derived.Test.YtmpmaljkmfgagabCutB
import Derived.Test.YtmpmaljkmfgagabStep
import Derived.Deep.RegionHeld3
import Derived.Handy
namespace Go.Proofs.Ytmpmaljkmfgagab
open Go.RowKit

/-- what a call of extended returns: a path whose versions are new -/
def GivesX (w : World) (q : RouteM.Pth) (e : Ending) (w' : World) : Prop :=
  ∃ a n c, e = .returned (.agg #[.slice a n c, .int .i64 q.cost]) ∧ NS w' a n c q.vs ∧ (∀ p, a = some p → w.heap.size ≤ p.block) ∧ Below w.heap.size w w'
/-- the two cells of a path -/
theorem path_cells {W : World} {B : Nat} {v0 v1 : Value} (h : W.heap[B]? = some (.cells #[v0, v1] 101 (0, 0))) : W.cell? ⟨B, 0, none⟩ = some v0 ∧ W.cell? ⟨B, 1, none⟩ = some v1 ∧ W.frozen? ⟨B, 0, none⟩ = false ∧ W.frozen? ⟨B, 1, none⟩ = false := by
  simp [World.cell?, World.frozen?, h]
theorem set_two {W : World} {B : Nat} {v0 v1 : Value} (h : W.heap[B]? = some (.cells #[v0, v1] 101 (0, 0))) (u0 u1 : Value) : ((W.setCell ⟨B, 0, none⟩ u0).setCell ⟨B, 1, none⟩ u1).cell? ⟨B, 0, none⟩ = some u0 ∧ ((W.setCell ⟨B, 0, none⟩ u0).setCell ⟨B, 1, none⟩ u1).cell? ⟨B, 1, none⟩ = some u1 := by
  simp [World.cell?, World.setCell, Array.getElem?_modify, h]
theorem edge_cells {W : World} {B : Nat} {v0 v1 v2 : Value} (h : W.heap[B]? = some (.cells #[v0, v1, v2] 63 (0, 0))) : W.cell? ⟨B, 0, none⟩ = some v0 ∧ W.cell? ⟨B, 1, none⟩ = some v1 ∧ W.cell? ⟨B, 2, none⟩ = some v2 := by
  simp [World.cell?, h]
/-- a row of the call's own stays where an elder block is written to -/
theorem own_setR {w : World} {base e n : Nat} {v : Value} {xs : List Value} (h : w.ownsRow base e 1 v n xs) {p : Addr} (hp : p.block < base) (u : Value) : (w.setCell p u).ownsRow base e 1 v n xs := by
  refine ⟨h.1, ?_⟩
  rcases h.2 with h2 | ⟨g, cap, cur, h2, h3, h4, h5⟩
  · exact .inl h2
  · exact .inr ⟨g, cap, cur, h2, h3, (Below.heap_setCell w _ _ g (by omega)).trans h4, h5⟩
/-- the memory of extended: the path, the edge, the result -/
structure XSt (w : World) (B : Nat) (a : Option Addr) (n c : Nat) (C F T K : Int) (W : World) : Prop where
  c0 : W.heap[B]? = some (.cells #[.slice a n c, .int .i64 C] 101 (0, 0))
  c1 : W.heap[B + 1]? = some (.cells #[.int .i64 F, .int .i64 T, .int .i64 K] 63 (0, 0))
  c2 : W.heap[B + 2]? = some (.cells #[.slice none 0 0, .int .i64 0] 101 (0, 0))
  below : Below w.heap.size w W
  le : w.heap.size = B
theorem blk_ltR {W : World} {B : Nat} {o : Obj} (h : W.heap[B]? = some o) : B < W.heap.size := by
  rcases Nat.lt_or_ge B W.heap.size with hlt | hge
  · exact hlt
  · rw [Array.getElem?_eq_none hge] at h
    cases h
/-- the cells that are read -/
def XPq (B : Nat) (a : Option Addr) (n c : Nat) (C T K : Int) (W : World) : Prop := W.cell? ⟨B, 0, none⟩ = some (.slice a n c) ∧ W.cell? ⟨B, 1, none⟩ = some (.int .i64 C) ∧ W.cell? ⟨B + 1, 1, none⟩ = some (.int .i64 T) ∧ W.cell? ⟨B + 1, 2, none⟩ = some (.int .i64 K)
section
variable {w : World} {B : Nat} {a : Option Addr} {n c : Nat} {C F T K : Int} {W W' : World}
theorem XSt.later (h : XSt w B a n c C F T K W) (hb : Below W.heap.size W W') : XSt w B a n c C F T K W' :=
  ⟨(hb.block _ (blk_ltR h.c0)).trans h.c0, (hb.block _ (blk_ltR h.c1)).trans h.c1, (hb.block _ (blk_ltR h.c2)).trans h.c2, below_then h.below hb, h.le⟩
theorem XSt.start (w : World) (a : Option Addr) (n c : Nat) (C F T K : Int) :
    XSt w w.heap.size a n c C F T K (((w.alloc (.cells #[.slice a n c, .int .i64 C] 101)).alloc (.cells #[.int .i64 F, .int .i64 T, .int .i64 K] 63)).alloc (.cells #[.slice none 0 0, .int .i64 0] 101)) := by
  have hb : Below w.heap.size w (((w.alloc (.cells #[.slice a n c, .int .i64 C] 101)).alloc (.cells #[.int .i64 F, .int .i64 T, .int .i64 K] 63)).alloc (.cells #[.slice none 0 0, .int .i64 0] 101)) := (((Below.refl _ _).alloc (Nat.le_refl _) _).alloc (by simp) _).alloc (by simp; omega) _
  refine ⟨?_, ?_, ?_, hb, rfl⟩
  · rw [heap_at, if_neg (by simp; omega), heap_at, if_neg (by simp), heap_at, if_pos rfl]
  · rw [heap_at, if_neg (by simp), heap_at, if_pos (by simp)]
  · rw [heap_at, if_pos (by simp)]
/-- the cells that are read, and where is written -/
theorem XSt.cells (h : XSt w B a n c C F T K W) : W.cell? ⟨B, 0, none⟩ = some (.slice a n c) ∧ W.cell? ⟨B, 1, none⟩ = some (.int .i64 C) ∧ W.cell? ⟨B + 1, 1, none⟩ = some (.int .i64 T) ∧ W.cell? ⟨B + 1, 2, none⟩ = some (.int .i64 K) ∧
    W.cell? ⟨B + 1 + 1, 0, none⟩ = some (.slice none 0 0) ∧ W.cell? ⟨B + 1 + 1, 1, none⟩ = some (.int .i64 0) ∧ W.frozen? ⟨B + 1 + 1, 0, none⟩ = false ∧ W.frozen? ⟨B + 1 + 1, 1, none⟩ = false := by
  obtain ⟨p0, p1, -⟩ := path_cells h.c0
  obtain ⟨-, e1, e2⟩ := edge_cells h.c1
  obtain ⟨r0, r1, f0, f1⟩ := path_cells h.c2
  exact ⟨p0, p1, e1, e2, r0, r1, f0, f1⟩
theorem XSt.ahead (h : XSt w B a n c C F T K W) (u v : Value) : XPq B a n c C T K ((W.setCell ⟨B + 1 + 1, 0, none⟩ u).setCell ⟨B + 1 + 1, 1, none⟩ v) := by
  have e : ∀ k, k ≤ B + 1 → ((W.setCell ⟨B + 1 + 1, 0, none⟩ u).setCell ⟨B + 1 + 1, 1, none⟩ v).heap[k]? = W.heap[k]? := fun k hk => (Below.heap_setCell _ _ _ k (by show k ≠ B + 1 + 1; omega)).trans (Below.heap_setCell _ _ _ k (by show k ≠ B + 1 + 1; omega))
  obtain ⟨p0, p1, -⟩ := path_cells ((e B (by omega)).trans h.c0)
  obtain ⟨-, e1, e2⟩ := edge_cells ((e (B + 1) (by omega)).trans h.c1)
  exact ⟨p0, p1, e1, e2⟩
/-- the append, and what is then stored -/
theorem XSt.app (h : XSt w B a n c C F T K W) {x : List Int} {base : Nat} {a1 : Option Addr} {c1 : Nat} (ho : W.ownsRow base 3 1 (.slice a1 n c1) n (x.map (Value.int .i64))) (hbase : B + 3 ≤ base) (hbs : base ≤ W.heap.size) {Q : Nat} (hQ : W.heap[Q]? = some (.cells #[.int .i64 T] 3 (0, 0))) (hn : n ≤ 100000) (S : Int) :
    ∃ a' c' W', (Builtin.append_ #[53, 53] 53 #[.slice a1 n c1, .slice (some ⟨Q, 0, none⟩) 1 1]).run Try.prog W = .ok (.slice a' (n + 1) c') W' ∧ Hid (XSt w B a n c C F T K W') ∧
      Hid (XPq B a n c C T K ((W'.setCell ⟨B + 1 + 1, 0, none⟩ (.slice a' (n + 1) c')).setCell ⟨B + 1 + 1, 1, none⟩ (.int .i64 S)) ∧ ((W'.setCell ⟨B + 1 + 1, 0, none⟩ (.slice a' (n + 1) c')).setCell ⟨B + 1 + 1, 1, none⟩ (.int .i64 S)).cell? ⟨B + 1 + 1, 0, none⟩ = some (.slice a' (n + 1) c') ∧ ((W'.setCell ⟨B + 1 + 1, 0, none⟩ (.slice a' (n + 1) c')).setCell ⟨B + 1 + 1, 1, none⟩ (.int .i64 S)).cell? ⟨B + 1 + 1, 1, none⟩ = some (.int .i64 S) ∧ NS ((W'.setCell ⟨B + 1 + 1, 0, none⟩ (.slice a' (n + 1) c')).setCell ⟨B + 1 + 1, 1, none⟩ (.int .i64 S)) a' (n + 1) c' (x ++ [T]) ∧ (∀ p, a' = some p → w.heap.size ≤ p.block) ∧ Below w.heap.size w ((W'.setCell ⟨B + 1 + 1, 0, none⟩ (.slice a' (n + 1) c')).setCell ⟨B + 1 + 1, 1, none⟩ (.int .i64 S))) := by
  obtain ⟨a', c', W', hr, ho', hg⟩ := app_int ho hQ hn hbs
  have hlt2 := blk_ltR h.c2
  have far : ∀ k, k < B + 3 → some k ≠ (Value.slice a1 n c1).ownBlock := by
    intro k hk e
    have := (ho.lt k e.symm).1
    omega
  have hle := h.le
  have hB' : Below w.heap.size w W' := h.below.grown hg h.below.size (fun k hk => by have := (ho.lt k hk).1; omega)
  have st : XSt w B a n c C F T K W' := ⟨(hg.block _ (by omega) (far _ (by omega))).trans h.c0, (hg.block _ (by omega) (far _ (by omega))).trans h.c1, (hg.block _ (by omega) (far _ (by omega))).trans h.c2, hB', hle⟩
  have own2 := own_setR (own_setR ho' (p := ⟨B + 1 + 1, 0, none⟩) (by show B + 1 + 1 < base; omega) (.slice a' (n + 1) c')) (p := ⟨B + 1 + 1, 1, none⟩) (by show B + 1 + 1 < base; omega) (.int .i64 S)
  obtain ⟨g0, g1⟩ := set_two st.c2 (.slice a' (n + 1) c') (.int .i64 S)
  refine ⟨a', c', W', hr, st, st.ahead _ _, g0, g1, NS.of_own own2, fun p hp => ?_, (hB'.setCell (by show w.heap.size ≤ B + 1 + 1; omega) _).setCell (by show w.heap.size ≤ B + 1 + 1; omega) _⟩
  subst hp
  have := (own2.lt p.block rfl).1
  omega
end

set_option maxRecDepth 100000 in
set_option maxHeartbeats 2000000 in
theorem extended_any (a : Option Addr) (n c : Nat) (p : RouteM.Pth) (e0 : RouteM.EdR) (w : World) (hs : NS w a n c p.vs) (hn : n ≤ 100000) (hc : 0 ≤ p.cost ∧ p.cost ≤ 1000000000) (hk : 0 ≤ e0.cost ∧ e0.cost ≤ 1000) :
    Calls Try.prog 114 #[.agg #[.slice a n c, .int .i64 p.cost], .agg #[.int .i64 e0.fr, .int .i64 e0.to_, .int .i64 e0.cost]] w (GivesX w (RouteM.ext p e0)) := by
  obtain ⟨x, C⟩ := p
  obtain ⟨F, T, K⟩ := e0
  simp only at hs hc hk ⊢
  have HLX := Lib.hid hs.len
  have HST := Lib.hid (XSt.start w a n c C F T K)
  by_cases hn0 : n = 0
  · subst hn0
    have HX : Hid (RouteM.ext ⟨x, C⟩ ⟨F, T, K⟩ = RouteM.noPth) := by
      show _ = _
      have hx : x = [] := List.eq_nil_of_length_eq_zero HLX.out
      unfold RouteM.ext
      rw [if_pos hx]
    have HB := Lib.hid HST.out.below
    clear hs
    go_enter Try.func114, Try.ntmps114
    go_wp2_with fail
    go_returns
    exact ⟨none, 0, 0, by rw [HX.out]; rfl, by rw [HX.out]; exact NS.nil_ _, (fun _ h => by cases h), HB.out⟩
  · have hb0 : ((n : Int) == 0) = false := by simp; omega
    have HX : Hid (RouteM.ext ⟨x, C⟩ ⟨F, T, K⟩ = ⟨x ++ [T], C + K⟩) := by
      show _ = _
      have hx : x ≠ [] := by
        intro e
        have := HLX.out
        rw [e] at this
        simp at this
        omega
      unfold RouteM.ext
      rw [if_neg hx]
    have HNS := Lib.hid hs
    have HCL := Lib.hid (fun W => cloneN_any a n c x W)
    obtain ⟨B, hB⟩ : ∃ B, w.heap.size = B := ⟨_, rfl⟩
    rw [hB] at HST
    obtain ⟨k0, k1, k2, k3, k4, k5, k6, k7⟩ := HST.out.cells
    obtain ⟨S, hS⟩ : ∃ S, C + K = S := ⟨_, rfl⟩
    have hwS : IntKind.i64.wrap S = S := IntWalk.i64_in _ (by omega)
    rw [hS] at HX
    clear hs
    go_enter Try.func114, Try.ntmps114
    go_wp2_with fail
    generalize ((w.alloc (.cells #[.slice a n c, .int .i64 C] 101)).alloc (.cells #[.int .i64 F, .int .i64 T, .int .i64 K] 63)).alloc (.cells #[.slice none 0 0, .int .i64 0] 101) = W0 at HST k0 k1 k2 k3 k4 k5 k6 k7 ⊢
    have H1 := Lib.hid (HST.out.later (Below.refl _ _).drew)
    have N1 := Lib.hid (HNS.out.later H1.out.below)
    have H2 := Lib.hid ((HST.out.later ((Below.refl _ _).alloc (Nat.le_refl _) (.cells #[.int .i64 T] 3))).later (Below.refl _ _).drew)
    have N2 := Lib.hid (HNS.out.later H2.out.below)
    have HQ2 : Hid ((W0.alloc (.cells #[.int .i64 T] 3)).drew.heap[W0.heap.size]? = some (.cells #[.int .i64 T] 3 (0, 0))) := by
      show (W0.alloc (.cells #[.int .i64 T] 3)).heap[W0.heap.size]? = _
      rw [heap_at, if_pos rfl]
    obtain ⟨o0, o1, o2, o3, -⟩ := H2.out.cells
    clear HST
    go_region_held3 (fun W => W.cell? ⟨B, 0, none⟩ = some (.slice a n c) ∧ W.cell? ⟨B, 1, none⟩ = some (.int .i64 C) ∧ W.cell? ⟨B + 1, 1, none⟩ = some (.int .i64 T) ∧ W.cell? ⟨B + 1, 2, none⟩ = some (.int .i64 K))
      (first | exact ⟨k0, k1, k2, k3⟩ | exact ⟨o0, o1, o2, o3⟩ | exact ⟨p0, p1, p2, p3⟩ | exact ⟨r0, r1, r2, r3⟩ | exact ⟨t0, t1, t2, t3⟩ | go_keep) (first
      | (refine step_append_run rfl (.tmp 12) (.tmp 15) 53 53 rfl (.slice a1 n c1) (.slice (some ⟨W4.heap.size, 0, none⟩) 1 1) (by simp [Act.eval]) (by simp [Act.eval]) _ _ hrunA ?_)
      | (go_at_call 126; (with_reducible refine (HCL.out _ N1.out hn).mono ?_); rintro e W4 ⟨a1, c1, rfl, ho, hb⟩
         have H4 := Lib.hid (H1.out.later hb)
         obtain ⟨p0, p1, p2, p3, p4, p5, p6, p7⟩ := H4.out.cells
         have hba : Below W4.heap.size W4 (W4.alloc (.cells #[.int .i64 T] 3)) := (Below.refl _ _).alloc (Nat.le_refl _) _
         have ho5 := own_later ho hba
         have hz : W0.heap.size ≤ W4.heap.size := hb.size
         have hB3 : B + 3 ≤ W0.drew.heap.size := blk_ltR H1.out.c2
         obtain ⟨a', c', W', hrunA, HX4, HN4⟩ := (H4.out.later hba).app ho5 hB3 (by show W0.heap.size ≤ (W4.alloc _).heap.size; simp; exact Nat.le_succ_of_le hz) (Q := W4.heap.size) (by rw [heap_at, if_pos rfl]) hn S
         obtain ⟨r0, r1, r2, r3, r4, r5, r6, r7⟩ := HX4.out.cells
         obtain ⟨t0, t1, t2, t3⟩ := HN4.out.1
         clear hba ho5 hz hB3 ho hb)
      | (refine step_append_run rfl (.tmp 12) (.tmp 15) 53 53 rfl (.slice a1 n c1) (.slice (some ⟨W0.heap.size, 0, none⟩) 1 1) (by simp [Act.eval]) (by simp [Act.eval]) _ _ hrunB ?_)
      | (go_at_call 126; (with_reducible refine (HCL.out _ N2.out hn).mono ?_); rintro e W4 ⟨a1, c1, rfl, ho, hb⟩
         have H4 := Lib.hid (H2.out.later hb)
         obtain ⟨p0, p1, p2, p3, p4, p5, p6, p7⟩ := H4.out.cells
         have hz := hb.size
         have hB3 : B + 3 ≤ (W0.alloc (.cells #[.int .i64 T] 3)).drew.heap.size := blk_ltR H2.out.c2
         obtain ⟨a', c', W', hrunB, HX4, HN4⟩ := H4.out.app ho hB3 hz (Q := W0.heap.size) ((hb.block _ (blk_ltR HQ2.out)).trans HQ2.out) hn S
         obtain ⟨r0, r1, r2, r3, r4, r5, r6, r7⟩ := HX4.out.cells
         obtain ⟨t0, t1, t2, t3⟩ := HN4.out.1
         clear hz hB3 ho hb))
    all_goals
      obtain ⟨-, y0, y1, HN⟩ := HN4.out
      have HN5 := Lib.hid HN
      clear HN HN4 HX4 r0 r1 r2 r3 r4 r5 r6 r7 t0 t1 t2 t3 p0 p1 p2 p3 p4 p5 p6 p7 k0 k1 k2 k3 k4 k5 k6 k7 o0 o1 o2 o3 H1 H2 N1 N2 HQ2 H4
      generalize (W'.setCell ⟨B + 1 + 1, 0, none⟩ (.slice a' (n + 1) c')).setCell ⟨B + 1 + 1, 1, none⟩ (.int .i64 S) = W8 at y0 y1 HN5 ⊢
      go_wp2_with fail
      try simp only [Exit.inBlock, Exit.then]
      refine bodyPost_ret (by simp [results, Try.results114, go_sem, y0, y1]; try rfl) rfl ?_
      exact ⟨a', n + 1, c', by rw [HX.out], by rw [HX.out]; exact HN5.out.1, HN5.out.2.1, HN5.out.2.2⟩
end Go.Proofs.Ytmpmaljkmfgagab
