/-
  What the reference's Diffed keeps in memory (what is made, the bytes that are still plain), and the contract of its closure; the document's Diff as a relation.
-/
import Derived.Test.YtmpmaljkmfgagaaOpsOwn
import Derived.Test.YtmpmaljkmfgagaaDeltaMath
import Derived.Test.YtmpmaljkmfgagaaMatchMath
import Derived.Deep.RegionLaw
namespace Go.Proofs.Ytmpmaljkmfgagaa
open Go.RowKit

namespace DeltaM
/-- plain bytes as a step -/
def flushL (pl : List Int) : List OpR := if pl = [] then [] else [⟨0, 0, pl⟩]
/-- what is made of the rest of the new image, so many plain bytes ahead of it -/
inductive Dif (old : List Int) : List Int → List Int → List OpR → Prop
  | done (pl : List Int) : Dif old [] pl (flushL pl)
  | copy (s pl : List Int) (i n : Nat) (out : List OpR) : MatchM.Best old s i n → 3 < n → Dif old (s.drop n) [] out → Dif old s pl (flushL pl ++ ⟨i, n, []⟩ :: out)
  | lit (x : Int) (t pl : List Int) (i n : Nat) (out : List OpR) : MatchM.Best old (x :: t) i n → n ≤ 3 → Dif old t (pl ++ [x]) out → Dif old (x :: t) pl out
theorem Dif.det {old s pl : List Int} {o o' : List OpR} (h : Dif old s pl o) (h' : Dif old s pl o') : o = o' := by
  induction h generalizing o' with
  | done pl =>
    cases h' with
    | done => rfl
    | copy _ _ i n out hb hn hr =>
      have := hb.room.2
      simp at this
      omega
  | copy s pl i n out hb hn hr ih =>
    cases h' with
    | done =>
      have := hb.room.2
      simp at this
      omega
    | copy _ _ i' n' out' hb' hn' hr' =>
      obtain ⟨rfl, rfl⟩ := hb.det hb'
      rw [ih hr']
    | lit x t _ i' n' out' hb' hn' hr' =>
      obtain ⟨rfl, rfl⟩ := hb.det hb'
      omega
  | lit x t pl i n out hb hn hr ih =>
    cases h' with
    | copy _ _ i' n' out' hb' hn' hr' =>
      obtain ⟨rfl, rfl⟩ := hb.det hb'
      omega
    | lit _ _ _ i' n' out' hb' hn' hr' => exact ih hr'
end DeltaM

theorem cell_blk {W : World} {g t : Nat} {v : Value} (h : W.heap[g]? = some (.cells #[v] t (0, 0))) : W.cell? ⟨g, 0, none⟩ = some v := by simp [World.cell?, h]
theorem frozen_blk {W : World} {g t : Nat} {v : Value} (h : W.heap[g]? = some (.cells #[v] t (0, 0))) : W.frozen? ⟨g, 0, none⟩ = false := by simp [World.frozen?, h]
theorem set_blk {W : World} {g t : Nat} {v : Value} (h : W.heap[g]? = some (.cells #[v] t (0, 0))) (u : Value) : (W.setCell ⟨g, 0, none⟩ u).heap[g]? = some (.cells #[u] t (0, 0)) := by simp [World.setCell, Array.getElem?_modify, h]
theorem lt_blk {W : World} {g : Nat} {o : Obj} (h : W.heap[g]? = some o) : g < W.heap.size := by
  rcases Nat.lt_or_ge g W.heap.size with hlt | hge
  · exact hlt
  · rw [Array.getElem?_eq_none hge] at h; cases h
theorem size_set (W : World) (p : Addr) (u : Value) : (W.setCell p u).heap.size = W.heap.size := by simp [World.setCell]

theorem OutSt.set {W : World} {base : Nat} {ex : Option Nat} {vo : Value} {out : List OpR} (h : OutSt W base ex vo out) {p : Addr} (hp : p.block < base) (u : Value) : OutSt (W.setCell p u) base ex vo out :=
  h.keep (by rw [size_set]; exact Nat.le_refl _) (fun k k1 _ k3 => ⟨Below.heap_setCell W p u k (by omega), k3⟩) (fun g hg => by rw [size_set]; exact (h.2 g hg).2)
theorem OutSt.noex {W : World} {base : Nat} {ex : Option Nat} {vo : Value} {out : List OpR} (h : OutSt W base ex vo out) : OutSt W base none vo out := by
  obtain ⟨⟨vs, h1, h2, h3⟩, -⟩ := h
  exact ⟨⟨vs, h1, h2, fun i hi => (h3 i hi).keep (Nat.le_refl _) (fun k _ _ k3 _ => ⟨rfl, k3, by simp⟩)⟩, fun g hg => by cases hg⟩
theorem own_set {w : World} {base e s n : Nat} {v : Value} {xs : List Value} (h : w.ownsRow base e s v n xs) {p : Addr} (hp : p.block < base) (u : Value) : (w.setCell p u).ownsRow base e s v n xs :=
  own_keep h (fun g hg => Below.heap_setCell w p u g (by have := (own_lt3 h hg).1; omega))

/-- the memory of Diffed: the block of 'out', the block of 'plain', what they hold -/
structure DSt (w0 : World) (B0 B1 : Nat) (vo vp : Value) (out : List OpR) (pl : List Int) (W : World) : Prop where
  c0 : W.heap[B0]? = some (.cells #[vo] 48 (0, 0))
  c1 : W.heap[B1]? = some (.cells #[vp] 27 (0, 0))
  o : OutSt W (B1 + 1) vp.ownBlock vo out
  p : W.ownsRow (B1 + 1) 5 1 vp pl.length (pl.map (Value.int .u8))
  below : Below w0.heap.size w0 W
  le0 : w0.heap.size ≤ B0
  le1 : B0 < B1
section
variable {w0 : World} {B0 B1 : Nat} {vo vp : Value} {out : List OpR} {pl : List Int} {W W' : World}
theorem DSt.later (h : DSt w0 B0 B1 vo vp out pl W) (hb : Below W.heap.size W W') : DSt w0 B0 B1 vo vp out pl W' :=
  ⟨(hb.block _ (lt_blk h.c0)).trans h.c0, (hb.block _ (lt_blk h.c1)).trans h.c1, h.o.later hb, own_later h.p hb, below_then h.below hb, h.le0, h.le1⟩
theorem DSt.drew (h : DSt w0 B0 B1 vo vp out pl W) : DSt w0 B0 B1 vo vp out pl W.drew := h.later (Below.refl _ _).drew
/-- 'plain' is set to nil -/
theorem DSt.clear_ (h : DSt w0 B0 B1 vo vp out pl W) : DSt w0 B0 B1 vo (.slice none 0 0) out [] (W.setCell ⟨B1, 0, none⟩ (.slice none 0 0)) :=
  ⟨(Below.heap_setCell W _ _ B0 (by have := h.le1; show B0 ≠ B1; omega)).trans h.c0, set_blk h.c1 _, h.o.noex.set (by show B1 < B1 + 1; omega) _, World.ownsRow_nil _ _ _ _,
    h.below.setCell (by show w0.heap.size ≤ B1; have := h.le0; have := h.le1; omega) _, h.le0, h.le1⟩
/-- one more plain byte -/
theorem DSt.plain (h : DSt w0 B0 B1 vo vp out pl W) {ad : Addr} {x : Int} (hs : BS W (some ad) 1 1 [x]) (hk : pl.length ≤ 1000) :
    ∃ g cap W5, (Builtin.append_ #[27, 27] 27 #[vp, .slice (some ad) 1 1]).run Try.prog W = .ok (.slice (some ⟨g, 0, none⟩) (pl.length + 1) cap) W5 ∧ W5.cell? ⟨B1, 0, none⟩ = some vp ∧ W5.frozen? ⟨B1, 0, none⟩ = false ∧
      Hid (DSt w0 B0 B1 vo (.slice (some ⟨g, 0, none⟩) (pl.length + 1) cap) out (pl ++ [x]) (W5.setCell ⟨B1, 0, none⟩ (.slice (some ⟨g, 0, none⟩) (pl.length + 1) cap))) := by
  obtain ⟨i0, hi, hz0, hz1, hz2⟩ := info_parts Try.info_u8
  have hlt1 := lt_blk h.c1
  obtain ⟨g, cap, W5, hr, ho, hg, hlies, hlt⟩ := run_append_lies (P := Try.prog) W 27 27 (B1 + 1) 5 i0 _ 1 1 Try.underlying27 hi hz0 hz1 hz2 rfl (by decide) vp pl.length _ h.p ad 1 1 ([x].map (Value.int .u8))
    rfl hs.news (oneCell_u8 _) (by omega) (by unfold maxLen; omega) (by omega) (by omega) W.heap.size rfl
  have far : ∀ k, k < B1 + 1 → some k ≠ vp.ownBlock := by
    intro k hk2 e
    have := (own_lt3 h.p e.symm).1
    omega
  have e0 := (hg.block B0 (lt_blk h.c0) (far _ (by have := h.le1; omega))).trans h.c0
  have e1 := (hg.block B1 hlt1 (far _ (by omega))).trans h.c1
  have hO : OutSt W5 (B1 + 1) (some g) vo out := by
    refine h.o.keep hg.size (fun k k1 k2 k3 => ⟨hg.block k k2 k3, ?_⟩) (fun g' hg' => by injection hg' with hg'; omega)
    intro e
    injection e with e
    subst e
    rcases hlies with hl | hl
    · exact k3 hl.symm
    · omega
  refine ⟨g, cap, W5, hr, cell_blk e1, frozen_blk e1, ?_⟩
  have hB5 := h.below.grown hg h.below.size (fun g' hg' => by have := (own_lt3 h.p hg').1; have := h.le0; have := h.le1; omega)
  refine ⟨(Below.heap_setCell W5 _ _ B0 (by have := h.le1; show B0 ≠ B1; omega)).trans e0, set_blk e1 _, hO.set (by show B1 < B1 + 1; omega) _, ?_, hB5.setCell (by show w0.heap.size ≤ B1; have := h.le0; have := h.le1; omega) _, h.le0, h.le1⟩
  have := own_set ho (show (⟨B1, 0, none⟩ : Addr).block < B1 + 1 by show B1 < B1 + 1; omega) (.slice (some ⟨g, 0, none⟩) (pl.length + 1) cap)
  simpa using this
/-- one more step that copies, 'plain' being nil -/
theorem DSt.copy (h : DSt w0 B0 B1 vo (.slice none 0 0) out [] W) (A L : Int) (hA : I64 A) (hL : I64 L) (hk : out.length ≤ 1000) :
    ∃ g cap W5, (Builtin.append_ #[48, 48] 48 #[vo, .slice (some ⟨W.heap.size, 0, none⟩) 1 1]).run Try.prog (W.alloc (.cells #[.int .i64 A, .int .i64 L, .slice none 0 0] 56)) = .ok (.slice (some ⟨g, 0, none⟩) (out.length + 1) cap) W5 ∧
      W5.cell? ⟨B0, 0, none⟩ = some vo ∧ W5.frozen? ⟨B0, 0, none⟩ = false ∧
      Hid (DSt w0 B0 B1 (.slice (some ⟨g, 0, none⟩) (out.length + 1) cap) (.slice none 0 0) (out ++ [⟨A, L, []⟩]) [] (W5.setCell ⟨B0, 0, none⟩ (.slice (some ⟨g, 0, none⟩) (out.length + 1) cap))) := by
  have hl0 := lt_blk h.c0
  have hl1 := lt_blk h.c1
  have hle1 := h.le1
  have hbl : Below W.heap.size W (W.alloc (.cells #[.int .i64 A, .int .i64 L, .slice none 0 0] 56)) := (Below.refl _ _).alloc (Nat.le_refl _) _
  have h2 := h.later hbl
  obtain ⟨g, cap, W5, hr, hO, hg, hlies⟩ := h2.o.app (B := W.heap.size) (A := A) (L := L) (a := none) (n := 0) (c := 0) (d := []) (by rw [heap_at, if_pos rfl]) (BS.nil_ _) (fun p hp => by cases hp) hA hL hk (by have := hbl.size; omega)
  have far : ∀ k, k < B1 + 1 → some k ≠ vo.ownBlock := by
    intro k hk2 e
    obtain ⟨⟨vs, _, q, _⟩, _⟩ := h.o
    have := (own_lt3 q e.symm).1
    omega
  have hsz := hbl.size
  have e0 := (hg.block B0 (by omega) (far _ (by omega))).trans h2.c0
  have e1 := (hg.block B1 (by omega) (far _ (by omega))).trans h2.c1
  refine ⟨g, cap, W5, hr, cell_blk e0, frozen_blk e0, ?_⟩
  have hB5 := h2.below.grown hg h2.below.size (fun g' hg' => by
    obtain ⟨⟨vs, _, q, _⟩, _⟩ := h.o
    have := (own_lt3 q hg').1
    have := h.le0
    omega)
  exact ⟨set_blk e0 _, (Below.heap_setCell W5 _ _ B1 (by show B1 ≠ B0; omega)).trans e1, hO.set (by show B0 < B1 + 1; omega) _, World.ownsRow_nil _ _ _ _, hB5.setCell (by show w0.heap.size ≤ B0; exact h.le0) _, h.le0, h.le1⟩
/-- the plain bytes become a step, 'plain' nil -/
theorem DSt.flush (h : DSt w0 B0 B1 vo vp out pl W) (hb : ∀ x ∈ pl, 0 ≤ x ∧ x ≤ 255) (hk : out.length ≤ 1000) :
    ∃ g cap W5, (Builtin.append_ #[48, 48] 48 #[vo, .slice (some ⟨W.heap.size, 0, none⟩) 1 1]).run Try.prog (W.alloc (.cells #[.int .i64 0, .int .i64 0, vp] 56)) = .ok (.slice (some ⟨g, 0, none⟩) (out.length + 1) cap) W5 ∧
      W5.cell? ⟨B0, 0, none⟩ = some vo ∧ W5.frozen? ⟨B0, 0, none⟩ = false ∧ (W5.setCell ⟨B0, 0, none⟩ (.slice (some ⟨g, 0, none⟩) (out.length + 1) cap)).cell? ⟨B1, 0, none⟩ = some vp ∧ (W5.setCell ⟨B0, 0, none⟩ (.slice (some ⟨g, 0, none⟩) (out.length + 1) cap)).frozen? ⟨B1, 0, none⟩ = false ∧
      Hid (DSt w0 B0 B1 (.slice (some ⟨g, 0, none⟩) (out.length + 1) cap) (.slice none 0 0) (out ++ [⟨0, 0, pl⟩]) [] ((W5.setCell ⟨B0, 0, none⟩ (.slice (some ⟨g, 0, none⟩) (out.length + 1) cap)).setCell ⟨B1, 0, none⟩ (.slice none 0 0))) := by
  have hl0 := lt_blk h.c0
  have hl1 := lt_blk h.c1
  have hle1 := h.le1
  have hbl : Below W.heap.size W (W.alloc (.cells #[.int .i64 0, .int .i64 0, vp] 56)) := (Below.refl _ _).alloc (Nat.le_refl _) _
  have h2 := h.later hbl
  obtain ⟨a, c, rfl⟩ : ∃ a c, vp = .slice a pl.length c := by
    rcases h.p.2 with ⟨q1, q2⟩ | ⟨g, cap, cur, q1, _⟩
    · exact ⟨none, 0, by rw [q1, q2]⟩
    · exact ⟨_, _, q1⟩
  have hbs := BS.of_own h2.p hb
  obtain ⟨g, cap, W5, hr, hO, hg, hlies⟩ := h2.o.noex.app (B := W.heap.size) (A := 0) (L := 0) (a := a) (n := pl.length) (c := c) (d := pl) (by rw [heap_at, if_pos rfl]) hbs (fun p hp => by
    subst hp
    have q := own_lt3 h2.p (g := p.block) rfl
    exact ⟨q.1, q.2, fun e => (h2.o.2 p.block rfl).1 e.symm, by simp⟩) (by unfold I64; omega) (by unfold I64; omega) hk (by have := hbl.size; omega)
  have far : ∀ k, k < B1 + 1 → some k ≠ vo.ownBlock := by
    intro k hk2 e
    obtain ⟨⟨vs, _, q, _⟩, _⟩ := h.o
    have := (own_lt3 q e.symm).1
    omega
  have hsz := hbl.size
  have e0 := (hg.block B0 (by omega) (far _ (by omega))).trans h2.c0
  have e1 := (hg.block B1 (by omega) (far _ (by omega))).trans h2.c1
  have e1' := (Below.heap_setCell W5 ⟨B0, 0, none⟩ (.slice (some ⟨g, 0, none⟩) (out.length + 1) cap) B1 (by show B1 ≠ B0; omega)).trans e1
  refine ⟨g, cap, W5, hr, cell_blk e0, frozen_blk e0, cell_blk e1', frozen_blk e1', ?_⟩
  have hB5 := h2.below.grown hg h2.below.size (fun g' hg' => by
    obtain ⟨⟨vs, _, q, _⟩, _⟩ := h.o
    have := (own_lt3 q hg').1
    have := h.le0
    omega)
  have hB6 := hB5.setCell (p := ⟨B0, 0, none⟩) (by show w0.heap.size ≤ B0; exact h.le0) (.slice (some ⟨g, 0, none⟩) (out.length + 1) cap)
  refine ⟨(Below.heap_setCell _ _ _ B0 (by show B0 ≠ B1; omega)).trans (set_blk e0 _), set_blk e1' _, (hO.set (by show B0 < B1 + 1; omega) _).set (by show B1 < B1 + 1; omega) _, World.ownsRow_nil _ _ _ _, hB6.setCell (by show w0.heap.size ≤ B1; have := h.le0; omega) _, h.le0, h.le1⟩
end
end Go.Proofs.Ytmpmaljkmfgagaa
