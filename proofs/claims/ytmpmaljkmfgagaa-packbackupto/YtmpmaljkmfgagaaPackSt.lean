/-
  What pack.Pack keeps in memory (the bytes, what is made, where the literals begin), and the contract of its closure.
-/
import Derived.Test.YtmpmaljkmfgagaaPacked
import Derived.Test.YtmpmaljkmfgagaaRunLen
import Derived.Test.YtmpmaljkmfgagaaStep
import Derived.Deep.RegionLaw
namespace Go.Proofs.Ytmpmaljkmfgagaa
open Go.RowKit

structure PSt (w0 : World) (B0 B1 B2 : Nat) (a : Option Addr) (n c fr : Nat) (a' : Option Addr) (k c' : Nat) (outl : List Int) (W : World) : Prop where
  c0 : W.heap[B0]? = some (.cells #[.slice a n c] 27 (0, 0))
  c1 : W.heap[B1]? = some (.cells #[.slice a' k c'] 27 (0, 0))
  c2 : W.heap[B2]? = some (.cells #[.int .i64 (fr : Int)] 3 (0, 0))
  own : W.ownsRow (B2 + 1) 5 1 (.slice a' k c') k (outl.map (Value.int .u8))
  below : Below w0.heap.size w0 W
  le0 : w0.heap.size ≤ B0
  le1 : B0 < B1
  le2 : B1 < B2

theorem blk_cell {W : World} {g t : Nat} {v : Value} (h : W.heap[g]? = some (.cells #[v] t (0, 0))) : W.cell? ⟨g, 0, none⟩ = some v := by simp [World.cell?, h]
theorem blk_frozen {W : World} {g t : Nat} {v : Value} (h : W.heap[g]? = some (.cells #[v] t (0, 0))) : W.frozen? ⟨g, 0, none⟩ = false := by simp [World.frozen?, h]
theorem blk_set {W : World} {g t : Nat} {v : Value} (h : W.heap[g]? = some (.cells #[v] t (0, 0))) (u : Value) : (W.setCell ⟨g, 0, none⟩ u).heap[g]? = some (.cells #[u] t (0, 0)) := by simp [World.setCell, Array.getElem?_modify, h]
theorem blk_lt {W : World} {g t : Nat} {v : Value} (h : W.heap[g]? = some (.cells #[v] t (0, 0))) : g < W.heap.size := by
  rcases Nat.lt_or_ge g W.heap.size with hlt | hge
  · exact hlt
  · rw [Array.getElem?_eq_none hge] at h; cases h
theorem own_far {w : World} {base e n : Nat} {v : Value} {xs : List Value} (h : w.ownsRow base e 1 v n xs) {p : Addr} (hp : p.block < base) (u : Value) : (w.setCell p u).ownsRow base e 1 v n xs := by
  refine ⟨h.1, ?_⟩
  rcases h.2 with h2 | ⟨g, cap, cur, h2, h3, h4, h5⟩
  · exact .inl h2
  · refine .inr ⟨g, cap, cur, h2, h3, ?_, h5⟩
    rw [Below.heap_setCell w p u g (by omega)]
    exact h4

section
variable {w0 : World} {B0 B1 B2 : Nat} {a : Option Addr} {n c fr : Nat} {a' : Option Addr} {k c' : Nat} {outl : List Int} {W W' : World}
theorem PSt.later (h : PSt w0 B0 B1 B2 a n c fr a' k c' outl W) (hb : Below W.heap.size W W') : PSt w0 B0 B1 B2 a n c fr a' k c' outl W' :=
  ⟨(hb.block _ (blk_lt h.c0)).trans h.c0, (hb.block _ (blk_lt h.c1)).trans h.c1, (hb.block _ (blk_lt h.c2)).trans h.c2, own_later h.own hb, below_then h.below hb, h.le0, h.le1, h.le2⟩
theorem PSt.drew (h : PSt w0 B0 B1 B2 a n c fr a' k c' outl W) : PSt w0 B0 B1 B2 a n c fr a' k c' outl W.drew := h.later (Below.refl _ _).drew
theorem PSt.from_ (h : PSt w0 B0 B1 B2 a n c fr a' k c' outl W) (t : Nat) : PSt w0 B0 B1 B2 a n c t a' k c' outl (W.setCell ⟨B2, 0, none⟩ (.int .i64 (t : Int))) :=
  ⟨(Below.heap_setCell W _ _ B0 (by have := h.le1; have := h.le2; show B0 ≠ B2; omega)).trans h.c0, (Below.heap_setCell W _ _ B1 (by have := h.le2; show B1 ≠ B2; omega)).trans h.c1, blk_set h.c2 _,
    own_far h.own (by show B2 < B2 + 1; omega) _, h.below.setCell (by show w0.heap.size ≤ B2; have := h.le0; have := h.le1; have := h.le2; omega) _, h.le0, h.le1, h.le2⟩
/-- append onto what is made, and the store of it -/
theorem PSt.app (h : PSt w0 B0 B1 B2 a n c fr a' k c' outl W) {A : Option Addr} {m C : Nat} {l' : List Int} (hs : BS W A m C l') (hm : m ≤ 4194304) (hk : k ≤ 16777216) :
    ∃ a5 c5 W5, (Builtin.append_ #[27, 27] 27 #[.slice a' k c', .slice A m C]).run Try.prog W = .ok (.slice a5 (k + m) c5) W5 ∧ W5.cell? ⟨B1, 0, none⟩ = some (.slice a' k c') ∧ W5.frozen? ⟨B1, 0, none⟩ = false ∧
      Hid (PSt w0 B0 B1 B2 a n c fr a5 (k + m) c5 (outl ++ l') (W5.setCell ⟨B1, 0, none⟩ (.slice a5 (k + m) c5))) := by
  obtain ⟨a5, c5, W5, hr, ho, hg⟩ := app_run h.own hs (by omega) (by have := blk_lt h.c2; omega)
  have hfar : ∀ g, g ≤ B2 → some g ≠ (Value.slice a' k c').ownBlock := by
    intro g hg he
    have := (h.own.lt g he.symm).1
    omega
  have e0 := (hg.block B0 (blk_lt h.c0) (hfar _ (by have := h.le1; have := h.le2; omega))).trans h.c0
  have e1 := (hg.block B1 (blk_lt h.c1) (hfar _ (by have := h.le2; omega))).trans h.c1
  have e2 := (hg.block B2 (blk_lt h.c2) (hfar _ (by omega))).trans h.c2
  have hB5 := h.below.grown hg h.below.size (fun g hg => by have := (h.own.lt g hg).1; have := h.le0; have := h.le1; have := h.le2; omega)
  refine ⟨a5, c5, W5, hr, blk_cell e1, blk_frozen e1, ?_⟩
  exact ⟨(Below.heap_setCell W5 _ _ B0 (by have := h.le1; show B0 ≠ B1; omega)).trans e0, blk_set e1 _, (Below.heap_setCell W5 _ _ B2 (by have := h.le2; show B2 ≠ B1; omega)).trans e2,
    own_far ho (by show B1 < B2 + 1; have := h.le2; omega) _, hB5.setCell (by show w0.heap.size ≤ B1; have := h.le0; have := h.le1; omega) _, h.le0, h.le1, h.le2⟩
end

/-- the literals from one place to another one, as they are written -/
def litW (l : List Int) (fr t : Nat) : List Int := if fr < t then (((t - fr : Nat) : Int)) :: (l.drop fr).take (t - fr) else []
/-- a call that writes the literals -/
def FlushTo (w0 : World) (B0 B1 B2 : Nat) (a : Option Addr) (n c : Nat) (l : List Int) (fr t : Nat) (outl : List Int) (e : Ending) (W' : World) : Prop :=
  e = .returned (.tuple #[]) ∧ ∃ a5 k5 c5, PSt w0 B0 B1 B2 a n c t a5 k5 c5 (outl ++ litW l fr t) W'

set_option maxRecDepth 100000 in
set_option maxHeartbeats 1000000 in
theorem flush_any {w0 : World} {B0 B1 B2 : Nat} {a : Option Addr} {n c fr : Nat} {a' : Option Addr} {k c' : Nat} {outl l : List Int} {W : World} (t : Nat) (h : PSt w0 B0 B1 B2 a n c fr a' k c' outl W) (hl : BS w0 a n c l)
    (hft : fr ≤ t) (htn : t ≤ n) (h127 : t ≤ fr + 127) (hk : k ≤ 8388608) :
    Calls Try.prog 51 #[.int .i64 (t : Int), .pointer (some ⟨B2, 0, none⟩), .pointer (some ⟨B1, 0, none⟩), .pointer (some ⟨B0, 0, none⟩)] W (FlushTo w0 B0 B1 B2 a n c l fr t outl) := by
  have k2 := blk_cell h.c2
  have f2 := blk_frozen h.c2
  have k1 := blk_cell h.c1
  have f1 := blk_frozen h.c1
  have k0 := blk_cell h.c0
  have HH := Lib.hid h
  by_cases hlt : fr < t
  · obtain ⟨D, hD⟩ : ∃ D : Nat, (t : Int) - (fr : Int) = D := ⟨t - fr, by omega⟩
    have hD2 : D ≤ 127 := by omega
    have hDe : t - fr = D := by omega
    have HDe := Lib.hid hDe
    clear hDe
    have hBa : Below W.heap.size W (W.alloc (.cells #[.int .u8 (D : Int)] 5)) := (Below.refl _ _).alloc (Nat.le_refl _) _
    obtain ⟨a5, c5, W5, hrun1, k5, f5, HS5⟩ := (h.later hBa).app (one_bs W (D : Int) (by omega)) (by omega) (by omega)
    clear hBa h
    go_enter Try.func51, Try.ntmps51
    go_wp2_with (at_builtin; refine Lib.wpList_append_run _ rfl _ _ _ _ rfl _ _ rfl rfl _ _ hrun1 ?_)
    generalize W5.setCell ⟨B1, 0, none⟩ (.slice a5 (k + 1) c5) = W6 at HS5 ⊢
    clear k5 f5 hrun1 W5 k0 k1 k2 f1 f2 HH
    have k2 := blk_cell HS5.out.c2
    have k1 := blk_cell HS5.out.c1
    have k0 := blk_cell HS5.out.c0
    have hlD := hl.len
    have hlc := hl.le
    have hsrc := ((hl.mid fr t hft htn).later HS5.out.drew.below)
    have hcut : ∀ W, (Instr.slice 27 (.slice a n c) (some (.int .i64 fr)) (some (.int .i64 t)) none).run Try.prog W = .ok (.slice (cutA a c fr) (t - fr) (c - fr)) W := fun W => run_cut_lh a n c W fr t hft (by omega)
    rw [HDe.out] at hsrc
    simp only [HDe.out] at hcut
    clear hlD hlc hD
    generalize cutA a c fr = A3 at hcut hsrc
    generalize c - fr = C3 at hcut hsrc
    obtain ⟨a7, c7, W7, hrun2, k7, f7, HS7⟩ := HS5.out.drew.app hsrc (by omega) (by omega)
    clear hsrc
    go_region_law (refine step_append_run rfl (.tmp 15) (.tmp 19) 27 27 rfl (.slice a5 (k + 1) c5) (.slice A3 D C3) (by simp [Act.eval, Act.put]) (by simp [Act.eval, Act.put]) _ _ hrun2 ?_)
    all_goals
      generalize W7.setCell ⟨B1, 0, none⟩ (.slice a7 (k + 1 + D) c7) = W8 at HS7 ⊢
      clear k7 f7 hrun2 W7 k0 k1 k2
      have k2 := blk_cell HS7.out.c2
      have f2 := blk_frozen HS7.out.c2
      go_wp2
      go_end0
      refine ⟨rfl, a7, k + 1 + D, c7, ?_⟩
      rw [litW, if_pos hlt, HDe.out]
      have := HS7.out.from_ t
      simpa using this
  · obtain rfl : fr = t := by omega
    go_enter Try.func51, Try.ntmps51
    go_wp2
    go_end0
    exact ⟨rfl, a', k, c', by rw [litW, if_neg (Nat.lt_irrefl _), List.append_nil]; exact HH.out.from_ _⟩
end Go.Proofs.Ytmpmaljkmfgagaa
