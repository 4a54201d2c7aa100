/-
  Bytes that a call makes beside a step's own block.
-/
import Derived.Test.YtmpmaljkmfgagaaDeltaRes
import Derived.Maps.AppendAt
namespace Go.Proofs.Ytmpmaljkmfgagaa
open Go.RowKit

/-- append(v, s...) onto a row of the call's own: where the new row lies -/
theorem app_lies {w : World} {base : Nat} {v : Value} {n : Nat} {l : List Int} (hown : w.ownsRow base 5 1 v n (l.map (Value.int .u8)))
    {a : Option Addr} {m c : Nat} {l' : List Int} (hs : BS w a m c l') (hb : n + m ≤ 140737488355328) (hbase : base ≤ w.heap.size) :
    ∃ a' c' w', (Builtin.append_ #[27, 27] 27 #[v, .slice a m c]).run Try.prog w = .ok (.slice a' (n + m) c') w' ∧
      w'.ownsRow base 5 1 (.slice a' (n + m) c') (n + m) ((l ++ l').map (Value.int .u8)) ∧ w.grownBy w' v.ownBlock ∧ ((Value.slice a' (n + m) c').ownBlock = v.ownBlock ∨ (Value.slice a' (n + m) c').ownBlock = some w.heap.size) := by
  obtain ⟨i0, hi, hz0, hz1, hz2⟩ := info_parts Try.info_u8
  suffices h : ∃ v' w', (Builtin.append_ #[27, 27] 27 #[v, .slice a m c]).run Try.prog w = .ok v' w' ∧
      w'.ownsRow base 5 1 v' (n + m) ((l ++ l').map (Value.int .u8)) ∧ w.grownBy w' v.ownBlock ∧ (v'.ownBlock = v.ownBlock ∨ v'.ownBlock = some w.heap.size) by
    obtain ⟨v', w', hr, ho, hg, hl⟩ := h
    obtain ⟨a', c', rfl⟩ : ∃ a' c', v' = .slice a' (n + m) c' := by
      rcases ho.2 with ⟨h1, h2⟩ | ⟨g, cap, cur, h1, _⟩
      · exact ⟨none, 0, by rw [h1, h2]⟩
      · exact ⟨_, _, h1⟩
    exact ⟨a', c', w', hr, ho, hg, hl⟩
  cases a with
  | none =>
    have hc := hs.none_ rfl
    subst hc
    obtain rfl : m = 0 := by have := hs.le; omega
    obtain rfl : l' = [] := List.eq_nil_of_length_eq_zero hs.len
    exact ⟨v, w, run_append_owned_none w base 27 _ 5 i0 1 Try.underlying27 hi v n _ hown, by simpa using hown, World.grownBy.refl w _, .inl rfl⟩
  | some ad =>
    obtain ⟨v', w', hr, ho, hg, _, hl⟩ := run_append_own_at (P := Try.prog) w base 27 27 5 i0 _ 1 1 Try.underlying27 hi hz0 hz1 hz2 rfl (by decide) v n _ hown ad m c (l'.map (Value.int .u8))
      (by simpa using hs.len) hs.news (oneCell_u8 _) (by unfold maxLen; omega) (by omega) hbase
    exact ⟨v', w', hr, by simpa using ho, hg, hl⟩

/-- the memory of Applied in a round: the step's own block, and what is made -/
structure ASt (w : World) (B : Nat) (cs : Array Value) (vo : Value) (outl : List Int) (W : World) : Prop where
  cb : W.heap[B]? = some (.cells cs 56 (0, 0))
  own : W.ownsRow w.heap.size 5 1 vo outl.length (outl.map (Value.int .u8))
  ne : vo.ownBlock ≠ some B
  below : Below w.heap.size w W
  le : w.heap.size ≤ B
section
variable {w : World} {B : Nat} {cs : Array Value} {vo : Value} {outl : List Int} {W W' : World}
theorem ASt.later (h : ASt w B cs vo outl W) (hb : Below W.heap.size W W') : ASt w B cs vo outl W' :=
  ⟨(hb.block _ (lt_blk h.cb)).trans h.cb, own_later h.own hb, h.ne, below_then h.below hb, h.le⟩
theorem ASt.app (h : ASt w B cs vo outl W) {a : Option Addr} {m c : Nat} {l' : List Int} (hs : BS W a m c l') (hm : m ≤ 1000) (hk : outl.length ≤ 1000) :
    ∃ a5 c5 W5, (Builtin.append_ #[27, 27] 27 #[vo, .slice a m c]).run Try.prog W = .ok (.slice a5 (outl.length + m) c5) W5 ∧ Hid (ASt w B cs (.slice a5 (outl.length + m) c5) (outl ++ l') W5) := by
  obtain ⟨a5, c5, W5, hr, ho, hg, hl⟩ := app_lies h.own hs (by omega) h.below.size
  have hlt := lt_blk h.cb
  refine ⟨a5, c5, W5, hr, (hg.block B hlt (fun e => h.ne e.symm)).trans h.cb, ?_, ?_, h.below.grown hg h.below.size (fun g hg' => (own_lt3 h.own hg').1), h.le⟩
  · rw [List.length_append, hs.len]
    exact ho
  · intro e
    rcases hl with hl | hl
    · exact h.ne (hl.symm.trans e)
    · rw [hl] at e
      injection e with e
      omega
end
theorem cells_blk {W : World} {B : Nat} {v0 v1 v2 : Value} (h : W.heap[B]? = some (.cells #[v0, v1, v2] 56 (0, 0))) : W.cell? ⟨B, 0, none⟩ = some v0 ∧ W.cell? ⟨B, 1, none⟩ = some v1 ∧ W.cell? ⟨B, 2, none⟩ = some v2 := by
  simp [World.cell?, h]
theorem one_lit (W : World) (x : Int) (hx : 0 ≤ x ∧ x ≤ 255) : BS (W.alloc (.cells #[.int .u8 x] 5)) (some ⟨W.heap.size, 0, none⟩) 1 1 [x] := by
  refine ⟨rfl, Nat.le_refl _, by omega, by simpa using hx, fun _ => ⟨W.heap.size, 0, rfl, fun i hi => ?_⟩, fun h => by cases h⟩
  obtain rfl : i = 0 := by omega
  simp only [World.cell?, Nat.add_zero, heap_at, if_pos]
  simp
end Go.Proofs.Ytmpmaljkmfgagaa
