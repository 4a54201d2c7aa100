/-
  The two rows of the reference's Composed: of each byte of the intermediate image where it comes from.
-/
import Derived.Test.YtmpmaljkmfgagaaCompMath2
import Derived.Test.YtmpmaljkmfgagaaDiffSt
namespace Go.Proofs.Ytmpmaljkmfgagaa
open Go.RowKit

theorem Try.info_int : (Try.prog.info? 3).map (fun i => (i.zero, i.size, i.bytes)) = some (some (.int .i64 0), 1, 8) := by kernel_rfl

structure RSt (w : World) (vf vd : Value) (m : List (Int × Int)) (W : World) : Prop where
  f : W.ownsRow w.heap.size 3 1 vf m.length (m.map fun s => Value.int .i64 s.1)
  d : W.ownsRow w.heap.size 5 1 vd m.length (m.map fun s => Value.int .u8 s.2)
  fd : ∀ g, vf.ownBlock = some g → vd.ownBlock ≠ some g
  below : Below w.heap.size w W
theorem RSt.start {w W : World} (h : Below w.heap.size w W) : RSt w (.slice none 0 0) (.slice none 0 0) [] W :=
  ⟨World.ownsRow_nil _ _ _ _, World.ownsRow_nil _ _ _ _, fun g hg => by simp [Value.ownBlock] at hg, h⟩
section
variable {w : World} {vf vd : Value} {m : List (Int × Int)} {W W' : World}
theorem RSt.later (h : RSt w vf vd m W) (hb : Below W.heap.size W W') : RSt w vf vd m W' :=
  ⟨own_later h.f hb, own_later h.d hb, h.fd, below_then h.below hb⟩
theorem one_cell {W : World} {B t : Nat} {v : Value} (hB : W.heap[B]? = some (.cells #[v] t (0, 0))) : ∀ j u, [v][j]? = some u → W.cell? ((⟨B, 0, none⟩ : Addr).add j) = some u := by
  have := World.news_of_block hB
  simpa using this
/-- one source more -/
theorem RSt.push (h : RSt w vf vd m W) (p x : Int) (hk : m.length ≤ 1000) :
    ∃ g1 c1 W5 g2 c2 W8, (Builtin.append_ #[24, 24] 24 #[vf, .slice (some ⟨W.heap.size, 0, none⟩) 1 1]).run Try.prog (W.alloc (.cells #[.int .i64 p] 3)) = .ok (.slice (some ⟨g1, 0, none⟩) (m.length + 1) c1) W5 ∧
      (Builtin.append_ #[27, 27] 27 #[vd, .slice (some ⟨W5.heap.size, 0, none⟩) 1 1]).run Try.prog (W5.alloc (.cells #[.int .u8 x] 5)) = .ok (.slice (some ⟨g2, 0, none⟩) (m.length + 1) c2) W8 ∧
      Hid (RSt w (.slice (some ⟨g1, 0, none⟩) (m.length + 1) c1) (.slice (some ⟨g2, 0, none⟩) (m.length + 1) c2) (m ++ [(p, x)]) W8 ∧
        ∀ k, k < W.heap.size → some k ≠ vf.ownBlock → some k ≠ vd.ownBlock → W8.heap[k]? = W.heap[k]? ∧ k ≠ g1 ∧ k ≠ g2) := by
  obtain ⟨i0, hi, hz0, hz1, hz2⟩ := info_parts Try.info_int
  obtain ⟨i1, hi1, hy0, hy1, hy2⟩ := info_parts Try.info_u8
  have hb1 : Below W.heap.size W (W.alloc (.cells #[.int .i64 p] 3)) := (Below.refl _ _).alloc (Nat.le_refl _) _
  have h1 := h.later hb1
  have e1 : (W.alloc (.cells #[.int .i64 p] 3)).heap.size = W.heap.size + 1 := by simp
  have hl1 : (W.alloc (.cells #[.int .i64 p] 3)).heap[W.heap.size]? = some (.cells #[.int .i64 p] 3 (0, 0)) := by rw [heap_at, if_pos rfl]
  generalize W.alloc (.cells #[.int .i64 p] 3) = W1 at hb1 h1 e1 hl1 ⊢
  obtain ⟨g1, c1, W5, hr1, ho1, hg1, hlies1, hlt1⟩ := run_append_lies (P := Try.prog) W1 24 24 w.heap.size 3 i0 _ 1 8 Try.underlying24 hi hz0 hz1 hz2 rfl (by decide) vf m.length _ h1.f ⟨W.heap.size, 0, none⟩ 1 1 [.int .i64 p]
    rfl (one_cell hl1) (by intro u hu; simp at hu; subst hu; rfl) (by omega) (by unfold maxLen; omega) (by omega) h1.below.size W1.heap.size rfl
  have hd5 : W5.ownsRow w.heap.size 5 1 vd m.length (m.map fun s => Value.int .u8 s.2) := own_keep h1.d (fun g hg => hg1.block g (own_lt3 h1.d hg).2 (fun e => h.fd g e.symm hg))
  have hB5 := h1.below.grown hg1 h1.below.size (fun g' hg' => (own_lt3 h1.f hg').1)
  have hb2 : Below W5.heap.size W5 (W5.alloc (.cells #[.int .u8 x] 5)) := (Below.refl _ _).alloc (Nat.le_refl _) _
  have e2 : (W5.alloc (.cells #[.int .u8 x] 5)).heap.size = W5.heap.size + 1 := by simp
  have hl2 : (W5.alloc (.cells #[.int .u8 x] 5)).heap[W5.heap.size]? = some (.cells #[.int .u8 x] 5 (0, 0)) := by rw [heap_at, if_pos rfl]
  obtain ⟨W6, hW6⟩ : ∃ W6, W5.alloc (.cells #[.int .u8 x] 5) = W6 := ⟨_, rfl⟩
  rw [hW6] at hb2 e2 hl2
  have hd6 := own_later hd5 hb2
  have hB6 := below_then hB5 hb2
  obtain ⟨g2, c2, W8, hr2, ho2, hg2, hlies2, hlt2⟩ := run_append_lies (P := Try.prog) W6 27 27 w.heap.size 5 i1 _ 1 1 Try.underlying27 hi1 hy0 hy1 hy2 rfl (by decide) vd m.length _ hd6 ⟨W5.heap.size, 0, none⟩ 1 1 [.int .u8 x]
    rfl (one_cell hl2) (by intro u hu; simp at hu; subst hu; rfl) (by omega) (by unfold maxLen; omega) (by omega) hB6.size W6.heap.size rfl
  have hg1d : vd.ownBlock ≠ some g1 := by
    intro e
    rcases hlies1 with hl | hl
    · exact h.fd g1 hl e
    · have := (own_lt3 h1.d e).2
      omega
  have hne : g2 ≠ g1 := by
    rintro rfl
    rcases hlies2 with hl | hl
    · exact hg1d hl
    · omega
  have hsz1 := hg1.size
  refine ⟨g1, c1, W5, g2, c2, W8, hr1, by rw [hW6]; exact hr2, ⟨?_, ?_, fun g hg e => ?_, ?_⟩, fun k k1 k2 k3 => ⟨?_, ?_, ?_⟩⟩
  · have := own_keep (own_later ho1 hb2) (w' := W8) (fun g hg => by
      simp only [Value.ownBlock] at hg
      injection hg with hg
      subst hg
      exact hg2.block g1 (by omega) (fun e => hg1d e.symm))
    simpa using this
  · simpa using ho2
  · simp only [Value.ownBlock] at hg e
    injection hg with hg
    injection e with e
    exact hne (by rw [e, ← hg])
  · exact hB6.grown hg2 hB6.size (fun g' hg' => (own_lt3 hd6 hg').1)
  · rw [hg2.block k (by omega) k3, hb2.block k (by omega), hg1.block k (by omega) k2, hb1.block k k1]
  · rintro rfl
    rcases hlies1 with hl | hl
    · exact k2 hl.symm
    · omega
  · rintro rfl
    rcases hlies2 with hl | hl
    · exact k3 hl.symm
    · omega
/-- the rows' cells -/
theorem RSt.cells (h : RSt w vf vd m W) (hp : 0 < m.length) : ∃ g1 c1 g2 c2, vf = .slice (some ⟨g1, 0, none⟩) m.length c1 ∧ vd = .slice (some ⟨g2, 0, none⟩) m.length c2 ∧
    ∀ i, i < m.length → W.cell? ⟨g1, i, none⟩ = some (.int .i64 (m.getD i (0, 0)).1) ∧ W.cell? ⟨g2, i, none⟩ = some (.int .u8 (m.getD i (0, 0)).2) := by
  obtain ⟨g1, c1, rfl, _, _⟩ := h.f.form hp
  obtain ⟨g2, c2, rfl, _, _⟩ := h.d.form hp
  refine ⟨g1, c1, g2, c2, rfl, rfl, fun i hi => ?_⟩
  have q1 := h.f.cellAt i (by omega)
  have q2 := h.d.cellAt i (by omega)
  rw [List.getElem?_map, List.getElem?_eq_getElem hi, Option.map_some] at q1 q2
  simp only [List.getD_eq_getElem?_getD, List.getElem?_eq_getElem hi, Option.getD_some]
  exact ⟨q1, q2⟩
end
end Go.Proofs.Ytmpmaljkmfgagaa
