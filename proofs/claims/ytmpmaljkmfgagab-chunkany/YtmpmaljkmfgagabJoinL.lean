/-
  What Join's walks stand on: a patch stored, bytes apart from it, the bytes of chunks.
-/
import Derived.Test.YtmpmaljkmfgagabChunkC
import Derived.Test.YtmpmaljkmfgagabRowToOpenN
namespace Go.Proofs.Ytmpmaljkmfgagab
open Go.RowKit

/-- a patch stored into a block that is new -/
theorem six_set {w W : World} {B : Nat} {v0 v1 v2 v3 v4 v5 : Value} (hB : W.heap[B]? = some (.cells #[v0, v1, v2, v3, v4, v5] 41 (0, 0))) (hb : Below w.heap.size w W) (hle : w.heap.size ≤ B) (u0 u1 u2 u3 u4 u5 : Value) :
    ∃ W6, (((((W.setCell ⟨B, 0, none⟩ u0).setCell ⟨B, 1, none⟩ u1).setCell ⟨B, 2, none⟩ u2).setCell ⟨B, 3, none⟩ u3).setCell ⟨B, 4, none⟩ u4).setCell ⟨B, 5, none⟩ u5 = W6 ∧
      W6.cell? ⟨B, 0, none⟩ = some u0 ∧ W6.cell? ⟨B, 1, none⟩ = some u1 ∧ W6.cell? ⟨B, 2, none⟩ = some u2 ∧ W6.cell? ⟨B, 3, none⟩ = some u3 ∧ W6.cell? ⟨B, 4, none⟩ = some u4 ∧ W6.cell? ⟨B, 5, none⟩ = some u5 ∧
      Below w.heap.size w W6 ∧ (∀ k, k ≠ B → W6.heap[k]? = W.heap[k]?) ∧ W6.heap.size = W.heap.size := by
  obtain ⟨W6, hW6, q0, q1, q2, q3, q4, q5, hoth, hsz⟩ := set_six hB u0 u1 u2 u3 u4 u5
  refine ⟨W6, hW6, q0, q1, q2, q3, q4, q5, ?_, hoth, hsz⟩
  rw [← hW6]
  exact (((((hb.setCell hle _).setCell hle _).setCell hle _).setCell hle _).setCell hle _).setCell hle _

/-- bytes do not lie in a block of a patch -/
theorem BS.apart {W W' : World} {a : Option Addr} {n c : Nat} {l : List Int} {B : Nat} {x0 x1 x2 x3 x4 : Int} {a' : Option Addr} {n' c' : Nat} (h : BS W a n c l) (hB : W.heap[B]? = some (.cells #[.int .i64 x0, .int .i64 x1, .int .i64 x2, .int .i64 x3, .int .i64 x4, .slice a' n' c'] 41 (0, 0)))
    (hk : ∀ k, k ≠ B → W'.heap[k]? = W.heap[k]?) : BS W' a n c l := by
  refine ⟨h.len, h.le, h.max, h.bytes, fun hp => ?_, h.none_⟩
  obtain ⟨b, off, e, hc⟩ := h.cells hp
  refine ⟨b, off, e, fun i hi => ?_⟩
  have h1 := hc i hi
  have hne : b ≠ B := by
    rintro rfl
    simp only [World.cell?, hB] at h1
    generalize off + i = j at h1
    match j with
    | 0 => simp at h1
    | 1 => simp at h1
    | 2 => simp at h1
    | 3 => simp at h1
    | 4 => simp at h1
    | 5 => simp at h1
    | j + 6 => simp at h1
  rw [← h1]
  simp only [World.cell?, hk b hne]
theorem CS.bytes {w : World} {a : Option Addr} {n c : Nat} {l : List ChR} (h : CS w a n c l) : ∀ x ∈ l, ∀ v ∈ x.data, 0 ≤ v ∧ v ≤ 255 := by
  intro x hx v hv
  obtain ⟨i, hi, rfl⟩ := List.mem_iff_getElem.1 hx
  have hlen := h.len
  obtain ⟨b, off, _, hc⟩ := h.cells (by omega)
  obtain ⟨_, _, _, _, _, _, _, _, hb, _⟩ := hc i (by omega)
  rw [List.getD_eq_getElem?_getD, List.getElem?_eq_getElem hi, Option.getD_some] at hb
  exact hb.bytes v hv
theorem flat_bytes {l : List ChR} (h : ∀ x ∈ l, ∀ v ∈ x.data, 0 ≤ v ∧ v ≤ 255) : ∀ v ∈ ChunkM.flatD l, 0 ≤ v ∧ v ≤ 255 := by
  induction l with
  | nil => simp [ChunkM.flatD]
  | cons x t ih =>
    intro v hv
    simp only [ChunkM.flatD, List.mem_append] at hv
    rcases hv with hv | hv
    · exact h x (by simp) v hv
    · exact ih (fun y hy => h y (by simp [hy])) v hv

/-- the rounds of Joined -/
def JoinRel (l : List ChR) (W1 : World) (vb i : Value) (wr : World) : Prop :=
  ∃ k : Nat, i = .int .i64 k ∧ k ≤ l.length ∧ wr.ownsRow W1.heap.size 5 1 vb (ChunkM.flatD (l.take k)).length ((ChunkM.flatD (l.take k)).map (Value.int .u8)) ∧ Below W1.heap.size W1 wr
end Go.Proofs.Ytmpmaljkmfgagab
