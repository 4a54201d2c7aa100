/-
  Arguments opened: a record, both copies, a Boolean.
-/
import Derived.Test.YtmpmaljkmfgagacRecL
namespace Go.Proofs.Ytmpmaljkmfgagac
open Go.RowKit

section
variable {P : Program} {w : World} {r : Reach} {b0 : Nat}
theorem cell_int {t : TypeId} {v : Value} (ht : P.underlying t = some (.int .i64)) (h : Cell.okWide P w r b0 t v) : ∃ n, v = .int .i64 n ∧ I64 n := by
  unfold Cell.okWide at h
  rw [ht] at h
  cases v <;> simp_all [Cell.ok, IntKind.has]
  rename_i k n
  obtain ⟨rfl, h1, h2⟩ := h
  have e1 : IntKind.i64.min = -9223372036854775808 := rfl
  have e2 : IntKind.i64.max = 9223372036854775807 := rfl
  unfold I64
  omega
theorem cell_bool {t : TypeId} {v : Value} (ht : P.underlying t = some .bool) (h : Cell.okWide P w r b0 t v) : ∃ b, v = .bool b := by
  unfold Cell.okWide at h
  rw [ht] at h
  cases v <;> simp_all [Cell.ok]
/-- the cells of a value, each with its type -/
theorem row_cells {t : TypeId} {ts : List TypeId} {l : List Value} (hts : P.cellTypes P.depth t = some ts) (h : Row.okWide P w r b0 t ⟨l⟩) :
    ∀ (i : Nat) (u : TypeId) (v : Value), ts[i]? = some u → l[i]? = some v → Cell.okWide P w r b0 u v := by
  obtain ⟨ts', h1, -, h2⟩ := h
  rw [hts] at h1
  cases h1
  intro i u v hu hv
  obtain ⟨u', hu', hc⟩ := h2 i v (by simpa using hv)
  have hi : i < ts.length := (List.getElem?_eq_some_iff.1 hu).1
  rw [Nat.mod_eq_of_lt hi, hu] at hu'
  cases hu'
  exact hc
end
theorem list11 {α : Type} (l : List α) (h : l.length = 11) : ∃ a b c d e f g i j k m, l = [a, b, c, d, e, f, g, i, j, k, m] := by
  match l, h with
  | [a, b, c, d, e, f, g, i, j, k, m], _ => exact ⟨a, b, c, d, e, f, g, i, j, k, m, rfl⟩
theorem list12 {α : Type} (l : List α) (h : l.length = 12) : ∃ z a b c d e f g i j k m, l = [z, a, b, c, d, e, f, g, i, j, k, m] := by
  match l, h with
  | [z, a, b, c, d, e, f, g, i, j, k, m], _ => exact ⟨z, a, b, c, d, e, f, g, i, j, k, m, rfl⟩

set_option maxRecDepth 100000 in
theorem open_rec {w : World} {r : Reach} {b0 : Nat} {v : Value} (hv : Value.okWide Try.prog w r b0 26 v) : ∃ x : RecR, v = recV x ∧ RecW x := by
  have hts : Try.prog.cellTypes Try.prog.depth 26 = some [3, 3, 4, 3, 3, 3, 3, 3, 3, 3, 3] := by kernel_rfl
  have hC : Try.prog.cellsOf 26 = 11 := by kernel_rfl
  have hu := Try.underlying26
  have hi := Try.underlying3
  have hb := Try.underlying4
  unfold Value.okWide at hv
  rw [hu] at hv
  obtain ⟨⟨l⟩, rfl, hsz, hrow⟩ := hv
  rw [hC] at hsz
  have hc := row_cells hts hrow
  obtain ⟨a, b, c, d, e, f, g, i, j, k, m, rfl⟩ := list11 l (by simpa using hsz)
  obtain ⟨n0, rfl, w0⟩ := cell_int hi (hc 0 _ _ rfl rfl)
  obtain ⟨n1, rfl, w1⟩ := cell_int hi (hc 1 _ _ rfl rfl)
  obtain ⟨n2, rfl⟩ := cell_bool hb (hc 2 _ _ rfl rfl)
  obtain ⟨n3, rfl, w3⟩ := cell_int hi (hc 3 _ _ rfl rfl)
  obtain ⟨n4, rfl, w4⟩ := cell_int hi (hc 4 _ _ rfl rfl)
  obtain ⟨n5, rfl, w5⟩ := cell_int hi (hc 5 _ _ rfl rfl)
  obtain ⟨n6, rfl, w6⟩ := cell_int hi (hc 6 _ _ rfl rfl)
  obtain ⟨n7, rfl, w7⟩ := cell_int hi (hc 7 _ _ rfl rfl)
  obtain ⟨n8, rfl, w8⟩ := cell_int hi (hc 8 _ _ rfl rfl)
  obtain ⟨n9, rfl, w9⟩ := cell_int hi (hc 9 _ _ rfl rfl)
  obtain ⟨n10, rfl, w10⟩ := cell_int hi (hc 10 _ _ rfl rfl)
  exact ⟨⟨n0, n1, n2, n3, n4, ⟨n5, n6, n7⟩, ⟨n8, n9, n10⟩⟩, rfl, w0, w1, w3, w4, ⟨w5, w6, w7⟩, w8, w9, w10⟩
/-- twelve cells of a copy -/
theorem open_cop {w : World} {r : Reach} {b0 : Nat} {l : List Value} (hl : l.length = 12) (hc : ∀ (i : Nat) (u : TypeId) (v : Value), ([4, 3, 3, 4, 3, 3, 3, 3, 3, 3, 3, 3] : List Nat)[i]? = some u → l[i]? = some v → Cell.okWide Try.prog w r b0 u v) :
    ∃ c : CopR, copV c = .agg ⟨l⟩ ∧ RecW c.r := by
  have hi := Try.underlying3
  have hb := Try.underlying4
  obtain ⟨z, a, b, c, d, e, f, g, i, j, k, m, rfl⟩ := list12 l hl
  obtain ⟨nz, rfl⟩ := cell_bool hb (hc 0 _ _ rfl rfl)
  obtain ⟨n0, rfl, w0⟩ := cell_int hi (hc 1 _ _ rfl rfl)
  obtain ⟨n1, rfl, w1⟩ := cell_int hi (hc 2 _ _ rfl rfl)
  obtain ⟨n2, rfl⟩ := cell_bool hb (hc 3 _ _ rfl rfl)
  obtain ⟨n3, rfl, w3⟩ := cell_int hi (hc 4 _ _ rfl rfl)
  obtain ⟨n4, rfl, w4⟩ := cell_int hi (hc 5 _ _ rfl rfl)
  obtain ⟨n5, rfl, w5⟩ := cell_int hi (hc 6 _ _ rfl rfl)
  obtain ⟨n6, rfl, w6⟩ := cell_int hi (hc 7 _ _ rfl rfl)
  obtain ⟨n7, rfl, w7⟩ := cell_int hi (hc 8 _ _ rfl rfl)
  obtain ⟨n8, rfl, w8⟩ := cell_int hi (hc 9 _ _ rfl rfl)
  obtain ⟨n9, rfl, w9⟩ := cell_int hi (hc 10 _ _ rfl rfl)
  obtain ⟨n10, rfl, w10⟩ := cell_int hi (hc 11 _ _ rfl rfl)
  exact ⟨⟨nz, n0, n1, n2, n3, n4, ⟨n5, n6, n7⟩, ⟨n8, n9, n10⟩⟩, rfl, w0, w1, w3, w4, ⟨w5, w6, w7⟩, w8, w9, w10⟩
set_option maxRecDepth 100000 in
theorem open_cops {w : World} {r : Reach} {b0 : Nat} {v : Value} (hv : Value.okWide Try.prog w r b0 29 v) : ∃ x : CopsR, v = copsV x ∧ CopsW x := by
  have hts : Try.prog.cellTypes Try.prog.depth 29 = some ([4, 3, 3, 4, 3, 3, 3, 3, 3, 3, 3, 3] ++ [4, 3, 3, 4, 3, 3, 3, 3, 3, 3, 3, 3]) := by kernel_rfl
  have hC : Try.prog.cellsOf 29 = 24 := by kernel_rfl
  have hu := Try.underlying29
  unfold Value.okWide at hv
  rw [hu] at hv
  obtain ⟨⟨l⟩, rfl, hsz, hrow⟩ := hv
  rw [hC] at hsz
  have hsz' : l.length = 24 := by simpa using hsz
  have hc := row_cells hts hrow
  obtain ⟨c0, e0, w0⟩ := open_cop (w := w) (r := r) (b0 := b0) (l := l.take 12) (by simp [hsz']) (fun i u v hu hv => by
    have hi : i < 12 := (List.getElem?_eq_some_iff.1 hu).1
    rw [List.getElem?_take_of_lt hi] at hv
    exact hc i u v (by rw [List.getElem?_append_left (by simpa using hi)]; exact hu) hv)
  obtain ⟨c1, e1, w1⟩ := open_cop (w := w) (r := r) (b0 := b0) (l := l.drop 12) (by simp [hsz']) (fun i u v hu hv => by
    have hi : i < 12 := (List.getElem?_eq_some_iff.1 hu).1
    rw [List.getElem?_drop] at hv
    refine hc (12 + i) u v ?_ hv
    rw [List.getElem?_append_right (by simp)]
    simpa using hu)
  refine ⟨⟨c0, c1⟩, ?_, w0, w1⟩
  unfold copV at e0 e1
  simp only [Value.agg.injEq, Array.mk.injEq] at e0 e1
  unfold copsV copsCells
  rw [← List.take_append_drop 12 l, ← e0, ← e1]
  rfl
end Go.Proofs.Ytmpmaljkmfgagac
