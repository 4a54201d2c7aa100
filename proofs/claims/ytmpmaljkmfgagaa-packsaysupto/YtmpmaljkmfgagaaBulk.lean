/-
  What the bound of an Upto statement gives: the places of each slice.
-/
import Derived.Test.YtmpmaljkmfgagaaRows
namespace Go.Proofs.Ytmpmaljkmfgagaa

theorem bulk_pos {H : Type} (d : DataW H) : 1 ≤ Rows.uptoBulk d := by
  cases d
  case lit l => cases l <;> simp [Rows.uptoBulk]
  all_goals simp [Rows.uptoBulk]
theorem bulk_all {H : Type} (l : List (DataW H)) : l.length ≤ Rows.uptoBulkAll l := by
  induction l with
  | nil => exact Nat.zero_le _
  | cons d l ih => have := bulk_pos d; simp only [Rows.uptoBulkAll, List.length_cons]; omega
theorem bulk_slice {H : Type} (a b : List (DataW H)) : a.length + b.length + 1 ≤ Rows.uptoBulk (.slice a b) := by
  have := bulk_all a
  have := bulk_all b
  simp only [Rows.uptoBulk]; omega
theorem bulk_part {H : Type} {l : List (DataW H)} {n : Nat} (h : Rows.uptoBulkAll l ≤ n) {d : DataW H} (hd : d ∈ l) : Rows.uptoBulk d ≤ n := by
  induction l with
  | nil => cases hd
  | cons x l ih =>
    simp only [Rows.uptoBulkAll] at h
    rcases List.mem_cons.1 hd with rfl | hd
    · omega
    · exact ih (by omega) hd
end Go.Proofs.Ytmpmaljkmfgagaa
