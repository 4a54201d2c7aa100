/-
  Contracts of chunk.Add's look for the place of a chunk, and of slices.IndexFunc with it.
-/
import Derived.Test.YtmpmaljkmfgagabRowToOpenN
namespace Go.Proofs.Ytmpmaljkmfgagab
open Go.RowKit

set_option maxHeartbeats 400000 in
theorem geN_any (v : Value) (r : ChR) (B : Nat) (N : Int) (w : World) (hv : CV w v r) (hB : w.cell? ⟨B, 2, none⟩ = some (.int .i64 N)) :
    Calls Try.prog 91 #[v, .pointer (some ⟨B, 0, none⟩)] w fun e w' => e = .returned (.bool (decide (N ≤ r.n))) ∧ Below w.heap.size w w' := by
  obtain ⟨a, m, c, rfl, hd, -⟩ := hv
  obtain ⟨f, t, n, o, D⟩ := r
  simp only at hd ⊢
  have hb : Below w.heap.size w (w.alloc (.cells #[.int .i64 f, .int .i64 t, .int .i64 n, .int .i64 o, .slice a m c] 69)) := (Below.refl _ _).alloc (Nat.le_refl _) _
  have hc := cell_later hb hB
  have HB := Lib.hid hb
  clear hb hd
  go_enter Try.func91, Try.ntmps91
  go_wp2_with fail
  go_ret
  exact ⟨rfl, HB.out⟩

/-- the rounds of IndexFunc -/
def AtRel (l : List ChR) (N : Int) (w : World) (i : Value) (wr : World) : Prop :=
  ∃ k : Nat, i = .int .i64 k ∧ k ≤ l.length ∧ (∀ x ∈ l.take k, x.n < N) ∧ Below w.heap.size w wr

set_option maxRecDepth 100000 in
set_option maxHeartbeats 1000000 in
theorem atC_any (a : Option Addr) (n c : Nat) (l : List ChR) (B : Nat) (N : Int) (w : World) (hl : CS w a n c l) (hB : w.cell? ⟨B, 2, none⟩ = some (.int .i64 N)) :
    Calls Try.prog 90 #[.slice a n c, .func (.func 91) #[] #[.pointer (some ⟨B, 0, none⟩)]] w fun e w' => ∃ i, e = .returned (.int .i64 i) ∧ ChunkM.AtIs l N i ∧ Below w.heap.size w w' := by
  have hlen : n ≤ 9223372036854775807 := by have := hl.le; have := hl.max; omega
  have HL := Lib.hid hl
  have HLn := Lib.hid hl.len
  have HB0 := Lib.hid hB
  clear hl hB
  go_enter Try.func90, Try.ntmps90
  go_wp2_with fail
  go_loopw [8] (fun i wr => AtRel l N w i wr) (fun i _ => n - (intOf i).toNat)
  case atStart => exact ⟨0, rfl, Nat.zero_le _, by simp, Below.refl _ _⟩
  case round =>
    obtain ⟨k, rfl, hk, ht, hB⟩ := hrel
    rw [HLn.out] at hk
    have HT := Lib.hid ht
    have HB := Lib.hid hB
    clear ht hB
    by_cases hlt : k < n
    · obtain ⟨b, off, rfl, hcs⟩ := (HL.out.later HB.out).cells (by omega)
      obtain ⟨va, vm, vc, q0, q1, q2, q3, q4, q5, qI⟩ := hcs k hlt
      have HTk : Hid (l.take (k + 1) = l.take k ++ [l.getD k default]) := by
        show _ = _
        have hkl : k < l.length := by rw [HLn.out]; exact hlt
        rw [List.take_add_one, List.getD_eq_getElem?_getD, List.getElem?_eq_getElem hkl]
        rfl
      obtain ⟨x, hx⟩ : ∃ x, l.getD k default = x := ⟨_, rfl⟩
      have HX := Lib.hid hx
      rw [hx] at q0 q1 q2 q3 q5 qI HTk
      obtain ⟨F, T, M, O, D⟩ := x
      simp only at q0 q1 q2 q3 q4 q5
      have HCV : Hid (CV wr (.agg #[.int .i64 F, .int .i64 T, .int .i64 M, .int .i64 O, .slice va vm vc]) ⟨F, T, M, O, D⟩) := ⟨va, vm, vc, rfl, q5, qI⟩
      have HCB := Lib.hid (cell_later HB.out HB0.out)
      clear hcs q5 qI hx
      go_wp2_with fail
      refine (geN_any _ _ B N _ HCV.out HCB.out).mono ?_
      rintro e W2 ⟨rfl, b2⟩
      have HB2 := Lib.hid (below_then HB.out b2)
      clear b2
      by_cases hm : N ≤ M
      · rw [decide_eq_true hm]
        have HR : Hid (ChunkM.AtIs l N k) := .inr ⟨k, rfl, by rw [HLn.out]; exact hlt, by rw [HX.out]; exact hm, HT.out⟩
        go_wp2_with fail
        go_ret
        exact ⟨_, rfl, HR.out, HB2.out⟩
      · rw [decide_eq_false hm]
        have HM := Lib.hid hm
        clear hm
        go_wp2_with fail
        go_roundw
        case rel =>
          refine ⟨k + 1, by go_num, by rw [HLn.out]; omega, fun x hx => ?_, HB2.out⟩
          rw [HTk.out] at hx
          rcases List.mem_append.1 hx with hx | hx
          · exact HT.out x hx
          · obtain rfl : x = _ := by simpa using hx
            have := HM.out
            simp only
            omega
        case measure => simp [intOf]; omega
    · have HR : Hid (ChunkM.AtIs l N (-1)) := by
        refine .inl ⟨rfl, fun x hx => HT.out x ?_⟩
        rwa [List.take_of_length_le (by rw [HLn.out]; omega)]
      go_wp2_with fail
      go_ret
      exact ⟨_, rfl, HR.out, HB.out⟩
end Go.Proofs.Ytmpmaljkmfgagab
