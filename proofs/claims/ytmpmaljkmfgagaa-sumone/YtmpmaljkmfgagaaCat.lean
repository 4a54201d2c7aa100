/-
  slices.Grow of nil, slices.Concat of two slices of bytes, slices.Clone of bytes.
-/
import Derived.Test.YtmpmaljkmfgagaaBytes
namespace Go.Proofs.Ytmpmaljkmfgagaa
open Go.RowKit

/-- a call that returns an empty slice of its own with room for n bytes -/
def Room0 (w : World) (n : Nat) (e : Ending) (w' : World) : Prop :=
  ∃ a c, e = .returned (.slice a 0 c) ∧ n ≤ c ∧ w'.ownsRow w.heap.size 5 1 (.slice a 0 c) 0 [] ∧ Below w.heap.size w w'

set_option maxHeartbeats 400000 in
theorem grow_nil (n : Nat) (w : World) (hn : n ≤ 281474976710656) : Calls Try.prog 49 #[.slice none 0 0, .int .i64 n] w (Room0 w n) := by
  obtain ⟨i0, hi, hz0, hz1, hz2⟩ := info_parts Try.info_u8
  by_cases h0 : n = 0
  · subst h0
    go_enter Try.func49, Try.ntmps49
    go_wp2
    go_ret
    exact ⟨none, 0, rfl, by omega, World.ownsRow_nil _ _ _ _, Below.refl _ _⟩
  · have hrz : (Builtin.append_ #[27, 3] 27 #[.slice none 0 0, .int .i64 n]).run Try.prog w =
        .ok (.slice (some ⟨w.heap.size, 0, none⟩) n (grownCap w n 0 5)) (w.drew.alloc (.cells (([] : List Value).toArray ++ Builtin.zeroCells (Value.int .u8 0).cells n ++ Builtin.zeroCells (Value.int .u8 0).cells (grownCap w n 0 5 - n)) 5)) := by
      have h := Lib.run_append_grow_zeros (P := Try.prog) w 27 3 27 5 i0 _ .i64 .i64 Try.underlying27 Try.underlying3 hi hz0 none 0 0 [] (run_firstCells_none w.drew i0.size 0 0 0) n (by omega) (by omega) (by omega) (by omega) (by rw [hz2]; omega)
        (by rw [hz2]; simp [Builtin.nextslicecap, Nat.pos_of_ne_zero h0]; omega)
      simpa using h
    have hge := grownCap_ge w n 0 5
    have hle := grownCap_le_maxLen w n 0 5 (by unfold maxLen; omega)
    have hsz : (([] : List Value).toArray ++ Builtin.zeroCells (Value.int .u8 0).cells n ++ Builtin.zeroCells (Value.int .u8 0).cells (grownCap w n 0 5 - n)).size = grownCap w n 0 5 * 1 := by
      rw [Array.size_append, Array.size_append, size_zeroCells, size_zeroCells]
      simp [Value.cells]
      omega
    generalize grownCap w n 0 5 = G at hrz hge hle hsz
    generalize (([] : List Value).toArray ++ Builtin.zeroCells (Value.int .u8 0).cells n ++ Builtin.zeroCells (Value.int .u8 0).cells (G - n)) = cur at hrz hsz
    have hown := World.ownsRow_made (base := w.heap.size) (e := 5) (size := 1) w.drew cur G (Nat.le_refl _) hle hsz
    have hpos : (0 : Int) < n := by omega
    unfold maxLen at hle
    have HS := Lib.hid hsz
    clear hsz
    go_enter Try.func49, Try.ntmps49
    go_wp2_with (at_builtin; refine Lib.wpList_append_run _ rfl _ _ _ _ rfl _ _ rfl rfl _ _ hrz ?_)
    go_ret
    exact ⟨_, _, rfl, hge, hown, (Below.refl _ _).drew.alloc (Nat.le_refl _) _⟩

/-- slices of bytes that lie in a row, one behind the other -/
def Parts (w : World) (b : Nat) (ps : List (List Int)) : Prop :=
  ∀ i, i < ps.length → ∃ a n c, w.cell? ⟨b, i, none⟩ = some (.slice a n c) ∧ BS w a n c (ps[i]?.getD [])
theorem Parts.later {w w' : World} {b : Nat} {ps : List (List Int)} (h : Parts w b ps) (hb : Below w.heap.size w w') : Parts w' b ps := fun i hi => by
  obtain ⟨a, n, c, hc, hs⟩ := h i hi
  exact ⟨a, n, c, cell_later hb hc, hs.later hb⟩
def szTo (ps : List (List Int)) (k : Nat) : Nat := (ps.take k).flatten.length
theorem flat_snoc (ps : List (List Int)) (k : Nat) (h : k < ps.length) : (ps.take (k + 1)).flatten = (ps.take k).flatten ++ ps[k]?.getD [] := by
  rw [List.take_succ_eq_append_getElem h, List.flatten_append, List.getElem?_eq_getElem h]
  simp only [List.flatten_cons, List.flatten_nil, List.append_nil, Option.getD_some]
theorem szTo_le (ps : List (List Int)) (k : Nat) : szTo ps k ≤ ps.flatten.length := by
  unfold szTo
  conv => rhs; rw [← List.take_append_drop k ps]
  rw [List.flatten_append, List.length_append]
  omega
theorem szTo_snoc (ps : List (List Int)) (k : Nat) (h : k < ps.length) : szTo ps (k + 1) = szTo ps k + (ps[k]?.getD []).length := by
  unfold szTo; rw [flat_snoc ps k h, List.length_append]
theorem szTo_all (ps : List (List Int)) (k : Nat) (h : ps.length ≤ k) : szTo ps k = ps.flatten.length := by
  unfold szTo; rw [List.take_of_length_le h]

set_option maxHeartbeats 1000000 in
theorem concat_any (b np : Nat) (ps : List (List Int)) (w : World) (hp : Parts w b ps) (hnp : ps.length = np) (hlen : np ≤ 9223372036854775807) (hn : ps.flatten.length ≤ 281474976710656) :
    Calls Try.prog 21 #[.slice (some ⟨b, 0, none⟩) np np] w (GivesB w ps.flatten) := by
  have HN := Lib.hid hnp
  have HT : ∃ T, Hid (ps.flatten.length = T) ∧ T ≤ 281474976710656 := ⟨_, Lib.hid rfl, hn⟩
  obtain ⟨T, HT, hT⟩ := HT
  clear hnp hn
  go_enter Try.func21, Try.ntmps21
  go_wp2
  go_loop [3, 11] (fun z i => ∃ k : Nat, k ≤ np ∧ i = .int .i64 k ∧ z = .int .i64 (szTo ps k)) (fun _ i => np - (intOf i).toNat)
  case atStart => exact ⟨0, Nat.zero_le _, rfl, by simp [szTo]⟩
  case round =>
    obtain ⟨k, hk, rfl, rfl⟩ := hrel
    have hf := szTo_le ps k
    rw [HT.out] at hf
    by_cases hlt : k < np
    · obtain ⟨a, n, c, hc, hs⟩ := hp k (by rw [HN.out]; exact hlt)
      have hf1 := szTo_le ps (k + 1)
      have hsn := szTo_snoc ps k (by rw [HN.out]; exact hlt)
      rw [HT.out] at hf1
      rw [hs.len] at hsn
      have hle : szTo ps k + n ≤ 281474976710656 := by omega
      have HE := Lib.hid hsn
      clear hs hsn hf1 hp
      have hneg : ¬ ((szTo ps k : Int) + (n : Int) < 0) := by omega
      go_wp2
      go_round
      case rel => exact ⟨k + 1, by omega, by go_num, by rw [HE.out]; go_num⟩
      case measure => simp [intOf]; omega
    · rw [szTo_all ps k (by rw [HN.out]; omega), HT.out]
      clear hf
      go_wp2_with fail
      refine (grow_nil T w hT).mono ?_
      rintro e w1 ⟨a0, C, rfl, hC, hown, hb⟩
      go_wp2_with fail
      go_loopw [6, 27] (fun v i wr => ∃ (k m : Nat), k ≤ np ∧ i = .int .i64 k ∧ v = .slice a0 m C ∧ Hid (m = szTo ps k) ∧ wr.ownsRow w.heap.size 5 1 (.slice a0 m C) m ((ps.take k).flatten.map (Value.int .u8)) ∧ Below w.heap.size w wr) (fun _ i _ => np - (intOf i).toNat)
      case atStart => exact ⟨0, 0, Nat.zero_le _, rfl, rfl, by simp [szTo, Hid], by simpa using hown, hb⟩
      case round =>
        obtain ⟨k, m, hk, rfl, rfl, Hm, hownr, hbr⟩ := hrel
        by_cases hlt : k < np
        · obtain ⟨a, n, c, hc, hs⟩ := (hp.later hbr) k (by rw [HN.out]; exact hlt)
          have hf1 := szTo_le ps (k + 1)
          have hsn := szTo_snoc ps k (by rw [HN.out]; exact hlt)
          rw [HT.out] at hf1
          rw [hs.len] at hsn
          have hroom : m + n ≤ C := by have := Hm.out; omega
          obtain ⟨w2, hrun, hown2, hg2⟩ := app_spare hownr hs hroom
          have hb2 := hbr.grown hg2 hbr.size (fun g hg => (hownr.lt g hg).1)
          have HM := Lib.hid (show m + n = szTo ps (k + 1) by have := Hm.out; omega)
          have HO := Lib.hid hown2
          clear hown2 hs hsn hf1
          go_wp2_with (at_builtin; refine Lib.wpList_append_run _ rfl _ _ _ _ rfl _ _ rfl rfl _ _ hrun ?_)
          go_roundw
          case rel => exact ⟨k + 1, m + n, by omega, by go_num, rfl, HM, by rw [flat_snoc ps k (by rw [HN.out]; exact hlt)]; exact HO.out, hb2⟩
          case measure => simp [intOf]; omega
        · go_wp2
          go_ret
          exact ⟨a0, m, C, rfl, by rw [List.take_of_length_le (by rw [HN.out]; omega)] at hownr; exact hownr, hbr⟩

theorem two_parts (w : World) (b : Nat) (a0 a1 : Option Addr) (n0 c0 n1 c1 : Nat) (l0 l1 : List Int) (h0 : w.cell? ⟨b, 0, none⟩ = some (.slice a0 n0 c0)) (h1 : w.cell? ⟨b, 1, none⟩ = some (.slice a1 n1 c1))
    (s0 : BS w a0 n0 c0 l0) (s1 : BS w a1 n1 c1 l1) : Parts w b [l0, l1] := by
  intro i hi
  match i, hi with
  | 0, _ => exact ⟨a0, n0, c0, h0, s0⟩
  | 1, _ => exact ⟨a1, n1, c1, h1, s1⟩
end Go.Proofs.Ytmpmaljkmfgagaa
