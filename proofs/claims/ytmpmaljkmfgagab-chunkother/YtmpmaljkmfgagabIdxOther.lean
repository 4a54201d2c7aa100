/-
  Contracts of the law ChunkOther's two looks for a chunk, and of slices.IndexFunc and slices.ContainsFunc over them.
-/
import Derived.Test.YtmpmaljkmfgagabCheckCh
namespace Go.Proofs.Ytmpmaljkmfgagab
open Go.RowKit

/-- the same chunk's place: its number, and of the same patch -/
def likeC (c : ChR) (r : ChR) : Bool := decide (r.n = c.n ∧ r.fr = c.fr ∧ r.to_ = c.to_ ∧ r.of_ = c.of_)
def numC (c : ChR) (r : ChR) : Bool := decide (r.n = c.n)
/-- the block of a chunk -/
def ChBlk (W : World) (C : Nat) (c : ChR) : Prop := ∃ v, W.heap[C]? = some (.cells #[.int .i64 c.fr, .int .i64 c.to_, .int .i64 c.n, .int .i64 c.of_, v] 69 (0, 0))
theorem ChBlk.later {W W' : World} {C : Nat} {c : ChR} (h : ChBlk W C c) (hb : Below W.heap.size W W') : ChBlk W' C c := by
  obtain ⟨v, h⟩ := h
  exact ⟨v, (hb.block C (lt_blk h)).trans h⟩

set_option maxRecDepth 100000 in
set_option maxHeartbeats 1000000 in
theorem likeC_any (v : Value) (r : ChR) (C : Nat) (c : ChR) (w : World) (hv : CV w v r) (hC : ChBlk w C c) :
    Calls Try.prog 60 #[v, .pointer (some ⟨C, 0, none⟩)] w fun e w' => e = .returned (.bool (likeC c r)) ∧ Below w.heap.size w w' := by
  obtain ⟨a, m, cp, rfl, hd, -⟩ := hv
  obtain ⟨f, t, n, o, D⟩ := r
  obtain ⟨cf, ct, cn, co, cd⟩ := c
  simp only at hd ⊢
  have hb : Below w.heap.size w (w.alloc (.cells #[.int .i64 f, .int .i64 t, .int .i64 n, .int .i64 o, .slice a m cp] 69)) := (Below.refl _ _).alloc (Nat.le_refl _) _
  obtain ⟨cv, hC⟩ := hC.later hb
  obtain ⟨k0, k1, k2, k3, -⟩ := ch_cells hC
  simp only at k0 k1 k2 k3
  have HB := Lib.hid hb
  clear hb hd hC
  by_cases h1 : n = cn
  · subst h1
    have t1 : (n == n) = true := by simp
    by_cases h2 : f = cf
    · subst h2
      have t2 : (f == f) = true := by simp
      by_cases h3 : t = ct
      · subst h3
        have t3 : (t == t) = true := by simp
        by_cases h4 : o = co
        · subst h4
          have t4 : (o == o) = true := by simp
          go_enter Try.func60, Try.ntmps60
          go_wp2_with fail
          go_ret
          exact ⟨ret_bool (by simp [likeC]), HB.out⟩
        · have t4 : (o == co) = false := by simp [h4]
          go_enter Try.func60, Try.ntmps60
          go_wp2_with fail
          go_ret
          exact ⟨ret_bool (by simp [likeC, h4]), HB.out⟩
      · have t3 : (t == ct) = false := by simp [h3]
        go_enter Try.func60, Try.ntmps60
        go_wp2_with fail
        go_ret
        exact ⟨ret_bool (by simp [likeC, h3]), HB.out⟩
    · have t2 : (f == cf) = false := by simp [h2]
      go_enter Try.func60, Try.ntmps60
      go_wp2_with fail
      go_ret
      exact ⟨ret_bool (by simp [likeC, h2]), HB.out⟩
  · have t1 : (n == cn) = false := by simp [h1]
    go_enter Try.func60, Try.ntmps60
    go_wp2_with fail
    go_ret
    exact ⟨ret_bool (by simp [likeC, h1]), HB.out⟩

set_option maxHeartbeats 400000 in
theorem numC_any (v : Value) (r : ChR) (C : Nat) (c : ChR) (w : World) (hv : CV w v r) (hC : ChBlk w C c) :
    Calls Try.prog 61 #[v, .pointer (some ⟨C, 0, none⟩)] w fun e w' => e = .returned (.bool (numC c r)) ∧ Below w.heap.size w w' := by
  obtain ⟨a, m, cp, rfl, hd, -⟩ := hv
  obtain ⟨f, t, n, o, D⟩ := r
  obtain ⟨cf, ct, cn, co, cd⟩ := c
  simp only at hd ⊢
  have hb : Below w.heap.size w (w.alloc (.cells #[.int .i64 f, .int .i64 t, .int .i64 n, .int .i64 o, .slice a m cp] 69)) := (Below.refl _ _).alloc (Nat.le_refl _) _
  obtain ⟨cv, hC⟩ := hC.later hb
  obtain ⟨k0, k1, k2, k3, -⟩ := ch_cells hC
  simp only at k0 k1 k2 k3
  have HB := Lib.hid hb
  clear hb hd hC
  by_cases h1 : n = cn
  · subst h1
    have t1 : (n == n) = true := by simp
    go_enter Try.func61, Try.ntmps61
    go_wp2_with fail
    go_ret
    exact ⟨ret_bool (by simp [numC]), HB.out⟩
  · have t1 : (n == cn) = false := by simp [h1]
    go_enter Try.func61, Try.ntmps61
    go_wp2_with fail
    go_ret
    exact ⟨ret_bool (by simp [numC, h1]), HB.out⟩

/-- where the first one of a kind is -/
def FirstIs (p : ChR → Bool) (l : List ChR) (i : Int) : Prop := (i = -1 ∧ l.any p = false) ∨ ∃ k : Nat, i = k ∧ l.any p = true
/-- the rounds of IndexFunc -/
def FirstRel (p : ChR → Bool) (l : List ChR) (w : World) (i : Value) (wr : World) : Prop :=
  ∃ k : Nat, i = .int .i64 k ∧ k ≤ l.length ∧ (l.take k).any p = false ∧ Below w.heap.size w wr

set_option maxRecDepth 100000 in
set_option maxHeartbeats 1000000 in
theorem idxLike_any (a : Option Addr) (n cp : Nat) (l : List ChR) (C : Nat) (c : ChR) (w : World) (hl : CS w a n cp l) (hC : ChBlk w C c) :
    Calls Try.prog 90 #[.slice a n cp, .func (.func 60) #[] #[.pointer (some ⟨C, 0, none⟩)]] w fun e w' => ∃ i, e = .returned (.int .i64 i) ∧ FirstIs (likeC c) l i ∧ Below w.heap.size w w' := by
  have hlen : n ≤ 9223372036854775807 := by have := hl.le; have := hl.max; omega
  have HL := Lib.hid hl
  have HLn := Lib.hid hl.len
  have HC := Lib.hid hC
  clear hl hC
  go_enter Try.func90, Try.ntmps90
  go_wp2_with fail
  go_loopw [8] (fun i wr => FirstRel (likeC c) l w i wr) (fun i _ => n - (intOf i).toNat)
  case atStart => exact ⟨0, rfl, Nat.zero_le _, by simp, Below.refl _ _⟩
  case round =>
    obtain ⟨k, rfl, hk, ht, hB⟩ := hrel
    rw [HLn.out] at hk
    have HT := Lib.hid ht
    have HB := Lib.hid hB
    clear ht hB
    by_cases hlt : k < n
    · obtain ⟨b, off, rfl, hcs⟩ := (HL.out.later HB.out).cells (by omega)
      obtain ⟨va, vm, vc, q0, q1, q2, q3, q4, q5, qI⟩ := hcs k hlt
      have hkl : k < l.length := by rw [HLn.out]; exact hlt
      have HTk : Hid (l.take (k + 1) = l.take k ++ [l.getD k default]) := by
        show _ = _
        rw [List.take_add_one, List.getD_eq_getElem?_getD, List.getElem?_eq_getElem hkl]
        rfl
      have HMem : Hid (l.getD k default ∈ l) := by
        show _ ∈ l
        rw [List.getD_eq_getElem?_getD, List.getElem?_eq_getElem hkl]
        exact List.getElem_mem _
      obtain ⟨x, hx⟩ : ∃ x, l.getD k default = x := ⟨_, rfl⟩
      rw [hx] at q0 q1 q2 q3 q5 qI HTk HMem
      obtain ⟨F, T, M, O, D⟩ := x
      simp only at q0 q1 q2 q3 q5
      have HCV : Hid (CV wr (.agg #[.int .i64 F, .int .i64 T, .int .i64 M, .int .i64 O, .slice va vm vc]) ⟨F, T, M, O, D⟩) := ⟨va, vm, vc, rfl, q5, qI⟩
      have HCB := Lib.hid (HC.out.later HB.out)
      clear hcs q5 qI hx hkl
      go_wp2_with fail
      refine (likeC_any _ _ C c _ HCV.out HCB.out).mono ?_
      rintro e W2 ⟨rfl, b2⟩
      have HB2 := Lib.hid (below_then HB.out b2)
      clear b2
      obtain ⟨q, hq⟩ : ∃ q, likeC c ⟨F, T, M, O, D⟩ = q := ⟨_, rfl⟩
      have HQ := Lib.hid hq
      rw [hq]
      clear hq
      cases q with
      | true =>
        have HR : Hid (FirstIs (likeC c) l k) := .inr ⟨k, rfl, List.any_eq_true.2 ⟨_, HMem.out, HQ.out⟩⟩
        go_wp2_with fail
        go_ret
        exact ⟨_, rfl, HR.out, HB2.out⟩
      | false =>
        go_wp2_with fail
        go_roundw
        case rel =>
          refine ⟨k + 1, by go_num, by rw [HLn.out]; omega, ?_, HB2.out⟩
          rw [HTk.out, List.any_append, HT.out]
          simp [HQ.out]
        case measure => simp [intOf]; omega
    · have HR : Hid (FirstIs (likeC c) l (-1)) := by
        refine .inl ⟨rfl, ?_⟩
        have := HT.out
        rwa [List.take_of_length_le (by rw [HLn.out]; omega)] at this
      go_wp2_with fail
      go_ret
      exact ⟨_, rfl, HR.out, HB.out⟩

set_option maxHeartbeats 400000 in
theorem hasLike_any (a : Option Addr) (n cp : Nat) (l : List ChR) (C : Nat) (c : ChR) (w : World) (hl : CS w a n cp l) (hC : ChBlk w C c) :
    Calls Try.prog 59 #[.slice a n cp, .func (.func 60) #[] #[.pointer (some ⟨C, 0, none⟩)]] w fun e w' => e = .returned (.bool (l.any (likeC c))) ∧ Below w.heap.size w w' := by
  go_enter Try.func59, Try.ntmps59
  go_wp2_with fail
  refine (idxLike_any a n cp l C c _ hl hC).mono ?_
  rintro e W2 ⟨i, rfl, hi, b2⟩
  rcases hi with ⟨rfl, hno⟩ | ⟨k, rfl, hyes⟩
  · have HN := Lib.hid hno
    clear hno
    go_wp2_with fail
    go_ret
    exact ⟨ret_bool HN.out.symm, b2⟩
  · have HN := Lib.hid hyes
    have hk0 : (0 : Int) ≤ (k : Int) := by omega
    clear hyes
    go_wp2_with fail
    go_ret
    exact ⟨ret_bool HN.out.symm, b2⟩

set_option maxRecDepth 100000 in
set_option maxHeartbeats 1000000 in
theorem idxNum_any (a : Option Addr) (n cp : Nat) (l : List ChR) (C : Nat) (c : ChR) (w : World) (hl : CS w a n cp l) (hC : ChBlk w C c) :
    Calls Try.prog 90 #[.slice a n cp, .func (.func 61) #[] #[.pointer (some ⟨C, 0, none⟩)]] w fun e w' => ∃ i, e = .returned (.int .i64 i) ∧ FirstIs (numC c) l i ∧ Below w.heap.size w w' := by
  have hlen : n ≤ 9223372036854775807 := by have := hl.le; have := hl.max; omega
  have HL := Lib.hid hl
  have HLn := Lib.hid hl.len
  have HC := Lib.hid hC
  clear hl hC
  go_enter Try.func90, Try.ntmps90
  go_wp2_with fail
  go_loopw [8] (fun i wr => FirstRel (numC c) l w i wr) (fun i _ => n - (intOf i).toNat)
  case atStart => exact ⟨0, rfl, Nat.zero_le _, by simp, Below.refl _ _⟩
  case round =>
    obtain ⟨k, rfl, hk, ht, hB⟩ := hrel
    rw [HLn.out] at hk
    have HT := Lib.hid ht
    have HB := Lib.hid hB
    clear ht hB
    by_cases hlt : k < n
    · obtain ⟨b, off, rfl, hcs⟩ := (HL.out.later HB.out).cells (by omega)
      obtain ⟨va, vm, vc, q0, q1, q2, q3, q4, q5, qI⟩ := hcs k hlt
      have hkl : k < l.length := by rw [HLn.out]; exact hlt
      have HTk : Hid (l.take (k + 1) = l.take k ++ [l.getD k default]) := by
        show _ = _
        rw [List.take_add_one, List.getD_eq_getElem?_getD, List.getElem?_eq_getElem hkl]
        rfl
      have HMem : Hid (l.getD k default ∈ l) := by
        show _ ∈ l
        rw [List.getD_eq_getElem?_getD, List.getElem?_eq_getElem hkl]
        exact List.getElem_mem _
      obtain ⟨x, hx⟩ : ∃ x, l.getD k default = x := ⟨_, rfl⟩
      rw [hx] at q0 q1 q2 q3 q5 qI HTk HMem
      obtain ⟨F, T, M, O, D⟩ := x
      simp only at q0 q1 q2 q3 q5
      have HCV : Hid (CV wr (.agg #[.int .i64 F, .int .i64 T, .int .i64 M, .int .i64 O, .slice va vm vc]) ⟨F, T, M, O, D⟩) := ⟨va, vm, vc, rfl, q5, qI⟩
      have HCB := Lib.hid (HC.out.later HB.out)
      clear hcs q5 qI hx hkl
      go_wp2_with fail
      refine (numC_any _ _ C c _ HCV.out HCB.out).mono ?_
      rintro e W2 ⟨rfl, b2⟩
      have HB2 := Lib.hid (below_then HB.out b2)
      clear b2
      obtain ⟨q, hq⟩ : ∃ q, numC c ⟨F, T, M, O, D⟩ = q := ⟨_, rfl⟩
      have HQ := Lib.hid hq
      rw [hq]
      clear hq
      cases q with
      | true =>
        have HR : Hid (FirstIs (numC c) l k) := .inr ⟨k, rfl, List.any_eq_true.2 ⟨_, HMem.out, HQ.out⟩⟩
        go_wp2_with fail
        go_ret
        exact ⟨_, rfl, HR.out, HB2.out⟩
      | false =>
        go_wp2_with fail
        go_roundw
        case rel =>
          refine ⟨k + 1, by go_num, by rw [HLn.out]; omega, ?_, HB2.out⟩
          rw [HTk.out, List.any_append, HT.out]
          simp [HQ.out]
        case measure => simp [intOf]; omega
    · have HR : Hid (FirstIs (numC c) l (-1)) := by
        refine .inl ⟨rfl, ?_⟩
        have := HT.out
        rwa [List.take_of_length_le (by rw [HLn.out]; omega)] at this
      go_wp2_with fail
      go_ret
      exact ⟨_, rfl, HR.out, HB.out⟩

set_option maxHeartbeats 400000 in
theorem hasNum_any (a : Option Addr) (n cp : Nat) (l : List ChR) (C : Nat) (c : ChR) (w : World) (hl : CS w a n cp l) (hC : ChBlk w C c) :
    Calls Try.prog 59 #[.slice a n cp, .func (.func 61) #[] #[.pointer (some ⟨C, 0, none⟩)]] w fun e w' => e = .returned (.bool (l.any (numC c))) ∧ Below w.heap.size w w' := by
  go_enter Try.func59, Try.ntmps59
  go_wp2_with fail
  refine (idxNum_any a n cp l C c _ hl hC).mono ?_
  rintro e W2 ⟨i, rfl, hi, b2⟩
  rcases hi with ⟨rfl, hno⟩ | ⟨k, rfl, hyes⟩
  · have HN := Lib.hid hno
    clear hno
    go_wp2_with fail
    go_ret
    exact ⟨ret_bool HN.out.symm, b2⟩
  · have HN := Lib.hid hyes
    have hk0 : (0 : Int) ≤ (k : Int) := by omega
    clear hyes
    go_wp2_with fail
    go_ret
    exact ⟨ret_bool HN.out.symm, b2⟩
end Go.Proofs.Ytmpmaljkmfgagab
