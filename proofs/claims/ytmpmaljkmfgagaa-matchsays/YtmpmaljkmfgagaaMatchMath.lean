/-
  Plain lists: how many bytes two lists have alike in front, and the longest match, the first of several.
-/
import Derived.Lib.Bytes
import Derived.Lib.IndexMore
namespace Go.Proofs.Ytmpmaljkmfgagaa.MatchM

/-- how many bytes in front of both are the same -/
def ag : List Int → List Int → Nat
  | x :: xs, y :: ys => if x = y then ag xs ys + 1 else 0
  | _, _ => 0

theorem ag_nil_l (y : List Int) : ag [] y = 0 := by cases y <;> rfl
theorem ag_nil_r (x : List Int) : ag x [] = 0 := by cases x <;> rfl
theorem ag_le_l : ∀ x y : List Int, ag x y ≤ x.length
  | [], y => by simp [ag_nil_l]
  | x :: xs, [] => by simp [ag_nil_r]
  | x :: xs, y :: ys => by
    have := ag_le_l xs ys
    simp only [ag, List.length_cons]
    split <;> omega
theorem ag_le_r : ∀ x y : List Int, ag x y ≤ y.length
  | [], y => by simp [ag_nil_l]
  | x :: xs, [] => by simp [ag_nil_r]
  | x :: xs, y :: ys => by
    have := ag_le_r xs ys
    simp only [ag, List.length_cons]
    split <;> omega
theorem ag_self : ∀ x : List Int, ag x x = x.length
  | [] => rfl
  | x :: xs => by simp [ag, ag_self xs]
/-- n bytes alike, in the words of prefixes -/
theorem le_ag : ∀ (n : Nat) (x y : List Int), n ≤ ag x y ↔ (n ≤ y.length ∧ y.take n <+: x)
  | 0, x, y => by simp
  | n + 1, [], y => by cases y <;> simp [ag]
  | n + 1, x :: xs, [] => by simp [ag]
  | n + 1, x :: xs, y :: ys => by
    have := le_ag n xs ys
    simp only [ag, List.length_cons, List.take_succ_cons, List.cons_prefix_cons]
    split
    · rename_i e
      subst e
      constructor
      · intro h
        have := this.1 (by omega)
        exact ⟨by omega, rfl, this.2⟩
      · rintro ⟨h1, -, h2⟩
        have := this.2 ⟨by omega, h2⟩
        omega
    · rename_i e
      constructor
      · intro h; omega
      · rintro ⟨_, h, _⟩; exact absurd h.symm e
theorem ag_eq : ∀ (k : Nat) (x y : List Int), k ≤ x.length → k ≤ y.length → (∀ j, j < k → x[j]?.getD 0 = y[j]?.getD 0) → (k = x.length ∨ k = y.length ∨ x[k]?.getD 0 ≠ y[k]?.getD 0) → ag x y = k
  | 0, x, y, _, _, _, h => by
    cases x with
    | nil => simp [ag_nil_l]
    | cons x xs =>
      cases y with
      | nil => simp [ag_nil_r]
      | cons y ys =>
        simp at h
        simp [ag, h]
  | k + 1, [], y, h, _, _, _ => by simp at h
  | k + 1, x :: xs, [], _, h, _, _ => by simp at h
  | k + 1, x :: xs, y :: ys, h1, h2, he, h => by
    have e0 : x = y := by simpa using he 0 (by omega)
    have ih := ag_eq k xs ys (by simpa using h1) (by simpa using h2) (fun j hj => by simpa using he (j + 1) (by omega)) (by simpa using h)
    simp [ag, e0, ih]
theorem ag_take_le (m : Nat) : ∀ (x y : List Int), ag (x.take m) y ≤ ag x y := by
  intro x y
  have h := (le_ag (ag (x.take m) y) (x.take m) y).1 (Nat.le_refl _)
  exact (le_ag _ x y).2 ⟨h.1, h.2.trans (List.take_prefix _ _)⟩

/-- place i, n bytes: the longest match of s in old, the first of several -/
structure Best (old s : List Int) (i n : Nat) : Prop where
  all : ∀ j, ag (old.drop j) s ≤ n
  ahead : ∀ j, j < i → ag (old.drop j) s < n
  here : ag (old.drop i) s = n

theorem Best.det {old s : List Int} {i n i' n' : Nat} (h : Best old s i n) (h' : Best old s i' n') : i = i' ∧ n = n' := by
  have e : n = n' := by
    have h1 := h.all i'
    have h2 := h'.all i
    rw [h'.here] at h1
    rw [h.here] at h2
    omega
  subst e
  refine ⟨?_, rfl⟩
  rcases Nat.lt_trichotomy i i' with hlt | rfl | hlt
  · have := h'.ahead i hlt
    rw [h.here] at this
    omega
  · rfl
  · have := h.ahead i' hlt
    rw [h'.here] at this
    omega
theorem Best.zero {old s : List Int} {i : Nat} (h : Best old s i 0) : i = 0 := by
  rcases Nat.eq_zero_or_pos i with h0 | h0
  · exact h0
  · have := h.ahead 0 h0
    omega
theorem Best.room {old s : List Int} {i n : Nat} (h : Best old s i n) : i + n ≤ old.length ∧ n ≤ s.length := by
  have h1 := ag_le_l (old.drop i) s
  have h2 := ag_le_r (old.drop i) s
  rw [h.here] at h1 h2
  refine ⟨?_, h2⟩
  rcases Nat.eq_zero_or_pos n with h0 | h0
  · subst h0
    have := h.zero
    omega
  · simp at h1
    omega
theorem Best.alike {old s : List Int} {i n : Nat} (h : Best old s i n) : (old.drop i).take n = s.take n := by
  have h1 := (le_ag n (old.drop i) s).1 (by rw [h.here]; exact Nat.le_refl _)
  have h2 := h.room
  obtain ⟨t, ht⟩ := h1.2
  rw [← ht, List.take_append_of_le_length (by simp; omega), List.take_take, Nat.min_self]
/-- no byte of nothing -/
theorem Best.none_ {old s : List Int} (h : ∀ j, j < old.length → ag (old.drop j) s ≤ 0) : Best old s 0 0 := by
  have hall : ∀ j, ag (old.drop j) s ≤ 0 := by
    intro j
    rcases Nat.lt_or_ge j old.length with hj | hj
    · exact h j hj
    · rw [List.drop_eq_nil_of_le hj, ag_nil_l]; exact Nat.le_refl _
  exact ⟨hall, fun j hj => absurd hj (by omega), by have := hall 0; omega⟩

/-! the search from the front: the best of the first k places -/
structure Upto (old s : List Int) (k i n : Nat) : Prop where
  all : ∀ j, j < k → ag (old.drop j) s ≤ n
  ahead : ∀ j, j < i → ag (old.drop j) s < n
  here : n ≠ 0 → ag (old.drop i) s = n
  zero : n = 0 → i = 0
theorem Upto.start (old s : List Int) : Upto old s 0 0 0 := ⟨fun j hj => absurd hj (by omega), fun j hj => absurd hj (by omega), fun h => absurd rfl h, fun _ => rfl⟩
theorem Upto.more {old s : List Int} {k i n : Nat} (h : Upto old s k i n) (hn : n < ag (old.drop k) s) : Upto old s (k + 1) k (ag (old.drop k) s) := by
  refine ⟨fun j hj => ?_, fun j hj => ?_, fun _ => rfl, fun h => by omega⟩
  · rcases Nat.lt_or_ge j k with hj' | hj'
    · have := h.all j hj'
      omega
    · obtain rfl : j = k := by omega
      exact Nat.le_refl _
  · have := h.all j hj
    omega
theorem Upto.same {old s : List Int} {k i n : Nat} (h : Upto old s k i n) (hn : ¬ n < ag (old.drop k) s) : Upto old s (k + 1) i n := by
  refine ⟨fun j hj => ?_, h.ahead, h.here, h.zero⟩
  rcases Nat.lt_or_ge j k with hj' | hj'
  · exact h.all j hj'
  · obtain rfl : j = k := by omega
    omega
theorem Upto.best {old s : List Int} {i n : Nat} (h : Upto old s old.length i n) : Best old s i n := by
  have hall : ∀ j, ag (old.drop j) s ≤ n := by
    intro j
    rcases Nat.lt_or_ge j old.length with hj | hj
    · exact h.all j hj
    · rw [List.drop_eq_nil_of_le hj, ag_nil_l]; exact Nat.zero_le _
  refine ⟨hall, h.ahead, ?_⟩
  rcases Nat.eq_zero_or_pos n with h0 | h0
  · subst h0
    have := hall i
    omega
  · exact h.here (by omega)

/-! bytes.Index in the words of matches -/
theorem ofNat_inj {x y : Int} (hx : 0 ≤ x ∧ x ≤ 255) (hy : 0 ≤ y ∧ y ≤ 255) (h : UInt8.ofNat x.toNat = UInt8.ofNat y.toNat) : x = y := by
  have := congrArg UInt8.toNat h
  simp only [UInt8.toNat_ofNat'] at this
  omega
theorem bytesOf_prefix : ∀ (x y : List Int), (∀ v ∈ x, 0 ≤ v ∧ v ≤ 255) → (∀ v ∈ y, 0 ≤ v ∧ v ≤ 255) → (Lib.bytesOf x <+: Lib.bytesOf y ↔ x <+: y)
  | [], y, _, _ => by simp [Lib.bytesOf]
  | x :: xs, [], _, _ => by simp [Lib.bytesOf]
  | x :: xs, y :: ys, hx, hy => by
    have ih := bytesOf_prefix xs ys (fun v hv => hx v (by simp [hv])) (fun v hv => hy v (by simp [hv]))
    have e1 : Lib.bytesOf (x :: xs) = UInt8.ofNat x.toNat :: Lib.bytesOf xs := rfl
    have e2 : Lib.bytesOf (y :: ys) = UInt8.ofNat y.toNat :: Lib.bytesOf ys := rfl
    rw [e1, e2, List.cons_prefix_cons, List.cons_prefix_cons, ih]
    constructor
    · rintro ⟨h1, h2⟩; exact ⟨ofNat_inj (hx x (by simp)) (hy y (by simp)) h1, h2⟩
    · rintro ⟨rfl, h2⟩; exact ⟨rfl, h2⟩
theorem bytesOf_drop (x : List Int) (j : Nat) : (Lib.bytesOf x).drop j = Lib.bytesOf (x.drop j) := by simp [Lib.bytesOf, List.map_drop]
theorem bytesOf_length (x : List Int) : (Lib.bytesOf x).length = x.length := by simp [Lib.bytesOf]
/-- an instance of the first n bytes of s begins at place j: n bytes are alike there -/
theorem occ_iff {old s : List Int} (ho : ∀ v ∈ old, 0 ≤ v ∧ v ≤ 255) (hs : ∀ v ∈ s, 0 ≤ v ∧ v ≤ 255) (n j : Nat) (hn : n ≤ s.length) :
    Lib.occAt (Lib.bytesOf old) (Lib.bytesOf (s.take n)) j = true ↔ n ≤ ag (old.drop j) s := by
  unfold Lib.occAt
  rw [bytesOf_drop, List.isPrefixOf_iff_prefix, bytesOf_prefix _ _ (fun v hv => hs v (List.mem_of_mem_take hv)) (fun v hv => ho v (List.mem_of_mem_drop hv)), le_ag]
  exact ⟨fun h => ⟨hn, h⟩, fun h => h.2⟩
/-- what bytes.Index says of the first n bytes of s -/
theorem index_says {old s : List Int} (ho : ∀ v ∈ old, 0 ≤ v ∧ v ≤ 255) (hs : ∀ v ∈ s, 0 ≤ v ∧ v ≤ 255) (n : Nat) (hn : n ≤ s.length) :
    (Lib.index (Lib.bytesOf old) (Lib.bytesOf (s.take n)) = -1 ∧ ∀ j, j ≤ old.length → ag (old.drop j) s < n) ∨
    ∃ i : Nat, Lib.index (Lib.bytesOf old) (Lib.bytesOf (s.take n)) = i ∧ n ≤ ag (old.drop i) s ∧ ∀ j, j < i → ag (old.drop j) s < n := by
  have key : ∀ j, Lib.occAt (Lib.bytesOf old) (Lib.bytesOf (s.take n)) j = false → ag (old.drop j) s < n := by
    intro j h
    rcases Nat.lt_or_ge (ag (old.drop j) s) n with h' | h'
    · exact h'
    · rw [(occ_iff ho hs n j hn).2 h'] at h; cases h
  rcases Lib.index_spec (Lib.bytesOf old) (Lib.bytesOf (s.take n)) with ⟨h1, h2⟩ | ⟨i, h1, _, h3, h4⟩
  · exact .inl ⟨h1, fun j hj => key j (h2 j (by rw [bytesOf_length]; exact hj))⟩
  · exact .inr ⟨i, h1, (occ_iff ho hs n i hn).1 h3, fun j hj => key j (h4 j hj)⟩
/-- .. of a match that is the best one -/
theorem Best.index {old s : List Int} {i n : Nat} (h : Best old s i n) (ho : ∀ v ∈ old, 0 ≤ v ∧ v ≤ 255) (hs : ∀ v ∈ s, 0 ≤ v ∧ v ≤ 255) :
    Lib.index (Lib.bytesOf old) (Lib.bytesOf (s.take n)) = i := by
  have hr := h.room
  rcases index_says ho hs n hr.2 with ⟨_, h2⟩ | ⟨k, h1, h2, h3⟩
  · have := h2 i (by omega)
    rw [h.here] at this
    omega
  · rw [h1]
    rcases Nat.lt_trichotomy k i with hlt | rfl | hlt
    · have := h.ahead k hlt
      omega
    · rfl
    · have := h3 i hlt
      rw [h.here] at this
      omega
theorem Best.beyond {old s : List Int} {i n : Nat} (h : Best old s i n) (ho : ∀ v ∈ old, 0 ≤ v ∧ v ≤ 255) (hs : ∀ v ∈ s, 0 ≤ v ∧ v ≤ 255) (hn : n < s.length) :
    Lib.contains (Lib.bytesOf old) (Lib.bytesOf (s.take (n + 1))) = false := by
  unfold Lib.contains
  rcases index_says ho hs (n + 1) hn with ⟨h1, _⟩ | ⟨k, h1, h2, _⟩
  · rw [h1]; rfl
  · have := h.all k
    omega
/-! the search from the longest one down -/
theorem Best.of_index {old s : List Int} (ho : ∀ v ∈ old, 0 ≤ v ∧ v ≤ 255) (hs : ∀ v ∈ s, 0 ≤ v ∧ v ≤ 255) {n i : Nat} (hn : n ≤ s.length) (hall : ∀ j, ag (old.drop j) s ≤ n)
    (h : Lib.index (Lib.bytesOf old) (Lib.bytesOf (s.take n)) = i) : Best old s i n := by
  rcases index_says ho hs n hn with ⟨h1, _⟩ | ⟨k, h1, h2, h3⟩
  · rw [h1] at h; omega
  · obtain rfl : k = i := by rw [h1] at h; omega
    exact ⟨hall, h3, by have := hall k; omega⟩
theorem all_down {old s : List Int} (ho : ∀ v ∈ old, 0 ≤ v ∧ v ≤ 255) (hs : ∀ v ∈ s, 0 ≤ v ∧ v ≤ 255) {n : Nat} (hn : n + 1 ≤ s.length)
    (h : Lib.index (Lib.bytesOf old) (Lib.bytesOf (s.take (n + 1))) = -1) : ∀ j, ag (old.drop j) s ≤ n := by
  rcases index_says ho hs (n + 1) hn with ⟨_, h2⟩ | ⟨k, h1, _, _⟩
  · intro j
    rcases Nat.lt_or_ge j old.length with hj | hj
    · have := h2 j (by omega)
      omega
    · rw [List.drop_eq_nil_of_le hj, ag_nil_l]; exact Nat.zero_le _
  · rw [h1] at h; omega
theorem all_top (old s : List Int) : ∀ j, ag (old.drop j) s ≤ min old.length s.length := by
  intro j
  have h1 := ag_le_l (old.drop j) s
  have h2 := ag_le_r (old.drop j) s
  simp at h1
  omega
theorem Best.of_zero {old s : List Int} (h : ∀ j, ag (old.drop j) s ≤ 0) : Best old s 0 0 := Best.none_ (fun j _ => h j)
/-! bytes in themselves; fewer old bytes -/
theorem Best.whole {b : List Int} {k i n : Nat} (h : Best b (b.drop k) i n) (hk : k ≤ b.length) : n = b.length - k := by
  have h1 := h.all k
  rw [ag_self] at h1
  have h2 := h.room.2
  simp at h1 h2
  omega
theorem Best.fewer {old s : List Int} {i n i' n' m : Nat} (h : Best (old.take m) s i n) (h' : Best old s i' n') : n ≤ n' := by
  have h1 := h.here
  rw [List.drop_take] at h1
  have h2 := ag_take_le (m - i) (old.drop i) s
  have h3 := h'.all i
  omega
end Go.Proofs.Ytmpmaljkmfgagaa.MatchM
