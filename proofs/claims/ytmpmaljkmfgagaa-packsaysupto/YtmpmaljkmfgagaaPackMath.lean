/-
  Plain facts on run-length encoding of lists of bytes. No program is named here.
-/
import Derived.Below
namespace Go.Proofs.Ytmpmaljkmfgagaa.PackM

/-- how many numbers in front are x -/
def lead (x : Int) : List Int → Nat
  | [] => 0
  | y :: l => if y = x then lead x l + 1 else 0
/-- the length of the run in front, 127 at most -/
def run (l : List Int) : Nat := min 127 (lead (l[0]?.getD 0) l)

theorem lead_le (x : Int) (l : List Int) : lead x l ≤ l.length := by
  induction l with
  | nil => simp [lead]
  | cons y l ih => simp only [lead, List.length_cons]; split <;> omega
theorem lead_at (x : Int) (l : List Int) : ∀ j, j < lead x l → l[j]?.getD 0 = x := by
  induction l with
  | nil => simp [lead]
  | cons y l ih =>
    intro j hj
    simp only [lead] at hj
    split at hj
    · cases j with
      | zero => simpa using ‹y = x›
      | succ j => simpa using ih j (by omega)
    · omega
theorem lead_ge (x : Int) (l : List Int) : ∀ n, n ≤ l.length → (∀ j, j < n → l[j]?.getD 0 = x) → n ≤ lead x l := by
  induction l with
  | nil => intro n hn _; simpa [lead] using hn
  | cons y l ih =>
    intro n hn h
    cases n with
    | zero => omega
    | succ n =>
      have h0 := h 0 (by omega)
      simp at h0
      simp only [lead, if_pos h0]
      have := ih n (by simpa using hn) (fun j hj => by simpa using h (j + 1) (by omega))
      omega
theorem run_le (l : List Int) : run l ≤ l.length := by have := lead_le (l[0]?.getD 0) l; unfold run; omega
theorem run_max (l : List Int) : run l ≤ 127 := by unfold run; omega
theorem run_at (l : List Int) (j : Nat) (h : j < run l) : l[j]?.getD 0 = l[0]?.getD 0 := lead_at _ l j (by unfold run at h; omega)
theorem run_eq (l : List Int) (n : Nat) (hn : n ≤ l.length) (h127 : n ≤ 127) (heq : ∀ j, j < n → l[j]?.getD 0 = l[0]?.getD 0)
    (hstop : n = l.length ∨ n = 127 ∨ l[n]?.getD 0 ≠ l[0]?.getD 0) : run l = n := by
  have h1 := lead_ge _ l n hn heq
  have h2 := lead_le (l[0]?.getD 0) l
  unfold run
  rcases hstop with h | h | h
  · omega
  · omega
  · have : ¬ n < lead (l[0]?.getD 0) l := fun hh => h (lead_at _ l n hh)
    omega
theorem run_pos (l : List Int) (h : 0 < l.length) : 1 ≤ run l := by
  have h0 : ∀ j, j < 1 → l[j]?.getD 0 = l[0]?.getD 0 := by
    intro j hj
    have : j = 0 := by omega
    rw [this]
  have := lead_ge (l[0]?.getD 0) l 1 (by omega) h0
  unfold run; omega
theorem run_take (l : List Int) : l.take (run l) = List.replicate (run l) (l[0]?.getD 0) := by
  apply List.ext_getElem
  · simp only [List.length_take, List.length_replicate]; have := run_le l; omega
  · intro i h1 h2
    simp at h1
    have := run_at l i (by omega)
    have hi : i < l.length := by omega
    simp [List.getElem?_eq_getElem hi] at this
    simpa using this

/-- what the document says of packing: o is l packed -/
inductive Packs : List Int → List Int → Prop
  | nil : Packs [] []
  | run (l o : List Int) (n : Nat) (hn : PackM.run l = n) (h : 3 ≤ n) (ho : Packs (l.drop n) o) : Packs l ((128 + n : Int) :: l[0]?.getD 0 :: o)
  | lit (l o : List Int) (k : Nat) (h1 : 1 ≤ k) (h2 : k ≤ 127) (h3 : k ≤ l.length) (h4 : ∀ j, j < k → PackM.run (l.drop j) < 3)
      (h5 : k = l.length ∨ k = 127 ∨ 3 ≤ PackM.run (l.drop k)) (ho : Packs (l.drop k) o) : Packs l ((k : Int) :: (l.take k ++ o))

theorem run_nil : run [] = 0 := rfl
theorem run_some {l : List Int} {n : Nat} (hn : run l = n) (h : 3 ≤ n) : l ≠ [] := by
  rintro rfl
  rw [run_nil] at hn; omega

theorem Packs.det {l o : List Int} (h : Packs l o) : ∀ o', Packs l o' → o = o' := by
  induction h with
  | nil =>
    intro o' h'
    cases h' with
    | nil => rfl
    | run _ _ n hn h _ => exact absurd rfl (run_some hn h)
    | lit _ _ k h1 _ h3 => simp at h3; omega
  | run l o n hn h ho ih =>
    intro o' h'
    cases h' with
    | nil => exact absurd rfl (run_some hn h)
    | run _ o1 n1 hn1 h1 ho1 =>
      obtain rfl : n = n1 := by omega
      rw [ih _ ho1]
    | lit _ o1 k h1 _ _ h4 => have := h4 0 (by omega); simp at this; omega
  | lit l o k h1 h2 h3 h4 h5 ho ih =>
    intro o' h'
    cases h' with
    | nil => simp at h3; omega
    | run _ o1 n1 hn1 hh1 ho1 => have := h4 0 (by omega); simp at this; omega
    | lit _ o1 k1 g1 g2 g3 g4 g5 go1 =>
      obtain rfl : k = k1 := by
        rcases Nat.lt_trichotomy k k1 with hlt | heq | hgt
        · have := g4 k hlt
          omega
        · exact heq
        · have := h4 k1 hgt
          omega
      rw [ih _ go1]

theorem Packs.len {l o : List Int} (h : Packs l o) : o.length ≤ l.length + l.length / 127 + 1 ∧ ((l = [] ∨ 3 ≤ PackM.run l) → o.length ≤ l.length + l.length / 127) := by
  induction h with
  | nil => simp
  | run l o n hn h ho ih =>
    have := run_le l
    simp only [List.length_drop, List.length_cons] at ih ⊢
    omega
  | lit l o k h1 h2 h3 h4 h5 ho ih =>
    have h0 := h4 0 (by omega)
    simp only [List.drop_zero] at h0
    have hl : ¬ l = [] := by rintro rfl; simp at h3; omega
    simp only [List.length_drop, List.length_cons, List.length_append, List.length_take] at ih ⊢
    refine ⟨?_, fun hh => hh.elim (fun h => absurd h hl) (fun h => by omega)⟩
    rcases h5 with h5 | h5 | h5
    · have := ih.2 (.inl (by rw [List.drop_eq_nil_iff]; omega))
      omega
    · omega
    · have := ih.2 (.inr h5)
      omega

theorem Packs.byt {l o : List Int} (h : Packs l o) (hl : ∀ x ∈ l, 0 ≤ x ∧ x ≤ 255) : ∀ x ∈ o, 0 ≤ x ∧ x ≤ 255 := by
  induction h with
  | nil => simp
  | run l o n hn h ho ih =>
    have hm := run_max l
    intro x hx
    simp only [List.mem_cons] at hx
    rcases hx with rfl | rfl | hx
    · omega
    · have : 0 < l.length := by have := run_le l; omega
      simpa [List.getElem?_eq_getElem this] using hl _ (List.getElem_mem this)
    · exact ih (fun y hy => hl y (List.mem_of_mem_drop hy)) x hx
  | lit l o k h1 h2 h3 h4 h5 ho ih =>
    intro x hx
    simp only [List.mem_cons, List.mem_append] at hx
    rcases hx with rfl | hx | hx
    · omega
    · exact hl x (List.mem_of_mem_take hx)
    · exact ih (fun y hy => hl y (List.mem_of_mem_drop hy)) x hx

/-- how many bytes follow a byte that tells a length -/
def follow (x : Int) : Nat := if 128 ≤ x then 1 else (x % 128).toNat
/-- the bytes that a length and what follows it stand for -/
def grp (x : Int) (t : List Int) : List Int := if 128 ≤ x then List.replicate (x % 128).toNat (t[0]?.getD 0) else t.take (x % 128).toNat

/-- what the document says of unpacking: with l to go and out made, the result and the error are r -/
inductive Unp (most : Int) : List Int → List Int → List Int × Int → Prop
  | done (out : List Int) : Unp most [] out (out, 0)
  | form (x : Int) (t out : List Int) (h : x % 128 = 0) : Unp most (x :: t) out ([], 3)
  | torn (x : Int) (t out : List Int) (h : x % 128 ≠ 0) (h1 : t.length < follow x) : Unp most (x :: t) out ([], 7)
  | many (x : Int) (t out : List Int) (h : x % 128 ≠ 0) (h1 : follow x ≤ t.length) (h2 : most < out.length + x % 128) : Unp most (x :: t) out ([], 1)
  | step (x : Int) (t out : List Int) (r : List Int × Int) (h : x % 128 ≠ 0) (h1 : follow x ≤ t.length) (h2 : out.length + x % 128 ≤ most)
      (hr : Unp most (t.drop (follow x)) (out ++ grp x t) r) : Unp most (x :: t) out r

theorem Unp.det {most : Int} {l out : List Int} {r : List Int × Int} (h : Unp most l out r) : ∀ r', Unp most l out r' → r = r' := by
  induction h with
  | done out => intro r' h'; cases h'; rfl
  | form x t out h =>
    intro r' h'
    cases h' with
    | form => rfl
    | torn _ _ _ g => exact absurd h g
    | many _ _ _ g => exact absurd h g
    | step _ _ _ _ g => exact absurd h g
  | torn x t out h h1 =>
    intro r' h'
    cases h' with
    | form _ _ _ g => exact absurd g h
    | torn => rfl
    | many _ _ _ g g1 => omega
    | step _ _ _ _ g g1 => omega
  | many x t out h h1 h2 =>
    intro r' h'
    cases h' with
    | form _ _ _ g => exact absurd g h
    | torn _ _ _ g g1 => omega
    | many => rfl
    | step _ _ _ _ g g1 g2 => omega
  | step x t out r h h1 h2 hr ih =>
    intro r' h'
    cases h' with
    | form _ _ _ g => exact absurd g h
    | torn _ _ _ g g1 => omega
    | many _ _ _ g g1 g2 => omega
    | step _ _ _ _ g g1 g2 gr => exact ih _ gr

theorem grp_len (x : Int) (t : List Int) (h : follow x ≤ t.length) : (grp x t).length = (x % 128).toNat := by
  unfold grp
  unfold follow at h
  split
  · simp
  · rename_i hx
    rw [if_neg hx] at h
    rw [List.length_take]; omega
theorem grp_byt (x : Int) (t : List Int) (ht : ∀ y ∈ t, 0 ≤ y ∧ y ≤ 255) : ∀ y ∈ grp x t, 0 ≤ y ∧ y ≤ 255 := by
  intro y hy
  unfold grp at hy
  split at hy
  · obtain ⟨_, rfl⟩ := List.mem_replicate.1 hy
    cases t with
    | nil => simp
    | cons z t => simpa using ht z (by simp)
  · exact ht y (List.mem_of_mem_take hy)

theorem Unp.byt {most : Int} {l out : List Int} {r : List Int × Int} (h : Unp most l out r) (hl : ∀ x ∈ l, 0 ≤ x ∧ x ≤ 255) (ho : ∀ x ∈ out, 0 ≤ x ∧ x ≤ 255) : ∀ x ∈ r.1, 0 ≤ x ∧ x ≤ 255 := by
  induction h with
  | done => exact ho
  | form => simp
  | torn => simp
  | many => simp
  | step x t out r h h1 h2 hr ih =>
    refine ih (fun y hy => hl y (List.mem_cons_of_mem _ (List.mem_of_mem_drop hy))) ?_
    intro y hy
    rcases List.mem_append.1 hy with hy | hy
    · exact ho y hy
    · exact grp_byt x t (fun z hz => hl z (List.mem_cons_of_mem _ hz)) y hy

/-- what is packed is unpacked, wherever it stands, if there is room -/
theorem Packs.back {b p : List Int} (h : Packs b p) : ∀ (most : Int) (rest out : List Int) (r : List Int × Int), out.length + b.length ≤ most → Unp most rest (out ++ b) r → Unp most (p ++ rest) out r := by
  induction h with
  | nil => intro most rest out r _ hr; simpa using hr
  | run l o n hn h ho ih =>
    intro most rest out r hm hr
    have hmx := run_max l
    have hle := run_le l
    have e1 : (128 + (n : Int)) % 128 = n := by omega
    have hf : follow (128 + (n : Int)) = 1 := by unfold follow; rw [if_pos (by omega)]
    have hg : grp (128 + (n : Int)) (l[0]?.getD 0 :: (o ++ rest)) = l.take n := by
      unfold grp
      rw [if_pos (by omega), e1, ← hn, run_take]
      simp
    refine Unp.step _ _ _ _ (by omega) (by rw [hf]; simp) (by rw [e1]; omega) ?_
    rw [hf]
    show Unp most (o ++ rest) (out ++ grp _ (l[0]?.getD 0 :: (o ++ rest))) r
    rw [hg]
    refine ih most rest (out ++ l.take n) r ?_ ?_
    · simp only [List.length_append, List.length_take, List.length_drop]; omega
    · rw [List.append_assoc, List.take_append_drop]; exact hr
  | lit l o k h1 h2 h3 h4 h5 ho ih =>
    intro most rest out r hm hr
    have e1 : (k : Int) % 128 = k := by omega
    have hf : follow (k : Int) = k := by unfold follow; rw [if_neg (by omega)]; omega
    have hg : grp (k : Int) (l.take k ++ o ++ rest) = l.take k := by
      unfold grp
      rw [if_neg (by omega), e1, Int.toNat_natCast, List.append_assoc, List.take_append_of_le_length (by simp; omega), List.take_take, Nat.min_self]
    refine Unp.step _ _ _ _ (by omega) (by rw [hf]; simp; omega) (by rw [e1]; omega) ?_
    rw [hf]
    show Unp most ((l.take k ++ o ++ rest).drop k) (out ++ grp (k : Int) (l.take k ++ o ++ rest)) r
    rw [hg, List.append_assoc, List.drop_append_of_le_length (by simp; omega), List.drop_take, Nat.sub_self, List.take_zero, List.nil_append]
    refine ih most rest (out ++ l.take k) r ?_ ?_
    · simp only [List.length_append, List.length_take, List.length_drop]; omega
    · rw [List.append_assoc, List.take_append_drop]; exact hr

/-- .. and where there is none, it is too much -/
theorem Packs.short {b p : List Int} (h : Packs b p) : ∀ (most : Int) (out : List Int), b ≠ [] → most < out.length + b.length → Unp most p out ([], 1) := by
  induction h with
  | nil => intro most out hb; exact absurd rfl hb
  | run l o n hn h ho ih =>
    intro most out _ hm
    have hmx := run_max l
    have hle := run_le l
    have e1 : (128 + (n : Int)) % 128 = n := by omega
    have hf : follow (128 + (n : Int)) = 1 := by unfold follow; rw [if_pos (by omega)]
    by_cases hr : most < out.length + (n : Int)
    · exact Unp.many _ _ _ (by omega) (by rw [hf]; simp) (by rw [e1]; exact hr)
    · refine Unp.step _ _ _ _ (by omega) (by rw [hf]; simp) (by rw [e1]; omega) ?_
      rw [hf]
      have hg : (grp (128 + (n : Int)) (l[0]?.getD 0 :: o)).length = n := by
        rw [grp_len _ _ (by rw [hf]; simp), e1]; omega
      refine ih most _ ?_ ?_
      · intro he
        have := congrArg List.length he
        simp only [List.length_drop, List.length_nil] at this
        omega
      · simp only [List.length_append, List.length_drop, hg]; omega
  | lit l o k h1 h2 h3 h4 h5 ho ih =>
    intro most out _ hm
    have e1 : (k : Int) % 128 = k := by omega
    have hf : follow (k : Int) = k := by unfold follow; rw [if_neg (by omega)]; omega
    by_cases hr : most < out.length + (k : Int)
    · exact Unp.many _ _ _ (by omega) (by rw [hf]; simp; omega) (by rw [e1]; exact hr)
    · refine Unp.step _ _ _ _ (by omega) (by rw [hf]; simp; omega) (by rw [e1]; omega) ?_
      rw [hf]
      have hg : (grp (k : Int) (l.take k ++ o)).length = k := by
        rw [grp_len _ _ (by rw [hf]; simp; omega), e1]; omega
      have hd : (l.take k ++ o).drop k = o := by
        rw [List.drop_append_of_le_length (by simp; omega), List.drop_take, Nat.sub_self, List.take_zero, List.nil_append]
      rw [hd]
      refine ih most _ ?_ ?_
      · intro he
        have := congrArg List.length he
        simp only [List.length_drop, List.length_nil] at this
        omega
      · simp only [List.length_append, List.length_drop, hg]; omega

/-- two packings behind one another -/
theorem Packs.both {b c p q : List Int} (h : Packs b p) (h' : Packs c q) : Unp (b.length + c.length) (p ++ q) [] (b ++ c, 0) := by
  have h2 := h'.back (b.length + c.length) [] b (b ++ c, 0) (by omega) (Unp.done _)
  rw [List.append_nil] at h2
  exact h.back _ q [] _ (by simp only [List.length_nil]; omega) (by simpa using h2)
theorem Packs.alone {b p : List Int} (h : Packs b p) : Unp b.length p [] (b, 0) := by
  have := h.back b.length [] [] (b, 0) (by simp) (by simpa using Unp.done b)
  simpa using this
end Go.Proofs.Ytmpmaljkmfgagaa.PackM
