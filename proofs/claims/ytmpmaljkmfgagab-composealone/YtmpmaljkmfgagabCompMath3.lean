/-
  Plain lists: what joined steps make; that they are good ones; how many there are.
-/
import Derived.Test.YtmpmaljkmfgagabCompMath2
namespace Go.Proofs.Ytmpmaljkmfgagab.CompM
open DeltaM

/-- the byte of a source -/
def val (old : List Int) (s : Int × Int) : Int := if s.1 < 0 then s.2 else old[s.1.toNat]?.getD 0
theorem val_data (old : List Int) (x : Int) : val old (-1, x) = x := by simp [val]
theorem map_data (old : List Int) (D : List Int) : (D.map (fun x => ((-1 : Int), x))).map (val old) = D := by
  induction D with
  | nil => rfl
  | cons x t ih => simp only [List.map_cons, val_data, ih]
theorem take_drop_range (old : List Int) (A : Nat) : ∀ L, A + L ≤ old.length → (old.drop A).take L = (List.range L).map (fun k => old[A + k]?.getD 0)
  | 0, _ => by simp
  | L + 1, h => by
    rw [List.range_succ, List.map_append, ← take_drop_range old A L (by omega), List.take_add_one, List.getElem?_drop]
    simp [List.getElem?_eq_getElem (show A + L < old.length by omega)]
theorem part_val {old : List Int} {o : OpR} (h : ¬ badRange old.length o) : DeltaM.part old o = ((List.range o.len.toNat).map (fun (k : Nat) => (o.at_ + (k : Int), (0 : Int)))).map (val old) := by
  have := good_len h
  unfold DeltaM.part
  rw [take_drop_range old _ _ (by omega), List.map_map]
  refine List.map_congr_left fun k hk => ?_
  simp only [Function.comp, val]
  rw [if_neg (by omega), show (o.at_ + (k : Int)).toNat = o.at_.toNat + k by omega]
theorem makes_srcs1 {old : List Int} : ∀ {l : List OpR}, DeltaM.Good old.length l → makes old l = (srcs1 l).map (val old)
  | [], _ => rfl
  | o :: t, h => by
    obtain ⟨h1, h2⟩ := h o (by simp)
    have ih := makes_srcs1 (old := old) (l := t) (fun o' ho => h o' (by simp [ho]))
    unfold makes srcs1
    rw [List.map_append, List.map_append, ← part_val h2, map_data, ih]
    by_cases h0 : o.len = 0
    · have : DeltaM.part old o = [] := by unfold DeltaM.part; rw [h0]; simp
      rw [this]
      simp
    · have : o.data = [] := by
        unfold badForm at h1
        cases hd : o.data with
        | nil => rfl
        | cons x t' => rw [hd] at h1; simp at h1; omega
      rw [this]
      simp
theorem makes_srcs2 (old : List Int) (m : List (Int × Int)) : ∀ (l : List OpR), makes (m.map (val old)) l = (srcs2 m l).map (val old)
  | [] => rfl
  | o :: t => by
    unfold makes srcs2
    rw [List.map_append, List.map_append, map_data, makes_srcs2 old m t]
    simp [DeltaM.part]

/-- steps in their canonical form, within an old image -/
def Ok (old : Int) (r : List OpR) : Prop :=
  ∀ o ∈ r, 0 ≤ o.at_ ∧ 0 ≤ o.len ∧ o.at_ + o.len ≤ old ∧ (o.len = 0 → o.at_ = 0 ∧ o.data ≠ []) ∧ (o.len ≠ 0 → o.data = [])
theorem Ok.push {old : Int} (h0 : 0 ≤ old) {r : List OpR} (h : Ok old r) {s : Int × Int} (hs : s.1 < old) : Ok old (pushR r s) := by
  obtain ⟨p, x⟩ := s
  simp only at hs
  have one : ∀ o : OpR, (o = ⟨0, 0, [x]⟩ ∨ (0 ≤ p ∧ o = ⟨p, 1, []⟩)) → 0 ≤ o.at_ ∧ 0 ≤ o.len ∧ o.at_ + o.len ≤ old ∧ (o.len = 0 → o.at_ = 0 ∧ o.data ≠ []) ∧ (o.len ≠ 0 → o.data = []) := by
    rintro o (rfl | ⟨hp, rfl⟩)
    · exact ⟨by simp, by simp, by simpa using h0, by simp, by simp⟩
    · exact ⟨hp, by simp, by simp only; omega, by simp, by simp⟩
  cases r with
  | nil =>
    simp only [pushR]
    split
    · intro o ho; exact one o (.inl (by simpa using ho))
    · intro o ho; exact one o (.inr ⟨by omega, by simpa using ho⟩)
  | cons o t =>
    obtain ⟨q1, q2, q3, q4, q5⟩ := h o (by simp)
    have ht : ∀ o' ∈ t, _ := fun o' ho => h o' (by simp [ho])
    simp only [pushR]
    split
    · split
      · rename_i hl
        intro o' ho
        rcases List.mem_cons.1 ho with rfl | ho
        · exact ⟨q1, q2, q3, fun _ => ⟨(q4 hl).1, by simp⟩, fun hn => absurd hl hn⟩
        · exact ht o' ho
      · intro o' ho
        rcases List.mem_cons.1 ho with rfl | ho
        · exact one _ (.inl rfl)
        · exact h o' ho
    · split
      · rename_i hl
        intro o' ho
        rcases List.mem_cons.1 ho with rfl | ho
        · exact ⟨q1, by simp only; omega, by simp only; omega, fun hn => by simp only at hn; omega, fun _ => q5 (by omega)⟩
        · exact ht o' ho
      · intro o' ho
        rcases List.mem_cons.1 ho with rfl | ho
        · exact one _ (.inr ⟨by omega, rfl⟩)
        · exact h o' ho
theorem val_old {old : List Int} {p x : Int} (h : ¬ p < 0) : val old (p, x) = old[p.toNat]?.getD 0 := by simp [val, h]
theorem part_one {old : List Int} {p : Int} (h0 : 0 ≤ p) (h : p < old.length) : DeltaM.part old ⟨p, 1, []⟩ = [old[p.toNat]?.getD 0] := by
  have e : (1 : Int).toNat = 1 := rfl
  simp only [DeltaM.part, e]
  rw [List.drop_eq_getElem_cons (by omega), List.getElem?_eq_getElem (by omega), List.take_succ_cons, List.take_zero, Option.getD_some]
theorem part_more {old : List Int} {o : OpR} (h1 : 0 ≤ o.at_) (h2 : 0 ≤ o.len) (h : o.at_ + o.len < old.length) : DeltaM.part old ⟨o.at_, o.len + 1, o.data⟩ = DeltaM.part old o ++ [old[(o.at_ + o.len).toNat]?.getD 0] := by
  simp only [DeltaM.part]
  rw [show (o.len + 1).toNat = o.len.toNat + 1 by omega, List.take_add_one, List.getElem?_drop, show o.at_.toNat + o.len.toNat = (o.at_ + o.len).toNat by omega, List.getElem?_eq_getElem (by omega)]
  simp
theorem push_makes {old : List Int} {r : List OpR} (h : Ok old.length r) {s : Int × Int} (hs : s.1 < old.length) : makes old (pushR r s).reverse = makes old r.reverse ++ [val old s] := by
  obtain ⟨p, x⟩ := s
  simp only at hs
  have mk1 : ∀ o : OpR, makes old [o] = o.data ++ DeltaM.part old o := fun o => by simp [makes]
  cases r with
  | nil =>
    simp only [pushR]
    split
    · rename_i hp
      simp [makes, DeltaM.part, val, hp]
    · rename_i hp
      rw [List.reverse_singleton, mk1, part_one (by omega) hs, val_old hp]
      simp [makes]
  | cons o t =>
    obtain ⟨q1, q2, q3, q4, q5⟩ := h o (by simp)
    simp only [pushR]
    split
    · rename_i hp
      split
      · rename_i hl
        rw [List.reverse_cons, List.reverse_cons, makes_append, makes_append, mk1, mk1]
        simp only [DeltaM.part, hl, Int.toNat_zero, List.take_zero, List.append_nil, val, hp, if_true, List.append_assoc]
      · rw [List.reverse_cons, makes_append, mk1]
        simp [DeltaM.part, val, hp]
    · rename_i hp
      split
      · rename_i hl
        rw [List.reverse_cons, List.reverse_cons, makes_append, makes_append, mk1, mk1, part_more q1 q2 (by omega), val_old hp, hl.2]
        simp
      · rw [List.reverse_cons, makes_append, mk1, part_one (by omega) hs, val_old hp]
        simp
theorem fold_makes {old : List Int} : ∀ (ss : List (Int × Int)) {r : List OpR}, Ok old.length r → (∀ s ∈ ss, s.1 < old.length) → Ok old.length (ss.foldl pushR r) ∧ makes old (ss.foldl pushR r).reverse = makes old r.reverse ++ ss.map (val old)
  | [], r, h, _ => ⟨h, by simp⟩
  | s :: t, r, h, hs => by
    have h1 := h.push (by omega) (hs s (by simp))
    obtain ⟨a, b⟩ := fold_makes t h1 (fun s' hs' => hs s' (by simp [hs']))
    refine ⟨a, ?_⟩
    rw [List.foldl_cons, b, push_makes h (hs s (by simp))]
    simp
theorem canon_makes {old : List Int} (ss : List (Int × Int)) (hs : ∀ s ∈ ss, s.1 < old.length) : Ok old.length (canonR ss) ∧ makes old (canonR ss).reverse = ss.map (val old) := by
  have := fold_makes (old := old) ss (r := []) (fun o ho => by simp at ho) hs
  simpa [canonR, makes] using this
theorem good_of_ok {old : Int} {n : Nat} {r : List OpR} (h : Ok old r) (hb : Bd n r) (hn : n ≤ 64) : DeltaM.Good old r.reverse := by
  intro o ho
  rw [List.mem_reverse] at ho
  obtain ⟨q1, q2, q3, q4, q5⟩ := h o ho
  obtain ⟨_, _, _, _, b5, _⟩ := hb.2 o ho
  constructor
  · unfold badForm
    by_cases h0 : o.len = 0
    · have hd : o.data.length ≠ 0 := fun e => (q4 h0).2 (List.eq_nil_of_length_eq_zero e)
      have := (q4 h0).1
      omega
    · have hd : o.data.length = 0 := by rw [q5 h0]; rfl
      omega
  · unfold badRange
    omega
theorem srcs1_lt {old : Int} (h0 : 0 ≤ old) : ∀ {l : List OpR}, DeltaM.Good old l → ∀ s ∈ srcs1 l, s.1 < old
  | [], _, s, hs => by simp [srcs1] at hs
  | o :: t, h, s, hs => by
    have h1 := good_len (h o (by simp)).2
    unfold srcs1 at hs
    rcases List.mem_append.1 hs with hs | hs
    · obtain ⟨k, hk, rfl⟩ := List.mem_map.1 hs
      have := List.mem_range.1 hk
      simp only
      omega
    · rcases List.mem_append.1 hs with hs | hs
      · obtain ⟨v, hv, rfl⟩ := List.mem_map.1 hs
        simp only
        omega
      · exact srcs1_lt h0 (fun o' ho' => h o' (by simp [ho'])) s hs
theorem srcs2_lt {old : Int} (h0 : 0 ≤ old) {m : List (Int × Int)} (hm : ∀ s ∈ m, s.1 < old) : ∀ {l : List OpR}, ∀ s ∈ srcs2 m l, s.1 < old
  | [], s, hs => by simp [srcs2] at hs
  | o :: t, s, hs => by
    unfold srcs2 at hs
    rcases List.mem_append.1 hs with hs | hs
    · obtain ⟨v, hv, rfl⟩ := List.mem_map.1 hs
      simp only
      omega
    · rcases List.mem_append.1 hs with hs | hs
      · exact hm s (List.mem_of_mem_drop (List.mem_of_mem_take hs))
      · exact srcs2_lt h0 hm s hs
/-- what the joined steps of two good lists are and make -/
theorem joined_makes {old : List Int} {mid s : Int} {first second : List OpR} (h1 : check first old.length mid = 0) (h2 : check second mid s = 0)
    (hb1 : ∀ o ∈ first, ∀ v ∈ o.data, 0 ≤ v ∧ v ≤ 255) (hb2 : ∀ o ∈ second, ∀ v ∈ o.data, 0 ≤ v ∧ v ≤ 255) :
    makes old (joined first second) = makes (makes old first) second ∧ DeltaM.Good old.length (joined first second) ∧ total (joined first second) = s := by
  obtain ⟨-, -, o2, -, -, g1, t1⟩ := check_zero h1
  obtain ⟨-, -, -, s1, s2, g2, t2⟩ := check_zero h2
  have l1 := srcs1_length g1
  rw [t1] at l1
  have g2' : DeltaM.Good (srcs1 first).length second := by rw [l1]; exact g2
  have l2 := srcs2_length g2'
  rw [t2] at l2
  have hlt : ∀ x ∈ srcs2 (srcs1 first) second, x.1 < old.length := srcs2_lt (by omega) (srcs1_lt (by omega) g1)
  obtain ⟨ok, hm⟩ := canon_makes (old := old) _ hlt
  have hbd := Bd.canon _ (srcs2_src (srcs1_src o2 g1 hb1) hb2)
  have hg := good_of_ok ok hbd (by omega)
  have hmk : makes old (joined first second) = makes (makes old first) second := by
    unfold joined
    rw [hm, makes_srcs1 g1, makes_srcs2]
  refine ⟨hmk, hg, ?_⟩
  have hl := makes_length (old := old) hg
  rw [hm, List.length_map] at hl
  unfold joined
  omega
/-- it is refused only for its length -/
theorem joined_check {old mid s : Int} {first second : List OpR} (h1 : check first old mid = 0) (h2 : check second mid s = 0) (hold : ∃ l : List Int, (l.length : Int) = old)
    (hb1 : ∀ o ∈ first, ∀ v ∈ o.data, 0 ≤ v ∧ v ≤ 255) (hb2 : ∀ o ∈ second, ∀ v ∈ o.data, 0 ≤ v ∧ v ≤ 255) :
    check (joined first second) old s = if 40 < (joined first second).length then 1 else 0 := by
  obtain ⟨l, rfl⟩ := hold
  obtain ⟨-, hg, ht⟩ := joined_makes (old := l) h1 h2 hb1 hb2
  obtain ⟨-, o1, o2, -, -, -, -⟩ := check_zero h1
  obtain ⟨-, -, -, s1, s2, -, -⟩ := check_zero h2
  split
  · rename_i h
    unfold check
    rw [if_pos (.inl h)]
  · exact check_pass (by omega) ⟨o1, o2⟩ s2 hg ht
/-! a step that takes all, ahead or behind -/
/-- the one step that copies so many bytes, or none -/
def whole (n : Nat) : List OpR := if n = 0 then [] else [⟨0, n, []⟩]
theorem srcs1_whole (n : Nat) : srcs1 (whole n) = (List.range n).map (fun (k : Nat) => ((k : Int), (0 : Int))) := by
  unfold whole
  split
  · rename_i h; subst h; rfl
  · simp [srcs1]
theorem range_part (n A : Nat) : ∀ L, A + L ≤ n → (((List.range n).map (fun (k : Nat) => ((k : Int), (0 : Int)))).drop A).take L = (List.range L).map (fun (k : Nat) => ((A : Int) + (k : Int), (0 : Int)))
  | 0, _ => by simp
  | L + 1, h => by
    rw [List.range_succ, List.map_append, ← range_part n A L (by omega), List.take_add_one, List.getElem?_drop, List.getElem?_map, List.getElem?_range (by omega)]
    simp
theorem alone_first {n : Nat} : ∀ {l : List OpR}, DeltaM.Good n l → srcs2 (srcs1 (whole n)) l = srcs1 l
  | [], _ => rfl
  | o :: t, h => by
    obtain ⟨h1, h2⟩ := h o (by simp)
    have h3 := good_len h2
    have ih := alone_first (n := n) (l := t) (fun o' ho => h o' (by simp [ho]))
    unfold srcs2
    rw [ih, srcs1_whole, range_part n o.at_.toNat o.len.toNat (by omega), show ((o.at_.toNat : Nat) : Int) = o.at_ by omega]
    conv => rhs; unfold srcs1
    by_cases h0 : o.len = 0
    · rw [h0]; simp
    · have : o.data = [] := by
        unfold badForm at h1
        cases hd : o.data with
        | nil => rfl
        | cons x t' => rw [hd] at h1; simp at h1; omega
      rw [this]
      simp
theorem alone_second (m : List (Int × Int)) (n : Nat) (h : m.length = n) : srcs2 m (whole n) = m := by
  unfold whole
  split
  · rename_i h0
    subst h0
    rw [List.eq_nil_of_length_eq_zero h]
    rfl
  · subst h
    simp [srcs2]
theorem whole_check (n : Nat) (h : n ≤ 64) : check (whole n) n n = 0 := by
  unfold whole
  split
  · rename_i h0
    subst h0
    rfl
  · rename_i h0
    refine check_pass (by simp) (by omega) (by omega) ?_ (by simp [total, size])
    intro o ho
    obtain rfl : o = ⟨0, n, []⟩ := by simpa using ho
    constructor
    · unfold badForm; simp only [List.length_nil]; omega
    · unfold badRange; simp only; omega

/-! one step's sources make at most one step -/
theorem run_data : ∀ (D : List Int) (o : OpR) (t : List OpR), o.len = 0 → ((D.map (fun x => ((-1 : Int), x))).foldl pushR (o :: t)).length = t.length + 1
  | [], o, t, _ => rfl
  | x :: D, o, t, h => by
    simp only [List.map_cons, List.foldl_cons]
    rw [show pushR (o :: t) (-1, x) = ⟨o.at_, o.len, o.data ++ [x]⟩ :: t by simp [pushR, h]]
    exact run_data D _ t h
theorem run_copy (A : Int) (hA : 0 ≤ A) : ∀ (n : Nat) (o : OpR) (t : List OpR), 0 < o.len → o.at_ + o.len = A →
    ∃ o', ((List.range n).map (fun (k : Nat) => (A + (k : Int), (0 : Int)))).foldl pushR (o :: t) = o' :: t ∧ 0 < o'.len ∧ o'.at_ + o'.len = A + n
  | 0, o, t, h1, h2 => ⟨o, rfl, h1, by simpa using h2⟩
  | n + 1, o, t, h1, h2 => by
    obtain ⟨o', e, p1, p2⟩ := run_copy A hA n o t h1 h2
    refine ⟨⟨o'.at_, o'.len + 1, o'.data⟩, ?_, by simp only; omega, by simp only; omega⟩
    rw [List.range_succ, List.map_append, List.foldl_append, e]
    simp only [List.map_cons, List.map_nil, List.foldl_cons, List.foldl_nil, pushR]
    rw [if_neg (by omega), if_pos ⟨p1, p2⟩]
theorem push_len (r : List OpR) (s : Int × Int) : (pushR r s).length ≤ r.length + 1 := by
  cases r with
  | nil => simp only [pushR]; split <;> simp
  | cons o t =>
    simp only [pushR]
    split <;> split <;> simp
theorem data_len (D : List Int) (r : List OpR) : ((D.map (fun x => ((-1 : Int), x))).foldl pushR r).length ≤ r.length + 1 := by
  cases D with
  | nil => simp
  | cons x D =>
    simp only [List.map_cons, List.foldl_cons]
    have hp := push_len r (-1, x)
    obtain ⟨o, t, e, h⟩ : ∃ o t, pushR r (-1, x) = o :: t ∧ o.len = 0 := by
      cases r with
      | nil => exact ⟨⟨0, 0, [x]⟩, [], by simp [pushR], rfl⟩
      | cons o t =>
        by_cases h : o.len = 0
        · exact ⟨⟨o.at_, o.len, o.data ++ [x]⟩, t, by simp [pushR, h], h⟩
        · exact ⟨⟨0, 0, [x]⟩, o :: t, by simp [pushR, h], rfl⟩
    rw [e] at hp ⊢
    rw [run_data D o t h]
    simpa using hp
theorem copy_len (A : Int) (hA : 0 ≤ A) (n : Nat) (r : List OpR) : (((List.range n).map (fun (k : Nat) => (A + (k : Int), (0 : Int)))).foldl pushR r).length ≤ r.length + 1 := by
  cases n with
  | zero => simp
  | succ n =>
    have hp := push_len r (A, 0)
    obtain ⟨o, t, e, h1, h2⟩ : ∃ o t, pushR r (A, 0) = o :: t ∧ 0 < o.len ∧ o.at_ + o.len = A + 1 := by
      cases r with
      | nil => exact ⟨⟨A, 1, []⟩, [], by simp [pushR]; omega, by simp, by simp⟩
      | cons o t =>
        by_cases h : 0 < o.len ∧ o.at_ + o.len = A
        · exact ⟨⟨o.at_, o.len + 1, o.data⟩, t, by simp only [pushR]; rw [if_neg (by omega), if_pos h], by simp only; omega, by simp only; omega⟩
        · exact ⟨⟨A, 1, []⟩, o :: t, by simp only [pushR]; rw [if_neg (by omega), if_neg h], by simp, by simp⟩
    have hs : (List.range (n + 1)).map (fun (k : Nat) => (A + (k : Int), (0 : Int))) = (A, 0) :: (List.range n).map (fun (k : Nat) => (A + 1 + (k : Int), (0 : Int))) := by
      rw [List.range_succ_eq_map, List.map_cons, List.map_map]
      congr 1
      · simp
      · refine List.map_congr_left fun k _ => ?_
        simp only [Function.comp]
        congr 1
        omega
    rw [hs, List.foldl_cons, e]
    obtain ⟨o', e', _, _⟩ := run_copy (A + 1) (by omega) n o t h1 h2
    rw [e']
    rw [e] at hp
    simpa using hp
theorem srcs1_few {old : Int} : ∀ {l : List OpR} (r : List OpR), DeltaM.Good old l → ((srcs1 l).foldl pushR r).length ≤ r.length + l.length
  | [], r, _ => by simp [srcs1]
  | o :: t, r, h => by
    obtain ⟨h1, h2⟩ := h o (by simp)
    have h3 := good_len h2
    unfold srcs1
    rw [List.foldl_append, List.foldl_append]
    have ih := srcs1_few (old := old) (l := t) (List.foldl pushR (List.foldl pushR r ((List.range o.len.toNat).map (fun (k : Nat) => (o.at_ + (k : Int), (0 : Int))))) (o.data.map (fun x => ((-1 : Int), x)))) (fun o' ho => h o' (by simp [ho]))
    refine Nat.le_trans ih ?_
    simp only [List.length_cons]
    by_cases h0 : o.len = 0
    · have := data_len o.data r
      rw [h0]
      simp only [Int.toNat_zero, List.range_zero, List.map_nil, List.foldl_nil]
      omega
    · have hd : o.data = [] := by
        unfold badForm at h1
        cases hd : o.data with
        | nil => rfl
        | cons x t' => rw [hd] at h1; simp at h1; omega
      have := copy_len o.at_ (by omega) o.len.toNat r
      rw [hd]
      simp only [List.map_nil, List.foldl_nil]
      omega
theorem makes_whole (old : List Int) : makes old (whole old.length) = old := by
  unfold whole
  split
  · rename_i h
    rw [List.eq_nil_of_length_eq_zero h]
    rfl
  · simp [makes, DeltaM.part]
theorem whole_bytes (n : Nat) : ∀ o ∈ whole n, ∀ v ∈ o.data, 0 ≤ v ∧ v ≤ 255 := by
  intro o ho v hv
  unfold whole at ho
  split at ho
  · simp at ho
  · obtain rfl : o = ⟨0, n, []⟩ := by simpa using ho
    simp at hv
/-- with a step that takes all, ahead or behind -/
theorem alone {old : List Int} {l : List OpR} {S : Nat} (h : check l old.length S = 0) (hb : ∀ o ∈ l, ∀ v ∈ o.data, 0 ≤ v ∧ v ≤ 255) :
    ∃ J, composed (whole old.length) l old.length old.length S = (J, 0) ∧ composed l (whole S) old.length S S = (J, 0) ∧ J.length ≤ l.length ∧ check J old.length S = 0 ∧ makes old J = makes old l := by
  obtain ⟨h40, o1, o2, s1, s2, g, t⟩ := check_zero h
  have w1 := whole_check old.length (by omega)
  have w2 := whole_check S (by omega)
  have sl := srcs1_length g
  rw [t] at sl
  have e1 : joined (whole old.length) l = (canonR (srcs1 l)).reverse := by unfold joined; rw [alone_first g]
  have e2 : joined l (whole S) = (canonR (srcs1 l)).reverse := by unfold joined; rw [alone_second _ S (by omega)]
  have hlen : (canonR (srcs1 l)).reverse.length ≤ l.length := by
    rw [List.length_reverse]
    have := srcs1_few (old := (old.length : Int)) (l := l) [] g
    simpa [canonR] using this
  have jm := joined_makes w1 h (whole_bytes _) hb
  rw [e1, makes_whole] at jm
  have jc : check (canonR (srcs1 l)).reverse old.length S = 0 := check_pass (by omega) ⟨o1, o2⟩ s2 jm.2.1 jm.2.2
  refine ⟨_, ?_, ?_, hlen, jc, jm.1⟩
  · rw [composed_0 w1 h (by rw [e1]; exact jc), e1]
  · rw [composed_0 h w2 (by rw [e2]; exact jc), e2]
end Go.Proofs.Ytmpmaljkmfgagab.CompM
