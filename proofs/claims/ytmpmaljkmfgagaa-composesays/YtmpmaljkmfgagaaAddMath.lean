/-
  Plain lists: steps added one by one, combined where they go on, are those of the bytes' sources; the part of a list of steps that makes some bytes.
-/
import Derived.Test.YtmpmaljkmfgagaaCompMath2
namespace Go.Proofs.Ytmpmaljkmfgagaa.CompM
open DeltaM

/-- a step that inserts or copies something -/
def OneStep (o : OpR) : Prop := (o.len = 0 ∧ o.at_ = 0 ∧ o.data ≠ []) ∨ (0 < o.len ∧ 0 ≤ o.at_ ∧ o.data = [])
/-- a step added, from behind -/
def addR (r : List OpR) (o : OpR) : List OpR :=
  match r with
  | [] => [o]
  | x :: t =>
    if x.len = 0 ∧ o.len = 0 then ⟨x.at_, x.len, x.data ++ o.data⟩ :: t
    else if x.len ≠ 0 ∧ o.len ≠ 0 ∧ x.at_ + x.len = o.at_ then ⟨x.at_, x.len + o.len, x.data⟩ :: t
    else o :: x :: t
/-- where the bytes of one step come from -/
def src (o : OpR) : List (Int × Int) := (List.range o.len.toNat).map (fun (k : Nat) => (o.at_ + (k : Int), (0 : Int))) ++ o.data.map (fun x => (-1, x))
theorem srcs1_cons (o : OpR) (t : List OpR) : srcs1 (o :: t) = src o ++ srcs1 t := by simp [srcs1, src]
theorem src_data {o : OpR} (h : o.len = 0) : src o = o.data.map (fun x => (-1, x)) := by simp [src, h]
theorem src_copy {o : OpR} (h : o.data = []) : src o = (List.range o.len.toNat).map (fun (k : Nat) => (o.at_ + (k : Int), (0 : Int))) := by simp [src, h]
theorem good_one {old : Int} {o : OpR} (h : ¬ badForm o ∧ ¬ badRange old o) : OneStep o := by
  obtain ⟨h1, h2⟩ := h
  have h3 := good_len h2
  unfold badForm at h1
  by_cases hL : o.len = 0
  · left
    refine ⟨hL, by omega, fun e => ?_⟩
    rw [e] at h1
    simp at h1
    omega
  · right
    exact ⟨by omega, h3.2.1, List.eq_nil_of_length_eq_zero (by omega)⟩

theorem push_data (A : Int) (t : List OpR) : ∀ (d D : List Int), (d.map (fun x => ((-1 : Int), x))).foldl pushR (⟨A, 0, D⟩ :: t) = ⟨A, 0, D ++ d⟩ :: t
  | [], D => by simp
  | x :: d, D => by
    rw [List.map_cons, List.foldl_cons]
    have : pushR (⟨A, 0, D⟩ :: t) (-1, x) = ⟨A, 0, D ++ [x]⟩ :: t := by simp [pushR]
    rw [this, push_data A t d (D ++ [x])]
    simp
theorem push_copy (A : Int) (D : List Int) (t : List OpR) (hA : 0 ≤ A) : ∀ (m : Nat) (L : Int), 0 < L → ((List.range m).map (fun (k : Nat) => (A + L + (k : Int), (0 : Int)))).foldl pushR (⟨A, L, D⟩ :: t) = ⟨A, L + m, D⟩ :: t
  | 0, L, _ => by simp
  | m + 1, L, hL => by
    rw [List.range_succ, List.map_append, List.foldl_append, push_copy A D t hA m L hL]
    simp only [List.map_cons, List.map_nil, List.foldl_cons, List.foldl_nil]
    have : pushR (⟨A, L + m, D⟩ :: t) (A + L + (m : Int), 0) = ⟨A, L + m + 1, D⟩ :: t := by
      simp only [pushR]
      rw [if_neg (by omega), if_pos (by omega)]
    rw [this]
    congr 2
    omega
theorem range_cons (m : Nat) (A : Int) : (List.range (m + 1)).map (fun (k : Nat) => (A + (k : Int), (0 : Int))) = (A, 0) :: (List.range m).map (fun (k : Nat) => (A + 1 + (k : Int), (0 : Int))) := by
  rw [List.range_succ_eq_map, List.map_cons, List.map_map]
  congr 1
  · simp
  · apply List.map_congr_left
    intro k _
    simp only [Function.comp, Nat.succ_eq_add_one, Prod.mk.injEq, and_true]
    omega
/-- a step added is its sources pushed -/
theorem addR_src {r : List OpR} {o : OpR} (ho : OneStep o) (hr : ∀ x ∈ r, 0 ≤ x.len ∧ 0 ≤ x.at_) : addR r o = (src o).foldl pushR r := by
  obtain ⟨A, L, D⟩ := o
  rcases ho with ⟨h1, h2, h3⟩ | ⟨h1, h2, h3⟩
  · simp only at h1 h2 h3
    subst h1 h2
    rw [src_data rfl]
    simp only
    obtain ⟨y, d, rfl⟩ : ∃ y d, D = y :: d := by
      cases D with
      | nil => exact absurd rfl h3
      | cons y d => exact ⟨y, d, rfl⟩
    cases r with
    | nil =>
      rw [List.map_cons, List.foldl_cons]
      have : pushR [] (-1, y) = [⟨0, 0, [y]⟩] := by simp [pushR]
      rw [this, push_data]
      simp [addR]
    | cons x t =>
      obtain ⟨xa, xl, xd⟩ := x
      by_cases hx : xl = 0
      · subst hx
        rw [push_data]
        simp [addR]
      · rw [List.map_cons, List.foldl_cons]
        have : pushR (⟨xa, xl, xd⟩ :: t) (-1, y) = ⟨0, 0, [y]⟩ :: ⟨xa, xl, xd⟩ :: t := by simp [pushR, hx]
        rw [this, push_data]
        simp [addR, hx]
  · simp only at h1 h2 h3
    subst h3
    rw [src_copy rfl]
    simp only
    obtain ⟨m, hm⟩ : ∃ m : Nat, L = (m : Int) + 1 := ⟨L.toNat - 1, by omega⟩
    have hLt : L.toNat = m + 1 := by omega
    rw [hLt, range_cons, List.foldl_cons]
    cases r with
    | nil =>
      have : pushR [] (A, 0) = [⟨A, 1, []⟩] := by simp only [pushR]; rw [if_neg (by omega)]
      rw [this, push_copy A [] [] h2 m 1 (by omega), show (1 : Int) + m = L by omega]
      rfl
    | cons x t =>
      obtain ⟨xa, xl, xd⟩ := x
      have hx := hr ⟨xa, xl, xd⟩ (by simp)
      simp only at hx
      by_cases hgo : xl ≠ 0 ∧ xa + xl = A
      · have h5 : pushR (⟨xa, xl, xd⟩ :: t) (A, 0) = ⟨xa, xl + 1, xd⟩ :: t := by
          simp only [pushR]
          rw [if_neg (by omega), if_pos (by omega)]
        rw [h5, ← hgo.2]
        have := push_copy xa xd t hx.2 m (xl + 1) (by omega)
        rw [show xa + xl + 1 = xa + (xl + 1) by omega, this]
        simp only [addR]
        rw [if_neg (fun h => hgo.1 h.1), if_pos ⟨hgo.1, by omega, trivial⟩, show xl + 1 + (m : Int) = xl + L by omega]
      · have h5 : pushR (⟨xa, xl, xd⟩ :: t) (A, 0) = ⟨A, 1, []⟩ :: ⟨xa, xl, xd⟩ :: t := by
          simp only [pushR]
          rw [if_neg (by omega), if_neg (by omega)]
        rw [h5, push_copy A [] _ h2 m 1 (by omega), show (1 : Int) + m = L by omega]
        simp only [addR]
        rw [if_neg (by omega), if_neg (by omega)]
theorem Bd.nonneg {n : Nat} {r : List OpR} (h : Bd n r) : ∀ x ∈ r, 0 ≤ x.len ∧ 0 ≤ x.at_ := fun x hx => ⟨(h.2 x hx).2.2.1, (h.2 x hx).1⟩
/-- one more step of the bytes' sources -/
theorem canon_add {ss : List (Int × Int)} {o : OpR} (ho : OneStep o) (hs : ∀ s ∈ ss, IsSrc s) : addR (canonR ss) o = canonR (ss ++ src o) := by
  rw [canonR_append, addR_src ho (Bd.canon ss hs).nonneg]

/-- a step cut -/
def cutR (o : OpR) (i j : Int) : OpR := if o.len = 0 then ⟨0, 0, (o.data.drop i.toNat).take (j - i).toNat⟩ else ⟨o.at_ + i, j - i, []⟩
/-- the part of a list of steps that makes the bytes from s up to e, so many being made ahead of it -/
def pieces (s e : Int) : Int → List OpR → List OpR
  | _, [] => []
  | made, o :: t =>
    (if max (s - made) 0 < min (e - made) (size o) then [cutR o (max (s - made) 0) (min (e - made) (size o))] else []) ++ pieces s e (made + size o) t
theorem pieces_cons (s e made : Int) (o : OpR) (t : List OpR) : pieces s e made (o :: t) = (if max (s - made) 0 < min (e - made) (size o) then [cutR o (max (s - made) 0) (min (e - made) (size o))] else []) ++ pieces s e (made + size o) t := rfl
theorem cutR_src {o : OpR} (ho : OneStep o) {i j : Int} (h0 : 0 ≤ i) (hij : i < j) (hj : j ≤ size o) : src (cutR o i j) = ((src o).take j.toNat).drop i.toNat ∧ OneStep (cutR o i j) := by
  obtain ⟨A, L, D⟩ := o
  unfold cutR size at *
  simp only at *
  rcases ho with ⟨h1, h2, h3⟩ | ⟨h1, h2, h3⟩
  · simp only at h1 h2 h3
    subst h1 h2
    rw [if_pos rfl]
    refine ⟨?_, .inl ⟨rfl, rfl, ?_⟩⟩
    · rw [src_data rfl, src_data rfl]
      simp only
      rw [← List.map_take, ← List.map_drop, List.drop_take]
      congr 2
      omega
    · intro e
      have := congrArg List.length e
      simp at this
      omega
  · simp only at h1 h2 h3
    subst h3
    rw [if_neg (by omega)]
    refine ⟨?_, .inr ⟨by simp only; omega, by simp only; omega, rfl⟩⟩
    rw [src_copy rfl, src_copy rfl]
    simp only
    apply List.ext_getElem?
    intro k
    simp only [List.length_nil, Int.ofNat_zero, Int.add_zero] at hj
    rw [List.getElem?_drop, List.getElem?_take, List.getElem?_map, List.getElem?_map]
    by_cases hk : k < (j - i).toNat
    · rw [List.getElem?_range hk, if_pos (by omega), List.getElem?_range (by omega)]
      simp only [Option.map_some, Option.some.injEq, Prod.mk.injEq, and_true]
      omega
    · rw [List.getElem?_eq_none (by simp; omega)]
      split
      · omega
      · rfl
theorem src_length {o : OpR} (h : 0 ≤ o.len) : ((src o).length : Int) = size o := by
  unfold src size
  simp
  omega
theorem take_drop_append {α : Type} (A B : List α) (x y : Nat) : ((A ++ B).take x).drop y = (A.take x).drop y ++ (B.take (x - A.length)).drop (y - A.length) := by
  rw [List.take_append, List.drop_append, List.length_take]
  congr 1
  by_cases h : x ≤ A.length
  · rw [show x - A.length = 0 by omega]
    simp
  · rw [show min x A.length = A.length by omega]
theorem pieces_src (s e : Int) (hse : s ≤ e) : ∀ (l : List OpR) (made : Int), (∀ o ∈ l, OneStep o) → srcs1 (pieces s e made l) = ((srcs1 l).take (e - made).toNat).drop (s - made).toNat ∧ ∀ o ∈ pieces s e made l, OneStep o
  | [], made, _ => by simp [pieces, srcs1]
  | o :: t, made, h => by
    have ho := h o (by simp)
    have hlen : 0 ≤ o.len := by rcases ho with q | q <;> omega
    have hsl := src_length hlen
    obtain ⟨ih1, ih2⟩ := pieces_src s e hse t (made + size o) (fun o' ho' => h o' (by simp [ho']))
    rw [srcs1_cons, take_drop_append]
    have e1 : (e - made).toNat - (src o).length = (e - (made + size o)).toNat := by omega
    have e2 : (s - made).toNat - (src o).length = (s - (made + size o)).toNat := by omega
    rw [e1, e2, ← ih1]
    rw [pieces_cons]
    by_cases hc : max (s - made) 0 < min (e - made) (size o)
    · rw [if_pos hc]
      obtain ⟨c1, c2⟩ := cutR_src ho (by omega) hc (by omega)
      refine ⟨?_, fun o' ho' => ?_⟩
      · rw [srcs1_append, srcs1_cons, c1]
        simp only [srcs1, List.append_nil]
        congr 1
        rw [show (max (s - made) 0).toNat = (s - made).toNat by omega]
        congr 1
        by_cases hh : e - made ≤ size o
        · rw [show min (e - made) (size o) = e - made by omega]
        · rw [List.take_of_length_le (by omega), List.take_of_length_le (by omega)]
      · rcases List.mem_append.1 ho' with q | q
        · obtain rfl : o' = _ := by simpa using q
          exact c2
        · exact ih2 o' q
    · rw [if_neg hc]
      refine ⟨?_, by simpa using ih2⟩
      rw [List.nil_append]
      have : ((src o).take (e - made).toNat).drop (s - made).toNat = [] := by
        apply List.drop_eq_nil_of_le
        rw [List.length_take]
        omega
      rw [this, List.nil_append]
end Go.Proofs.Ytmpmaljkmfgagaa.CompM
