/-
  Plain lists: where each byte comes from; steps that make the bytes one by one, joined where they go on.
-/
import Derived.Test.YtmpmaljkmfgagaaApplyMath
namespace Go.Proofs.Ytmpmaljkmfgagaa.CompM
open DeltaM

/-- one byte more: from place 'at' of the old image, or (below 0) the byte itself; the steps from behind -/
def pushR (r : List OpR) (s : Int × Int) : List OpR :=
  match r with
  | [] => if s.1 < 0 then [⟨0, 0, [s.2]⟩] else [⟨s.1, 1, []⟩]
  | o :: t =>
    if s.1 < 0 then (if o.len = 0 then ⟨o.at_, o.len, o.data ++ [s.2]⟩ :: t else ⟨0, 0, [s.2]⟩ :: o :: t)
    else (if 0 < o.len ∧ o.at_ + o.len = s.1 then ⟨o.at_, o.len + 1, o.data⟩ :: t else ⟨s.1, 1, []⟩ :: o :: t)
/-- steps that make the bytes -/
def canonR (ss : List (Int × Int)) : List OpR := ss.foldl pushR []
theorem canonR_append (x y : List (Int × Int)) : canonR (x ++ y) = y.foldl pushR (canonR x) := by simp [canonR]
theorem canonR_snoc (x : List (Int × Int)) (s : Int × Int) : canonR (x ++ [s]) = pushR (canonR x) s := by simp [canonR]

/-- where the bytes of an intermediate image come from -/
def srcs1 : List OpR → List (Int × Int)
  | [] => []
  | o :: t => (List.range o.len.toNat).map (fun (k : Nat) => (o.at_ + (k : Int), (0 : Int))) ++ (o.data.map (fun x => (-1, x)) ++ srcs1 t)
/-- where the bytes of the new image come from -/
def srcs2 (m : List (Int × Int)) : List OpR → List (Int × Int)
  | [] => []
  | o :: t => o.data.map (fun x => (-1, x)) ++ ((m.drop o.at_.toNat).take o.len.toNat ++ srcs2 m t)
/-- the document's Of: the steps -/
def joined (first second : List OpR) : List OpR := (canonR (srcs2 (srcs1 first) second)).reverse

/-- bounds that hold of n bytes pushed -/
def Bd (n : Nat) (r : List OpR) : Prop :=
  r.length ≤ n ∧ ∀ o ∈ r, 0 ≤ o.at_ ∧ o.at_ ≤ 64 ∧ 0 ≤ o.len ∧ o.len ≤ n ∧ o.data.length ≤ n ∧ ∀ v ∈ o.data, 0 ≤ v ∧ v ≤ 255
theorem Bd.nil : Bd 0 [] := ⟨Nat.le_refl _, fun o ho => by simp at ho⟩
theorem Bd.mono {n m : Nat} {r : List OpR} (h : Bd n r) (hm : n ≤ m) : Bd m r := by
  refine ⟨by have := h.1; omega, fun o ho => ?_⟩
  obtain ⟨h1, h2, h3, h4, h5, h6⟩ := h.2 o ho
  exact ⟨h1, h2, h3, by omega, by omega, h6⟩
/-- a source: a place of an image, or a byte -/
def IsSrc (s : Int × Int) : Prop := s.1 ≤ 63 ∧ 0 ≤ s.2 ∧ s.2 ≤ 255
theorem Bd.push {n : Nat} {r : List OpR} (h : Bd n r) {s : Int × Int} (hs : IsSrc s) : Bd (n + 1) (pushR r s) := by
  obtain ⟨at_, x⟩ := s
  obtain ⟨s1, s2, s3⟩ := hs
  simp only at s1 s2 s3
  have h' := h.mono (Nat.le_succ n)
  have one : ∀ o : OpR, (o = ⟨0, 0, [x]⟩ ∨ (0 ≤ at_ ∧ o = ⟨at_, 1, []⟩)) → 0 ≤ o.at_ ∧ o.at_ ≤ 64 ∧ 0 ≤ o.len ∧ o.len ≤ (n + 1 : Nat) ∧ o.data.length ≤ n + 1 ∧ ∀ v ∈ o.data, 0 ≤ v ∧ v ≤ 255 := by
    rintro o (rfl | ⟨h0, rfl⟩)
    · refine ⟨by simp, by simp, by simp, by simp only; omega, by simp, fun v hv => ?_⟩
      obtain rfl : v = x := by simpa using hv
      exact ⟨s2, s3⟩
    · exact ⟨h0, by simp only; omega, by simp, by simp only; omega, by simp, by simp⟩
  cases r with
  | nil =>
    simp only [pushR]
    split
    · exact ⟨by simp, fun o ho => one o (.inl (by simpa using ho))⟩
    · exact ⟨by simp, fun o ho => one o (.inr ⟨by omega, by simpa using ho⟩)⟩
  | cons o t =>
    obtain ⟨q1, q2, q3, q4, q5, q6⟩ := h.2 o (by simp)
    have hl := h.1
    simp only [List.length_cons] at hl
    have ht : ∀ o' ∈ t, 0 ≤ o'.at_ ∧ o'.at_ ≤ 64 ∧ 0 ≤ o'.len ∧ o'.len ≤ (n + 1 : Nat) ∧ o'.data.length ≤ n + 1 ∧ ∀ v ∈ o'.data, 0 ≤ v ∧ v ≤ 255 := fun o' ho => h'.2 o' (by simp [ho])
    simp only [pushR]
    split
    · split
      · refine ⟨by simp; omega, fun o' ho => ?_⟩
        rcases List.mem_cons.1 ho with rfl | ho
        · refine ⟨q1, q2, q3, by simp only; omega, by simp; omega, fun v hv => ?_⟩
          rcases List.mem_append.1 hv with hv | hv
          · exact q6 v hv
          · obtain rfl : v = x := by simpa using hv
            exact ⟨s2, s3⟩
        · exact ht o' ho
      · refine ⟨by simp; omega, fun o' ho => ?_⟩
        rcases List.mem_cons.1 ho with rfl | ho
        · exact one _ (.inl rfl)
        · exact h'.2 o' ho
    · split
      · refine ⟨by simp; omega, fun o' ho => ?_⟩
        rcases List.mem_cons.1 ho with rfl | ho
        · exact ⟨q1, q2, by simp only; omega, by simp only; omega, by simp only; omega, q6⟩
        · exact ht o' ho
      · refine ⟨by simp; omega, fun o' ho => ?_⟩
        rcases List.mem_cons.1 ho with rfl | ho
        · exact one _ (.inr ⟨by omega, rfl⟩)
        · exact h'.2 o' ho
theorem Bd.fold : ∀ (ss : List (Int × Int)) {n : Nat} {r : List OpR}, Bd n r → (∀ s ∈ ss, IsSrc s) → Bd (n + ss.length) (ss.foldl pushR r)
  | [], n, r, h, _ => h
  | s :: t, n, r, h, hs => by
    have := Bd.fold t (h.push (hs s (by simp))) (fun s' hs' => hs s' (by simp [hs']))
    simpa [Nat.add_assoc, Nat.add_comm 1] using this
theorem Bd.canon (ss : List (Int × Int)) (h : ∀ s ∈ ss, IsSrc s) : Bd ss.length (canonR ss) := by
  have := Bd.fold ss Bd.nil h
  rw [Nat.zero_add] at this
  exact this
end Go.Proofs.Ytmpmaljkmfgagaa.CompM
