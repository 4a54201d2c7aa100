/-
  Plain facts on the checksum of a list of bytes: reckoned from the front it is what powers from behind give; a change of one byte changes it. No program is named here.
-/
import Derived.Below
namespace Go.Proofs.Ytmpmaljkmfgagaa.SumM

/-- the checksum s, gone on with over a list of bytes -/
def addL (s : Int) : List Int → Int
  | [] => s
  | x :: l => addL ((s * 31 + x) % 65521) l
/-- 31 to the length of the list -/
def pw : List Int → Int
  | [] => 1
  | _ :: l => pw l * 31 % 65521
/-- the bytes by their powers, from behind -/
def nn : List Int → Int
  | [] => 0
  | x :: l => (nn l + x * pw l) % 65521
/-- every number is a byte -/
def Byt (l : List Int) : Prop := ∀ x ∈ l, 0 ≤ x ∧ x ≤ 255

theorem pw_bd (l : List Int) : 0 ≤ pw l ∧ pw l ≤ 65520 := by
  cases l with
  | nil => simp [pw]
  | cons x l => simp only [pw]; omega
theorem nn_bd (l : List Int) : 0 ≤ nn l ∧ nn l ≤ 65520 := by
  cases l with
  | nil => simp [nn]
  | cons x l => simp only [nn]; omega
theorem addL_bd (l : List Int) : ∀ s, 0 ≤ s → s ≤ 65520 → 0 ≤ addL s l ∧ addL s l ≤ 65520 := by
  induction l with
  | nil => intro s h0 h1; simp only [addL]; omega
  | cons x l ih => intro s h0 h1; simp only [addL]; exact ih _ (by omega) (by omega)
theorem addL_snoc (l : List Int) : ∀ s x, addL s (l ++ [x]) = (addL s l * 31 + x) % 65521 := by
  induction l with
  | nil => intro s x; simp [addL]
  | cons y l ih => intro s x; simp only [List.cons_append, addL]; exact ih _ x
theorem addL_append (l m : List Int) : ∀ s, addL s (l ++ m) = addL (addL s l) m := by
  induction l with
  | nil => intro s; simp [addL]
  | cons y l ih => intro s; simp only [List.cons_append, addL]; exact ih _
theorem addL_pw (l : List Int) : ∀ s, 0 ≤ s → s ≤ 65520 → addL s l = (s * pw l + nn l) % 65521 := by
  induction l with
  | nil => intro s h0 h1; simp only [addL, pw, nn]; omega
  | cons x l ih =>
    intro s h0 h1
    simp only [addL, pw, nn]
    rw [ih _ (by omega) (by omega)]
    have e1 : ((s * 31 + x) % 65521 * pw l + nn l) % 65521 = ((s * 31 + x) * pw l + nn l) % 65521 := by
      rw [Int.add_emod, Int.mul_emod, Int.emod_emod_of_dvd _ (Int.dvd_refl _), ← Int.mul_emod, ← Int.add_emod]
    have e2 : (s * (pw l * 31 % 65521) + (nn l + x * pw l) % 65521) % 65521 = (s * (pw l * 31) + (nn l + x * pw l)) % 65521 := by
      rw [Int.add_emod, Int.mul_emod, Int.emod_emod_of_dvd _ (Int.dvd_refl _), Int.emod_emod_of_dvd _ (Int.dvd_refl _), ← Int.mul_emod, ← Int.add_emod]
    rw [e1, e2]
    congr 1
    rw [Int.add_mul, Int.mul_assoc, Int.mul_comm 31 (pw l)]
    omega
theorem addL_inj (l : List Int) : ∀ s t, 0 ≤ s → s ≤ 65520 → 0 ≤ t → t ≤ 65520 → addL s l = addL t l → s = t := by
  induction l with
  | nil => intro s t _ _ _ _ h; simpa [addL] using h
  | cons x l ih =>
    intro s t h0 h1 h2 h3 h
    simp only [addL] at h
    have := ih _ _ (by omega) (by omega) (by omega) (by omega) h
    omega
/-- one byte that is another one makes another sum -/
theorem addL_set (l : List Int) : ∀ (k : Nat) (s y : Int), 0 ≤ s → s ≤ 65520 → 0 ≤ y → y ≤ 255 → Byt l → k < l.length → (addL s (l.set k y) = addL s l ↔ y = l.getD k 0) := by
  induction l with
  | nil => intro k s y _ _ _ _ _ h; simp at h
  | cons x l ih =>
    intro k s y h0 h1 h2 h3 hb hk
    have hx := hb x (by simp)
    cases k with
    | zero =>
      simp only [List.set_cons_zero, addL, List.getD_cons_zero]
      constructor
      · intro h
        have := addL_inj l _ _ (by omega) (by omega) (by omega) (by omega) h
        omega
      · intro h; rw [h]
    | succ k =>
      simp only [List.set_cons_succ, addL, List.getD_cons_succ]
      exact ih k _ y (by omega) (by omega) h2 h3 (fun z hz => hb z (by simp [hz])) (by simpa using hk)
end Go.Proofs.Ytmpmaljkmfgagaa.SumM
