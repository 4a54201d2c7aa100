/-
  Plain data: the best paths from a version to each one, made better edge by edge, as package route keeps them.
-/
import Derived.Test.YtmpmaljkmfgagabRouteMath
namespace Go.Proofs.Ytmpmaljkmfgagab.RouteM

/-- a path as it is kept: the versions, the cost; none where there is no version -/
structure Pth where
  vs : List Int
  cost : Int
def noPth : Pth := ⟨[], 0⟩
instance : Inhabited Pth := ⟨noPth⟩
/-- what slices.Compare says -/
def cmpL : List Int → List Int → Int
  | [], [] => 0
  | [], _ :: _ => -1
  | _ :: _, [] => 1
  | x :: s, y :: t => if x < y then -1 else if y < x then 1 else cmpL s t
theorem cmpL_lt : ∀ {x y : List Int}, cmpL x y < 0 → lexLe x y
  | [], [], h => by simp [cmpL] at h
  | [], _ :: _, _ => trivial
  | _ :: _, [], h => by simp [cmpL] at h
  | x :: s, y :: t, h => by
    unfold cmpL at h
    by_cases h1 : x < y
    · exact .inl h1
    · rw [if_neg h1] at h
      by_cases h2 : y < x
      · rw [if_pos h2] at h; omega
      · rw [if_neg h2] at h
        exact .inr ⟨by omega, cmpL_lt h⟩
theorem cmpL_ge : ∀ {x y : List Int}, ¬ cmpL x y < 0 → lexLe y x
  | [], [], _ => trivial
  | [], _ :: _, h => by simp [cmpL] at h
  | _ :: _, [], _ => trivial
  | x :: s, y :: t, h => by
    unfold cmpL at h
    by_cases h1 : x < y
    · rw [if_pos h1] at h; omega
    · rw [if_neg h1] at h
      by_cases h2 : y < x
      · exact .inl h2
      · rw [if_neg h2] at h
        exact .inr ⟨by omega, cmpL_ge h⟩
theorem lexLe_trans : ∀ {x y z : List Int}, lexLe x y → lexLe y z → lexLe x z
  | [], _, _, _, _ => trivial
  | _ :: _, [], _, h, _ => absurd h (by simp [lexLe])
  | _ :: _, _ :: _, [], _, h => absurd h (by simp [lexLe])
  | x :: s, y :: t, z :: u, h, h' => by
    rcases h with h | ⟨rfl, h⟩ <;> rcases h' with h' | ⟨rfl, h'⟩
    · exact .inl (by omega)
    · exact .inl h
    · exact .inl h'
    · exact .inr ⟨rfl, lexLe_trans h h'⟩
theorem leW_refl (c : Int) (p : List Int) : leW c p c p := .inr ⟨rfl, .inr ⟨rfl, lexLe_refl _⟩⟩
theorem leW_trans {a b c : Int} {p q r : List Int} (h : leW a p b q) (h' : leW b q c r) : leW a p c r := by
  unfold leW at *
  rcases h with h | ⟨rfl, h⟩
  · exact .inl (by omega)
  · rcases h' with h' | ⟨rfl, h'⟩
    · exact .inl h'
    · refine .inr ⟨rfl, ?_⟩
      rcases h with h | ⟨e, h⟩ <;> rcases h' with h' | ⟨e', h'⟩
      · exact .inl (by omega)
      · exact .inl (by omega)
      · exact .inl (by omega)
      · exact .inr ⟨by omega, lexLe_trans h h'⟩
/-- the program's isBetter -/
def bett (a b : Pth) : Bool :=
  if a.vs = [] ∨ b.vs = [] then decide (a.vs ≠ [])
  else if a.cost ≠ b.cost then decide (a.cost < b.cost)
  else if a.vs.length ≠ b.vs.length then decide (a.vs.length < b.vs.length)
  else decide (cmpL a.vs b.vs < 0)
/-- no worse: whatever there is, is no worse than none -/
def leP (a b : Pth) : Prop := b.vs = [] ∨ (a.vs ≠ [] ∧ leW a.cost a.vs b.cost b.vs)
theorem leP_refl (a : Pth) : leP a a := by
  by_cases h : a.vs = []
  · exact .inl h
  · exact .inr ⟨h, leW_refl _ _⟩
theorem leP_trans {a b c : Pth} (h : leP a b) (h' : leP b c) : leP a c := by
  rcases h' with h' | ⟨h1, h2⟩
  · exact .inl h'
  · rcases h with h | ⟨h3, h4⟩
    · exact absurd h h1
    · exact .inr ⟨h3, leW_trans h4 h2⟩
theorem bett_yes {a b : Pth} (h : bett a b = true) : leP a b := by
  unfold bett at h
  by_cases h1 : a.vs = [] ∨ b.vs = []
  · rw [if_pos h1] at h
    have h2 := of_decide_eq_true h
    exact .inl (h1.resolve_left h2)
  · rw [if_neg h1] at h
    have ha : a.vs ≠ [] := fun e => h1 (.inl e)
    refine .inr ⟨ha, ?_⟩
    by_cases h2 : a.cost ≠ b.cost
    · rw [if_pos h2] at h
      exact .inl (of_decide_eq_true h)
    · rw [if_neg h2] at h
      refine .inr ⟨by omega, ?_⟩
      by_cases h3 : a.vs.length ≠ b.vs.length
      · rw [if_pos h3] at h
        exact .inl (of_decide_eq_true h)
      · rw [if_neg h3] at h
        exact .inr ⟨by omega, cmpL_lt (of_decide_eq_true h)⟩
theorem bett_no {a b : Pth} (h : bett a b = false) : leP b a := by
  unfold bett at h
  by_cases h1 : a.vs = [] ∨ b.vs = []
  · rw [if_pos h1] at h
    have h2 := of_decide_eq_false h
    exact .inl (Decidable.not_not.1 h2)
  · rw [if_neg h1] at h
    have hb : b.vs ≠ [] := fun e => h1 (.inr e)
    refine .inr ⟨hb, ?_⟩
    by_cases h2 : a.cost ≠ b.cost
    · rw [if_pos h2] at h
      have := of_decide_eq_false h
      exact .inl (by omega)
    · rw [if_neg h2] at h
      refine .inr ⟨by omega, ?_⟩
      by_cases h3 : a.vs.length ≠ b.vs.length
      · rw [if_pos h3] at h
        have := of_decide_eq_false h
        exact .inl (by omega)
      · rw [if_neg h3] at h
        exact .inr ⟨by omega, cmpL_ge (of_decide_eq_false h)⟩
/-- the program's extended -/
def ext (p : Pth) (e : EdR) : Pth := if p.vs = [] then noPth else ⟨p.vs ++ [e.to_], p.cost + e.cost⟩
theorem ext_mono {a b : Pth} (e : EdR) (h : leP a b) : leP (ext a e) (ext b e) := by
  by_cases hb : b.vs = []
  · exact .inl (by unfold ext; rw [if_pos hb]; rfl)
  · rcases h with h | ⟨h1, h2⟩
    · exact absurd h hb
    · unfold ext
      rw [if_neg hb, if_neg h1]
      refine .inr ⟨by simp, ?_⟩
      unfold leW at h2 ⊢
      simp only [List.length_append, List.length_cons, List.length_nil]
      rcases h2 with h2 | ⟨h2, h3 | ⟨h3, h4⟩⟩
      · exact .inl (by omega)
      · exact .inr ⟨by omega, .inl (by omega)⟩
      · exact .inr ⟨by omega, .inr ⟨by omega, lexLe_app_r _ h3 h4⟩⟩
def pat (A : List Pth) (v : Int) : Pth := A.getD v.toNat noPth
theorem pat_set {A : List Pth} {u v : Int} {x : Pth} (hA : A.length = 31) (hu : 0 ≤ u ∧ u ≤ 30) (hv : 0 ≤ v ∧ v ≤ 30) : pat (A.set u.toNat x) v = if v = u then x else pat A v := by
  unfold pat
  by_cases h : v = u
  · subst h
    rw [if_pos rfl]
    simp [List.getD_eq_getElem?_getD, show v.toNat < A.length by omega]
  · rw [if_neg h]
    simp [List.getD_eq_getElem?_getD, show ¬ u.toNat = v.toNat by omega]
/-- one edge is looked at -/
def rlx (A : List Pth) (e : EdR) : List Pth := if bett (ext (pat A e.fr) e) (pat A e.to_) = true then A.set e.to_.toNat (ext (pat A e.fr) e) else A
/-- a way by its last edge -/
theorem Way.unsnoc {l : List EdR} {a b c : Int} {p : List Int} (h : Way l b a p c) : (a = b ∧ p = [b] ∧ c = 0) ∨ ∃ e ∈ l, ∃ p0 c0, Way l e.fr a p0 c0 ∧ e.to_ = b ∧ p = p0 ++ [b] ∧ c = c0 + e.cost := by
  induction h with
  | one => exact .inl ⟨rfl, rfl, rfl⟩
  | step e t c he h ih =>
    rcases ih with ⟨h1, rfl, rfl⟩ | ⟨e', he', p0, c0, h1, h2, rfl, rfl⟩
    · exact .inr ⟨e, he, [e.fr], 0, .one, h1, rfl, by omega⟩
    · exact .inr ⟨e', he', e.fr :: p0, e.cost + c0, .step e p0 c0 he h1, h2, rfl, by omega⟩
theorem Way.end_ {l : List EdR} (hl : okAll l) {a b c : Int} {p : List Int} (ha : 1 ≤ a ∧ a ≤ 30) (h : Way l b a p c) : 1 ≤ b ∧ b ≤ 30 := by
  rcases h.unsnoc with ⟨rfl, _⟩ | ⟨e, he, _, _, _, rfl, _⟩
  · exact ha
  · exact (ok_nums hl he).2.1
/-- what is kept, behind t looks: paths -/
structure Snd (l : List EdR) (fr : Int) (t : Nat) (A : List Pth) : Prop where
  len : A.length = 31
  at_ : ∀ v, 0 ≤ v ∧ v ≤ 30 → pat A v = noPth ∨ (Way l v fr (pat A v).vs (pat A v).cost ∧ (pat A v).vs.length ≤ t + 1)
/-- .. and paths of so many edges at most are no better -/
def Cmp (l : List EdR) (fr : Int) (k : Nat) (A : List Pth) : Prop := ∀ v p c, Way l v fr p c → p.length ≤ k + 1 → leP (pat A v) ⟨p, c⟩
section
variable {l : List EdR} {fr : Int}
theorem Snd.start (l : List EdR) (hf : 1 ≤ fr ∧ fr ≤ 30) : Snd l fr 0 ((List.replicate 31 noPth).set fr.toNat ⟨[fr], 0⟩) := by
  refine ⟨by simp, fun v hv => ?_⟩
  rw [pat_set (by simp) (by omega : 0 ≤ fr ∧ fr ≤ 30) hv]
  by_cases h : v = fr
  · subst h
    rw [if_pos rfl]
    exact .inr ⟨.one, by simp⟩
  · rw [if_neg h]
    refine .inl ?_
    unfold pat
    rw [List.getD_eq_getElem?_getD, List.getElem?_replicate, if_pos (by omega)]
    rfl
theorem Cmp.start (l : List EdR) (hf : 1 ≤ fr ∧ fr ≤ 30) : Cmp l fr 0 ((List.replicate 31 noPth).set fr.toNat ⟨[fr], 0⟩) := by
  intro v p c h hp
  cases h with
  | one =>
    rw [pat_set (by simp) (by omega : 0 ≤ fr ∧ fr ≤ 30) (by omega), if_pos rfl]
    exact leP_refl _
  | step e t c he h =>
    have := h.len
    simp only [List.length_cons] at hp
    omega
theorem Snd.rlx (hl : okAll l) {t : Nat} {A : List Pth} (h : Snd l fr t A) {e : EdR} (he : e ∈ l) : Snd l fr (t + 1) (rlx A e) := by
  obtain ⟨n1, n2, n3⟩ := ok_nums hl he
  have hlen := h.len
  unfold RouteM.rlx
  split
  · rename_i hb
    refine ⟨by simpa using hlen, fun v hv => ?_⟩
    rw [pat_set hlen (by omega : 0 ≤ e.to_ ∧ e.to_ ≤ 30) hv]
    by_cases hve : v = e.to_
    · rw [if_pos hve]
      rcases h.at_ e.fr (by omega) with h1 | ⟨h1, h2⟩
      · left
        unfold ext
        rw [h1]
        rfl
      · right
        have hne : (pat A e.fr).vs ≠ [] := by
          intro e0
          have := h1.len
          rw [e0] at this
          simp at this
        unfold ext
        rw [if_neg hne]
        refine ⟨by rw [hve]; exact h1.snoc he, by simp only [List.length_append, List.length_cons, List.length_nil]; omega⟩
    · rw [if_neg hve]
      rcases h.at_ v hv with h1 | ⟨h1, h2⟩
      · exact .inl h1
      · exact .inr ⟨h1, by omega⟩
  · refine ⟨hlen, fun v hv => ?_⟩
    rcases h.at_ v hv with h1 | ⟨h1, h2⟩
    · exact .inl h1
    · exact .inr ⟨h1, by omega⟩
/-- a look makes nothing worse -/
theorem rlx_le {A : List Pth} (hA : A.length = 31) {e : EdR} (h2 : 0 ≤ e.to_ ∧ e.to_ ≤ 30) {v : Int} (hv : 0 ≤ v ∧ v ≤ 30) : leP (pat (rlx A e) v) (pat A v) := by
  unfold rlx
  split
  · rename_i hb
    rw [pat_set hA h2 hv]
    by_cases hve : v = e.to_
    · rw [if_pos hve, hve]
      exact bett_yes hb
    · rw [if_neg hve]
      exact leP_refl _
  · exact leP_refl _
/-- behind a look at an edge its end is no worse than its beginning and the edge -/
theorem rlx_edge {A : List Pth} (hA : A.length = 31) {e : EdR} (h2 : 0 ≤ e.to_ ∧ e.to_ ≤ 30) : leP (pat (rlx A e) e.to_) (ext (pat A e.fr) e) := by
  unfold rlx
  split
  · rw [pat_set hA h2 h2, if_pos rfl]
    exact leP_refl _
  · rename_i hb
    exact bett_no (by simpa using hb)
/-- within a round: paths of one edge more, by the edges that were looked at -/
def Hlf (l : List EdR) (fr : Int) (k i : Nat) (A : List Pth) : Prop :=
  Cmp l fr k A ∧ ∀ j, j < i → j < l.length → ∀ p c, Way l (l.getD j default).fr fr p c → p.length ≤ k + 1 → leP (pat A (l.getD j default).to_) (ext ⟨p, c⟩ (l.getD j default))
theorem Hlf.start {k : Nat} {A : List Pth} (h : Cmp l fr k A) : Hlf l fr k 0 A := ⟨h, fun j hj => absurd hj (by omega)⟩
theorem Hlf.next (hl : okAll l) (hf : 1 ≤ fr ∧ fr ≤ 30) {t k i : Nat} {A : List Pth} (hs : Snd l fr t A) (h : Hlf l fr k i A) (hlt : i < l.length) : Hlf l fr k (i + 1) (rlx A (l.getD i default)) := by
  have hget : ∀ j, j < l.length → l.getD j default ∈ l := fun j hj => by rw [List.getD_eq_getElem?_getD, List.getElem?_eq_getElem hj]; exact List.getElem_mem hj
  have n := ok_nums hl (hget i hlt)
  have h2 : 0 ≤ (l.getD i default).to_ ∧ (l.getD i default).to_ ≤ 30 := by omega
  refine ⟨fun v p c hw hp => ?_, fun j hj hjl p c hw hp => ?_⟩
  · have hv := hw.end_ hl hf
    exact leP_trans (rlx_le hs.len h2 (by omega)) (h.1 v p c hw hp)
  · by_cases hji : j < i
    · have nj := ok_nums hl (hget j hjl)
      exact leP_trans (rlx_le hs.len h2 (by omega)) (h.2 j hji hjl p c hw hp)
    · obtain rfl : j = i := by omega
      exact leP_trans (rlx_edge hs.len h2) (ext_mono _ (h.1 _ p c hw hp))
theorem Hlf.done {k : Nat} {A : List Pth} (h : Hlf l fr k l.length A) : Cmp l fr (k + 1) A := by
  intro v p c hw hp
  rcases hw.unsnoc with ⟨rfl, rfl, rfl⟩ | ⟨e, he, p0, c0, h1, rfl, rfl, rfl⟩
  · exact h.1 _ _ _ .one (by simp)
  · obtain ⟨j, hj, rfl⟩ := List.mem_iff_getElem.1 he
    have e1 : l.getD j default = l[j] := by rw [List.getD_eq_getElem?_getD, List.getElem?_eq_getElem hj]; rfl
    have := h.2 j hj hj p0 c0 (by rw [e1]; exact h1) (by simp only [List.length_append, List.length_cons, List.length_nil] at hp; omega)
    rw [e1] at this
    have hne : p0 ≠ [] := by
      intro e0
      have := h1.len
      rw [e0] at this
      simp at this
    unfold ext at this
    rwa [if_neg hne] at this
/-- what is kept in the end: no path where there is none .. -/
theorem Cmp.none (hl : okAll l) {A : List Pth} (h : Cmp l fr 29 A) {v : Int} (hv : 1 ≤ v ∧ v ≤ 30) (he : (pat A v).vs = []) : NoWay l fr v := by
  intro p c hw
  obtain ⟨p', c', h1, h2, h3, h4⟩ := short hl hv p.length (Nat.le_refl _) hw
  rcases h v p' c' h1 (by omega) with h5 | ⟨h5, _⟩
  · have := h1.len
    simp only at h5
    rw [h5] at this
    simp at this
  · exact h5 he
/-- .. else the best one -/
theorem Cmp.best (hl : okAll l) {A : List Pth} {t : Nat} (hs : Snd l fr t A) (h : Cmp l fr 29 A) {v : Int} (hv : 1 ≤ v ∧ v ≤ 30) (he : (pat A v).vs ≠ []) : Best l fr v (pat A v).vs (pat A v).cost := by
  have hw : Way l v fr (pat A v).vs (pat A v).cost := by
    rcases hs.at_ v (by omega) with h1 | h1
    · rw [h1] at he
      exact absurd rfl he
    · exact h1.1
  have key : ∀ p' c', Way l v fr p' c' → p'.length ≤ 30 → leW (pat A v).cost (pat A v).vs c' p' := by
    intro p' c' h1 h2
    rcases h v p' c' h1 (by omega) with h5 | ⟨_, h5⟩
    · have := h1.len
      simp only at h5
      rw [h5] at this
      simp at this
    · exact h5
  refine ⟨hw, fun p c h1 => ?_⟩
  by_cases h30 : p.length ≤ 30
  · exact key p c h1 h30
  · obtain ⟨p', c', h2, h3, h4, h5⟩ := short hl hv p.length (Nat.le_refl _) h1
    have h6 := key p' c' h2 h3
    unfold leW at h6 ⊢
    rcases h6 with h6 | ⟨h6, h7⟩
    · exact .inl (by omega)
    · by_cases h8 : c' < c
      · exact .inl (by omega)
      · refine .inr ⟨by omega, .inl ?_⟩
        rcases h7 with h7 | ⟨h7, _⟩ <;> omega
theorem Snd.bound (hl : okAll l) {A : List Pth} {t : Nat} (hs : Snd l fr t A) {v : Int} (hv : 0 ≤ v ∧ v ≤ 30) : 0 ≤ (pat A v).cost ∧ (pat A v).cost ≤ 1000 * t ∧ (pat A v).vs.length ≤ t + 1 := by
  rcases hs.at_ v hv with h1 | ⟨h1, h2⟩
  · rw [h1]
    simp only [noPth, List.length_nil]
    omega
  · have := h1.cost_ge hl
    have := h1.cost_le hl
    have := h1.len
    omega
end
end Go.Proofs.Ytmpmaljkmfgagab.RouteM
