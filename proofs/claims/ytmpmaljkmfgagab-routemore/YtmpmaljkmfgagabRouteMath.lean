/-
  Plain data: ways by edges, the best of them, and what the document promises of it.
-/
import Derived.Below
namespace Go.Proofs.Ytmpmaljkmfgagab.RouteM

/-- an edge -/
structure EdR where
  fr : Int
  to_ : Int
  cost : Int
instance : Inhabited EdR := ⟨⟨0, 0, 0⟩⟩
def badEdge (e : EdR) : Prop := ¬ (1 ≤ e.fr ∧ e.fr ≤ 30) ∨ ¬ (1 ≤ e.to_ ∧ e.to_ ≤ 30) ∨ ¬ (1 ≤ e.cost ∧ e.cost ≤ 1000)
instance (e : EdR) : Decidable (badEdge e) := by unfold badEdge; infer_instance
def okAll (l : List EdR) : Prop := ∀ e ∈ l, ¬ badEdge e
theorem ok_nums {l : List EdR} (h : okAll l) {e : EdR} (he : e ∈ l) : (1 ≤ e.fr ∧ e.fr ≤ 30) ∧ (1 ≤ e.to_ ∧ e.to_ ≤ 30) ∧ 1 ≤ e.cost ∧ e.cost ≤ 1000 := by
  have := h e he
  unfold badEdge at this
  omega
/-- the document's Check -/
def chk : List EdR → Int
  | [] => 0
  | e :: t => if badEdge e then 2 else chk t
def check (l : List EdR) : Int := if 60 < l.length then 1 else chk l
theorem chk_ok : ∀ {l : List EdR}, chk l = 0 ↔ okAll l
  | [] => ⟨fun _ e he => by simp at he, fun _ => rfl⟩
  | e :: t => by
    have ih := chk_ok (l := t)
    unfold chk
    by_cases h : badEdge e
    · rw [if_pos h]
      exact ⟨fun h2 => by omega, fun h2 => absurd h (h2 e (by simp))⟩
    · rw [if_neg h, ih]
      refine ⟨fun h2 e' he => ?_, fun h2 e' he => h2 e' (by simp [he])⟩
      rcases List.mem_cons.1 he with rfl | he
      · exact h
      · exact h2 e' he
theorem check_ok {l : List EdR} (h : check l = 0) : l.length ≤ 60 ∧ okAll l := by
  unfold check at h
  split at h
  · omega
  · exact ⟨by omega, chk_ok.1 h⟩

/-- a way from one version to another one: the versions, the cost -/
inductive Way (l : List EdR) (b : Int) : Int → List Int → Int → Prop
  | one : Way l b b [b] 0
  | step (e : EdR) (t : List Int) (c : Int) : e ∈ l → Way l b e.to_ t c → Way l b e.fr (e.fr :: t) (e.cost + c)
theorem Way.head {l : List EdR} {a b c : Int} {p : List Int} (h : Way l b a p c) : ∃ t, p = a :: t := by
  cases h with
  | one => exact ⟨[], rfl⟩
  | step e t c he h => exact ⟨t, rfl⟩
theorem Way.len {l : List EdR} {a b c : Int} {p : List Int} (h : Way l b a p c) : 1 ≤ p.length := by
  obtain ⟨t, rfl⟩ := h.head
  simp
theorem Way.last {l : List EdR} {a b c : Int} {p : List Int} (h : Way l b a p c) : p.getLast? = some b := by
  induction h with
  | one => rfl
  | step e t c he h ih =>
    obtain ⟨s, rfl⟩ := h.head
    rw [List.getLast?_cons_cons]
    exact ih
theorem Way.append {l : List EdR} {a v b c1 c2 : Int} {p t : List Int} (h : Way l v a p c1) (h2 : Way l b v (v :: t) c2) : Way l b a (p ++ t) (c1 + c2) := by
  induction h with
  | one => simpa using h2
  | step e s c he h ih =>
    have := Way.step (b := b) e _ _ he ih
    rwa [← Int.add_assoc] at this
theorem Way.split {l : List EdR} {b : Int} : ∀ {A : List Int} {a v c : Int} {C : List Int}, Way l b a (A ++ v :: C) c → ∃ c1 c2, Way l v a (A ++ [v]) c1 ∧ Way l b v (v :: C) c2 ∧ c = c1 + c2
  | [], a, v, c, C, h => by
    obtain ⟨t, ht⟩ := h.head
    simp only [List.nil_append, List.cons.injEq] at ht
    obtain ⟨rfl, rfl⟩ := ht
    exact ⟨0, c, .one, h, by omega⟩
  | x :: A, a, v, c, C, h => by
    generalize hp : x :: A ++ v :: C = p at h
    cases h with
    | one => simp at hp
    | step e t c' he h =>
      simp only [List.cons_append, List.cons.injEq] at hp
      obtain ⟨rfl, rfl⟩ := hp
      obtain ⟨c1, c2, h1, h2, rfl⟩ := Way.split h
      exact ⟨e.cost + c1, c2, .step e _ _ he h1, h2, by omega⟩
theorem Way.mono {l l' : List EdR} (hl : ∀ e ∈ l, e ∈ l') {a b c : Int} {p : List Int} (h : Way l b a p c) : Way l' b a p c := by
  induction h with
  | one => exact .one
  | step e t c he h ih => exact .step e t c (hl e he) ih
theorem Way.snoc {l : List EdR} {a c : Int} {p : List Int} {e : EdR} (h : Way l e.fr a p c) (he : e ∈ l) : Way l e.to_ a (p ++ [e.to_]) (c + e.cost) := by
  have := h.append (.step e _ _ he .one)
  rwa [Int.add_zero] at this
theorem Way.cost_ge {l : List EdR} (hl : okAll l) {a b c : Int} {p : List Int} (h : Way l b a p c) : (p.length : Int) - 1 ≤ c := by
  induction h with
  | one => simp
  | step e t c he h ih =>
    have := ok_nums hl he
    simp only [List.length_cons]
    omega
theorem Way.cost_le {l : List EdR} (hl : okAll l) {a b c : Int} {p : List Int} (h : Way l b a p c) : c ≤ 1000 * ((p.length : Int) - 1) := by
  induction h with
  | one => simp
  | step e t c he h ih =>
    have := ok_nums hl he
    simp only [List.length_cons]
    omega
theorem Way.mem {l : List EdR} (hl : okAll l) {a b c : Int} {p : List Int} (hb : 1 ≤ b ∧ b ≤ 30) (h : Way l b a p c) : ∀ v ∈ p, 1 ≤ v ∧ v ≤ 30 := by
  induction h with
  | one => simpa using hb
  | step e t c he h ih =>
    intro v hv
    rcases List.mem_cons.1 hv with rfl | hv
    · exact (ok_nums hl he).1
    · exact ih v hv

theorem dup {l : List Int} (h : ¬ l.Nodup) : ∃ A v B C, l = A ++ v :: (B ++ v :: C) := by
  induction l with
  | nil => exact absurd List.nodup_nil h
  | cons x t ih =>
    by_cases hx : x ∈ t
    · obtain ⟨B, C, rfl⟩ := List.append_of_mem hx
      exact ⟨[], x, B, C, rfl⟩
    · have : ¬ t.Nodup := fun ht => h (List.nodup_cons.2 ⟨hx, ht⟩)
      obtain ⟨A, v, B, C, rfl⟩ := ih this
      exact ⟨x :: A, v, B, C, rfl⟩
theorem nodup_len {l : List Int} (h : l.Nodup) (hr : ∀ v ∈ l, 1 ≤ v ∧ v ≤ 30) : l.length ≤ 30 := by
  have : l ⊆ (List.range 30).map (fun i : Nat => (i : Int) + 1) := by
    intro v hv
    have := hr v hv
    rw [List.mem_map]
    exact ⟨v.toNat - 1, by rw [List.mem_range]; omega, by omega⟩
  have := h.length_le_of_subset this
  simpa using this
/-- of every way there is one of thirty versions at most, no dearer and no longer -/
theorem short {l : List EdR} (hl : okAll l) {b : Int} (hb : 1 ≤ b ∧ b ≤ 30) : ∀ (n : Nat) {a c : Int} {p : List Int}, p.length ≤ n → Way l b a p c → ∃ p' c', Way l b a p' c' ∧ p'.length ≤ 30 ∧ p'.length ≤ p.length ∧ c' ≤ c
  | 0, a, c, p, hn, h => by have := h.len; omega
  | n + 1, a, c, p, hn, h => by
    by_cases hp : p.length ≤ 30
    · exact ⟨p, c, h, hp, Nat.le_refl _, Int.le_refl _⟩
    · have : ¬ p.Nodup := fun hd => hp (nodup_len hd (h.mem hl hb))
      obtain ⟨A, v, B, C, rfl⟩ := dup this
      obtain ⟨c1, c2, h1, h2, rfl⟩ := h.split
      obtain ⟨c3, c4, h3, h4, rfl⟩ := Way.split (A := v :: B) h2
      have h5 := h1.append h4
      have g3 := h3.cost_ge hl
      have g3l := h3.len
      rw [List.append_assoc] at h5
      simp only [List.length_append, List.length_cons] at hn hp
      obtain ⟨p', c', q1, q2, q3, q4⟩ := short hl hb n (by simp only [List.length_append, List.length_cons, List.length_nil]; omega) h5
      refine ⟨p', c', q1, q2, ?_, by omega⟩
      simp only [List.length_append, List.length_cons, List.length_nil] at q3 ⊢
      omega

/-- the lower version at the first difference -/
def lexLe : List Int → List Int → Prop
  | [], _ => True
  | _ :: _, [] => False
  | x :: s, y :: t => x < y ∨ (x = y ∧ lexLe s t)
theorem lexLe_refl : ∀ l, lexLe l l
  | [] => trivial
  | _ :: t => .inr ⟨rfl, lexLe_refl t⟩
theorem lexLe_anti : ∀ {x y : List Int}, lexLe x y → lexLe y x → x = y
  | [], [], _, _ => rfl
  | [], _ :: _, _, h => absurd h (by simp [lexLe])
  | _ :: _, [], h, _ => absurd h (by simp [lexLe])
  | x :: s, y :: t, h, h' => by
    rcases h with h | ⟨rfl, h⟩ <;> rcases h' with h' | ⟨e, h'⟩
    · omega
    · omega
    · omega
    · rw [lexLe_anti h h']
theorem lexLe_app_r : ∀ {x y : List Int} (t : List Int), x.length = y.length → lexLe x y → lexLe (x ++ t) (y ++ t)
  | [], [], t, _, _ => lexLe_refl t
  | [], _ :: _, _, h, _ => by simp at h
  | _ :: _, [], _, h, _ => by simp at h
  | x :: s, y :: u, t, hl, h => by
    rcases h with h | ⟨rfl, h⟩
    · exact .inl h
    · exact .inr ⟨rfl, lexLe_app_r t (by simpa using hl) h⟩
theorem lexLe_app_l : ∀ (a : List Int) {x y : List Int}, lexLe (a ++ x) (a ++ y) ↔ lexLe x y
  | [], _, _ => Iff.rfl
  | z :: a, x, y => by
    simp only [List.cons_append, lexLe, lexLe_app_l a]
    constructor
    · rintro (h | h)
      · omega
      · exact h.2
    · exact fun h => .inr ⟨trivial, h⟩
theorem lexLe_cut : ∀ {x y : List Int} (t : List Int), x.length = y.length → lexLe (x ++ t) (y ++ t) → lexLe x y
  | [], [], _, _, _ => trivial
  | [], _ :: _, _, h, _ => by simp at h
  | _ :: _, [], _, h, _ => by simp at h
  | x :: s, y :: u, t, hl, h => by
    rcases h with h | ⟨rfl, h⟩
    · exact .inl h
    · exact .inr ⟨rfl, lexLe_cut t (by simpa using hl) h⟩
/-- no dearer; if alike, no longer; if alike, the lower version at the first difference -/
def leW (c : Int) (p : List Int) (c' : Int) (p' : List Int) : Prop := c < c' ∨ (c = c' ∧ (p.length < p'.length ∨ (p.length = p'.length ∧ lexLe p p')))
theorem leW_anti {c c' : Int} {p p' : List Int} (h : leW c p c' p') (h' : leW c' p' c p) : c = c' ∧ p = p' := by
  unfold leW at h h'
  rcases h with h | ⟨rfl, h⟩
  · rcases h' with h' | ⟨h', _⟩ <;> omega
  · rcases h' with h' | ⟨_, h'⟩
    · omega
    · rcases h with h | ⟨e, h⟩
      · rcases h' with h' | ⟨h', _⟩ <;> omega
      · rcases h' with h' | ⟨_, h'⟩
        · omega
        · exact ⟨rfl, lexLe_anti h h'⟩
/-- the document's best way -/
def Best (l : List EdR) (a b : Int) (p : List Int) (c : Int) : Prop := Way l b a p c ∧ ∀ p' c', Way l b a p' c' → leW c p c' p'
def NoWay (l : List EdR) (a b : Int) : Prop := ∀ p c, ¬ Way l b a p c
theorem Best.det {l : List EdR} {a b : Int} {p p' : List Int} {c c' : Int} (h : Best l a b p c) (h' : Best l a b p' c') : c = c' ∧ p = p' := leW_anti (h.2 _ _ h'.1) (h'.2 _ _ h.1)
theorem Best.same {l l' : List EdR} (hl : ∀ e, e ∈ l ↔ e ∈ l') {a b : Int} {p : List Int} {c : Int} (h : Best l a b p c) : Best l' a b p c :=
  ⟨h.1.mono (fun e he => (hl e).1 he), fun p' c' h' => h.2 p' c' (h'.mono (fun e he => (hl e).2 he))⟩
theorem NoWay.same {l l' : List EdR} (hl : ∀ e, e ∈ l ↔ e ∈ l') {a b : Int} (h : NoWay l a b) : NoWay l' a b := fun p c h' => h p c (h'.mono (fun e he => (hl e).2 he))
theorem Best.more {l l' : List EdR} (hl : ∀ e ∈ l, e ∈ l') {a b : Int} {p p' : List Int} {c c' : Int} (h : Best l a b p c) (h' : Best l' a b p' c') : c' ≤ c := by
  have := h'.2 _ _ (h.1.mono hl)
  unfold leW at this
  omega
theorem Best.edge {l : List EdR} {a : Int} {e : EdR} (he : e ∈ l) {p p' : List Int} {n m : Int} (h : Best l a e.to_ p n) (h' : Best l a e.fr p' m) : n ≤ m + e.cost := by
  have := h.2 _ _ (h'.1.snoc he)
  unfold leW at this
  omega
/-- part of a best way is a best one -/
theorem Best.parts {l : List EdR} {a b v c : Int} {A C : List Int} (h : Best l a b (A ++ v :: C) c) : ∃ c1 c2, Best l a v (A ++ [v]) c1 ∧ Best l v b (v :: C) c2 ∧ c = c1 + c2 := by
  obtain ⟨c1, c2, h1, h2, rfl⟩ := h.1.split
  refine ⟨c1, c2, ⟨h1, fun p' c' h' => ?_⟩, ⟨h2, fun p' c' h' => ?_⟩, rfl⟩
  · have h3 := h.2 _ _ (h'.append h2)
    have e : A ++ v :: C = (A ++ [v]) ++ C := by simp
    rw [e] at h3
    unfold leW at h3 ⊢
    simp only [List.length_append, List.length_cons, List.length_nil] at h3 ⊢
    rcases h3 with h3 | ⟨h3, h4 | ⟨h4, h5⟩⟩
    · exact .inl (by omega)
    · exact .inr ⟨by omega, .inl (by omega)⟩
    · exact .inr ⟨by omega, .inr ⟨by omega, lexLe_cut C (by simp only [List.length_append, List.length_cons, List.length_nil]; omega) h5⟩⟩
  · obtain ⟨t, rfl⟩ := h'.head
    have h3 := h.2 _ _ (h1.append h')
    have e : A ++ [v] ++ t = A ++ v :: t := by simp
    rw [e] at h3
    unfold leW at h3 ⊢
    simp only [List.length_append, List.length_cons] at h3 ⊢
    rcases h3 with h3 | ⟨h3, h4 | ⟨h4, h5⟩⟩
    · exact .inl (by omega)
    · exact .inr ⟨by omega, .inl (by omega)⟩
    · exact .inr ⟨by omega, .inr ⟨by omega, (lexLe_app_l A).1 h5⟩⟩

/-- the least edge between two versions, as a loop finds it: 0 if there is none -/
def least (u v : Int) : List EdR → Int → Int
  | [], m => m
  | e :: t, m => least u v t (if e.fr = u ∧ e.to_ = v ∧ (m = 0 ∨ e.cost < m) then e.cost else m)
theorem least_prop (u v : Int) : ∀ (l : List EdR) (m : Int), okAll l → 0 ≤ m → (least u v l m = m ∨ ∃ e ∈ l, e.fr = u ∧ e.to_ = v ∧ e.cost = least u v l m) ∧ 0 ≤ least u v l m ∧ (0 < m → 0 < least u v l m ∧ least u v l m ≤ m) ∧ ∀ e ∈ l, e.fr = u → e.to_ = v → 0 < least u v l m ∧ least u v l m ≤ e.cost
  | [], m, _, hm => ⟨.inl rfl, hm, fun h => ⟨h, Int.le_refl _⟩, fun e he => by simp at he⟩
  | e :: t, m, hl, hm => by
    have hlt : okAll t := fun e' he => hl e' (by simp [he])
    have he := ok_nums hl (List.mem_cons_self (a := e) (l := t))
    unfold least
    by_cases hc : e.fr = u ∧ e.to_ = v ∧ (m = 0 ∨ e.cost < m)
    · rw [if_pos hc]
      obtain ⟨q1, q2, q3, q4⟩ := least_prop u v t e.cost hlt (by omega)
      have q3' := q3 (by omega)
      refine ⟨?_, q2, fun h => ⟨q3'.1, by omega⟩, ?_⟩
      · rcases q1 with q1 | ⟨e', h1, h2, h3, h4⟩
        · exact .inr ⟨e, by simp, hc.1, hc.2.1, q1.symm⟩
        · exact .inr ⟨e', by simp [h1], h2, h3, h4⟩
      · intro e' h1 h2 h3
        rcases List.mem_cons.1 h1 with rfl | h1
        · exact q3'
        · exact q4 e' h1 h2 h3
    · rw [if_neg hc]
      obtain ⟨q1, q2, q3, q4⟩ := least_prop u v t m hlt hm
      refine ⟨?_, q2, q3, ?_⟩
      · rcases q1 with q1 | ⟨e', h1, h2, h3, h4⟩
        · exact .inl q1
        · exact .inr ⟨e', by simp [h1], h2, h3, h4⟩
      · intro e' h1 h2 h3
        rcases List.mem_cons.1 h1 with rfl | h1
        · have : ¬ (m = 0 ∨ e'.cost < m) := fun h => hc ⟨h2, h3, h⟩
          have := q3 (by omega)
          omega
        · exact q4 e' h1 h2 h3
/-- the sum of the least edges along versions -/
def sumLeast (l : List EdR) : List Int → Int
  | u :: v :: t => least u v l 0 + sumLeast l (v :: t)
  | _ => 0
theorem Way.least {l : List EdR} (hl : okAll l) {a b c : Int} {p : List Int} (h : Way l b a p c) : Way l b a p (sumLeast l p) ∧ sumLeast l p ≤ c := by
  induction h with
  | one => exact ⟨.one, Int.le_refl _⟩
  | step e t c he h ih =>
    obtain ⟨s, rfl⟩ := h.head
    obtain ⟨q1, q2, q3, q4⟩ := least_prop e.fr e.to_ l 0 hl (Int.le_refl _)
    have q5 := q4 e he rfl rfl
    rcases q1 with q1 | ⟨e', h1, h2, h3, h4⟩
    · omega
    · have h6 : Way l b e'.to_ (e.to_ :: s) (sumLeast l (e.to_ :: s)) := by rw [h3]; exact ih.1
      have := Way.step e' _ _ h1 h6
      rw [h2, h4] at this
      exact ⟨this, by simp only [sumLeast]; omega⟩
theorem Best.least {l : List EdR} (hl : okAll l) {a b c : Int} {p : List Int} (h : Best l a b p c) : sumLeast l p = c := by
  obtain ⟨h1, h2⟩ := h.1.least hl
  have := h.2 _ _ h1
  unfold leW at this
  omega
/-- along a way there is an edge each time -/
theorem Way.some {l : List EdR} (hl : okAll l) {b : Int} {u v a c : Int} {A t : List Int} (h : Way l b a (A ++ u :: v :: t) c) : 0 < RouteM.least u v l 0 := by
  obtain ⟨c1, c2, -, h2, -⟩ := h.split
  generalize hp : u :: v :: t = p at h2
  clear h
  cases h2 with
  | one => simp at hp
  | step e s c' he h3 =>
    obtain ⟨s', rfl⟩ := h3.head
    simp only [List.cons.injEq] at hp
    obtain ⟨-, rfl, -⟩ := hp
    exact ((least_prop e.fr e.to_ l 0 hl (Int.le_refl _)).2.2.2 e he rfl rfl).1
end Go.Proofs.Ytmpmaljkmfgagab.RouteM
