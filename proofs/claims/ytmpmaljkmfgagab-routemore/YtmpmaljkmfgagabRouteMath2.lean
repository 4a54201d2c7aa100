/-
  Plain data: the costs from each version to the end, made better edge by edge; the best way out of them.
-/
import Derived.Test.YtmpmaljkmfgagabRouteMath
namespace Go.Proofs.Ytmpmaljkmfgagab.RouteM

def far : Int := 1099511627776
def g (L : List Int) (v : Int) : Int := L.getD v.toNat 0
theorem g_set {L : List Int} {u v x : Int} (hL : L.length = 31) (hu : 0 ≤ u ∧ u ≤ 30) (hv : 0 ≤ v ∧ v ≤ 30) : g (L.set u.toNat x) v = if v = u then x else g L v := by
  unfold g
  by_cases h : v = u
  · subst h
    rw [if_pos rfl]
    simp [List.getD_eq_getElem?_getD, show v.toNat < L.length by omega]
  · rw [if_neg h]
    simp [List.getD_eq_getElem?_getD, show ¬ u.toNat = v.toNat by omega]
def lexP (c s c' s' : Int) : Prop := c < c' ∨ (c = c' ∧ s ≤ s')
theorem lexP_trans {a b c d e f : Int} (h : lexP a b c d) (h' : lexP c d e f) : lexP a b e f := by unfold lexP at *; omega
theorem lexP_refl (a b : Int) : lexP a b a b := .inr ⟨rfl, Int.le_refl _⟩
/-- one edge is looked at -/
def better (e : EdR) (C S : List Int) : Prop := g C e.to_ + e.cost < g C e.fr ∨ (g C e.to_ + e.cost = g C e.fr ∧ g S e.to_ + 1 < g S e.fr)
instance (e : EdR) (C S : List Int) : Decidable (better e C S) := by unfold better; infer_instance
def relax (A : List Int × List Int) (e : EdR) : List Int × List Int :=
  if better e A.1 A.2 then (A.1.set e.fr.toNat (g A.1 e.to_ + e.cost), A.2.set e.fr.toNat (g A.2 e.to_ + 1)) else A
/-- what the costs and the steps are, behind t looks -/
structure Inv (l : List EdR) (b : Int) (t : Int) (A : List Int × List Int) : Prop where
  l1 : A.1.length = 31
  l2 : A.2.length = 31
  at_ : ∀ v, 0 ≤ v ∧ v ≤ 30 → (g A.1 v = far ∧ g A.2 v = far) ∨ ((0 ≤ g A.1 v ∧ g A.1 v ≤ 1000 * t) ∧ (0 ≤ g A.2 v ∧ g A.2 v ≤ t) ∧ ∃ p, Way l b v p (g A.1 v) ∧ (p.length : Int) = g A.2 v + 1)
/-- .. and ways of so many edges at most are no better -/
def Comp (l : List EdR) (b : Int) (k : Nat) (A : List Int × List Int) : Prop := ∀ v p c, Way l b v p c → p.length ≤ k + 1 → lexP (g A.1 v) (g A.2 v) c ((p.length : Int) - 1)

theorem Inv.start (l : List EdR) {b : Int} (hb : 1 ≤ b ∧ b ≤ 30) : Inv l b 0 ((List.replicate 31 far).set b.toNat 0, (List.replicate 31 far).set b.toNat 0) := by
  refine ⟨by simp, by simp, fun v hv => ?_⟩
  simp only [g_set (L := List.replicate 31 far) (by simp) (by omega : 0 ≤ b ∧ b ≤ 30) hv]
  by_cases h : v = b
  · subst h
    rw [if_pos rfl]
    exact .inr ⟨by omega, by omega, [v], .one, rfl⟩
  · rw [if_neg h]
    refine .inl ?_
    have : g (List.replicate 31 far) v = far := by
      unfold g
      rw [List.getD_eq_getElem?_getD, List.getElem?_replicate, if_pos (by omega)]
      rfl
    exact ⟨this, this⟩
theorem Comp.start (l : List EdR) {b : Int} (hb : 1 ≤ b ∧ b ≤ 30) : Comp l b 0 ((List.replicate 31 far).set b.toNat 0, (List.replicate 31 far).set b.toNat 0) := by
  intro v p c h hp
  cases h with
  | one =>
    simp only [g_set (L := List.replicate 31 far) (by simp) (by omega : 0 ≤ b ∧ b ≤ 30) (by omega : 0 ≤ b ∧ b ≤ 30), if_pos]
    exact .inr ⟨rfl, by simp⟩
  | step e t c he h =>
    have := h.len
    simp only [List.length_cons] at hp
    omega
section
variable {l : List EdR} {b : Int}
theorem Inv.relax (hl : okAll l) {t : Int} (ht : 0 ≤ t ∧ t ≤ 1000000) {A : List Int × List Int} (h : Inv l b t A) {e : EdR} (he : e ∈ l) :
    Inv l b (t + 1) (relax A e) ∧ ∀ v, 0 ≤ v ∧ v ≤ 30 → lexP (g (RouteM.relax A e).1 v) (g (RouteM.relax A e).2 v) (g A.1 v) (g A.2 v) := by
  obtain ⟨n1, n2, n3⟩ := ok_nums hl he
  have hl1 := h.l1
  have hl2 := h.l2
  unfold RouteM.relax
  by_cases hb : better e A.1 A.2
  · rw [if_pos hb]
    unfold better at hb
    have hfr : g A.1 e.fr ≤ far := by
      rcases h.at_ e.fr (by omega) with ⟨h3, _⟩ | ⟨h3, _⟩
      · omega
      · unfold far; omega
    have hto : (0 ≤ g A.1 e.to_ ∧ g A.1 e.to_ ≤ 1000 * t) ∧ (0 ≤ g A.2 e.to_ ∧ g A.2 e.to_ ≤ t) ∧ ∃ p, Way l b e.to_ p (g A.1 e.to_) ∧ (p.length : Int) = g A.2 e.to_ + 1 := by
      rcases h.at_ e.to_ (by omega) with ⟨h1, h2⟩ | h1
      · omega
      · exact h1
    obtain ⟨q1, q2, p, q3, q4⟩ := hto
    refine ⟨⟨by simpa using hl1, by simpa using hl2, fun v hv => ?_⟩, fun v hv => ?_⟩
    · simp only [g_set hl1 (by omega : 0 ≤ e.fr ∧ e.fr ≤ 30) hv, g_set hl2 (by omega : 0 ≤ e.fr ∧ e.fr ≤ 30) hv]
      by_cases hve : v = e.fr
      · subst hve
        rw [if_pos rfl, if_pos rfl]
        refine .inr ⟨by omega, by omega, e.fr :: p, ?_, by simp only [List.length_cons]; omega⟩
        have := Way.step e p _ he q3
        rwa [Int.add_comm] at this
      · rw [if_neg hve, if_neg hve]
        rcases h.at_ v hv with h1 | ⟨h1, h2, h3⟩
        · exact .inl h1
        · exact .inr ⟨by omega, by omega, h3⟩
    · simp only [g_set hl1 (by omega : 0 ≤ e.fr ∧ e.fr ≤ 30) hv, g_set hl2 (by omega : 0 ≤ e.fr ∧ e.fr ≤ 30) hv]
      by_cases hve : v = e.fr
      · subst hve
        rw [if_pos rfl, if_pos rfl]
        unfold lexP
        omega
      · rw [if_neg hve, if_neg hve]
        exact lexP_refl _ _
  · rw [if_neg hb]
    refine ⟨⟨hl1, hl2, fun v hv => ?_⟩, fun v _ => lexP_refl _ _⟩
    rcases h.at_ v hv with h1 | ⟨h1, h2, h3⟩
    · exact .inl h1
    · exact .inr ⟨by omega, by omega, h3⟩
/-- behind a look at an edge its beginning is no worse than its end and the edge -/
theorem relax_edge (hl : okAll l) {A : List Int × List Int} (h1 : A.1.length = 31) (h2 : A.2.length = 31) {e : EdR} (he : e ∈ l) : lexP (g (relax A e).1 e.fr) (g (relax A e).2 e.fr) (g A.1 e.to_ + e.cost) (g A.2 e.to_ + 1) := by
  obtain ⟨n1, n2, n3⟩ := ok_nums hl he
  unfold relax
  by_cases hb : better e A.1 A.2
  · rw [if_pos hb]
    simp only [g_set h1 (by omega : 0 ≤ e.fr ∧ e.fr ≤ 30) (by omega : 0 ≤ e.fr ∧ e.fr ≤ 30), g_set h2 (by omega : 0 ≤ e.fr ∧ e.fr ≤ 30) (by omega : 0 ≤ e.fr ∧ e.fr ≤ 30), if_pos]
    exact lexP_refl _ _
  · rw [if_neg hb]
    unfold better at hb
    unfold lexP
    omega
/-- within a round: ways of one edge more, by the edges that were looked at -/
def Half (l : List EdR) (b : Int) (k i : Nat) (A : List Int × List Int) : Prop :=
  Comp l b k A ∧ ∀ j, j < i → j < l.length → ∀ p c, Way l b (l.getD j default).to_ p c → p.length ≤ k + 1 → lexP (g A.1 (l.getD j default).fr) (g A.2 (l.getD j default).fr) (c + (l.getD j default).cost) p.length
theorem Half.start {k : Nat} {A : List Int × List Int} (h : Comp l b k A) : Half l b k 0 A := ⟨h, fun j hj => absurd hj (by omega)⟩
theorem Half.next (hl : okAll l) (hb : 1 ≤ b ∧ b ≤ 30) {t : Int} (ht : 0 ≤ t ∧ t ≤ 1000000) {k i : Nat} {A : List Int × List Int} (hi : Inv l b t A) (h : Half l b k i A) (hlt : i < l.length) :
    Half l b k (i + 1) (relax A (l.getD i default)) ∧ Inv l b (t + 1) (relax A (l.getD i default)) := by
  have he : l.getD i default ∈ l := by rw [List.getD_eq_getElem?_getD, List.getElem?_eq_getElem hlt]; exact List.getElem_mem hlt
  obtain ⟨h1, h2⟩ := hi.relax hl ht he
  have h3 := relax_edge hl hi.l1 hi.l2 he
  refine ⟨⟨fun v p c hw hp => ?_, fun j hj hjl p c hw hp => ?_⟩, h1⟩
  · have hv := hw.mem hl hb
    obtain ⟨s, hs⟩ := hw.head
    have := hv v (by rw [hs]; simp)
    exact lexP_trans (h2 v (by omega)) (h.1 v p c hw hp)
  · by_cases hji : j < i
    · have hej : l.getD j default ∈ l := by rw [List.getD_eq_getElem?_getD, List.getElem?_eq_getElem hjl]; exact List.getElem_mem hjl
      have := ok_nums hl hej
      exact lexP_trans (h2 _ (by omega)) (h.2 j hji hjl p c hw hp)
    · obtain rfl : j = i := by omega
      have h4 := h.1 _ p c hw hp
      refine lexP_trans h3 ?_
      unfold lexP at h4 ⊢
      omega
theorem Half.done {k : Nat} {A : List Int × List Int} (h : Half l b k l.length A) : Comp l b (k + 1) A := by
  intro v p c hw hp
  cases hw with
  | one => exact h.1 _ _ _ .one (by simp)
  | step e t c he hw =>
    obtain ⟨j, hj, rfl⟩ := List.mem_iff_getElem.1 he
    have e1 : l.getD j default = l[j] := by rw [List.getD_eq_getElem?_getD, List.getElem?_eq_getElem hj]; rfl
    have := h.2 j hj hj t c (by rw [e1]; exact hw) (by simp only [List.length_cons] at hp; omega)
    rw [e1] at this
    simp only [List.length_cons]
    rw [Int.add_comm]
    rwa [show (((t.length + 1 : Nat) : Int) - 1) = t.length by omega]
/-- the costs and the steps are those of the best ways -/
structure Exact (l : List EdR) (b : Int) (C S : List Int) : Prop where
  sound : ∀ v, 0 ≤ v ∧ v ≤ 30 → (g C v = far ∧ g S v = far) ∨ ((0 ≤ g C v ∧ g C v ≤ 2000000) ∧ (0 ≤ g S v ∧ g S v ≤ 2000) ∧ ∃ p, Way l b v p (g C v) ∧ (p.length : Int) = g S v + 1)
  comp : ∀ v p c, Way l b v p c → lexP (g C v) (g S v) c ((p.length : Int) - 1)
  l1 : C.length = 31
  l2 : S.length = 31
theorem Exact.of (hl : okAll l) (hb : 1 ≤ b ∧ b ≤ 30) {t : Int} (ht : 0 ≤ t ∧ t ≤ 2000) {A : List Int × List Int} (hi : Inv l b t A) (hc : Comp l b 30 A) : Exact l b A.1 A.2 := by
  refine ⟨fun v hv => ?_, fun v p c hw => ?_, hi.l1, hi.l2⟩
  · rcases hi.at_ v hv with h1 | ⟨h1, h2, h3⟩
    · exact .inl h1
    · exact .inr ⟨by omega, by omega, h3⟩
  · obtain ⟨p', c', h1, h2, h3, h4⟩ := short hl hb p.length (Nat.le_refl _) hw
    have := hc v p' c' h1 (by omega)
    unfold lexP at this ⊢
    omega
variable {C S : List Int}
theorem Exact.noWay (hl : okAll l) (hb : 1 ≤ b ∧ b ≤ 30) (h : Exact l b C S) {v : Int} (hv : far ≤ g C v) : NoWay l v b := by
  intro p c hw
  obtain ⟨p', c', h1, h2, h3, h4⟩ := short hl hb p.length (Nat.le_refl _) hw
  have h5 := h1.cost_le hl
  have h6 := h.comp _ _ _ h1
  unfold lexP at h6
  unfold far at hv
  omega
theorem best_end (hl : okAll l) : Best l b b [b] 0 := by
  refine ⟨.one, fun p' c' h => ?_⟩
  have h1 := h.cost_ge hl
  have h2 := h.len
  obtain ⟨t, rfl⟩ := h.head
  unfold leW
  simp only [List.length_cons, List.length_nil] at h1 h2 ⊢
  by_cases h3 : t = []
  · subst h3
    simp only [List.length_nil] at h1 ⊢
    by_cases h4 : c' = 0
    · exact .inr ⟨h4.symm, .inr ⟨trivial, lexLe_refl _⟩⟩
    · exact .inl (by omega)
  · have : 0 < t.length := by cases t with
      | nil => exact absurd rfl h3
      | cons x s => simp
    exact .inl (by omega)
/-- an edge by which a best way may go -/
def tight (C S : List Int) (v : Int) (e : EdR) : Prop := e.fr = v ∧ g C e.to_ + e.cost = g C v ∧ g S e.to_ + 1 = g S v
instance (C S : List Int) (v : Int) (e : EdR) : Decidable (tight C S v e) := by unfold tight; infer_instance
theorem Exact.nums (hb : 1 ≤ b ∧ b ≤ 30) (hl : okAll l) (h : Exact l b C S) {v c : Int} {p : List Int} (hw : Way l b v p c) : ∃ q, Way l b v q (g C v) ∧ (q.length : Int) = g S v + 1 := by
  obtain ⟨s, rfl⟩ := hw.head
  have hv := hw.mem hl hb v (by simp)
  rcases h.sound v (by omega) with ⟨h1, h2⟩ | ⟨_, _, h3⟩
  · exact absurd hw (h.noWay hl hb (by omega) _ _)
  · exact h3
/-- the first edge of a way that is as good as the best one is such an edge -/
theorem Exact.first (hb : 1 ≤ b ∧ b ≤ 30) (hl : okAll l) (h : Exact l b C S) {e : EdR} (he : e ∈ l) {t : List Int} {c : Int} (hw : Way l b e.to_ t c) (hc : e.cost + c = g C e.fr) (hs : (t.length : Int) = g S e.fr) :
    tight C S e.fr e ∧ c = g C e.to_ ∧ (t.length : Int) = g S e.to_ + 1 := by
  obtain ⟨q, q1, q2⟩ := h.nums hb hl hw
  have h1 := h.comp _ _ _ hw
  have h2 := h.comp _ _ _ (Way.step e q _ he q1)
  unfold lexP at h1 h2
  simp only [List.length_cons] at h2
  unfold tight
  omega
/-- the step of the search from the front -/
theorem Exact.step (hb : 1 ≤ b ∧ b ≤ 30) (hl : okAll l) (h : Exact l b C S) {v : Int} (hv : v ≠ b) (hfar : g C v < far) (hr : 0 ≤ v ∧ v ≤ 30) :
    (∃ e ∈ l, tight C S v e) ∧ ∀ u, (∃ e ∈ l, tight C S v e ∧ e.to_ = u) → (∀ e ∈ l, tight C S v e → u ≤ e.to_) → g C u < far ∧ 0 < g S v ∧ g S u < g S v ∧ ∀ q, Best l u b q (g C u) → Best l v b (v :: q) (g C v) := by
  obtain ⟨hc1, hs1, p, hp, hpl⟩ : (0 ≤ g C v ∧ g C v ≤ 2000000) ∧ (0 ≤ g S v ∧ g S v ≤ 2000) ∧ ∃ p, Way l b v p (g C v) ∧ (p.length : Int) = g S v + 1 := by
    rcases h.sound v hr with ⟨h1, _⟩ | h1
    · omega
    · exact h1
  constructor
  · generalize hcc : g C v = cc at hp
    cases hp with
    | one => exact absurd rfl hv
    | step e t c he hw =>
      have := h.first hb hl he hw hcc.symm (by simp only [List.length_cons] at hpl; omega)
      exact ⟨e, he, this.1⟩
  · rintro u ⟨e, he, hte, rfl⟩ hmin
    have n := ok_nums hl he
    obtain ⟨rfl, t1, t2⟩ := hte
    have hCu : g C e.to_ < far := by
      unfold far at hfar ⊢
      omega
    obtain ⟨hd1, hd2, qu, hqu, hqul⟩ : (0 ≤ g C e.to_ ∧ g C e.to_ ≤ 2000000) ∧ (0 ≤ g S e.to_ ∧ g S e.to_ ≤ 2000) ∧ ∃ p, Way l b e.to_ p (g C e.to_) ∧ (p.length : Int) = g S e.to_ + 1 := by
      rcases h.sound e.to_ (by omega) with ⟨h1, _⟩ | h1
      · omega
      · exact h1
    refine ⟨hCu, by omega, by omega, fun q hq => ?_⟩
    -- the best way from there has as many versions as it should
    have hql : (q.length : Int) = g S e.to_ + 1 := by
      have h1 := hq.2 _ _ hqu
      have h2 := h.comp _ _ _ hq.1
      unfold leW at h1
      unfold lexP at h2
      omega
    have hway := Way.step e q _ he hq.1
    rw [Int.add_comm, t1] at hway
    refine ⟨hway, fun p' c' hp' => ?_⟩
    have h1 := h.comp _ _ _ hp'
    unfold leW
    simp only [List.length_cons]
    obtain ⟨vv, hvv⟩ : ∃ vv, e.fr = vv := ⟨_, rfl⟩
    rw [hvv] at hp' hv h1 ⊢
    clear hway
    cases hp' with
    | one => exact absurd rfl hv
    | step e' t' c'' he' hw' =>
      simp only [List.length_cons] at h1 ⊢
      unfold lexP at h1
      rw [hvv] at t1 t2
      by_cases hc : g C e'.fr < e'.cost + c''
      · exact .inl hc
      · by_cases hs : (q.length : Int) < t'.length
        · exact .inr ⟨by omega, .inl (by omega)⟩
        · have hf := h.first hb hl he' hw' (by omega) (by omega)
          have hle := hmin e' he' (by rw [hvv]; exact hf.1)
          refine .inr ⟨by omega, .inr ⟨by omega, ?_⟩⟩
          refine .inr ⟨rfl, ?_⟩
          obtain ⟨s', rfl⟩ := hw'.head
          obtain ⟨s, rfl⟩ := hq.1.head
          by_cases hlt : e.to_ < e'.to_
          · exact .inl hlt
          · have heq : e.to_ = e'.to_ := by omega
            have h6 := hf.2.1
            rw [← heq] at h6 hw' ⊢
            have h5 := hq.2 _ _ hw'
            unfold leW at h5
            rcases h5 with h5 | ⟨_, h5 | ⟨_, h5⟩⟩
            · omega
            · simp only [List.length_cons] at h5 hs
              omega
            · exact h5
/-- the lowest version to go on to, as a loop finds it -/
def lowest (C S : List Int) (v : Int) : List EdR → Int → Int
  | [], m => m
  | e :: t, m => lowest C S v t (if tight C S v e then min m e.to_ else m)
theorem lowest_prop (v : Int) : ∀ (l : List EdR) (m : Int), (lowest C S v l m = m ∨ ∃ e ∈ l, tight C S v e ∧ e.to_ = lowest C S v l m) ∧ lowest C S v l m ≤ m ∧ ∀ e ∈ l, tight C S v e → lowest C S v l m ≤ e.to_
  | [], m => ⟨.inl rfl, Int.le_refl _, fun e he => by simp at he⟩
  | e :: t, m => by
    unfold lowest
    by_cases hc : tight C S v e
    · rw [if_pos hc]
      obtain ⟨q1, q2, q3⟩ := lowest_prop v t (min m e.to_)
      refine ⟨?_, by omega, ?_⟩
      · rcases q1 with q1 | ⟨e', h1, h2, h3⟩
        · by_cases hm : m ≤ e.to_
          · exact .inl (by omega)
          · exact .inr ⟨e, by simp, hc, by omega⟩
        · exact .inr ⟨e', by simp [h1], h2, h3⟩
      · intro e' h1 h2
        rcases List.mem_cons.1 h1 with rfl | h1
        · omega
        · exact q3 e' h1 h2
    · rw [if_neg hc]
      obtain ⟨q1, q2, q3⟩ := lowest_prop v t m
      refine ⟨?_, q2, ?_⟩
      · rcases q1 with q1 | ⟨e', h1, h2, h3⟩
        · exact .inl q1
        · exact .inr ⟨e', by simp [h1], h2, h3⟩
      · intro e' h1 h2
        rcases List.mem_cons.1 h1 with rfl | h1
        · exact absurd h2 hc
        · exact q3 e' h1 h2
/-- the search from the front, one version on -/
theorem Exact.next (hb : 1 ≤ b ∧ b ≤ 30) (hl : okAll l) (h : Exact l b C S) {v : Int} (hv : v ≠ b) (hfar : g C v < far) (hr : 0 ≤ v ∧ v ≤ 30) :
    (1 ≤ lowest C S v l 31 ∧ lowest C S v l 31 ≤ 30) ∧ g C (lowest C S v l 31) < far ∧ 0 < g S v ∧ g S (lowest C S v l 31) < g S v ∧ ∀ q, Best l (lowest C S v l 31) b q (g C (lowest C S v l 31)) → Best l v b (v :: q) (g C v) := by
  obtain ⟨⟨e, he, hte⟩, h2⟩ := h.step hb hl hv hfar hr
  obtain ⟨q1, q2, q3⟩ := lowest_prop (C := C) (S := S) v l 31
  have n := ok_nums hl he
  have h3 := q3 e he hte
  have hex : ∃ e ∈ l, tight C S v e ∧ e.to_ = lowest C S v l 31 := by
    rcases q1 with q1 | q1
    · omega
    · exact q1
  obtain ⟨e', he', -, e1⟩ := id hex
  have n' := ok_nums hl he'
  exact ⟨by omega, h2 _ hex q3⟩
end
end Go.Proofs.Ytmpmaljkmfgagab.RouteM
