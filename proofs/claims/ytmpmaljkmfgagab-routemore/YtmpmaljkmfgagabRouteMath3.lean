/-
  Plain data: what two answers of the document's Best have to do with each other.
-/
import Derived.Test.YtmpmaljkmfgagabRouteC
namespace Go.Proofs.Ytmpmaljkmfgagab.RouteM

theorem RouteIs.ok {l : List EdR} {fr to : Int} {p : List Int} {N : Int} (h : RouteIs l fr to p N 0) : check l = 0 ∧ (inV fr ∧ inV to) ∧ Best l fr to p N := by
  rcases h with ⟨h, _, _, e⟩ | ⟨_, _, _, _, e⟩ | ⟨_, _, _, _, _, e⟩ | ⟨h1, h2, h3, _⟩
  · exact absurd e.symm h
  · cases e
  · cases e
  · exact ⟨h1, h2, h3⟩
theorem RouteIs.no {l : List EdR} {fr to : Int} {p : List Int} {N err : Int} (h : RouteIs l fr to p N err) (he : err ≠ 0) : p = [] ∧ N = 0 := by
  rcases h with ⟨_, h⟩ | ⟨_, _, h⟩ | ⟨_, _, _, h⟩ | ⟨_, _, _, h⟩
  · exact ⟨h.1, h.2.1⟩
  · exact ⟨h.1, h.2.1⟩
  · exact ⟨h.1, h.2.1⟩
  · exact absurd h he
/-- a best way is short -/
theorem Best.bound {l : List EdR} (hl : okAll l) {a b : Int} (hb : inV b) {p : List Int} {c : Int} (h : Best l a b p c) : 1 ≤ p.length ∧ p.length ≤ 30 ∧ 0 ≤ c ∧ c ≤ 29000 ∧ ∀ v ∈ p, 1 ≤ v ∧ v ≤ 30 := by
  obtain ⟨p', c', h1, h2, h3, h4⟩ := short hl hb _ (Nat.le_refl _) h.1
  have h5 := h.2 _ _ h1
  have h6 := h.1.cost_ge hl
  have h7 := h.1.cost_le hl
  have h8 := h.1.len
  unfold leW at h5
  refine ⟨h8, by omega, by omega, by omega, h.1.mem hl hb⟩
/-- the same edges in another order -/
theorem RouteIs.same {l l' : List EdR} (hm : ∀ e, e ∈ l ↔ e ∈ l') (hc : check l = 0) (hc' : check l' = 0) {fr to : Int} {p p' : List Int} {N N' err err' : Int} (h : RouteIs l fr to p N err) (h' : RouteIs l' fr to p' N' err') : p = p' ∧ N = N' ∧ err = err' := by
  rcases h with ⟨h, _⟩ | ⟨_, h1, rfl, rfl, rfl⟩ | ⟨_, h1, h2, rfl, rfl, rfl⟩ | ⟨_, h1, h2, rfl⟩
  · exact absurd hc h
  · obtain ⟨e1, e2, e3⟩ := h'.range hc' h1
    exact ⟨e1.symm, e2.symm, e3.symm⟩
  · obtain ⟨e1, e2, e3⟩ := h'.none hc' h1 (h2.same hm)
    exact ⟨e1.symm, e2.symm, e3.symm⟩
  · obtain ⟨e1, e2, e3⟩ := h'.best hc' h1 (h2.same hm)
    exact ⟨e1.symm, e2.symm, e3.symm⟩
/-- with more edges no way is dearer, and none is gone -/
theorem RouteIs.more {l l' : List EdR} (hm : ∀ e ∈ l, e ∈ l') (hc' : check l' = 0) {fr to : Int} {p p' : List Int} {N N' err' : Int} (h : RouteIs l fr to p N 0) (h' : RouteIs l' fr to p' N' err') : err' = 0 ∧ N' ≤ N := by
  obtain ⟨h1, h2, h3⟩ := h.ok
  rcases h' with ⟨h, _⟩ | ⟨_, h, _⟩ | ⟨_, _, h, _⟩ | ⟨_, _, h, e⟩
  · exact absurd hc' h
  · exact absurd h2 h
  · exact absurd (h3.1.mono hm) (h _ _)
  · exact ⟨e, h3.more hm h⟩
theorem check_sub {l l' : List EdR} (hm : ∀ e ∈ l', e ∈ l) (hn : l'.length ≤ l.length) (h : check l = 0) : check l' = 0 := by
  obtain ⟨h1, h2⟩ := check_ok h
  unfold check
  rw [if_neg (by omega)]
  exact chk_ok.2 (fun e he => h2 e (hm e he))
end Go.Proofs.Ytmpmaljkmfgagab.RouteM
