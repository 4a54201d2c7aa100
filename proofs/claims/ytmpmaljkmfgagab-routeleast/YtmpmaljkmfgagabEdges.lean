/-
  A slice of edges that reads as a list of them; how an argument is opened to it.
-/
import Derived.Test.YtmpmaljkmfgagabCutB
import Derived.Test.YtmpmaljkmfgagabNum64
import Derived.Test.YtmpmaljkmfgagabRouteMath
import Derived.Deep.Strs
import Derived.Deep.Slices
namespace Go.Proofs.Ytmpmaljkmfgagab
open Go.RowKit

/-- the three cells of an edge -/
def EdgeAt (w : World) (b o : Nat) (r : RouteM.EdR) : Prop :=
  w.cell? ⟨b, o, none⟩ = some (.int .i64 r.fr) ∧ w.cell? ⟨b, o + 1, none⟩ = some (.int .i64 r.to_) ∧ w.cell? ⟨b, o + 2, none⟩ = some (.int .i64 r.cost) ∧ I64 r.fr ∧ I64 r.to_ ∧ I64 r.cost
theorem EdgeAt.keep {w w' : World} {b o : Nat} {r : RouteM.EdR} (h : EdgeAt w b o r) (hk : ∀ p v, w.cell? p = some v → w'.cell? p = some v) : EdgeAt w' b o r := ⟨hk _ _ h.1, hk _ _ h.2.1, hk _ _ h.2.2.1, h.2.2.2⟩
/-- a slice of edges that reads as a list -/
structure ES (w : World) (a : Option Addr) (n c : Nat) (l : List RouteM.EdR) : Prop where
  len : l.length = n
  le : n ≤ c
  max : c ≤ 9223372036854775807
  cells : 0 < n → ∃ b off, a = some ⟨b, off, none⟩ ∧ ∀ i, i < n → EdgeAt w b (off + i * 3) (l.getD i default)
  none_ : a = none → c = 0
section
variable {w w' : World} {a : Option Addr} {n c : Nat} {l : List RouteM.EdR}
theorem ES.keep (h : ES w a n c l) (hk : ∀ p v, w.cell? p = some v → w'.cell? p = some v) : ES w' a n c l :=
  ⟨h.len, h.le, h.max, fun hp => by
    obtain ⟨b, off, e, hc⟩ := h.cells hp
    exact ⟨b, off, e, fun i hi => (hc i hi).keep hk⟩, h.none_⟩
theorem ES.later (h : ES w a n c l) (hb : Below w.heap.size w w') : ES w' a n c l := h.keep (fun _ _ hc => cell_later hb hc)
theorem ES.drewN (h : ES w a n c l) (m : Nat) : ES (w.drewN m) a n c l := h.keep (fun _ _ h => h)
theorem ES.nil_ (w : World) : ES w none 0 0 [] := ⟨rfl, by omega, by omega, fun h => absurd h (by omega), fun _ => rfl⟩
end
theorem edges_of (p : Nat → RouteM.EdR → Prop) : ∀ n, (∀ i, i < n → ∃ r, p i r) → ∃ l : List RouteM.EdR, l.length = n ∧ ∀ i, i < n → p i (l.getD i default)
  | 0, _ => ⟨[], rfl, fun i hi => absurd hi (by omega)⟩
  | n + 1, h => by
    obtain ⟨l, hl, hp⟩ := edges_of p n (fun i hi => h i (by omega))
    obtain ⟨r, hr⟩ := h n (by omega)
    refine ⟨l ++ [r], by simp [hl], fun i hi => ?_⟩
    rcases Nat.lt_or_ge i n with hlt | hge
    · have := hp i hlt
      simpa [List.getD_eq_getElem?_getD, List.getElem?_append_left (show i < l.length by omega)] using this
    · obtain rfl : i = n := by omega
      simpa [List.getD_eq_getElem?_getD, ← hl] using hr
section
variable {H : Type} {enc : TypeId × Value → H} {w : World} {sp : Nat → Bool} {held : Bool}
set_option maxRecDepth 100000 in
/-- an argument of edges, opened -/
theorem open_es {fuel : Nat} {v : Value} {x : DataW H × List MemPlace} (h : DataW.trod enc Try.prog w 0 sp held fuel 52 [v] = some x) :
    ∃ a n c l, v = .slice a n c ∧ ES w a n c l := by
  have hC : Try.prog.cellsOf 63 = 3 := by kernel_rfl
  have c3 : Try.prog.cellsOf 3 = 1 := by kernel_rfl
  rcases Deep.open_slice Try.underlying52 h with ⟨hcs, _⟩ | ⟨a, len, cap, m, k, D, Pl, hcs, _, hl, hm, hmm, _, hi⟩
  · simp at hcs
    subst hcs
    exact ⟨none, 0, 0, [], rfl, ES.nil_ w⟩
  · simp at hcs
    subst hcs
    have hlm : len ≤ m := by rw [hmm]; split <;> omega
    rw [hC] at hi
    have each : ∀ i, i < len → ∃ r : RouteM.EdR, w.cell? (a.add (i * 3)) = some (.int .i64 r.fr) ∧ w.cell? (a.add (i * 3 + 1)) = some (.int .i64 r.to_) ∧ w.cell? (a.add (i * 3 + 2)) = some (.int .i64 r.cost) ∧ I64 r.fr ∧ I64 r.to_ ∧ I64 r.cost := by
      intro i hlt
      obtain ⟨cs, hcs, htr⟩ := hi i (by omega)
      obtain ⟨_, hcl, hat⟩ := World.cells?_some hcs
      obtain ⟨y0, y1, y2, q, _, _, t0, t1, t2⟩ := Deep.trod_struct3 Try.underlying63 htr
      match cs, hcl with
      | [u0, u1, u2], _ =>
        simp only [c3, List.drop_zero, List.drop_succ_cons, List.take_succ_cons, List.take_zero] at t0 t1 t2
        obtain ⟨n0, e0, _, w0⟩ := DataW.trod_int Try.underlying3 t0
        obtain ⟨n1, e1, _, w1⟩ := DataW.trod_int Try.underlying3 t1
        obtain ⟨n2, e2, _, w2⟩ := DataW.trod_int Try.underlying3 t2
        simp at e0 e1 e2
        subst e0 e1 e2
        have g0 := hat 0 (by omega)
        have g1 := hat 1 (by omega)
        have g2 := hat 2 (by omega)
        rw [Deep.add_add] at g0 g1 g2
        exact ⟨⟨n0, n1, n2⟩, g0, g1, g2, I64.of_wf w0, I64.of_wf w1, I64.of_wf w2⟩
    obtain ⟨l, hll, hp⟩ := edges_of _ len each
    refine ⟨some a, len, cap, l, rfl, hll, hl, by unfold maxLen at hm; omega, ?_, fun h => by cases h⟩
    intro hpos
    obtain ⟨b, off, spot⟩ := a
    obtain ⟨h0, _⟩ := hp 0 hpos
    have hs : spot = none := by simpa [Addr.add] using World.cell?_spot h0
    subst hs
    refine ⟨b, off, rfl, fun i hi => ?_⟩
    obtain ⟨q0, q1, q2, q3⟩ := hp i hi
    rw [addr_add] at q0 q1 q2
    exact ⟨q0, q1, q2, q3⟩
end

/-- a block of ints that is known whole, as an array lies -/
def IntsAt (W : World) (B : Nat) (t : Nat) (L : List Int) : Prop := W.heap[B]? = some (.cells (L.map (Value.int .i64)).toArray t (0, 0))
theorem IntsAt.cell {W : World} {B t : Nat} {L : List Int} (h : IntsAt W B t L) {i : Nat} (hi : i < L.length) : W.cell? ⟨B, i, none⟩ = some (.int .i64 (L.getD i 0)) := by
  unfold IntsAt at h
  simp only [World.cell?, h]
  simp [List.getD_eq_getElem?_getD, List.getElem?_eq_getElem hi]
theorem IntsAt.frozen {W : World} {B t : Nat} {L : List Int} (h : IntsAt W B t L) (i : Nat) : W.frozen? ⟨B, i, none⟩ = false := by
  unfold IntsAt at h
  simp [World.frozen?, h]
theorem IntsAt.set {W : World} {B t : Nat} {L : List Int} (h : IntsAt W B t L) {i : Nat} (x : Int) : IntsAt (W.setCell ⟨B, i, none⟩ (.int .i64 x)) B t (L.set i x) := by
  unfold IntsAt at h ⊢
  simp [World.setCell, Array.getElem?_modify, h, List.map_set]
theorem IntsAt.lt {W : World} {B t : Nat} {L : List Int} (h : IntsAt W B t L) : B < W.heap.size := by
  rcases Nat.lt_or_ge B W.heap.size with hlt | hge
  · exact hlt
  · unfold IntsAt at h
    rw [Array.getElem?_eq_none hge] at h
    cases h
end Go.Proofs.Ytmpmaljkmfgagab
