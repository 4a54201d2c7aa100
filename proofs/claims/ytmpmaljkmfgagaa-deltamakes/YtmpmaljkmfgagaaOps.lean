/-
  A slice of steps that reads as a list of them: nil or not, wherever it lies; how an argument is opened to it.
-/
import Derived.Test.YtmpmaljkmfgagaaCutB
import Derived.Test.YtmpmaljkmfgagaaNum64
import Derived.Deep.Strs
import Derived.Deep.Slices
namespace Go.Proofs.Ytmpmaljkmfgagaa
open Go.RowKit

/-- a step: Len bytes of the old image from At on, or Data -/
structure OpR where
  at_ : Int
  len : Int
  data : List Int
instance : Inhabited OpR := ⟨⟨0, 0, []⟩⟩
theorem OpR.eq_iff (a b : OpR) : a = b ↔ a.at_ = b.at_ ∧ a.len = b.len ∧ a.data = b.data := by
  obtain ⟨a1, a2, a3⟩ := a
  obtain ⟨b1, b2, b3⟩ := b
  simp
instance : DecidableEq OpR := fun a b => decidable_of_iff _ (OpR.eq_iff a b).symm

/-- the three cells of a step -/
def OpAt (w : World) (b o : Nat) (r : OpR) : Prop :=
  ∃ a n c, w.cell? ⟨b, o, none⟩ = some (.int .i64 r.at_) ∧ w.cell? ⟨b, o + 1, none⟩ = some (.int .i64 r.len) ∧ w.cell? ⟨b, o + 2, none⟩ = some (.slice a n c) ∧ BS w a n c r.data ∧ I64 r.at_ ∧ I64 r.len
theorem OpAt.keep {w w' : World} {b o : Nat} {r : OpR} (h : OpAt w b o r) (hk : ∀ p v, w.cell? p = some v → w'.cell? p = some v) : OpAt w' b o r := by
  obtain ⟨a, n, c, h1, h2, h3, h4, h5⟩ := h
  exact ⟨a, n, c, hk _ _ h1, hk _ _ h2, hk _ _ h3, h4.keep hk, h5⟩
/-- a slice of steps that reads as a list -/
structure OS (w : World) (a : Option Addr) (n c : Nat) (l : List OpR) : Prop where
  len : l.length = n
  le : n ≤ c
  max : c ≤ 9223372036854775807
  cells : 0 < n → ∃ b off, a = some ⟨b, off, none⟩ ∧ ∀ i, i < n → OpAt w b (off + i * 3) (l.getD i default)
  none_ : a = none → c = 0
section
variable {w w' : World} {a : Option Addr} {n c : Nat} {l : List OpR}
theorem OS.keep (h : OS w a n c l) (hk : ∀ p v, w.cell? p = some v → w'.cell? p = some v) : OS w' a n c l :=
  ⟨h.len, h.le, h.max, fun hp => by
    obtain ⟨b, off, e, hc⟩ := h.cells hp
    exact ⟨b, off, e, fun i hi => (hc i hi).keep hk⟩, h.none_⟩
theorem OS.later (h : OS w a n c l) (hb : Below w.heap.size w w') : OS w' a n c l := h.keep (fun _ _ hc => cell_later hb hc)
theorem OS.drewN (h : OS w a n c l) (m : Nat) : OS (w.drewN m) a n c l := h.keep (fun _ _ h => h)
theorem OS.nil_ (w : World) : OS w none 0 0 [] := ⟨rfl, by omega, by omega, fun h => absurd h (by omega), fun _ => rfl⟩
end

theorem list_of {α : Type} (d : α) (p : Nat → α → Prop) : ∀ n, (∀ i, i < n → ∃ r, p i r) → ∃ l : List α, l.length = n ∧ ∀ i, i < n → p i (l.getD i d)
  | 0, _ => ⟨[], rfl, fun i hi => absurd hi (by omega)⟩
  | n + 1, h => by
    obtain ⟨l, hl, hp⟩ := list_of d p n (fun i hi => h i (by omega))
    obtain ⟨r, hr⟩ := h n (by omega)
    refine ⟨l ++ [r], by simp [hl], fun i hi => ?_⟩
    rcases Nat.lt_or_ge i n with hlt | hge
    · have := hp i hlt
      simpa [List.getD_eq_getElem?_getD, List.getElem?_append_left (show i < l.length by omega)] using this
    · obtain rfl : i = n := by omega
      simpa [List.getD_eq_getElem?_getD, ← hl] using hr

section
variable {H : Type} {enc : TypeId × Value → H} {w : World} {sp : Nat → Bool} {held : Bool}
/-- an argument of bytes, opened -/
theorem open_bs {fuel : Nat} {v : Value} {x : DataW H × List MemPlace} (h : DataW.trod enc Try.prog w 0 sp held fuel 27 [v] = some x) :
    ∃ a n c l, v = .slice a n c ∧ BS w a n c l := by
  rcases Go.ChangeShapes.open_ints Try.underlying27 Try.underlying5 (by kernel_rfl) h with ⟨hcs, _⟩ | ⟨a, len, cap, zs, hcs, _, hl, hm, hz, _, hcell, hwz⟩
  · simp at hcs
    subst hcs
    exact ⟨none, 0, 0, [], rfl, BS.nil_ w⟩
  · simp at hcs
    subst hcs
    have hlz : len ≤ zs.length := by rw [hz]; split <;> omega
    refine ⟨some a, len, cap, zs.take len, rfl, ?_, hl, by unfold maxLen at hm; omega, ?_, ?_, fun h => by cases h⟩
    · simp; omega
    · intro y hy
      have := hwz y (List.mem_of_mem_take hy)
      have h1 : IntKind.u8.min = 0 := rfl
      have h2 : IntKind.u8.max = 255 := rfl
      simp only [Lit.wf, Bool.and_eq_true, decide_eq_true_eq] at this
      omega
    · intro hp
      obtain ⟨b, off, spot⟩ := a
      have h0 := hcell 0 (by omega)
      have hs : spot = none := by simpa [Addr.add] using World.cell?_spot h0
      subst hs
      refine ⟨b, off, rfl, fun i hi => ?_⟩
      have := hcell i (by omega)
      rw [addr_add] at this
      rw [this, List.getElem?_take_of_lt hi, List.getD_eq_getElem?_getD]
set_option maxRecDepth 100000 in
/-- an argument of steps, opened -/
theorem open_os {fuel : Nat} {v : Value} {x : DataW H × List MemPlace} (h : DataW.trod enc Try.prog w 0 sp held fuel 48 [v] = some x) :
    ∃ a n c l, v = .slice a n c ∧ OS w a n c l := by
  have hC : Try.prog.cellsOf 56 = 3 := by kernel_rfl
  have c3 : Try.prog.cellsOf 3 = 1 := by kernel_rfl
  have cb : Try.prog.cellsOf 27 = 1 := by kernel_rfl
  rcases Deep.open_slice Try.underlying48 h with ⟨hcs, _⟩ | ⟨a, len, cap, m, k, D, Pl, hcs, _, hl, hm, hmm, _, hi⟩
  · simp at hcs
    subst hcs
    exact ⟨none, 0, 0, [], rfl, OS.nil_ w⟩
  · simp at hcs
    subst hcs
    have hlm : len ≤ m := by rw [hmm]; split <;> omega
    rw [hC] at hi
    have each : ∀ i, i < len → ∃ r : OpR, ∃ va vn vc, w.cell? (a.add (i * 3)) = some (.int .i64 r.at_) ∧ w.cell? (a.add (i * 3 + 1)) = some (.int .i64 r.len) ∧ w.cell? (a.add (i * 3 + 2)) = some (.slice va vn vc) ∧ BS w va vn vc r.data ∧ I64 r.at_ ∧ I64 r.len := by
      intro i hlt
      obtain ⟨cs, hcs, htr⟩ := hi i (by omega)
      obtain ⟨_, hcl, hat⟩ := World.cells?_some hcs
      obtain ⟨y0, y1, y2, q, _, _, t0, t1, t2⟩ := Deep.trod_struct3 Try.underlying56 htr
      match cs, hcl with
      | [u0, u1, u2], _ =>
        simp only [c3, cb, List.drop_zero, List.drop_succ_cons, List.take_succ_cons, List.take_zero] at t0 t1 t2
        obtain ⟨n0, e0, _, w0⟩ := DataW.trod_int Try.underlying3 t0
        obtain ⟨n1, e1, _, w1⟩ := DataW.trod_int Try.underlying3 t1
        simp at e0 e1
        subst e0 e1
        obtain ⟨va, vn, vc, dl, rfl, hbs⟩ := open_bs t2
        have g0 := hat 0 (by omega)
        have g1 := hat 1 (by omega)
        have g2 := hat 2 (by omega)
        rw [Deep.add_add] at g0 g1 g2
        exact ⟨⟨n0, n1, dl⟩, va, vn, vc, g0, g1, g2, hbs, I64.of_wf w0, I64.of_wf w1⟩
    obtain ⟨l, hll, hp⟩ := list_of default _ len each
    refine ⟨some a, len, cap, l, rfl, hll, hl, by unfold maxLen at hm; omega, ?_, fun h => by cases h⟩
    intro hpos
    obtain ⟨b, off, spot⟩ := a
    obtain ⟨_, _, _, h0, _⟩ := hp 0 hpos
    have hs : spot = none := by simpa [Addr.add] using World.cell?_spot h0
    subst hs
    refine ⟨b, off, rfl, fun i hi => ?_⟩
    obtain ⟨va, vn, vc, q0, q1, q2, q3⟩ := hp i hi
    rw [addr_add] at q0 q1 q2
    exact ⟨va, vn, vc, q0, q1, q2, q3⟩
end
end Go.Proofs.Ytmpmaljkmfgagaa
