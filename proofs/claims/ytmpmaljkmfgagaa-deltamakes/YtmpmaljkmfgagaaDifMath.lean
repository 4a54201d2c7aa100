/-
  Plain lists: what the steps that Diff makes are: good ones, that make the new image; how many; copies of four bytes or more; no two pieces of data in a row.
-/
import Derived.Test.YtmpmaljkmfgagaaApplyMath
import Derived.Test.YtmpmaljkmfgagaaDiffSt
namespace Go.Proofs.Ytmpmaljkmfgagaa.DeltaM

theorem good_append {old : Int} {x y : List OpR} (hx : Good old x) (hy : Good old y) : Good old (x ++ y) := by
  intro o ho
  rcases List.mem_append.1 ho with h | h
  · exact hx o h
  · exact hy o h
theorem good_flush {old : Int} (h0 : 0 ≤ old) (pl : List Int) (h : pl.length ≤ 64) : Good old (flushL pl) := by
  unfold flushL
  split
  · intro o ho; simp at ho
  · rename_i hp
    intro o ho
    obtain rfl : o = ⟨0, 0, pl⟩ := by simpa using ho
    have : 1 ≤ pl.length := by
      cases pl with
      | nil => exact absurd rfl hp
      | cons x t => simp
    constructor
    · unfold badForm; simp only; omega
    · unfold badRange; simp only; omega
theorem good_copy {old s : List Int} {i n : Nat} (h : MatchM.Best old s i n) (hn : 3 < n) : ¬ badForm ⟨i, n, []⟩ ∧ ¬ badRange old.length ⟨i, n, []⟩ := by
  have := h.room
  constructor
  · unfold badForm; simp only [List.length_nil]; omega
  · unfold badRange; simp only; omega
theorem Dif.good {old s pl : List Int} {out : List OpR} (h : Dif old s pl out) (hl : pl.length + s.length ≤ 64) : Good old.length out := by
  induction h with
  | done pl => exact good_flush (by omega) pl (by omega)
  | copy s pl i n out hb hn hr ih =>
    have hr2 := hb.room.2
    refine good_append (good_flush (by omega) pl (by omega)) ?_
    intro o ho
    rcases List.mem_cons.1 ho with rfl | ho
    · exact good_copy hb hn
    · exact ih (by simp; omega) o ho
  | lit x t pl i n out hb hn hr ih => exact ih (by simp at hl ⊢; omega)
theorem makes_flush (old pl : List Int) : makes old (flushL pl) = pl := by
  unfold flushL
  split
  · rename_i h; subst h; rfl
  · simp [makes, part]
theorem Dif.makes {old s pl : List Int} {out : List OpR} (h : Dif old s pl out) : DeltaM.makes old out = pl ++ s := by
  induction h with
  | done pl => rw [makes_flush]; simp
  | copy s pl i n out hb hn hr ih =>
    rw [makes_append, makes_flush]
    have e : part old ⟨i, n, []⟩ = s.take n := by
      have := hb.alike
      simpa [part] using this
    simp only [DeltaM.makes, e, ih, List.nil_append]
    rw [List.take_append_drop]
  | lit x t pl i n out hb hn hr ih => rw [ih]; simp
theorem Dif.total {old s pl : List Int} {out : List OpR} (h : Dif old s pl out) (hl : pl.length + s.length ≤ 64) : DeltaM.total out = (pl.length + s.length : Nat) := by
  have h1 := makes_length (h.good hl)
  rw [h.makes] at h1
  simp only [List.length_append] at h1
  omega
theorem flush_len (pl : List Int) : (flushL pl).length = if pl = [] then 0 else 1 := by unfold flushL; split <;> rfl
theorem Dif.few {old s pl : List Int} {out : List OpR} (h : Dif old s pl out) : 5 * out.length ≤ 2 * s.length + (if pl = [] then 3 else 5) := by
  induction h with
  | done pl => rw [flush_len]; split <;> simp
  | copy s pl i n out hb hn hr ih =>
    have hr2 := hb.room.2
    rw [if_pos rfl, List.length_drop] at ih
    rw [List.length_append, flush_len, List.length_cons]
    split <;> omega
  | lit x t pl i n out hb hn hr ih =>
    rw [if_neg (by simp)] at ih
    simp only [List.length_cons]
    split <;> omega
theorem Dif.check {old b : List Int} {out : List OpR} (h : Dif old b [] out) (h1 : old.length ≤ 64) (h2 : b.length ≤ 64) : DeltaM.check out old.length b.length = 0 := by
  have hf := h.few
  rw [if_pos rfl] at hf
  have ht := h.total (by simpa using h2)
  simp only [List.length_nil, Nat.zero_add] at ht
  exact check_pass (by omega) (by omega) (by omega) (h.good (by simpa using h2)) ht

/-- no two pieces of data in a row -/
def noTwo : List OpR → Prop
  | a :: b :: t => (a.len ≠ 0 ∨ b.len ≠ 0) ∧ noTwo (b :: t)
  | _ => True
theorem noTwo_cons {a : OpR} {t : List OpR} (h : a.len ≠ 0) (ht : noTwo t) : noTwo (a :: t) := by
  cases t with
  | nil => trivial
  | cons b t => exact ⟨.inl h, ht⟩
theorem noTwo_flush (pl : List Int) {a : OpR} {t : List OpR} (h : a.len ≠ 0) (ht : noTwo (a :: t)) : noTwo (flushL pl ++ a :: t) := by
  unfold flushL
  split
  · simpa using ht
  · exact ⟨.inr h, ht⟩
theorem Dif.noTwo {old s pl : List Int} {out : List OpR} (h : Dif old s pl out) : DeltaM.noTwo out := by
  induction h with
  | done pl => unfold flushL; split <;> trivial
  | copy s pl i n out hb hn hr ih => exact noTwo_flush pl (show (n : Int) ≠ 0 by omega) (noTwo_cons (show (n : Int) ≠ 0 by omega) ih)
  | lit x t pl i n out hb hn hr ih => exact ih
theorem noTwo_at : ∀ {l : List OpR} (k : Nat), noTwo l → k + 1 < l.length → (l.getD (k + 1) default).len = 0 → (l.getD k default).len ≠ 0
  | [], k, _, h, _ => by simp at h
  | [a], k, _, h, _ => by simp at h
  | a :: b :: t, 0, h, _, h0 => by
    simp at h0 ⊢
    rcases h.1 with h1 | h1
    · exact h1
    · exact absurd h0 h1
  | a :: b :: t, k + 1, h, hl, h0 => by
    have := noTwo_at (l := b :: t) k h.2 (by simpa using hl) (by simpa using h0)
    simpa using this
theorem Dif.four {old s pl : List Int} {out : List OpR} (h : Dif old s pl out) : ∀ o ∈ out, o.len = 0 ∨ 4 ≤ o.len := by
  have hf : ∀ pl, ∀ o ∈ flushL pl, o.len = 0 ∨ 4 ≤ o.len := by
    intro pl o ho
    unfold flushL at ho
    split at ho
    · simp at ho
    · obtain rfl : o = ⟨0, 0, pl⟩ := by simpa using ho
      exact .inl rfl
  induction h with
  | done pl => exact hf pl
  | copy s pl i n out hb hn hr ih =>
    intro o ho
    rcases List.mem_append.1 ho with ho | ho
    · exact hf pl o ho
    · rcases List.mem_cons.1 ho with rfl | ho
      · exact .inr (show (4 : Int) ≤ n by omega)
      · exact ih o ho
  | lit x t pl i n out hb hn hr ih => exact ih
/-- of like bytes one step -/
theorem Dif.self {b : List Int} {out : List OpR} (h : Dif b b [] out) (h4 : 4 ≤ b.length) : out = [⟨0, b.length, []⟩] := by
  have hb : MatchM.Best b b 0 b.length := ⟨fun j => MatchM.ag_le_r _ _, fun j hj => absurd hj (by omega), by simpa using MatchM.ag_self b⟩
  have := Dif.copy b [] 0 b.length _ hb (by omega) (by rw [List.drop_length]; exact .done [])
  have := h.det this
  simpa [flushL] using this
end Go.Proofs.Ytmpmaljkmfgagaa.DeltaM
