/-
  Plain data: boot records: the document's Check, Copies, Read, Write, Start, Confirm; what follows from them.
-/
import Derived.Test.YtmpmaljkmfgagacNum64
namespace Go.Proofs.Ytmpmaljkmfgagac

/-- what is in a slot -/
structure InfR where
  ver : Int
  size : Int
  sum : Int
/-- a record -/
structure RecR where
  gen : Int
  act : Int
  trying : Bool
  tries : Int
  floor : Int
  i0 : InfR
  i1 : InfR
/-- a copy of a record -/
structure CopR where
  ok : Bool
  r : RecR
/-- both copies -/
structure CopsR where
  c0 : CopR
  c1 : CopR
theorem InfR.eq_iff (a b : InfR) : a = b ↔ a.ver = b.ver ∧ a.size = b.size ∧ a.sum = b.sum := by
  obtain ⟨a1, a2, a3⟩ := a
  obtain ⟨b1, b2, b3⟩ := b
  simp
instance : DecidableEq InfR := fun a b => decidable_of_iff _ (InfR.eq_iff a b).symm
theorem RecR.eq_iff (a b : RecR) : a = b ↔ a.gen = b.gen ∧ a.act = b.act ∧ a.trying = b.trying ∧ a.tries = b.tries ∧ a.floor = b.floor ∧ a.i0 = b.i0 ∧ a.i1 = b.i1 := by
  obtain ⟨a1, a2, a3, a4, a5, a6, a7⟩ := a
  obtain ⟨b1, b2, b3, b4, b5, b6, b7⟩ := b
  simp
instance : DecidableEq RecR := fun a b => decidable_of_iff _ (RecR.eq_iff a b).symm
theorem CopR.eq_iff (a b : CopR) : a = b ↔ a.ok = b.ok ∧ a.r = b.r := by
  obtain ⟨a1, a2⟩ := a
  obtain ⟨b1, b2⟩ := b
  simp
instance : DecidableEq CopR := fun a b => decidable_of_iff _ (CopR.eq_iff a b).symm
theorem CopsR.eq_iff (a b : CopsR) : a = b ↔ a.c0 = b.c0 ∧ a.c1 = b.c1 := by
  obtain ⟨a1, a2⟩ := a
  obtain ⟨b1, b2⟩ := b
  simp
instance : DecidableEq CopsR := fun a b => decidable_of_iff _ (CopsR.eq_iff a b).symm
instance : Inhabited InfR := ⟨⟨0, 0, 0⟩⟩
instance : Inhabited RecR := ⟨⟨0, 0, false, 0, 0, default, default⟩⟩
instance : Inhabited CopR := ⟨⟨false, default⟩⟩
instance : Inhabited CopsR := ⟨⟨default, default⟩⟩

namespace RecM
def noInf : InfR := ⟨0, 0, 0⟩
def noRec : RecR := ⟨0, 0, false, 0, 0, noInf, noInf⟩
def noCop : CopR := ⟨false, noRec⟩
def noCops : CopsR := ⟨noCop, noCop⟩
/-- what is in slot k -/
def inf (r : RecR) (k : Int) : InfR := if k = 0 then r.i0 else r.i1
/-- copy k -/
def cop (l : CopsR) (k : Int) : CopR := if k = 0 then l.c0 else l.c1
/-- numbers of a record that may not be -/
def badNums (r : RecR) : Prop := ¬ (1 ≤ r.gen ∧ r.gen ≤ 1000000) ∨ ¬ (0 ≤ r.act ∧ r.act ≤ 1) ∨ ¬ (0 ≤ r.tries ∧ r.tries ≤ 3) ∨ ¬ (1 ≤ r.floor ∧ r.floor ≤ 30)
instance (r : RecR) : Decidable (badNums r) := by unfold badNums; infer_instance
def badInf (i : InfR) : Prop := ¬ (0 ≤ i.ver ∧ i.ver ≤ 30) ∨ ¬ (0 ≤ i.size ∧ i.size ≤ 64) ∨ ¬ (0 ≤ i.sum ∧ i.sum ≤ 65535)
instance (i : InfR) : Decidable (badInf i) := by unfold badInf; infer_instance
/-- what is wrong with what is in a slot -/
def infErr (i : InfR) : Int := if badInf i then 2 else if i.ver = 0 ∧ (i.size ≠ 0 ∨ i.sum ≠ 0) then 3 else 0
/-- what is wrong with a record whose parts are right -/
def badRec (r : RecR) : Prop := (inf r r.act).ver < r.floor ∨ (r.trying = true ∧ (inf r (1 - r.act)).ver < r.floor) ∨ (r.trying = false ∧ r.tries ≠ 0)
instance (r : RecR) : Decidable (badRec r) := by unfold badRec; infer_instance
/-- the document's Check -/
def check (r : RecR) : Int := if badNums r then 2 else if infErr r.i0 ≠ 0 then infErr r.i0 else if infErr r.i1 ≠ 0 then infErr r.i1 else if badRec r then 3 else 0
/-- what is wrong with a copy -/
def copErr (c : CopR) : Int := if c.ok = true then check c.r else if c.r ≠ noRec then 3 else 0
/-- the document's Copies -/
def copies (l : CopsR) : Int := if copErr l.c0 ≠ 0 then copErr l.c0 else if copErr l.c1 ≠ 0 then copErr l.c1 else if l.c0.ok = false ∧ l.c1.ok = false then 7 else 0
/-- which copy is the newest -/
def newest (l : CopsR) : Int := if l.c0.ok = true ∧ (l.c1.ok = false ∨ l.c1.r.gen ≤ l.c0.r.gen) then 0 else 1
/-- the record of the newest copy -/
def cur (l : CopsR) : RecR := (cop l (newest l)).r
/-- the document's Read -/
def readOf (l : CopsR) : RecR × Int × Int := if copies l ≠ 0 then (noRec, 0, copies l) else (cur l, newest l, 0)
/-- a copy put in the other place -/
def put (l : CopsR) (c : CopR) : CopsR := if newest l = 0 then ⟨l.c0, c⟩ else ⟨c, l.c1⟩
/-- the record with the next generation -/
def next (l : CopsR) (r : RecR) : RecR := { r with gen := (cur l).gen + 1 }
/-- the document's Write -/
def writeOf (l : CopsR) (r : RecR) (torn : Bool) : CopsR × Int :=
  if copies l ≠ 0 then (noCops, copies l) else if check (next l r) ≠ 0 then (noCops, check (next l r)) else (put l (if torn then noCop else ⟨true, next l r⟩), 0)
/-- the record behind a start -/
def after (r : RecR) : RecR := if r.trying = true ∧ r.tries ≠ 0 then { r with tries := r.tries - 1 } else { r with trying := false }
/-- the slot that is started -/
def slot (r : RecR) : Int := if r.trying = true ∧ r.tries ≠ 0 then 1 - r.act else r.act
/-- the document's Start -/
def startOf (r : RecR) : Int × RecR × Int := if check r ≠ 0 then (0, noRec, check r) else (slot r, after r, 0)
/-- the record when the slot that is tried is confirmed -/
def conf (r : RecR) : RecR := ⟨r.gen, 1 - r.act, false, 0, max r.floor (inf r (1 - r.act)).ver, r.i0, r.i1⟩
/-- the document's Confirm -/
def confOf (r : RecR) : RecR × Int := if check r ≠ 0 then (noRec, check r) else if r.trying = false then (noRec, 5) else (conf r, 0)

theorem noRec_bad : check noRec = 2 := by decide
theorem infErr_zero {i : InfR} : infErr i = 0 ↔ ¬ badInf i ∧ ¬ (i.ver = 0 ∧ (i.size ≠ 0 ∨ i.sum ≠ 0)) := by
  unfold infErr
  by_cases h : badInf i
  · simp [h]
  · by_cases h2 : i.ver = 0 ∧ (i.size ≠ 0 ∨ i.sum ≠ 0)
    · simp only [if_neg h, if_pos h2]
      exact ⟨fun h => by omega, fun h => absurd h2 h.2⟩
    · simp only [if_neg h, if_neg h2]
      exact ⟨fun _ => ⟨h, h2⟩, fun _ => trivial⟩
theorem check_zero {r : RecR} : check r = 0 ↔ ¬ badNums r ∧ infErr r.i0 = 0 ∧ infErr r.i1 = 0 ∧ ¬ badRec r := by
  unfold check
  by_cases h : badNums r
  · simp [h]
  · by_cases h0 : infErr r.i0 = 0
    · by_cases h1 : infErr r.i1 = 0
      · by_cases h2 : badRec r
        · simp [h, h0, h1, h2]
        · simp [h, h0, h1, h2]
      · simp [h, h0, h1]
    · simp [h, h0]
/-- whoever is right has these numbers -/
theorem check_nums {r : RecR} (h : check r = 0) : (1 ≤ r.gen ∧ r.gen ≤ 1000000) ∧ (r.act = 0 ∨ r.act = 1) ∧ (0 ≤ r.tries ∧ r.tries ≤ 3) ∧ (1 ≤ r.floor ∧ r.floor ≤ 30) := by
  have := (check_zero.1 h).1
  unfold badNums at this
  omega
theorem check_inf {r : RecR} (h : check r = 0) (k : Int) : infErr (inf r k) = 0 := by
  obtain ⟨-, h0, h1, -⟩ := check_zero.1 h
  unfold inf
  split
  · exact h0
  · exact h1
theorem inf_nums {i : InfR} (h : infErr i = 0) : (0 ≤ i.ver ∧ i.ver ≤ 30) ∧ (0 ≤ i.size ∧ i.size ≤ 64) ∧ (0 ≤ i.sum ∧ i.sum ≤ 65535) := by
  have := (infErr_zero.1 h).1
  unfold badInf at this
  omega
theorem check_rec {r : RecR} (h : check r = 0) : r.floor ≤ (inf r r.act).ver ∧ (r.trying = true → r.floor ≤ (inf r (1 - r.act)).ver) ∧ (r.trying = false → r.tries = 0) := by
  have := (check_zero.1 h).2.2.2
  unfold badRec at this
  refine ⟨?_, fun ht => ?_, fun ht => ?_⟩
  · rcases Int.lt_or_le (inf r r.act).ver r.floor with q | q
    · exact absurd (.inl q) this
    · exact q
  · rcases Int.lt_or_le (inf r (1 - r.act)).ver r.floor with q | q
    · exact absurd (.inr (.inl ⟨ht, q⟩)) this
    · exact q
  · rcases Classical.em (r.tries = 0) with q | q
    · exact q
    · exact absurd (.inr (.inr ⟨ht, q⟩)) this
theorem inf_after (r : RecR) (k : Int) : inf (after r) k = inf r k := by unfold inf after; split <;> split <;> rfl
theorem after_fields (r : RecR) : (after r).gen = r.gen ∧ (after r).act = r.act ∧ (after r).floor = r.floor ∧ (after r).i0 = r.i0 ∧ (after r).i1 = r.i1 := by
  unfold after; split <;> exact ⟨rfl, rfl, rfl, rfl, rfl⟩
/-- what is started leaves a right record -/
theorem after_ok {r : RecR} (h : check r = 0) : check (after r) = 0 := by
  have hn := check_nums h
  have hr := check_rec h
  obtain ⟨h1, h2, h3, h4⟩ := check_zero.1 h
  obtain ⟨e1, e2, e3, e4, e5⟩ := after_fields r
  refine check_zero.2 ⟨?_, by rw [e4]; exact h2, by rw [e5]; exact h3, ?_⟩
  · unfold badNums
    rw [e1, e2, e3]
    unfold after
    split
    · simp only; omega
    · simp only; omega
  · unfold badRec
    rw [inf_after, inf_after, e2, e3]
    unfold after
    split
    · rename_i ht
      simp only
      rintro (q | ⟨_, q⟩ | ⟨q, _⟩)
      · omega
      · have := hr.2.1 ht.1; omega
      · rw [ht.1] at q; cases q
    · rename_i ht
      simp only
      rintro (q | ⟨q, _⟩ | ⟨_, q⟩)
      · omega
      · cases q
      · rcases Bool.eq_false_or_eq_true r.trying with e | e
        · exact ht ⟨e, q⟩
        · exact q (hr.2.2 e)
/-- what is started is not below Floor -/
theorem slot_floor {r : RecR} (h : check r = 0) : r.floor ≤ (inf r (slot r)).ver := by
  have hr := check_rec h
  unfold slot
  split
  · rename_i ht
    exact hr.2.1 ht.1
  · exact hr.1
theorem conf_ok {r : RecR} (h : check r = 0) (ht : r.trying = true) : check (conf r) = 0 := by
  have hn := check_nums h
  have hr := check_rec h
  have hi := inf_nums (check_inf h (1 - r.act))
  obtain ⟨h1, h2, h3, h4⟩ := check_zero.1 h
  have e : inf (conf r) (1 - r.act) = inf r (1 - r.act) := rfl
  have hm := hr.2.1 ht
  refine check_zero.2 ⟨?_, h2, h3, ?_⟩
  · unfold badNums conf
    simp only
    omega
  · unfold badRec
    have ea : (conf r).act = 1 - r.act := rfl
    rw [ea, e]
    unfold conf
    simp only
    rintro (q | ⟨q, _⟩ | ⟨_, q⟩)
    · omega
    · cases q
    · exact q rfl
/-- so often started -/
def nowAt (r : RecR) : Nat → RecR
  | 0 => r
  | k + 1 => after (nowAt r k)
theorem nowAt_ok {r : RecR} (h : check r = 0) : ∀ k, check (nowAt r k) = 0
  | 0 => h
  | k + 1 => after_ok (nowAt_ok h k)
theorem nowAt_fields (r : RecR) : ∀ k, (nowAt r k).gen = r.gen ∧ (nowAt r k).act = r.act ∧ (nowAt r k).floor = r.floor ∧ (nowAt r k).i0 = r.i0 ∧ (nowAt r k).i1 = r.i1
  | 0 => ⟨rfl, rfl, rfl, rfl, rfl⟩
  | k + 1 => by
    obtain ⟨e1, e2, e3, e4, e5⟩ := after_fields (nowAt r k)
    obtain ⟨f1, f2, f3, f4, f5⟩ := nowAt_fields r k
    exact ⟨e1.trans f1, e2.trans f2, e3.trans f3, e4.trans f4, e5.trans f5⟩
theorem nowAt_tries {r : RecR} (h : check r = 0) : ∀ k : Nat, (r.trying = true ∧ (k : Int) ≤ r.tries ∧ (nowAt r k).trying = true ∧ (nowAt r k).tries = r.tries - k) ∨ ((r.trying = false ∨ r.tries < k) ∧ (nowAt r k).trying = false ∧ (nowAt r k).tries = 0)
  | 0 => by
    have hn := check_nums h
    have hr := check_rec h
    rcases Bool.eq_false_or_eq_true r.trying with e | e
    · exact .inl ⟨e, by omega, e, by simp [nowAt]⟩
    · exact .inr ⟨.inl e, e, hr.2.2 e⟩
  | k + 1 => by
    rcases nowAt_tries h k with ⟨h1, h2, h3, h4⟩ | ⟨h1, h2, h3⟩
    · by_cases hz : (nowAt r k).tries = 0
      · refine .inr ⟨.inr (by omega), ?_, ?_⟩
        · simp [nowAt, after, h3, hz]
        · simp [nowAt, after, h3, hz]
      · refine .inl ⟨h1, by omega, ?_, ?_⟩
        · simp [nowAt, after, h3, hz]
        · simp only [nowAt, after, if_pos (⟨h3, hz⟩ : _ ∧ _)]
          omega
    · refine .inr ⟨by rcases h1 with h1 | h1; exact .inl h1; exact .inr (by omega), ?_, ?_⟩
      · simp [nowAt, after, h2]
      · simp [nowAt, after, h2, h3]
/-- WHO IS TRIED IS TRIED AS OFTEN AS THERE ARE TRIES, THEN NO MORE -/
theorem slot_at {r : RecR} (h : check r = 0) (k : Nat) : slot (nowAt r k) = r.act ↔ (r.trying = false ∨ r.tries ≤ k) := by
  have hn := check_nums h
  have hr := check_rec h
  obtain ⟨-, e2, -⟩ := nowAt_fields r k
  rcases nowAt_tries h k with ⟨h1, h2, h3, h4⟩ | ⟨h1, h2, h3⟩
  · by_cases hz : (nowAt r k).tries = 0
    · have : slot (nowAt r k) = r.act := by unfold slot; rw [if_neg (by simp [hz]), e2]
      exact ⟨fun _ => .inr (by omega), fun _ => this⟩
    · have : slot (nowAt r k) = 1 - r.act := by unfold slot; rw [if_pos ⟨h3, hz⟩, e2]
      rw [this]
      refine ⟨fun q => by omega, fun q => ?_⟩
      rcases q with q | q
      · rw [h1] at q; cases q
      · omega
  · have : slot (nowAt r k) = r.act := by unfold slot; rw [if_neg (by simp [h2]), e2]
    refine ⟨fun _ => ?_, fun _ => this⟩
    rcases h1 with h1 | h1
    · exact .inl h1
    · exact .inr (by omega)

/-- what is confirmed is started for good -/
theorem conf_starts {r : RecR} (h : check r = 0) (ht : r.trying = true) : startOf (conf r) = (1 - r.act, conf r, 0) := by
  have hk := conf_ok h ht
  unfold startOf
  rw [if_neg (fun q => q hk)]
  have h1 : slot (conf r) = 1 - r.act := by unfold slot conf; simp
  have h2 : after (conf r) = conf r := by unfold after conf; simp
  rw [h1, h2]
theorem conf_floor (r : RecR) : r.floor ≤ (conf r).floor ∧ (inf (conf r) (1 - r.act)).ver ≤ (conf r).floor := by
  have e : inf (conf r) (1 - r.act) = inf r (1 - r.act) := rfl
  rw [e]
  unfold conf
  simp only
  omega
theorem startOf_ok {r : RecR} (h : check r = 0) : startOf r = (slot r, after r, 0) := by unfold startOf; rw [if_neg (fun q => q h)]
theorem confOf_ok {r : RecR} (h : check r = 0) (ht : r.trying = true) : confOf r = (conf r, 0) := by unfold confOf; rw [if_neg (fun q => q h), if_neg (by rw [ht]; simp)]
theorem confOf_late {r : RecR} (h : check r = 0) (ht : r.trying = false) : confOf r = (noRec, 5) := by unfold confOf; rw [if_neg (fun q => q h), if_pos ht]
theorem newest_or (l : CopsR) : newest l = 0 ∨ newest l = 1 := by unfold newest; split <;> simp
theorem copies_zero {l : CopsR} : copies l = 0 ↔ copErr l.c0 = 0 ∧ copErr l.c1 = 0 ∧ (l.c0.ok = true ∨ l.c1.ok = true) := by
  unfold copies
  by_cases h0 : copErr l.c0 = 0
  · by_cases h1 : copErr l.c1 = 0
    · by_cases h2 : l.c0.ok = false ∧ l.c1.ok = false
      · simp [h0, h1, h2]
      · simp only [h0, h1, if_neg h2, ne_eq, not_true_eq_false, if_false, true_and]
        refine ⟨fun _ => ?_, fun _ => trivial⟩
        rcases Bool.eq_false_or_eq_true l.c0.ok with e | e
        · exact .inl e
        · rcases Bool.eq_false_or_eq_true l.c1.ok with e' | e'
          · exact .inr e'
          · exact absurd ⟨e, e'⟩ h2
    · simp [h0, h1]
  · simp [h0]
theorem copErr_ok {c : CopR} (h : copErr c = 0) (ho : c.ok = true) : check c.r = 0 := by unfold copErr at h; rwa [if_pos ho] at h
theorem copErr_no {c : CopR} (h : copErr c = 0) (ho : c.ok = false) : c = noCop := by
  unfold copErr at h
  rw [if_neg (by simp [ho])] at h
  obtain ⟨o, r⟩ := c
  simp only at h ho
  by_cases hr : r = noRec
  · subst hr ho; rfl
  · rw [if_pos hr] at h; omega
/-- the newest copy is whole -/
theorem newest_ok {l : CopsR} (h : copies l = 0) : (cop l (newest l)).ok = true := by
  obtain ⟨-, -, h3⟩ := copies_zero.1 h
  unfold newest cop
  by_cases h1 : l.c0.ok = true ∧ (l.c1.ok = false ∨ l.c1.r.gen ≤ l.c0.r.gen)
  · rw [if_pos h1, if_pos rfl]; exact h1.1
  · rw [if_neg h1, if_neg (by omega)]
    rcases h3 with h3 | h3
    · rcases Bool.eq_false_or_eq_true l.c1.ok with e | e
      · exact e
      · exact absurd ⟨h3, .inl e⟩ h1
    · exact h3
theorem cur_ok {l : CopsR} (h : copies l = 0) : check (cur l) = 0 := by
  obtain ⟨h1, h2, -⟩ := copies_zero.1 h
  refine copErr_ok ?_ (newest_ok h)
  unfold cop
  split
  · exact h1
  · exact h2
theorem cop_put {l : CopsR} (c : CopR) : cop (put l c) (newest l) = cop l (newest l) ∧ cop (put l c) (1 - newest l) = c := by
  rcases newest_or l with e | e
  · unfold put cop; rw [e]; exact ⟨rfl, rfl⟩
  · unfold put cop; rw [e]; exact ⟨rfl, rfl⟩
/-- a torn write -/
theorem put_torn {l : CopsR} (h : copies l = 0) : copies (put l noCop) = 0 ∧ newest (put l noCop) = newest l := by
  obtain ⟨h1, h2, h3⟩ := copies_zero.1 h
  have hk := newest_ok h
  have e0 : copErr noCop = 0 := by decide
  rcases newest_or l with e | e
  · have e1 : l.c0.ok = true := by rw [e] at hk; exact hk
    have e2 : put l noCop = ⟨l.c0, noCop⟩ := by unfold put; rw [if_pos e]
    rw [e2, e]
    exact ⟨copies_zero.2 ⟨h1, e0, .inl e1⟩, by unfold newest; rw [if_pos ⟨e1, .inl rfl⟩]⟩
  · have e1 : l.c1.ok = true := by rw [e] at hk; exact hk
    have e2 : put l noCop = ⟨noCop, l.c1⟩ := by unfold put; rw [if_neg (by omega)]
    rw [e2, e]
    exact ⟨copies_zero.2 ⟨e0, h2, .inr e1⟩, by unfold newest; rw [if_neg (by rintro ⟨q, _⟩; cases q)]⟩
/-- a whole write -/
theorem put_whole {l : CopsR} (h : copies l = 0) {r : RecR} (hr : check (next l r) = 0) : copies (put l ⟨true, next l r⟩) = 0 ∧ newest (put l ⟨true, next l r⟩) = 1 - newest l := by
  obtain ⟨h1, h2, h3⟩ := copies_zero.1 h
  have hk := newest_ok h
  have e0 : copErr ⟨true, next l r⟩ = 0 := by unfold copErr; rw [if_pos rfl]; exact hr
  have hg : (next l r).gen = (cop l (newest l)).r.gen + 1 := rfl
  rcases newest_or l with e | e
  · have e1 : l.c0.ok = true := by rw [e] at hk; exact hk
    have e2 : put l ⟨true, next l r⟩ = ⟨l.c0, ⟨true, next l r⟩⟩ := by unfold put; rw [if_pos e]
    have e3 : (cop l (newest l)) = l.c0 := by rw [e]; rfl
    rw [e3] at hg
    rw [e2, e]
    refine ⟨copies_zero.2 ⟨h1, e0, .inl e1⟩, ?_⟩
    unfold newest
    rw [if_neg]
    · rfl
    · rintro ⟨_, q | q⟩
      · cases q
      · simp only at q; omega
  · have e1 : l.c1.ok = true := by rw [e] at hk; exact hk
    have e2 : put l ⟨true, next l r⟩ = ⟨⟨true, next l r⟩, l.c1⟩ := by unfold put; rw [if_neg (by omega)]
    have e3 : (cop l (newest l)) = l.c1 := by rw [e]; rfl
    rw [e3] at hg
    rw [e2, e]
    refine ⟨copies_zero.2 ⟨e0, h2, .inl rfl⟩, ?_⟩
    unfold newest
    rw [if_pos ⟨rfl, .inr (by simp only; omega)⟩]
    rfl
theorem cur_put {l : CopsR} {c : CopR} (h : newest (put l c) = 1 - newest l) : cur (put l c) = c.r := by unfold cur; rw [h, (cop_put c).2]
theorem cur_torn {l : CopsR} (h : copies l = 0) : cur (put l noCop) = cur l := by unfold cur; rw [(put_torn h).2, (cop_put noCop).1]
theorem readOf_ok {l : CopsR} (h : copies l = 0) : readOf l = (cur l, newest l, 0) := by unfold readOf; rw [if_neg (by simp [h])]
theorem writeOf_ok {l : CopsR} (h : copies l = 0) {r : RecR} (hr : check (next l r) = 0) (torn : Bool) : writeOf l r torn = (put l (if torn then noCop else ⟨true, next l r⟩), 0) := by
  unfold writeOf
  rw [if_neg (fun q => q h), if_neg (fun q => q hr)]
theorem writeOf_bad {l : CopsR} (h : copies l = 0) {r : RecR} (hr : check (next l r) ≠ 0) (torn : Bool) : writeOf l r torn = (noCops, check (next l r)) := by
  unfold writeOf
  rw [if_neg (fun q => q h), if_pos hr]
/-- A TORN WRITE LEAVES WHAT WAS, a whole one leaves what is written, and what was beside it -/
theorem torn_leaves {l : CopsR} (h : copies l = 0) (r : RecR) : (writeOf l r false).2 = (writeOf l r true).2 ∧ ((writeOf l r false).2 = 0 →
    readOf (writeOf l r false).1 = (next l r, 1 - newest l, 0) ∧ readOf (writeOf l r true).1 = (cur l, newest l, 0) ∧ cop (writeOf l r false).1 (newest l) = cop l (newest l) ∧ cop (writeOf l r true).1 (newest l) = cop l (newest l)) := by
  by_cases hr : check (next l r) = 0
  · obtain ⟨a1, a2⟩ := put_whole h hr
    obtain ⟨b1, b2⟩ := put_torn h
    rw [writeOf_ok h hr, writeOf_ok h hr]
    refine ⟨rfl, fun _ => ⟨?_, ?_, (cop_put _).1, (cop_put _).1⟩⟩
    · simp only [Bool.false_eq_true, if_false]
      rw [readOf_ok a1, a2, cur_put a2]
    · simp only [if_true]
      rw [readOf_ok b1, b2, cur_torn h]
  · rw [writeOf_bad h hr, writeOf_bad h hr]
    exact ⟨rfl, fun q => absurd q hr⟩
end RecM
end Go.Proofs.Ytmpmaljkmfgagac
