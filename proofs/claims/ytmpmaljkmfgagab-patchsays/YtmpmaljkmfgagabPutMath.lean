/-
  Plain data: a patch as bytes, bytes as a patch; the one is the inverse of the other.
-/
import Derived.Test.YtmpmaljkmfgagabPatRes
namespace Go.Proofs.Ytmpmaljkmfgagab.PatM

/-- a step as bytes -/
def enc (o : OpR) : List Int := if o.len = 0 then 255 :: (o.data.length : Int) :: o.data else [o.at_, o.len]
def encs : List OpR → List Int
  | [] => []
  | o :: t => enc o ++ encs t
theorem encs_append : ∀ x y, encs (x ++ y) = encs x ++ encs y
  | [], _ => rfl
  | o :: t, y => by simp [encs, encs_append t y]
def head (p : PatR) : List Int := [p.from_, p.to_, p.old / 256, p.old % 256, p.new / 256, p.new % 256, p.size, p.ops.length]
def putL (p : PatR) : List Int := head p ++ encs p.ops
/-- the document's Put -/
def putOf (p : PatR) : List Int × Int := if check p ≠ 0 then ([], check p) else if 400 < (putL p).length then ([], 1) else (putL p, 0)

/-- so many steps out of bytes: an error, the steps, what is left -/
def rd : Nat → List Int → List OpR → Int × List OpR × List Int
  | 0, r, acc => (0, acc, r)
  | k + 1, x :: y :: t, acc => if x = 255 then (if (t.length : Int) < y then (7, [], []) else rd k (t.drop y.toNat) (acc ++ [⟨0, 0, t.take y.toNat⟩])) else if y = 0 then (3, [], []) else rd k t (acc ++ [⟨x, y, []⟩])
  | _ + 1, _, _ => (7, [], [])
/-- the patch that the bytes ahead of the steps tell -/
def headOf (b : List Int) (ops : List OpR) : PatR := ⟨b.getD 0 0, b.getD 1 0, b.getD 2 0 * 256 + b.getD 3 0, b.getD 4 0 * 256 + b.getD 5 0, b.getD 6 0, ops⟩
/-- the document's Read -/
def readOf (b : List Int) : PatR × Int :=
  if 400 < b.length then (noPat, 1)
  else if b.length < 8 then (noPat, 7)
  else if (rd (b.getD 7 0).toNat (b.drop 8) []).1 ≠ 0 then (noPat, (rd (b.getD 7 0).toNat (b.drop 8) []).1)
  else if 0 < (rd (b.getD 7 0).toNat (b.drop 8) []).2.2.length then (noPat, 7)
  else if check (headOf b (rd (b.getD 7 0).toNat (b.drop 8) []).2.1) ≠ 0 then (noPat, check (headOf b (rd (b.getD 7 0).toNat (b.drop 8) []).2.1))
  else (headOf b (rd (b.getD 7 0).toNat (b.drop 8) []).2.1, 0)

theorem check_parts {p : PatR} (h : check p = 0) : ¬ badHead p ∧ DeltaM.check p.ops 64 p.size = 0 := by
  unfold check at h
  split at h
  · omega
  · exact ⟨by assumption, h⟩
theorem data_le {old : Int} : ∀ {l : List OpR}, DeltaM.Good old l → ((encs l).length : Int) ≤ 2 * l.length + DeltaM.total l
  | [], _ => by simp [encs, DeltaM.total]
  | o :: t, h => by
    have h1 := h o (by simp)
    have h2 := data_le (l := t) (fun o' ho => h o' (by simp [ho]))
    have h3 := DeltaM.good_len h1.2
    simp only [encs, List.length_append, DeltaM.total, DeltaM.size, List.length_cons, enc]
    split
    · simp only [List.length_cons]; omega
    · simp only [List.length_cons, List.length_nil]; omega
theorem putL_len {p : PatR} (h : check p = 0) : (putL p).length ≤ 152 := by
  obtain ⟨-, h2⟩ := check_parts h
  obtain ⟨h40, -, -, s1, s2, hg, ht⟩ := DeltaM.check_zero h2
  have := data_le hg
  simp only [putL, head, List.length_append, List.length_cons, List.length_nil]
  omega
theorem putOf_ok {p : PatR} (h : check p = 0) : putOf p = (putL p, 0) := by
  have := putL_len h
  unfold putOf
  rw [if_neg (by simp [h]), if_neg (by omega)]
theorem putOf_bad {p : PatR} (h : check p ≠ 0) : putOf p = ([], check p) := by unfold putOf; rw [if_pos h]

theorem form_data {o : OpR} (h : ¬ DeltaM.badForm o) (h0 : o.len = 0) : o = ⟨0, 0, o.data⟩ ∧ 1 ≤ o.data.length ∧ o.data.length ≤ 64 := by
  obtain ⟨a, l, d⟩ := o
  simp only at h0
  subst h0
  unfold DeltaM.badForm at h
  have h2 : ¬ (a ≠ 0 ∨ ¬ (1 ≤ (d.length : Int) ∧ (d.length : Int) ≤ 64)) := fun h1 => h (.inl ⟨rfl, h1⟩)
  obtain rfl : a = 0 := by omega
  refine ⟨rfl, ?_⟩
  simp only
  omega
theorem form_copy {o : OpR} (h : ¬ DeltaM.badForm o) (h0 : o.len ≠ 0) : o = ⟨o.at_, o.len, []⟩ := by
  obtain ⟨a, l, d⟩ := o
  simp only at h0
  unfold DeltaM.badForm at h
  simp only at h
  have : d.length = 0 := by omega
  obtain rfl := List.eq_nil_of_length_eq_zero this
  rfl
theorem encs_bytes : ∀ {l : List OpR}, DeltaM.Good 64 l → (∀ o ∈ l, ∀ v ∈ o.data, 0 ≤ v ∧ v ≤ 255) → ∀ v ∈ encs l, 0 ≤ v ∧ v ≤ 255
  | [], _, _, v, hv => by simp [encs] at hv
  | o :: t, h, hd, v, hv => by
    have h1 := h o (by simp)
    have h3 := DeltaM.good_len h1.2
    simp only [encs, List.mem_append] at hv
    rcases hv with hv | hv
    · unfold enc at hv
      split at hv
      · rename_i h0
        have h4 := form_data h1.1 h0
        simp only [List.mem_cons] at hv
        rcases hv with rfl | rfl | hv
        · omega
        · omega
        · exact hd o (by simp) v hv
      · simp only [List.mem_cons, List.not_mem_nil, or_false] at hv
        rcases hv with rfl | rfl <;> omega
    · exact encs_bytes (fun o' ho => h o' (by simp [ho])) (fun o' ho => hd o' (by simp [ho])) v hv
theorem putL_bytes {p : PatR} (h : check p = 0) (hd : ∀ o ∈ p.ops, ∀ v ∈ o.data, 0 ≤ v ∧ v ≤ 255) : ∀ v ∈ putL p, 0 ≤ v ∧ v ≤ 255 := by
  obtain ⟨hh, h2⟩ := check_parts h
  obtain ⟨h40, -, -, s1, s2, hg, ht⟩ := DeltaM.check_zero h2
  unfold badHead at hh
  intro v hv
  simp only [putL, List.mem_append] at hv
  rcases hv with hv | hv
  · simp only [head, List.mem_cons, List.not_mem_nil, or_false] at hv
    rcases hv with rfl | rfl | rfl | rfl | rfl | rfl | rfl | rfl <;> omega
  · exact encs_bytes hg hd v hv
theorem rd_encs : ∀ (l : List OpR) (r : List Int) (acc : List OpR), DeltaM.Good 64 l → rd l.length (encs l ++ r) acc = (0, acc ++ l, r)
  | [], r, acc, _ => by simp [rd, encs]
  | o :: t, r, acc, h => by
    have h1 := h o (by simp)
    have ih := fun r acc => rd_encs t r acc (fun o' ho => h o' (by simp [ho]))
    have h3 := DeltaM.good_len h1.2
    by_cases h0 : o.len = 0
    · obtain ⟨e, d1, d2⟩ := form_data h1.1 h0
      have : encs (o :: t) ++ r = 255 :: (o.data.length : Int) :: (o.data ++ (encs t ++ r)) := by simp [encs, enc, h0]
      rw [this, List.length_cons, rd, if_pos rfl, if_neg (by simp only [List.length_append]; omega)]
      rw [show (o.data.length : Int).toNat = o.data.length by omega, List.drop_left, List.take_left, ih, ← e]
      simp
    · have e := form_copy h1.1 h0
      have : encs (o :: t) ++ r = o.at_ :: o.len :: (encs t ++ r) := by simp [encs, enc, h0]
      rw [this, List.length_cons, rd, if_neg (by omega), if_neg h0, ih, ← e]
      simp
theorem rd_back : ∀ (k : Nat) (r : List Int) (acc ops : List OpR) (r' : List Int), (∀ v ∈ r, 0 ≤ v ∧ v ≤ 255) → rd k r acc = (0, ops, r') → ∃ l, ops = acc ++ l ∧ l.length = k ∧ r = encs l ++ r'
  | 0, r, acc, ops, r', _, h => by
    simp only [rd, Prod.mk.injEq, true_and] at h
    exact ⟨[], by simp [h.1], rfl, by simp [encs, h.2]⟩
  | k + 1, [], acc, ops, r', _, h => by simp [rd] at h
  | k + 1, [x], acc, ops, r', _, h => by simp [rd] at h
  | k + 1, x :: y :: t, acc, ops, r', hb, h => by
    have hy := hb y (by simp)
    have ht : ∀ v ∈ t, 0 ≤ v ∧ v ≤ 255 := fun v hv => hb v (by simp [hv])
    rw [rd] at h
    by_cases hx : x = 255
    · subst hx
      rw [if_pos rfl] at h
      by_cases hl : (t.length : Int) < y
      · rw [if_pos hl] at h
        simp at h
      · rw [if_neg hl] at h
        obtain ⟨l, e1, e2, e3⟩ := rd_back k _ _ _ _ (fun v hv => ht v (List.mem_of_mem_drop hv)) h
        have hlen : (t.take y.toNat).length = y.toNat := by simp; omega
        refine ⟨⟨0, 0, t.take y.toNat⟩ :: l, by simp [e1], by simp [e2], ?_⟩
        simp only [encs, enc, if_pos, hlen, List.cons_append, List.append_assoc]
        rw [← e3, List.take_append_drop, show ((y.toNat : Nat) : Int) = y by omega]
    · rw [if_neg hx] at h
      by_cases hy0 : y = 0
      · rw [if_pos hy0] at h
        simp at h
      · rw [if_neg hy0] at h
        obtain ⟨l, e1, e2, e3⟩ := rd_back k _ _ _ _ ht h
        refine ⟨⟨x, y, []⟩ :: l, by simp [e1], by simp [e2], ?_⟩
        simp [encs, enc, hy0, ← e3]
theorem rd_short {k : Nat} {r : List Int} {acc : List OpR} (hk : 0 < k) (h : r.length < 2) : rd k r acc = (7, [], []) := by
  obtain ⟨m, rfl⟩ : ∃ m, k = m + 1 := ⟨k - 1, by omega⟩
  match r, h with
  | [], _ => rfl
  | [_], _ => rfl
theorem read_err {b : List Int} {e : Int} {o : List OpR} {r : List Int} (h : b.length ≤ 400) (h8 : 8 ≤ b.length) (hr : rd (b.getD 7 0).toNat (b.drop 8) [] = (e, o, r)) (he : e ≠ 0) : readOf b = (noPat, e) := by
  unfold readOf
  rw [if_neg (by omega), if_neg (by omega), hr, if_pos he]
theorem read_rest {b : List Int} {o : List OpR} {r : List Int} (h : b.length ≤ 400) (h8 : 8 ≤ b.length) (hr : rd (b.getD 7 0).toNat (b.drop 8) [] = (0, o, r)) (hl : 0 < r.length) : readOf b = (noPat, 7) := by
  unfold readOf
  rw [if_neg (by omega), if_neg (by omega), hr, if_neg (by simp), if_pos hl]
theorem read_fin {b : List Int} {o : List OpR} {r : List Int} (h : b.length ≤ 400) (h8 : 8 ≤ b.length) (hr : rd (b.getD 7 0).toNat (b.drop 8) [] = (0, o, r)) (hl : ¬ 0 < r.length) : readOf b = if check (headOf b o) ≠ 0 then (noPat, check (headOf b o)) else (headOf b o, 0) := by
  unfold readOf
  rw [if_neg (by omega), if_neg (by omega), hr, if_neg (by simp), if_neg hl]
/-- READ OF PUT IS THE PATCH -/
theorem read_put {p : PatR} (h : check p = 0) : readOf (putL p) = (p, 0) := by
  have hlen := putL_len h
  obtain ⟨hh, h2⟩ := check_parts h
  obtain ⟨h40, -, -, s1, s2, hg, ht⟩ := DeltaM.check_zero h2
  unfold badHead at hh
  have hd : (putL p).drop 8 = encs p.ops := by simp [putL, head]
  have h7 : (putL p).getD 7 0 = p.ops.length := by simp [putL, head]
  have hr := rd_encs p.ops [] [] hg
  rw [List.append_nil, List.nil_append] at hr
  have hp : headOf (putL p) p.ops = p := by
    obtain ⟨f, t, o, nw, s, ops⟩ := p
    simp only [headOf, putL, head, List.cons_append, List.nil_append, List.getD_cons_zero, List.getD_cons_succ]
    rw [show o / 256 * 256 + o % 256 = o by omega, show nw / 256 * 256 + nw % 256 = nw by omega]
  unfold readOf
  rw [if_neg (by omega), if_neg (by simp only [putL, head, List.length_append, List.length_cons, List.length_nil]; omega), hd, h7, Int.toNat_natCast, hr]
  simp [hp, h]
/-- what is read is put as it was -/
theorem put_read {b : List Int} {p : PatR} (hb : ∀ v ∈ b, 0 ≤ v ∧ v ≤ 255) (h : readOf b = (p, 0)) : check p = 0 ∧ putL p = b := by
  unfold readOf at h
  split at h
  · simp at h
  split at h
  · simp at h
  split at h
  · rename_i h1
    simp only [Prod.mk.injEq] at h
    exact absurd h.2 h1
  split at h
  · simp at h
  split at h
  · rename_i h1
    simp only [Prod.mk.injEq] at h
    exact absurd h.2 h1
  rename_i h400 h8 he hr hc
  simp only [Prod.mk.injEq, and_true] at h
  rw [← h]
  refine ⟨by simpa using hc, ?_⟩
  have e1 : (rd (b.getD 7 0).toNat (b.drop 8) []).1 = 0 := by simpa using he
  have e2 : (rd (b.getD 7 0).toNat (b.drop 8) []).2.2 = [] := List.eq_nil_of_length_eq_zero (by omega)
  obtain ⟨l, q1, q2, q3⟩ := rd_back (b.getD 7 0).toNat (b.drop 8) [] (rd (b.getD 7 0).toNat (b.drop 8) []).2.1 [] (fun v hv => hb v (List.mem_of_mem_drop hv)) (by
    generalize rd (b.getD 7 0).toNat (b.drop 8) [] = R at e1 e2
    obtain ⟨x, y, z⟩ := R
    simp only at e1 e2
    rw [e1, e2])
  rw [q1, List.nil_append]
  rw [List.append_nil] at q3
  match b, h8 with
  | b0 :: b1 :: b2 :: b3 :: b4 :: b5 :: b6 :: b7 :: t, _ =>
    simp only [List.drop_succ_cons, List.drop_zero] at q3
    have v3 := hb b3 (by simp)
    have v5 := hb b5 (by simp)
    have v7 := hb b7 (by simp)
    simp only [List.getD_cons_zero, List.getD_cons_succ] at q2
    simp only [putL, head, headOf, List.getD_cons_zero, List.getD_cons_succ, List.cons_append, List.nil_append]
    rw [q3, show (l.length : Int) = b7 by omega, show (b2 * 256 + b3) / 256 = b2 by omega, show (b2 * 256 + b3) % 256 = b3 by omega, show (b4 * 256 + b5) / 256 = b4 by omega, show (b4 * 256 + b5) % 256 = b5 by omega]
  | [], h8 | [_], h8 | [_, _], h8 | [_, _, _], h8 | [_, _, _, _], h8 | [_, _, _, _, _], h8 | [_, _, _, _, _, _], h8 | [_, _, _, _, _, _, _], h8 => simp at h8
end Go.Proofs.Ytmpmaljkmfgagab.PatM
