/-
  Contracts of patch.readSum, readStep and readSteps: steps out of bytes, as the document says.
-/
import Derived.Test.YtmpmaljkmfgagabRowToOpenN
import Derived.Test.YtmpmaljkmfgagabDeltaSt
import Derived.Laws.BitsLemmas
import Derived.Handy
namespace Go.Proofs.Ytmpmaljkmfgagab
open Go.RowKit

namespace PatM
/-- the step at the start of bytes, how many bytes it takes there, and the error -/
def stepOf : List Int → OpR × Nat × Int
  | x :: y :: t => if x = 255 then (if (t.length : Int) < y then (⟨0, 0, []⟩, 0, 7) else (⟨0, 0, t.take y.toNat⟩, 2 + y.toNat, 0)) else if y = 0 then (⟨0, 0, []⟩, 0, 3) else (⟨x, y, []⟩, 2, 0)
  | _ => (⟨0, 0, []⟩, 0, 7)
theorem stepOf_short {r : List Int} (h : r.length < 2) : stepOf r = (⟨0, 0, []⟩, 0, 7) := by
  match r, h with
  | [], _ => rfl
  | [_], _ => rfl
theorem rd_bad {k : Nat} {r : List Int} {acc : List OpR} (h : (stepOf r).2.2 ≠ 0) : rd (k + 1) r acc = ((stepOf r).2.2, [], []) := by
  match r with
  | [] => rfl
  | [_] => rfl
  | x :: y :: t =>
    unfold stepOf at h ⊢
    rw [rd]
    by_cases hx : x = 255
    · by_cases hl : (t.length : Int) < y
      · simp [hx, hl]
      · simp [hx, hl] at h
    · by_cases hy : y = 0
      · simp [hx, hy]
      · simp [hx, hy] at h
theorem rd_one {k : Nat} {r : List Int} {acc : List OpR} (h : (stepOf r).2.2 = 0) : rd (k + 1) r acc = rd k (r.drop (stepOf r).2.1) (acc ++ [(stepOf r).1]) ∧ (stepOf r).2.1 ≤ r.length := by
  match r with
  | [] => simp [stepOf] at h
  | [_] => simp [stepOf] at h
  | x :: y :: t =>
    unfold stepOf at h ⊢
    rw [rd]
    by_cases hx : x = 255
    · by_cases hl : (t.length : Int) < y
      · simp [hx, hl] at h
      · simp only [hx, hl, if_true, if_false, List.length_cons]
        rw [show 2 + y.toNat = y.toNat + 1 + 1 by omega, List.drop_succ_cons, List.drop_succ_cons]
        exact ⟨rfl, by omega⟩
    · by_cases hy : y = 0
      · simp [hx, hy] at h
      · simp [hx, hy]
/-- the document's steps out of bytes: no byte may be left -/
def stepsOf (k : Nat) (r : List Int) : List OpR × Int :=
  if (rd k r []).1 ≠ 0 then ([], (rd k r []).1) else if 0 < (rd k r []).2.2.length then ([], 7) else ((rd k r []).2.1, 0)
theorem stepsOf_err {k : Nat} {r : List Int} {e : Int} {o : List OpR} {q : List Int} (h : rd k r [] = (e, o, q)) (he : e ≠ 0) : stepsOf k r = ([], e) := by
  unfold stepsOf
  rw [h, if_pos he]
theorem stepsOf_rest {k : Nat} {r : List Int} {o : List OpR} {q : List Int} (h : rd k r [] = (0, o, q)) (hl : 0 < q.length) : stepsOf k r = ([], 7) := by
  unfold stepsOf
  rw [h, if_neg (by simp), if_pos hl]
theorem stepsOf_fin {k : Nat} {r : List Int} {o : List OpR} {q : List Int} (h : rd k r [] = (0, o, q)) (hl : ¬ 0 < q.length) : stepsOf k r = (o, 0) := by
  unfold stepsOf
  rw [h, if_neg (by simp), if_neg hl]
theorem readOf_steps {b : List Int} (h400 : b.length ≤ 400) (h8 : 8 ≤ b.length) : readOf b = if (stepsOf (b.getD 7 0).toNat (b.drop 8)).2 ≠ 0 then (noPat, (stepsOf (b.getD 7 0).toNat (b.drop 8)).2)
    else if check (headOf b (stepsOf (b.getD 7 0).toNat (b.drop 8)).1) ≠ 0 then (noPat, check (headOf b (stepsOf (b.getD 7 0).toNat (b.drop 8)).1)) else (headOf b (stepsOf (b.getD 7 0).toNat (b.drop 8)).1, 0) := by
  unfold readOf stepsOf
  rw [if_neg (by omega), if_neg (by omega)]
  generalize rd (b.getD 7 0).toNat (b.drop 8) [] = R
  obtain ⟨e, o, q⟩ := R
  by_cases he : e = 0
  · subst he
    by_cases hq : 0 < q.length
    · simp [hq]
    · simp [hq]
  · simp [he]
theorem stepOf_num {r : List Int} (h : ∀ v ∈ r, 0 ≤ v ∧ v ≤ 255) : I64 (stepOf r).1.at_ ∧ I64 (stepOf r).1.len := by
  unfold I64
  match r, h with
  | [], _ => simp [stepOf]
  | [_], _ => simp [stepOf]
  | x :: y :: t, h =>
    have hx := h x (by simp)
    have hy := h y (by simp)
    rw [stepOf]
    split
    · split <;> simp
    · split
      · simp
      · simp only
        omega
end PatM

theorem or_join {x y : Int} (hx : 0 ≤ x ∧ x ≤ 255) (hy : 0 ≤ y ∧ y ≤ 255) : bits .or .i64 (x * 256) y = x * 256 + y :=
  bits_join .i64 16 (by decide) (fun n h1 h2 => IntWalk.i64_in _ (by omega)) 8 _ _ (by omega) (by omega) (by omega) (by omega) (by omega) (by omega)

set_option maxRecDepth 100000 in
set_option maxHeartbeats 400000 in
theorem readSum_any (blk off c : Nat) (x y : Int) (w : World) (t0 : w.cell? ⟨blk, off, none⟩ = some (.int .u8 x)) (t1 : w.cell? ⟨blk, off + 1, none⟩ = some (.int .u8 y)) (hx : 0 ≤ x ∧ x ≤ 255) (hy : 0 ≤ y ∧ y ≤ 255) :
    Calls Try.prog 82 #[.slice (some ⟨blk, off, none⟩) 2 c] w fun e w' => e = .returned (.int .i64 (x * 256 + y)) ∧ DrewN w w' := by
  have h1 := or_join hx hy
  have h2 : IntKind.i64.wrap (x * 256) = x * 256 := IntWalk.i64_in _ (by omega)
  go_enter Try.func82, Try.ntmps82
  go_wp2
  go_quiet (fail)
  go_wp2
  go_ret
  exact ⟨rfl, nq, rfl⟩

/-- what readStep returns: the data of the step in memory that is new -/
def GivesSt (r : List Int) (w : World) (e : Ending) (w' : World) : Prop :=
  ∃ a n c, e = .returned (.tuple #[.agg #[.int .i64 (PatM.stepOf r).1.at_, .int .i64 (PatM.stepOf r).1.len, .slice a n c], .int .i64 ((PatM.stepOf r).2.1 : Int), .int .i64 (PatM.stepOf r).2.2]) ∧ BS w' a n c (PatM.stepOf r).1.data ∧
    (∀ p, a = some p → w.heap.size ≤ p.block ∧ p.block < w'.heap.size) ∧ Below w.heap.size w w'

/-- a whole step stored into a block of one -/
theorem set_three {W : World} {B : Nat} {v0 v1 v2 : Value} (h : W.heap[B]? = some (.cells #[v0, v1, v2] 36 (0, 0))) (u0 u1 u2 : Value) :
    ∃ W6, ((W.setCell ⟨B, 0, none⟩ u0).setCell ⟨B, 1, none⟩ u1).setCell ⟨B, 2, none⟩ u2 = W6 ∧
      W6.cell? ⟨B, 0, none⟩ = some u0 ∧ W6.cell? ⟨B, 1, none⟩ = some u1 ∧ W6.cell? ⟨B, 2, none⟩ = some u2 ∧
      (∀ k, k ≠ B → W6.heap[k]? = W.heap[k]?) ∧ W6.heap.size = W.heap.size := by
  refine ⟨_, rfl, ?_, ?_, ?_, fun k hk => ?_, by simp only [size_set]⟩
  iterate 3 (simp [World.cell?, World.setCell, Array.getElem?_modify, h])
  rw [Below.heap_setCell _ _ _ k hk, Below.heap_setCell _ _ _ k hk, Below.heap_setCell _ _ _ k hk]
theorem op_cells {W : World} {B : Nat} {v0 v1 v2 : Value} (h : W.heap[B]? = some (.cells #[v0, v1, v2] 36 (0, 0))) : W.cell? ⟨B, 0, none⟩ = some v0 ∧ W.cell? ⟨B, 1, none⟩ = some v1 ∧ W.cell? ⟨B, 2, none⟩ = some v2 ∧
    W.frozen? ⟨B, 0, none⟩ = false ∧ W.frozen? ⟨B, 1, none⟩ = false ∧ W.frozen? ⟨B, 2, none⟩ = false := by
  simp [World.cell?, World.frozen?, h]
theorem own_at {w : World} {base e n : Nat} {a : Option Addr} {m c : Nat} {xs : List Value} (h : w.ownsRow base e 1 (.slice a m c) n xs) : ∀ p, a = some p → base ≤ p.block ∧ p.block < w.heap.size := by
  rintro p rfl
  rcases h.2 with ⟨h1, h2⟩ | ⟨g, cap, cur, h1, _⟩
  · cases h1
  · cases h1
    exact own_lt3 h rfl

set_option maxRecDepth 100000 in
set_option maxHeartbeats 1000000 in
theorem readStep_any (a : Option Addr) (n c : Nat) (r : List Int) (w : World) (hs : BS w a n c r) (hn : n ≤ 400) :
    Calls Try.prog 113 #[.slice a n c] w (GivesSt r w) := by
  have hlen := hs.len
  have hb : ∀ o, Below w.heap.size w (w.alloc o) := fun o => (Below.refl _ _).alloc (Nat.le_refl _) _
  have HB := Lib.hid hb
  clear hb
  by_cases h2 : n < 2
  · have HK : Hid (PatM.stepOf r = (⟨0, 0, []⟩, 0, 7)) := PatM.stepOf_short (by omega)
    clear hs
    go_enter Try.func113, Try.ntmps113
    go_wp2_with fail
    go_returns
    exact ⟨none, 0, 0, by rw [HK.out]; rfl, by rw [HK.out]; exact BS.nil_ _, (fun p h => by cases h), HB.out _⟩
  · match r, hlen with
    | [], hlen => exact absurd hlen (by simp; omega)
    | [_], hlen => exact absurd hlen (by simp; omega)
    | x :: y :: t, hlen =>
      have hx := hs.bytes x (by simp)
      have hy := hs.bytes y (by simp)
      obtain ⟨X, rfl⟩ : ∃ X : Nat, x = X := ⟨x.toNat, by omega⟩
      obtain ⟨Y, rfl⟩ : ∃ Y : Nat, y = Y := ⟨y.toNat, by omega⟩
      have HS := Lib.hid hs
      obtain ⟨blk, off, rfl, hc⟩ := hs.cells (by omega)
      have t0 := hc 0 (by omega)
      have t1 := hc 1 (by omega)
      simp only [List.getElem?_cons_zero, List.getElem?_cons_succ, Option.getD_some, Nat.add_zero] at t0 t1
      have hblk : blk < w.heap.size := by
        simp only [World.cell?] at t0
        split at t0
        · rename_i h; exact lt_blk h
        · cases t0
      have htl : t.length = n - 2 := by simp only [List.length_cons] at hlen; omega
      have HTL := Lib.hid htl
      have h1n : 1 < n := by omega
      have h0n : 0 < n := by omega
      clear hc hs hlen htl
      by_cases hX : X = 255
      · subst hX
        obtain ⟨T, hT⟩ : ∃ T : Nat, 2 + (Y : Int) = T := ⟨2 + Y, by omega⟩
        have HT : Hid (2 + Y = T) := by show 2 + Y = T; omega
        by_cases hl : n < T
        · have HK : Hid (PatM.stepOf (((255 : Nat) : Int) :: (Y : Int) :: t) = (⟨0, 0, []⟩, 0, 7)) := by
            show _ = _
            rw [PatM.stepOf, if_pos (show ((255 : Nat) : Int) = 255 from rfl), if_pos (by rw [HTL.out]; omega)]
          go_enter Try.func113, Try.ntmps113
          go_wp2_with fail
          go_returns
          exact ⟨none, 0, 0, by rw [HK.out]; rfl, by rw [HK.out]; exact BS.nil_ _, (fun p h => by cases h), HB.out _⟩
        · have HK : Hid (PatM.stepOf (((255 : Nat) : Int) :: (Y : Int) :: t) = (⟨0, 0, t.take Y⟩, T, 0)) := by
            show _ = _
            rw [PatM.stepOf, if_pos (show ((255 : Nat) : Int) = 255 from rfl), if_neg (by rw [HTL.out]; omega), Int.toNat_natCast, HT.out]
          have hle := HS.out.le
          have hcut : ∀ W, (Instr.slice 22 (.slice (some ⟨blk, off, none⟩) n c) (some (.int .i64 2)) (some (.int .i64 T)) none).run Try.prog W = .ok (.slice (cutA (some ⟨blk, off, none⟩) c 2) (T - 2) (c - 2)) W := fun W =>
            run_cut_lh (some ⟨blk, off, none⟩) n c W 2 T (by omega) (by omega)
          have hsrc : BS w (cutA (some ⟨blk, off, none⟩) c 2) (T - 2) (c - 2) (t.take Y) := by
            have := HS.out.mid 2 T (by omega) (by omega)
            simp only [List.drop_succ_cons, List.drop_zero] at this
            rw [show T - 2 = Y by omega] at this ⊢
            exact this
          generalize cutA (some ⟨blk, off, none⟩) c 2 = A3 at hcut hsrc
          generalize c - 2 = C3 at hcut hsrc
          have hT2 : T - 2 ≤ 400 := by omega
          generalize T - 2 = N3 at hcut hsrc hT2
          have hb0 := HB.out (.cells #[.int .i64 0, .int .i64 0, .slice none 0 0] 36)
          have hB0 : (w.alloc (.cells #[.int .i64 0, .int .i64 0, .slice none 0 0] 36)).heap[w.heap.size]? = some (.cells #[.int .i64 0, .int .i64 0, .slice none 0 0] 36 (0, 0)) := by rw [heap_at, if_pos rfl]
          have e0 : (w.alloc (.cells #[.int .i64 0, .int .i64 0, .slice none 0 0] 36)).heap.size = w.heap.size + 1 := by simp
          have hsrc0 := Lib.hid (hsrc.later hb0)
          have HB0 := Lib.hid hB0
          have HE0 := Lib.hid e0
          have HBb := Lib.hid hb0
          clear hsrc hb0 hB0 e0
          go_enter Try.func113, Try.ntmps113
          go_wp2_with fail
          refine (bytesClone_any A3 N3 C3 (t.take Y) _ hsrc0.out (by omega)).mono ?_
          rintro e W1 ⟨a5, n5, c5, rfl, hown, b1⟩
          have hbs := BS.of_own hown (fun v hv => HS.out.bytes v (by simp [List.mem_of_mem_take hv]))
          have hat := own_at hown
          have hB1 := (b1.block w.heap.size (by rw [HE0.out]; omega)).trans HB0.out
          have b2 := below_then HBb.out b1
          obtain ⟨r0, r1, r2, f0, f1, f2⟩ := op_cells hB1
          have g0 : ∀ v, (W1.setCell ⟨w.heap.size, 0, none⟩ v).cell? ⟨w.heap.size, 0, none⟩ = some v := fun v => World.cell?_setCell_same _ _ _ r0
          obtain ⟨W6, hW6, q0, q1, q2, hoth, hsz⟩ := set_three hB1 (.int .i64 0) (.int .i64 0) (.slice a5 n5 c5)
          have HB6 : Hid (Below w.heap.size w W6) := by
            show Below _ _ _
            rw [← hW6]
            exact ((b2.setCell (Nat.le_refl _) _).setCell (Nat.le_refl _) _).setCell (Nat.le_refl _) _
          have HBS : Hid (BS W6 a5 n5 c5 (t.take Y)) := by
            show BS _ _ _ _ _
            refine hbs.keepBlk (fun p hp => hoth _ ?_)
            have := (hat p hp).1
            rw [HE0.out] at this
            omega
          have HAT : Hid (∀ p, a5 = some p → w.heap.size ≤ p.block ∧ p.block < W6.heap.size) := by
            show ∀ p, _
            intro p hp
            obtain ⟨z1, z2⟩ := hat p hp
            rw [HE0.out] at z1
            rw [hsz]
            exact ⟨by omega, z2⟩
          clear hoth hsz b2 hbs hat hown hB1 b1
          go_wp2_with fail
          try simp only [Exit.inBlock, Exit.then]
          refine bodyPost_ret (by simp [results, Try.results113, go_sem, q0, q1, q2]; try rfl) rfl ?_
          exact ⟨a5, n5, c5, by rw [HK.out], by rw [HK.out]; exact HBS.out, HAT.out, HB6.out⟩
      · have hXb : ((X : Int) == 255) = false := by simp; omega
        by_cases hY : Y = 0
        · subst hY
          have HK : Hid (PatM.stepOf ((X : Int) :: ((0 : Nat) : Int) :: t) = (⟨0, 0, []⟩, 0, 3)) := by
            show _ = _
            rw [PatM.stepOf, if_neg (by omega), if_pos (show ((0 : Nat) : Int) = 0 from rfl)]
          go_enter Try.func113, Try.ntmps113
          go_wp2_with fail
          go_returns
          exact ⟨none, 0, 0, by rw [HK.out]; rfl, by rw [HK.out]; exact BS.nil_ _, (fun p h => by cases h), HB.out _⟩
        · have hYb : ((Y : Int) == 0) = false := by simp; omega
          have HK : Hid (PatM.stepOf ((X : Int) :: (Y : Int) :: t) = (⟨X, Y, []⟩, 2, 0)) := by
            show _ = _
            rw [PatM.stepOf, if_neg (by omega), if_neg (by omega)]
          go_enter Try.func113, Try.ntmps113
          go_wp2_with fail
          go_returns
          exact ⟨none, 0, 0, by rw [HK.out]; rfl, by rw [HK.out]; exact BS.nil_ _, (fun p h => by cases h), HB.out _⟩

/-- what readSteps returns: steps in memory that is new -/
def GivesSts (K : Nat) (r : List Int) (w : World) (e : Ending) (w' : World) : Prop :=
  ∃ a n c, e = .returned (.tuple #[.slice a n c, .int .i64 (PatM.stepsOf K r).2]) ∧ OSN w' w.heap.size a n c (PatM.stepsOf K r).1 ∧ Below w.heap.size w w'
/-- the rounds of readSteps -/
def StepsRel (K : Nat) (r : List Int) (w : World) (b l i : Value) (wr : World) : Prop :=
  ∃ (k : Nat) (a : Option Addr) (n c : Nat) (rest : List Int) (out : List OpR), i = .int .i64 k ∧ k ≤ K ∧ b = .slice a n c ∧ n ≤ 400 ∧ BS w a n c rest ∧ OutSt wr w.heap.size none l out ∧ out.length = k ∧ PatM.rd (K - k) rest out = PatM.rd K r [] ∧ Below w.heap.size w wr

set_option maxRecDepth 100000 in
set_option maxHeartbeats 2000000 in
theorem readSteps_any (a : Option Addr) (n c : Nat) (r : List Int) (K : Nat) (w : World) (hs : BS w a n c r) (hn : n ≤ 400) (hK : K ≤ 255) :
    Calls Try.prog 81 #[.slice a n c, .int .i64 (K : Int)] w (GivesSts K r w) := by
  have HS := Lib.hid hs
  clear hs
  go_enter Try.func81, Try.ntmps81
  go_wp2_with fail
  go_loopw [0, 6, 11] (fun b l i wr => StepsRel K r w b l i wr) (fun _ _ i _ => K - (intOf i).toNat)
  case atStart => exact ⟨0, a, n, c, r, [], rfl, Nat.zero_le _, rfl, hn, HS.out, OutSt.start _ _ _ (fun g h => by cases h), rfl, rfl, Below.refl _ _⟩
  case round =>
    obtain ⟨k, a2, n2, c2, rest, out, rfl, hk, rfl, hn2, hbs, host, hol, hrd, hbw⟩ := hrel
    have HBS := Lib.hid hbs
    have HOL := Lib.hid hol
    have HRD := Lib.hid hrd
    have HOST := Lib.hid host
    have HBW := Lib.hid hbw
    have HLN := Lib.hid hbs.len
    clear hol hrd host hbs hbw HS
    by_cases hlt : k < K
    · have HCall := Lib.hid (readStep_any a2 n2 c2 rest wr (HBS.out.later HBW.out) hn2)
      have HR1 : Hid (PatM.rd (K - (k + 1) + 1) rest out = PatM.rd K r []) := by show _ = _; rw [show K - (k + 1) + 1 = K - k by omega]; exact HRD.out
      have HI := Lib.hid (PatM.stepOf_num HBS.out.bytes)
      go_wp2_with fail
      refine HCall.out.mono ?_
      rintro e W1 ⟨a5, n5, c5, rfl, hd5, hat5, b5⟩
      have HONE := Lib.hid (fun h => (PatM.rd_one (k := K - (k + 1)) (r := rest) (acc := out) h))
      have HBAD := Lib.hid (fun h => (PatM.rd_bad (k := K - (k + 1)) (r := rest) (acc := out) h))
      generalize PatM.stepOf rest = so at hd5 HONE HBAD HI ⊢
      obtain ⟨⟨A, L, D⟩, U, E⟩ := so
      simp only at hd5 HONE HBAD HI ⊢
      have hB5 := below_then HBW.out b5
      have HB5 := Lib.hid hB5
      have hal : Below W1.heap.size W1 (W1.alloc (.cells #[.int .i64 A, .int .i64 L, .slice a5 n5 c5] 36)) := (Below.refl _ _).alloc (Nat.le_refl _) _
      have HAL := Lib.hid hal
      clear hal hB5
      by_cases hE : E = 0
      · subst hE
        obtain ⟨hone, hU⟩ := HONE.out rfl
        have hlenU : U ≤ n2 := by rw [← HLN.out]; exact hU
        have HRN : Hid (PatM.rd (K - (k + 1)) (rest.drop U) (out ++ [⟨A, L, D⟩]) = PatM.rd K r []) := by show _ = _; rw [← hone]; exact HR1.out
        have hal2 : Below W1.heap.size W1 ((W1.alloc (.cells #[.int .i64 A, .int .i64 L, .slice a5 n5 c5] 36)).alloc (.cells #[.int .i64 A, .int .i64 L, .slice a5 n5 c5] 36)) := HAL.out.alloc HAL.out.size _
        have e2 : ((W1.alloc (.cells #[.int .i64 A, .int .i64 L, .slice a5 n5 c5] 36)).alloc (.cells #[.int .i64 A, .int .i64 L, .slice a5 n5 c5] 36)).heap.size = W1.heap.size + 2 := by simp
        obtain ⟨g, cap, W5, hrun, ho5, hg5, -⟩ := ((HOST.out.later b5).later hal2).app (B := W1.heap.size + 1) (A := A) (L := L) (by rw [heap_at, if_pos (by simp)]) (hd5.later hal2)
          (fun p hp => ⟨by have := (hat5 p hp).1; have := HBW.out.size; omega, by have := (hat5 p hp).2; omega, by
            intro e
            have h1 := (hat5 p hp).1
            obtain ⟨⟨vs, _, q, _⟩, _⟩ := HOST.out
            have h2 := (own_lt3 q e.symm).2
            omega, by simp⟩) HI.out.1 HI.out.2 (by rw [HOL.out]; omega) (by have := HB5.out.size; omega)
        have hB6 := (below_then HB5.out hal2).grown hg5 (below_then HB5.out hal2).size (fun g' hg' => by
          obtain ⟨⟨vs, _, q, _⟩, _⟩ := HOST.out
          exact (own_lt3 q hg').1)
        rw [HOL.out] at hrun ho5
        have HO5 := Lib.hid ho5
        have HB6 := Lib.hid hB6
        have hcut : ∀ W, (Instr.slice 22 (.slice a2 n2 c2) (some (.int .i64 (U : Int))) none none).run Try.prog W = .ok (.slice (cutA a2 c2 U) (n2 - U) (c2 - U)) W := fun W => run_cut_l a2 n2 c2 W U hlenU
        have HSR := Lib.hid (HBS.out.cut U hlenU)
        generalize cutA a2 c2 U = A3 at hcut HSR
        generalize c2 - U = C3 at hcut HSR
        have hN3 : n2 - U ≤ 400 := by omega
        generalize n2 - U = N3 at hcut HSR hN3
        clear hone hU hal2 e2 ho5 hg5 hB6 hd5 hat5 b5
        go_wp2_with (at_builtin; refine Lib.wpList_append_run _ rfl _ _ _ _ rfl _ _ rfl rfl _ _ hrun ?_)
        go_roundw
        case rel => exact ⟨k + 1, A3, N3, C3, rest.drop U, out ++ [⟨A, L, D⟩], by go_num, by omega, rfl, hN3, HSR.out, HO5.out, by rw [List.length_append, HOL.out]; rfl, HRN.out, HB6.out⟩
        case measure => simp [intOf]; omega
      · have hEb : (E != 0) = true := by simp [hE]
        have HK : Hid (PatM.stepsOf K r = ([], E)) := PatM.stepsOf_err (o := []) (q := []) (by rw [← HR1.out, HBAD.out hE]) hE
        have HBe := Lib.hid (below_then HB5.out HAL.out)
        go_wp2_with fail
        go_ret2
        exact ⟨none, 0, 0, tup_a (by rw [HK.out]), by rw [HK.out]; exact fun w2 _ _ => OS.nil_ w2, HBe.out⟩
    · obtain rfl : k = K := by omega
      have HR0 : Hid (PatM.rd k r [] = (0, out, rest)) := by show _ = _; rw [← HRD.out, Nat.sub_self, PatM.rd]
      by_cases hz : 0 < n2
      · have HK : Hid (PatM.stepsOf k r = ([], 7)) := PatM.stepsOf_rest HR0.out (by rw [HLN.out]; exact hz)
        go_wp2_with fail
        go_ret2
        exact ⟨none, 0, 0, tup_a (by rw [HK.out]), by rw [HK.out]; exact fun w2 _ _ => OS.nil_ w2, HBW.out⟩
      · have HK : Hid (PatM.stepsOf k r = (out, 0)) := PatM.stepsOf_fin HR0.out (by rw [HLN.out]; exact hz)
        obtain ⟨ao, co, hvo, -⟩ := HOST.out.os
        subst hvo
        go_wp2_with fail
        go_ret2
        exact ⟨ao, out.length, co, tup_a (by rw [HK.out]), by rw [HK.out]; exact HOST.out.osn, HBW.out⟩
end Go.Proofs.Ytmpmaljkmfgagab
