/-
  Contract of patch.Do: it returns what the document says.
-/
import Derived.Test.YtmpmaljkmfgagabPCheck
import Derived.Test.YtmpmaljkmfgagabSumP
import Derived.Test.YtmpmaljkmfgagabDeltaApply
import Derived.Handy
namespace Go.Proofs.Ytmpmaljkmfgagab
open Go.RowKit

set_option maxRecDepth 100000 in
set_option maxHeartbeats 2000000 in
theorem doP_any (v : Value) (p : PatR) (a : Option Addr) (n c : Nat) (old : List Int) (w : World) (hp : PV w v p) (hx : BS w a n c old) :
    Calls Try.prog 24 #[v, .slice a n c] w (GivesBE (doneOf p old) w) := by
  have hp' := hp
  obtain ⟨ao, no, co, rfl, ho, -⟩ := hp
  obtain ⟨f, t, o, nw, s, ops⟩ := p
  simp only at ho
  have HLn := Lib.hid hx.len
  have hb : Below w.heap.size w (w.alloc (.cells #[.int .i64 f, .int .i64 t, .int .i64 o, .int .i64 nw, .int .i64 s, .slice ao no co] 41)) := (Below.refl _ _).alloc (Nat.le_refl _) _
  obtain ⟨B, hBw⟩ : ∃ B, w.heap.size = B := ⟨_, rfl⟩
  have hB0 : (w.alloc (.cells #[.int .i64 f, .int .i64 t, .int .i64 o, .int .i64 nw, .int .i64 s, .slice ao no co] 41)).heap[B]? = some (.cells #[.int .i64 f, .int .i64 t, .int .i64 o, .int .i64 nw, .int .i64 s, .slice ao no co] 41 (0, 0)) := by rw [heap_at, if_pos hBw.symm]
  replace hp' := hp'.later hb
  replace ho := ho.later hb
  replace hx := hx.later hb
  obtain ⟨E, hE⟩ : ∃ E, PatM.check ⟨f, t, o, nw, s, ops⟩ = E := ⟨_, rfl⟩
  have HE := Lib.hid hE
  clear hE
  go_enter Try.func24, Try.ntmps24
  go_wp2_with fail
  generalize w.alloc (.cells #[.int .i64 f, .int .i64 t, .int .i64 o, .int .i64 nw, .int .i64 s, .slice ao no co] 41) = W0 at hb hB0 hp' ho hx ⊢
  refine (checkP_any _ _ _ hp').mono ?_
  rintro e W1 ⟨rfl, b1⟩
  rw [HE.out]
  replace hB0 := (b1.block B (lt_blk hB0)).trans hB0
  replace ho := ho.later b1
  replace hx := hx.later b1
  replace b1 := below_then hb b1
  clear hb hp' hBw W0
  by_cases h0 : E = 0
  · subst h0
    by_cases h64 : 64 < n
    · have HK : Hid (doneOf ⟨f, t, o, nw, s, ops⟩ old = ([], 1)) := by
        show _ = _
        unfold doneOf
        rw [if_neg (by rw [HE.out]; simp), if_pos (by rw [HLn.out]; exact h64)]
      go_wp2_with fail
      go_ret2
      exact ⟨none, 0, 0, tup_a (by rw [HK.out]), by rw [HK.out]; exact BS.nil_ _, b1⟩
    · obtain ⟨r0, r1, r2, r3, r4, r5, -⟩ := pat_cells hB0
      have hq := fun m => of_any a n c old (W1.drewN m) (hx.drewN m)
      have HQ := Lib.hid hq
      clear hq
      obtain ⟨S, hS⟩ : ∃ S, SumM.addL 1 old = S := ⟨_, rfl⟩
      have HSu := Lib.hid hS
      rw [hS] at HQ
      clear hS
      by_cases hs : S = o
      · subst hs
        have hsb : (S != S) = false := by simp
        go_wp2_with fail
        go_quiet (exact quiet_eq (HQ.out _))
        have bq : Below W1.heap.size W1 (W1.drewN nq) := below_drewN (Below.refl _ _) nq
        have hB2 := (bq.block B (lt_blk hB0)).trans hB0
        have ho2 := ho.later bq
        have hx2 := hx.later bq
        have b2 := below_then b1 bq
        clear bq r0 r1 r2 r3 r4 r5 hB0 ho hx b1 HQ
        generalize W1.drewN nq = W2 at hB2 ho2 hx2 b2 ⊢
        obtain ⟨r0, r1, r2, r3, r4, r5, -⟩ := pat_cells hB2
        go_wp2_with fail
        refine (apply_any a n c old ao no co ops s _ hx2 ho2).mono ?_
        rintro e W3 ⟨ar, nr, cr, rfl, sr, b3⟩
        have hB3 := (b3.block B (lt_blk hB2)).trans hB2
        replace b3 := below_then b2 b3
        obtain ⟨F, hF⟩ : ∃ F, DeltaM.check ops old.length s = F := ⟨_, rfl⟩
        have HF := Lib.hid hF
        rw [hF]
        clear hF b2 hB2 ho2 hx2 r0 r1 r2 r3 r4 r5
        obtain ⟨r0, r1, r2, r3, r4, r5, -⟩ := pat_cells hB3
        obtain ⟨R, hR⟩ : ∃ R, DeltaM.applied old ops s = R := ⟨_, rfl⟩
        have HR := Lib.hid hR
        rw [hR] at sr
        clear hR
        by_cases hf0 : F = 0
        · subst hf0
          obtain ⟨S2, hS2⟩ : ∃ S, SumM.addL 1 R = S := ⟨_, rfl⟩
          have HS2 := Lib.hid hS2
          have HQ2 : Hid (∀ m, Calls Try.prog 71 #[.slice ar nr cr] (W3.drewN m) fun e w' => e = .returned (.int .i64 S2) ∧ W3.drewN m = w') := by
            show ∀ m, _
            intro m
            have := of_any ar nr cr R (W3.drewN m) (sr.drewN m)
            rwa [hS2] at this
          clear hS2
          by_cases hs2 : S2 = nw
          · subst hs2
            have hsb2 : (S2 != S2) = false := by simp
            have HK : Hid (doneOf ⟨f, t, S, S2, s, ops⟩ old = (R, 0)) := by
              show _ = _
              unfold doneOf
              rw [if_neg (by rw [HE.out]; simp), if_neg (by rw [HLn.out]; exact h64), if_neg (by simp only [HSu.out]; simp), if_neg (by simp only [HF.out]; simp)]
              simp only [HR.out, HS2.out]
              simp
            go_wp2_with fail
            go_quiet (exact quiet_eq (HQ2.out _))
            have b4 := below_drewN b3 nq
            have s4 := sr.drewN nq
            go_wp2_with fail
            go_ret2
            exact ⟨ar, nr, cr, tup_a (by rw [HK.out]), by rw [HK.out]; exact s4, b4⟩
          · have hsb2 : (S2 != nw) = true := by simp [hs2]
            have HK : Hid (doneOf ⟨f, t, S, nw, s, ops⟩ old = ([], 6)) := by
              show _ = _
              unfold doneOf
              rw [if_neg (by rw [HE.out]; simp), if_neg (by rw [HLn.out]; exact h64), if_neg (by simp only [HSu.out]; simp), if_neg (by simp only [HF.out]; simp)]
              simp only [HR.out, HS2.out]
              rw [if_pos hs2]
            go_wp2_with fail
            go_quiet (exact quiet_eq (HQ2.out _))
            have b4 := below_drewN b3 nq
            go_wp2_with fail
            go_ret2
            exact ⟨none, 0, 0, tup_a (by rw [HK.out]), by rw [HK.out]; exact BS.nil_ _, b4⟩
        · have hfb : (F == 0) = false := by simp [hf0]
          have hfn : (F != 0) = true := by simp [hf0]
          have HK : Hid (doneOf ⟨f, t, S, nw, s, ops⟩ old = ([], F)) := by
            show _ = _
            unfold doneOf
            rw [if_neg (by rw [HE.out]; simp), if_neg (by rw [HLn.out]; exact h64), if_neg (by simp only [HSu.out]; simp), if_pos (by simp only [HF.out]; exact hf0)]
            simp only [HF.out]
          go_wp2_with fail
          go_ret2
          exact ⟨none, 0, 0, tup_a (by rw [HK.out]), by rw [HK.out]; exact BS.nil_ _, b3⟩
      · have hsb : (S != o) = true := by simp [hs]
        have HK : Hid (doneOf ⟨f, t, o, nw, s, ops⟩ old = ([], 6)) := by
          show _ = _
          unfold doneOf
          rw [if_neg (by rw [HE.out]; simp), if_neg (by rw [HLn.out]; exact h64), if_pos (by simp only [HSu.out]; exact hs)]
        go_wp2_with fail
        go_quiet (exact quiet_eq (HQ.out _))
        have b4 := below_drewN b1 nq
        go_wp2_with fail
        go_ret2
        exact ⟨none, 0, 0, tup_a (by rw [HK.out]), by rw [HK.out]; exact BS.nil_ _, b4⟩
  · have hnb : (E != 0) = true := by simp [h0]
    have HK : Hid (doneOf ⟨f, t, o, nw, s, ops⟩ old = ([], E)) := by
      show _ = _
      unfold doneOf
      rw [if_pos (by rw [HE.out]; exact h0), HE.out]
    go_wp2_with fail
    go_ret2
    exact ⟨none, 0, 0, tup_a (by rw [HK.out]), by rw [HK.out]; exact BS.nil_ _, b1⟩
theorem doP_ok : DoPC := fun v p a n c old w hp hx => doP_any v p a n c old w hp hx
end Go.Proofs.Ytmpmaljkmfgagab
