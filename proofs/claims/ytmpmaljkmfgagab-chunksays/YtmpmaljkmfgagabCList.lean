/-
  Contract of chunk.List: it returns what the document says.
-/
import Derived.Test.YtmpmaljkmfgagabCCheckToCKin
import Derived.Test.YtmpmaljkmfgagabRowToOpenN
import Derived.Deep.RegionHeld3
import Derived.BigQuiet
namespace Go.Proofs.Ytmpmaljkmfgagab
open Go.RowKit

/-- the number ahead of the k-th chunk -/
def lastOf (l : List ChR) (k : Nat) : Int := if k = 0 then -1 else (l.getD (k - 1) default).n
theorem lastOf_succ (l : List ChR) (k : Nat) : lastOf l (k + 1) = (l.getD k default).n := by unfold lastOf; rw [if_neg (by omega)]; rfl
/-- the rounds of List -/
def ListRel (l : List ChR) (w : World) (i : Value) (wr : World) : Prop :=
  ∃ k : Nat, i = .int .i64 k ∧ k ≤ l.length ∧ ChunkM.chks (l.getD 0 default) (l.drop k) (lastOf l k) = ChunkM.checks l ∧ (0 < k → ChunkM.kin (l.getD (k - 1) default) (l.getD 0 default)) ∧ Below w.heap.size w wr
theorem kin_via {p x z : ChR} (h : ChunkM.kin p z) : ChunkM.kin x z ↔ ChunkM.kin p x := by
  obtain ⟨h1, h2, h3⟩ := h
  unfold ChunkM.kin
  rw [h1, h2, h3]
  exact ⟨fun q => ⟨q.1.symm, q.2.1.symm, q.2.2.symm⟩, fun q => ⟨q.1.symm, q.2.1.symm, q.2.2.symm⟩⟩

set_option maxRecDepth 100000 in
set_option maxHeartbeats 2000000 in
theorem listC_ok : ListCC := by
  intro a n c l w hl
  have HL := Lib.hid hl
  have HLn := Lib.hid hl.len
  have hlen : n ≤ 9223372036854775807 := by have := hl.le; have := hl.max; omega
  clear hl
  go_enter Try.func54, Try.ntmps54
  go_wp2_with fail
  go_loopw [8] (fun i wr => ListRel l w i wr) (fun i _ => n - (intOf i).toNat)
  case atStart => exact ⟨0, rfl, Nat.zero_le _, by cases l <;> rfl, fun h => absurd h (by omega), Below.refl _ _⟩
  case round =>
    obtain ⟨k, rfl, hk, hc, hkin, hB⟩ := hrel
    rw [HLn.out] at hk
    have HC := Lib.hid hc
    have HB := Lib.hid hB
    have HKin := Lib.hid hkin
    clear hc hB hkin
    by_cases hlt : k < n
    · obtain ⟨b, off, rfl, hcs⟩ := (HL.out.later HB.out).cells (by omega)
      have hqk := hcs k hlt
      have HD := Lib.hid (drop_ch l k (by rw [HLn.out]; exact hlt))
      have HLs := Lib.hid (lastOf_succ l k)
      have HZ0 : Hid (k = 0 → l.getD k default = l.getD 0 default) := by
        show _ → _
        rintro rfl
        rfl
      obtain ⟨x, hx⟩ : ∃ x, l.getD k default = x := ⟨_, rfl⟩
      rw [hx] at hqk HD HLs HZ0
      clear hx
      obtain ⟨va, vm, vc, q0, q1, q2, q3, q4, q5, qI⟩ := hqk
      obtain ⟨F, T, N, O, D⟩ := x
      simp only at q0 q1 q2 q3 q4 q5 HLs
      have hbl : Below wr.heap.size wr (wr.alloc (.cells #[.int .i64 F, .int .i64 T, .int .i64 N, .int .i64 O, .slice va vm vc] 69)) := (Below.refl _ _).alloc (Nat.le_refl _) _
      have HCV : Hid (CV (wr.alloc (.cells #[.int .i64 F, .int .i64 T, .int .i64 N, .int .i64 O, .slice va vm vc] 69)) (.agg #[.int .i64 F, .int .i64 T, .int .i64 N, .int .i64 O, .slice va vm vc]) ⟨F, T, N, O, D⟩) := ⟨va, vm, vc, rfl, q5.later hbl, qI⟩
      have HBL := Lib.hid (below_then HB.out hbl)
      obtain ⟨C, hCC⟩ : ∃ C, wr.heap.size = C := ⟨_, rfl⟩
      have hblk : (wr.alloc (.cells #[.int .i64 F, .int .i64 T, .int .i64 N, .int .i64 O, .slice va vm vc] 69)).heap[C]? = some (.cells #[.int .i64 F, .int .i64 T, .int .i64 N, .int .i64 O, .slice va vm vc] 69 (0, 0)) := by rw [heap_at, if_pos hCC.symm]
      have HBlk := Lib.hid hblk
      have HBl := Lib.hid hbl
      have HCS : Hid (∀ i, i < n → ChAt wr b (off + i * 5) (l.getD i default)) := hcs
      clear hcs q5 qI hbl hblk
      go_wp2_with fail
      refine (checkC_ok _ _ _ HCV.out).mono ?_
      rintro e W2 ⟨rfl, hb2⟩
      have hb02 := below_then HBl.out hb2
      have HB2 := Lib.hid (below_then HBL.out hb2)
      have hblk2 := (hb2.block _ (lt_blk HBlk.out)).trans HBlk.out
      have HCV2 := Lib.hid (HCV.out.later hb2)
      have HB02 := Lib.hid hb02
      have HBlk2 := Lib.hid hblk2
      obtain ⟨p0, p1, p2, p3, p4⟩ := ch_cells hblk2
      clear hb2 HBlk HBL HCV HBl q0 q1 q2 q3 q4 hb02 hblk2
      by_cases e0 : ChunkM.check ⟨F, T, N, O, D⟩ = 0
      · have HE0 := Lib.hid e0
        rw [e0]
        have hgood := ChunkM.check_good e0
        simp only at hgood
        obtain ⟨-, -, go, gn, -⟩ := hgood
        clear e0
        by_cases hk0 : 0 < k
        · obtain ⟨J, hJ⟩ : ∃ J : Nat, (k : Int) - 1 = J := ⟨k - 1, by omega⟩
          have hJk : k - 1 = J := by omega
          have hJn : J < n := by omega
          have hJ0 : (0 : Int) ≤ (J : Int) := by omega
          have hJn' : (J : Int) < (n : Int) := by omega
          have hk0' : (0 : Int) < (k : Int) := by omega
          have dk0 : decide (0 < k) = true := by simp [hk0]
          have hw1 : IntKind.i64.wrap ((k : Int) - 1) = J := by rw [hJ]; exact IntWalk.i64_in _ (by omega)
          have hw2 : IntKind.i64.wrap (J : Int) = J := IntWalk.i64_in _ (by omega)
          have hqj := HCS.out J hJn
          have HKz := Lib.hid (HKin.out hk0)
          have HLast : Hid (lastOf l k = (l.getD J default).n) := by
            show _ = _
            unfold lastOf
            rw [if_neg (by omega), hJk]
          rw [hJk] at HKz
          generalize l.getD J default = pv at hqj HKz HLast
          obtain ⟨ua, um, uc, u0, u1, u2, u3, u4, u5, uI⟩ := hqj
          obtain ⟨PF, PT, PN, PO, PD⟩ := pv
          simp only at u0 u1 u2 u3 u4 u5 HLast
          have HW : Hid (KinW w b (off + J * 5) C ⟨PF, PT, PN, PO, PD⟩ ⟨F, T, N, O, D⟩ ua um uc va vm vc W2) :=
            ⟨cell_later HB02.out u0, cell_later HB02.out u1, cell_later HB02.out u2, cell_later HB02.out u3, cell_later HB02.out u4, HBlk2.out, ⟨ua, um, uc, rfl, u5.later HB02.out, uI⟩, HCV2.out, HB2.out⟩
          obtain ⟨J5, hJ5⟩ : ∃ J5, off + J * 5 = J5 := ⟨_, rfl⟩
          rw [hJ5] at HW
          clear u0 u1 u2 u3 u4 u5 uI HCV2 HBlk2 HB02 HB2 p0 p1 p2 p3 p4 hJk
          have HF3 : Hid (¬ ChunkM.kin ⟨PF, PT, PN, PO, PD⟩ ⟨F, T, N, O, D⟩ ∨ N ≤ PN → ChunkM.checks l = 3) := by
            show _ → _
            intro h
            rw [← HC.out, HD.out, HLast.out]
            refine ChunkM.chks_form HE0.out ?_
            rw [kin_via HKz.out]
            exact h
          obtain ⟨c0, c1, c2, c3, c4, d0, d1, d2, d3, d4⟩ := HW.out.cells
          simp only at c0 c1 c2 c3 c4 d0 d1 d2 d3 d4
          by_cases hkk : ChunkM.kin ⟨PF, PT, PN, PO, PD⟩ ⟨F, T, N, O, D⟩
          · have HKK : Hid (∀ W, CV W (.agg #[.int .i64 PF, .int .i64 PT, .int .i64 PN, .int .i64 PO, .slice ua um uc]) ⟨PF, PT, PN, PO, PD⟩ → CV W (.agg #[.int .i64 F, .int .i64 T, .int .i64 N, .int .i64 O, .slice va vm vc]) ⟨F, T, N, O, D⟩ → Calls Try.prog 88 #[.agg #[.int .i64 PF, .int .i64 PT, .int .i64 PN, .int .i64 PO, .slice ua um uc], .agg #[.int .i64 F, .int .i64 T, .int .i64 N, .int .i64 O, .slice va vm vc]] W fun e w' => e = .returned (.bool true) ∧ Below W.heap.size W w') := by
              show ∀ W, _
              intro W h1 h2
              have := kinC_any _ _ _ _ W h1 h2
              rwa [decide_eq_true hkk] at this
            have HKn := Lib.hid hkk
            clear hkk
            by_cases e4 : N ≤ PN
            · have t4 : decide (N ≤ PN) = true := by simp [e4]
              have HR := Lib.hid (HF3.out (.inr e4))
              go_wp2_with fail
              replace HW := Lib.hid (HW.out.later (Below.refl _ _).drew)
              go_region_held3 (fun W => W.cell? ⟨b, J5, none⟩ = some (.int .i64 PF) ∧ W.cell? ⟨b, J5 + 1, none⟩ = some (.int .i64 PT) ∧ W.cell? ⟨b, J5 + 2, none⟩ = some (.int .i64 PN) ∧ W.cell? ⟨b, J5 + 3, none⟩ = some (.int .i64 PO) ∧ W.cell? ⟨b, J5 + 4, none⟩ = some (.slice ua um uc) ∧
                W.cell? ⟨C, 0, none⟩ = some (.int .i64 F) ∧ W.cell? ⟨C, 1, none⟩ = some (.int .i64 T) ∧ W.cell? ⟨C, 2, none⟩ = some (.int .i64 N) ∧ W.cell? ⟨C, 3, none⟩ = some (.int .i64 O) ∧ W.cell? ⟨C, 4, none⟩ = some (.slice va vm vc))
                (exact HW.out.cells)
                (first | (go_at_call 88; refine (HKK.out _ HW.out.cx HW.out.cy).mono ?_; rintro e Wa ⟨rfl, da⟩; replace HW := Lib.hid (HW.out.later da); clear da))
              all_goals
                go_wp2_with fail
                go_ret
                exact ⟨ret_chk HR.out.symm, HW.out.below⟩
            · have t4 : decide (N ≤ PN) = false := by simp; omega
              go_wp2_with fail
              replace HW := Lib.hid (HW.out.later (Below.refl _ _).drew)
              go_region_held3 (fun W => W.cell? ⟨b, J5, none⟩ = some (.int .i64 PF) ∧ W.cell? ⟨b, J5 + 1, none⟩ = some (.int .i64 PT) ∧ W.cell? ⟨b, J5 + 2, none⟩ = some (.int .i64 PN) ∧ W.cell? ⟨b, J5 + 3, none⟩ = some (.int .i64 PO) ∧ W.cell? ⟨b, J5 + 4, none⟩ = some (.slice ua um uc) ∧
                W.cell? ⟨C, 0, none⟩ = some (.int .i64 F) ∧ W.cell? ⟨C, 1, none⟩ = some (.int .i64 T) ∧ W.cell? ⟨C, 2, none⟩ = some (.int .i64 N) ∧ W.cell? ⟨C, 3, none⟩ = some (.int .i64 O) ∧ W.cell? ⟨C, 4, none⟩ = some (.slice va vm vc))
                (exact HW.out.cells)
                (first | (go_at_call 88; refine (HKK.out _ HW.out.cx HW.out.cy).mono ?_; rintro e Wa ⟨rfl, da⟩; replace HW := Lib.hid (HW.out.later da); clear da))
              all_goals
                go_wp2_with fail
                go_roundw
                case rel =>
                  refine ⟨k + 1, by go_num, by rw [HLn.out]; omega, ?_, fun _ => ?_, HW.out.below⟩
                  · rw [HLs.out, ← HC.out, HD.out, HLast.out]
                    exact (ChunkM.chks_on (last := PN) HE0.out ((kin_via HKz.out).2 HKn.out) (by simp only; omega)).symm
                  · have := (kin_via HKz.out).2 HKn.out
                    have h9 := congrArg (·.getD 0 default) HD.out
                    simp only [List.getD_cons_zero] at h9
                    rw [Nat.add_sub_cancel]
                    rw [List.getD_eq_getElem?_getD, List.getElem?_drop, Nat.add_zero, ← List.getD_eq_getElem?_getD] at h9
                    rw [h9]
                    exact this
                case measure => simp [intOf]; omega
          · have HKK : Hid (∀ W, CV W (.agg #[.int .i64 PF, .int .i64 PT, .int .i64 PN, .int .i64 PO, .slice ua um uc]) ⟨PF, PT, PN, PO, PD⟩ → CV W (.agg #[.int .i64 F, .int .i64 T, .int .i64 N, .int .i64 O, .slice va vm vc]) ⟨F, T, N, O, D⟩ → Calls Try.prog 88 #[.agg #[.int .i64 PF, .int .i64 PT, .int .i64 PN, .int .i64 PO, .slice ua um uc], .agg #[.int .i64 F, .int .i64 T, .int .i64 N, .int .i64 O, .slice va vm vc]] W fun e w' => e = .returned (.bool false) ∧ Below W.heap.size W w') := by
              show ∀ W, _
              intro W h1 h2
              have := kinC_any _ _ _ _ W h1 h2
              rwa [decide_eq_false hkk] at this
            have HR := Lib.hid (HF3.out (.inl hkk))
            clear hkk
            go_wp2_with fail
            refine wp_region_quiet (C := fun W => KinW w b J5 C ⟨PF, PT, PN, PO, PD⟩ ⟨F, T, N, O, D⟩ ua um uc va vm vc W) (by kernel_rfl) (by kernel_rfl) (HW.out.later (Below.refl _ _).drew) ?_
            clear c0 c1 c2 c3 c4 d0 d1 d2 d3 d4
            dsimp only
            repeat (first
              | go_big_quiet_skip
              | (go_big_quiet_want
                 first
                   | (go_big_quiet_op
                      go_big_quiet_on)
                   | (unfold Oper.quiet
                      apply Exists.intro
                      refine ⟨fun W9 hW9 => ?_, ?_⟩
                      · obtain ⟨c0, c1, c2, c3, c4, d0, d1, d2, d3, d4⟩ := hW9.cells
                        simp only at c0 c1 c2 c3 c4 d0 d1 d2 d3 d4
                        go_simp
                        first
                          | with_reducible rfl
                          | (go_at_call 88; exact (HKK.out _ hW9.cx hW9.cy).mono (fun _ _ h => ⟨h.1, hW9.later h.2⟩))
                      simp only [Act.put, List.setIfInBounds_toArray, List.set_cons_zero, List.set_cons_succ]
                      go_big_quiet_on)))
            refine wpQuiet_nil ?_
            intro W9 hW9
            go_wp2_with fail
            go_ret
            exact ⟨ret_chk HR.out.symm, hW9.below⟩
        · obtain rfl : k = 0 := by omega
          have HZ := Lib.hid (HZ0.out rfl)
          clear HCV2 HBlk2 HB02 HCS
          go_wp2_with fail
          go_quiet (fail)
          have HB4 := Lib.hid (below_drewN HB2.out nq)
          go_wp2_with fail
          go_roundw
          case rel =>
            refine ⟨1, by go_num, by rw [HLn.out]; omega, ?_, fun _ => ?_, HB4.out⟩
            · rw [HLs.out, ← HC.out, HD.out, ← HZ.out]
              exact (ChunkM.chks_on (z := ⟨F, T, N, O, D⟩) (last := -1) HE0.out ⟨rfl, rfl, rfl⟩ (by simp only; omega)).symm
            · exact ⟨rfl, rfl, rfl⟩
          case measure => simp [intOf]; omega
      · obtain ⟨E, hE⟩ : ∃ E, ChunkM.check ⟨F, T, N, O, D⟩ = E := ⟨_, rfl⟩
        have HE : Hid (ChunkM.checks l = E) := by
          show _ = _
          rw [← HC.out, HD.out, ChunkM.chks_bad e0, hE]
        rw [hE] at e0 ⊢
        have t0 : (E != 0) = true := by simp [e0]
        clear hE
        go_wp2_with fail
        go_ret
        exact ⟨ret_chk HE.out.symm, HB2.out⟩
    · have hdr : l.drop k = [] := List.drop_eq_nil_of_le (by rw [HLn.out]; omega)
      have HE : Hid (ChunkM.checks l = 0) := by
        show _ = _
        rw [← HC.out, hdr]
        rfl
      go_wp2_with fail
      go_ret
      exact ⟨ret_chk HE.out.symm, HB.out⟩
end Go.Proofs.Ytmpmaljkmfgagab
