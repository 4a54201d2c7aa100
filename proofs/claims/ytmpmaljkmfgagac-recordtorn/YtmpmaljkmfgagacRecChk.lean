/-
  Contract of the program's Check (package record).
-/
import Derived.Test.YtmpmaljkmfgagacRecAgr
namespace Go.Proofs.Ytmpmaljkmfgagac
open Go.RowKit

/-- the cells of a record in a block -/
def recCells (r : RecR) : Array Value := #[.int .i64 r.gen, .int .i64 r.act, .bool r.trying, .int .i64 r.tries, .int .i64 r.floor, .int .i64 r.i0.ver, .int .i64 r.i0.size, .int .i64 r.i0.sum, .int .i64 r.i1.ver, .int .i64 r.i1.size, .int .i64 r.i1.sum]
theorem rec_cells {W : World} {B : Nat} {v0 v1 v2 v3 v4 v5 v6 v7 v8 v9 v10 : Value} (h : W.heap[B]? = some (.cells #[v0, v1, v2, v3, v4, v5, v6, v7, v8, v9, v10] 26 (0, 0))) :
    W.cell? ⟨B, 0, none⟩ = some v0 ∧ W.cell? ⟨B, 1, none⟩ = some v1 ∧ W.cell? ⟨B, 2, none⟩ = some v2 ∧ W.cell? ⟨B, 3, none⟩ = some v3 ∧ W.cell? ⟨B, 4, none⟩ = some v4 ∧ W.cell? ⟨B, 5, none⟩ = some v5 ∧ W.cell? ⟨B, 6, none⟩ = some v6 ∧ W.cell? ⟨B, 7, none⟩ = some v7 ∧ W.cell? ⟨B, 8, none⟩ = some v8 ∧ W.cell? ⟨B, 9, none⟩ = some v9 ∧ W.cell? ⟨B, 10, none⟩ = some v10 := by
  simp [World.cell?, h]
theorem blk_ltQ {W : World} {B : Nat} {o : Obj} (h : W.heap[B]? = some o) : B < W.heap.size := by
  rcases Nat.lt_or_ge B W.heap.size with hlt | hge
  · exact hlt
  · rw [Array.getElem?_eq_none hge] at h
    cases h
/-- the rounds of Check: the slots so far are right, the record lies where it lay -/
def RchkRel (w : World) (r : RecR) (i : Value) (wr : World) : Prop :=
  ∃ k : Nat, i = .int .i64 k ∧ k ≤ 2 ∧ (0 < k → RecM.infErr r.i0 = 0) ∧ (1 < k → RecM.infErr r.i1 = 0) ∧ wr.heap[w.heap.size]? = some (.cells (recCells r) 26 (0, 0)) ∧ Below w.heap.size w wr

set_option maxRecDepth 100000 in
set_option maxHeartbeats 2000000 in
theorem checkR_any (r : RecR) (w : World) :
    Calls Try.prog 13 #[recV r] w fun e w' => e = .returned (.int .i64 (RecM.check r)) ∧ Below w.heap.size w w' := by
  have HI0 := Lib.hid (fun W => checkInfo_any r.i0 W)
  have HI1 := Lib.hid (fun W => checkInfo_any r.i1 W)
  have HA := Lib.hid (fun h W => agrees_any r h W)
  have HBad : Hid (RecM.badNums r → RecM.check r = 2) := by
    show _ → _
    intro h
    unfold RecM.check
    rw [if_pos h]
  have HOn : Hid (¬ RecM.badNums r → RecM.check r = if RecM.infErr r.i0 ≠ 0 then RecM.infErr r.i0 else if RecM.infErr r.i1 ≠ 0 then RecM.infErr r.i1 else if RecM.badRec r then 3 else 0) := by
    show _ → _
    intro h
    unfold RecM.check
    rw [if_neg h]
  obtain ⟨g, a, tr, n, f, ⟨v0, s0, u0⟩, ⟨v1, s1, u1⟩⟩ := r
  simp only [recV, infV] at HI0 HI1 HA ⊢
  simp only at HOn
  have HB := Lib.hid ((Below.refl w.heap.size w).alloc (Nat.le_refl _) (.cells #[.int .i64 g, .int .i64 a, .bool tr, .int .i64 n, .int .i64 f, .int .i64 v0, .int .i64 s0, .int .i64 u0, .int .i64 v1, .int .i64 s1, .int .i64 u1] 26))
  have i0 : ∀ w : World, (Instr.index 24 (.agg #[.int .i64 v0, .int .i64 s0, .int .i64 u0, .int .i64 v1, .int .i64 s1, .int .i64 u1]) (.int .i64 0)).run Try.prog w = .ok (.agg #[.int .i64 v0, .int .i64 s0, .int .i64 u0]) w := fun _ => by kernel_rfl
  have i1 : ∀ w : World, (Instr.index 24 (.agg #[.int .i64 v0, .int .i64 s0, .int .i64 u0, .int .i64 v1, .int .i64 s1, .int .i64 u1]) (.int .i64 1)).run Try.prog w = .ok (.agg #[.int .i64 v1, .int .i64 s1, .int .i64 u1]) w := fun _ => by kernel_rfl
  go_enter Try.func13, Try.ntmps13
  go_wp2_with fail
  refine (isFrom_any 1 1000000 g _).mono ?_
  rintro e w' ⟨rfl, rfl⟩
  by_cases c1 : 1 ≤ g ∧ g ≤ 1000000
  · rw [decide_eq_true c1]
    go_wp2_with fail
    refine (isFrom_any 0 1 a _).mono ?_
    rintro e w' ⟨rfl, rfl⟩
    by_cases c2 : 0 ≤ a ∧ a ≤ 1
    · rw [decide_eq_true c2]
      go_wp2_with fail
      refine (isFrom_any 0 3 n _).mono ?_
      rintro e w' ⟨rfl, rfl⟩
      by_cases c3 : 0 ≤ n ∧ n ≤ 3
      · rw [decide_eq_true c3]
        go_wp2_with fail
        refine (isFrom_any 1 30 f _).mono ?_
        rintro e w' ⟨rfl, rfl⟩
        by_cases c4 : 1 ≤ f ∧ f ≤ 30
        · rw [decide_eq_true c4]
          replace HOn := Lib.hid (HOn.out (by unfold RecM.badNums; simp only; omega))
          have ha : a = 0 ∨ a = 1 := by omega
          replace HA := Lib.hid (HA.out ha)
          go_wp2_with fail
          go_loopw [30] (fun i wr => RchkRel w ⟨g, a, tr, n, f, ⟨v0, s0, u0⟩, ⟨v1, s1, u1⟩⟩ i wr) (fun i _ => 2 - (intOf i).toNat)
          case atStart => exact ⟨0, rfl, by omega, by omega, by omega, by rw [heap_at, if_pos rfl]; rfl, HB.out⟩
          case round =>
            obtain ⟨k, rfl, hk, h0, h1, hblk, hbel⟩ := hrel
            have HBk := Lib.hid hblk
            have HBl := Lib.hid hbel
            have H0 := Lib.hid h0
            have H1 := Lib.hid h1
            clear hblk hbel h0 h1
            rcases (by omega : k = 0 ∨ k = 1 ∨ k = 2) with rfl | rfl | rfl
            · have hbl : Below wr.heap.size wr (wr.alloc (.cells #[.int .i64 v0, .int .i64 s0, .int .i64 u0] 23)) := (Below.refl _ _).alloc (Nat.le_refl _) _
              have HBL := Lib.hid hbl
              clear hbl
              go_wp2_with fail
              refine (HI0.out _).mono ?_
              rintro e W2 ⟨rfl, hb2⟩
              have hb3 := bel_then HBL.out hb2
              have HB3 := Lib.hid (bel_then HBl.out hb3)
              have HBk3 := Lib.hid ((hb3.block _ (blk_ltQ HBk.out)).trans HBk.out)
              clear hb2 hb3
              by_cases e0 : RecM.infErr ⟨v0, s0, u0⟩ = 0
              · have HE0 := Lib.hid e0
                rw [e0]
                clear e0
                go_wp2_with fail
                go_roundw
                case rel => exact ⟨1, by go_num, by omega, fun _ => HE0.out, fun q => absurd q (by omega), HBk3.out, HB3.out⟩
                case measure => simp [intOf]
              · obtain ⟨E, hE⟩ : ∃ E, RecM.infErr ⟨v0, s0, u0⟩ = E := ⟨_, rfl⟩
                have HE : Hid (RecM.check ⟨g, a, tr, n, f, ⟨v0, s0, u0⟩, ⟨v1, s1, u1⟩⟩ = E) := by
                  show _ = _
                  rw [HOn.out, if_pos e0, hE]
                rw [hE] at e0 ⊢
                have t0 : (E != 0) = true := by simp [e0]
                clear hE
                go_wp2_with fail
                go_ret
                exact ⟨ret_i HE.out.symm, HB3.out⟩
            · have hbl : Below wr.heap.size wr (wr.alloc (.cells #[.int .i64 v1, .int .i64 s1, .int .i64 u1] 23)) := (Below.refl _ _).alloc (Nat.le_refl _) _
              have HBL := Lib.hid hbl
              clear hbl
              go_wp2_with fail
              refine (HI1.out _).mono ?_
              rintro e W2 ⟨rfl, hb2⟩
              have hb3 := bel_then HBL.out hb2
              have HB3 := Lib.hid (bel_then HBl.out hb3)
              have HBk3 := Lib.hid ((hb3.block _ (blk_ltQ HBk.out)).trans HBk.out)
              clear hb2 hb3
              by_cases e0 : RecM.infErr ⟨v1, s1, u1⟩ = 0
              · have HE0 := Lib.hid e0
                rw [e0]
                clear e0
                go_wp2_with fail
                go_roundw
                case rel => exact ⟨2, by go_num, by omega, fun _ => H0.out (by omega), fun _ => HE0.out, HBk3.out, HB3.out⟩
                case measure => simp [intOf]
              · obtain ⟨E, hE⟩ : ∃ E, RecM.infErr ⟨v1, s1, u1⟩ = E := ⟨_, rfl⟩
                have HE : Hid (RecM.check ⟨g, a, tr, n, f, ⟨v0, s0, u0⟩, ⟨v1, s1, u1⟩⟩ = E) := by
                  show _ = _
                  rw [HOn.out, if_neg (fun q => q (H0.out (by omega))), if_pos e0, hE]
                rw [hE] at e0 ⊢
                have t0 : (E != 0) = true := by simp [e0]
                clear hE
                go_wp2_with fail
                go_ret
                exact ⟨ret_i HE.out.symm, HB3.out⟩
            · have hblk := HBk.out
              unfold recCells at hblk
              obtain ⟨q0, q1, q2, q3, q4, q5, q6, q7, q8, q9, q10⟩ := rec_cells hblk
              clear hblk
              go_wp2_with fail
              refine (HA.out _).mono ?_
              rintro e W2 ⟨rfl, hb2⟩
              have HB3 := Lib.hid (bel_then HBl.out hb2)
              replace HOn := Lib.hid ((HOn.out.trans (if_neg (fun q => q (H0.out (by omega))))).trans (if_neg (fun q => q (H1.out (by omega)))))
              clear hb2
              by_cases e0 : RecM.badRec ⟨g, a, tr, n, f, ⟨v0, s0, u0⟩, ⟨v1, s1, u1⟩⟩
              · have HE := Lib.hid (HOn.out.trans (if_pos e0))
                rw [decide_eq_true e0]
                go_wp2_with fail
                go_ret
                exact ⟨ret_i HE.out.symm, HB3.out⟩
              · have HE := Lib.hid (HOn.out.trans (if_neg e0))
                rw [decide_eq_false e0]
                go_wp2_with fail
                go_ret
                exact ⟨ret_i HE.out.symm, HB3.out⟩
        · rw [decide_eq_false c4]
          have HE := Lib.hid (HBad.out (.inr (.inr (.inr c4))))
          go_wp2_with fail
          go_ret
          exact ⟨ret_i HE.out.symm, HB.out⟩
      · rw [decide_eq_false c3]
        have HE := Lib.hid (HBad.out (.inr (.inr (.inl c3))))
        go_wp2_with fail
        go_ret
        exact ⟨ret_i HE.out.symm, HB.out⟩
    · rw [decide_eq_false c2]
      have HE := Lib.hid (HBad.out (.inr (.inl c2)))
      go_wp2_with fail
      go_ret
      exact ⟨ret_i HE.out.symm, HB.out⟩
  · rw [decide_eq_false c1]
    have HE := Lib.hid (HBad.out (.inl c1))
    go_wp2_with fail
    go_ret
    exact ⟨ret_i HE.out.symm, HB.out⟩
end Go.Proofs.Ytmpmaljkmfgagac
