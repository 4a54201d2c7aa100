/-
  Contracts of package route: Check and Best return what the document says.
-/
import Derived.Test.YtmpmaljkmfgagabRFrom
import Derived.Test.YtmpmaljkmfgagabRCheck
import Derived.Deep.WholeRow
namespace Go.Proofs.Ytmpmaljkmfgagab
open Go.RowKit

set_option maxRecDepth 100000 in
set_option maxHeartbeats 2000000 in
theorem bestR_ok : BestRC := by
  intro a n c l fr tt w hl
  have HLn := Lib.hid hl.len
  have HC := Lib.hid (fun W h => checkR_ok a n c l W h)
  obtain ⟨E, hE⟩ : ∃ E, RouteM.check l = E := ⟨_, rfl⟩
  rw [hE] at HC
  have HE := Lib.hid hE
  have HL := Lib.hid hl
  clear hE
  by_cases hE0 : E = 0
  · subst hE0
    by_cases h1 : 1 ≤ fr ∧ fr ≤ 30
    · have d1 : decide (1 ≤ fr ∧ fr ≤ 30) = true := decide_eq_true h1
      by_cases h2 : 1 ≤ tt ∧ tt ≤ 30
      · have d2 : decide (1 ≤ tt ∧ tt ≤ 30) = true := decide_eq_true h2
        obtain ⟨k60, hok⟩ := RouteM.check_ok HE.out
        obtain ⟨F, rfl⟩ : ∃ F : Nat, fr = F := ⟨fr.toNat, by omega⟩
        obtain ⟨T, rfl⟩ : ∃ T : Nat, tt = T := ⟨tt.toNat, by omega⟩
        have hF : 1 ≤ F ∧ F ≤ 30 := by omega
        have hT31 : T < 31 := by omega
        have HOK := Lib.hid hok
        have HT : Hid (1 ≤ (T : Int) ∧ (T : Int) ≤ 30) := h2
        have HIn : Hid (RouteM.inV F ∧ RouteM.inV T) := by show _ ∧ _; unfold RouteM.inV; omega
        have HBF := Lib.hid (fun W h => bestFrom_any a n c l F W h (by rw [← HLn.out]; exact k60) hok hF)
        clear hok k60 h1 h2 hl
        go_enter Try.func36, Try.ntmps36
        go_wp2_with fail
        refine (HC.out _ HL.out).mono ?_
        rintro e W1 ⟨rfl, b1⟩
        have HB1 := Lib.hid b1
        have HL1 := Lib.hid (HL.out.later b1)
        clear b1
        go_wp2_with fail
        refine (isVersionR_any (F : Int) _).mono ?_
        rintro e w' ⟨rfl, rfl⟩
        rw [d1]
        go_wp2_with fail
        refine (isVersionR_any (T : Int) _).mono ?_
        rintro e w' ⟨rfl, rfl⟩
        rw [d2]
        go_wp2_with fail
        refine (HBF.out _ HL1.out).mono ?_
        rintro e W2 ⟨L, A, t, hS, hC, rfl, hP, b2⟩
        have HS := Lib.hid hS
        have HCm := Lib.hid hC
        have HP := Lib.hid hP
        have HB2 := Lib.hid (below_then HB1.out b2)
        have hi := info_pathsL hP
        have ho : (cellsP (List.replicate 31 default)).toArray.size = (cellsP L).toArray.size := by simp [cellsP_length, hP.len]
        have ha := cellsP_all L
        obtain ⟨P, hPz⟩ : ∃ P, W2.heap.size = P := ⟨_, rfl⟩
        have hg : (W2.alloc (.cells #[.slice none 0 0, .int .i64 0, .slice none 0 0, .int .i64 0, .slice none 0 0, .int .i64 0, .slice none 0 0, .int .i64 0, .slice none 0 0, .int .i64 0, .slice none 0 0, .int .i64 0, .slice none 0 0, .int .i64 0, .slice none 0 0, .int .i64 0, .slice none 0 0, .int .i64 0, .slice none 0 0, .int .i64 0, .slice none 0 0, .int .i64 0, .slice none 0 0, .int .i64 0, .slice none 0 0, .int .i64 0, .slice none 0 0, .int .i64 0, .slice none 0 0, .int .i64 0, .slice none 0 0, .int .i64 0, .slice none 0 0, .int .i64 0, .slice none 0 0, .int .i64 0, .slice none 0 0, .int .i64 0, .slice none 0 0, .int .i64 0, .slice none 0 0, .int .i64 0, .slice none 0 0, .int .i64 0, .slice none 0 0, .int .i64 0, .slice none 0 0, .int .i64 0, .slice none 0 0, .int .i64 0, .slice none 0 0, .int .i64 0, .slice none 0 0, .int .i64 0, .slice none 0 0, .int .i64 0, .slice none 0 0, .int .i64 0, .slice none 0 0, .int .i64 0, .slice none 0 0, .int .i64 0] 103)).heap[P]? = some (.cells (cellsP (List.replicate 31 default)).toArray 103 (0, 0)) := by
          rw [heap_at, if_pos hPz.symm]
          rfl
        have hb3 : Below W2.heap.size W2 ((W2.alloc (.cells #[.slice none 0 0, .int .i64 0, .slice none 0 0, .int .i64 0, .slice none 0 0, .int .i64 0, .slice none 0 0, .int .i64 0, .slice none 0 0, .int .i64 0, .slice none 0 0, .int .i64 0, .slice none 0 0, .int .i64 0, .slice none 0 0, .int .i64 0, .slice none 0 0, .int .i64 0, .slice none 0 0, .int .i64 0, .slice none 0 0, .int .i64 0, .slice none 0 0, .int .i64 0, .slice none 0 0, .int .i64 0, .slice none 0 0, .int .i64 0, .slice none 0 0, .int .i64 0, .slice none 0 0, .int .i64 0, .slice none 0 0, .int .i64 0, .slice none 0 0, .int .i64 0, .slice none 0 0, .int .i64 0, .slice none 0 0, .int .i64 0, .slice none 0 0, .int .i64 0, .slice none 0 0, .int .i64 0, .slice none 0 0, .int .i64 0, .slice none 0 0, .int .i64 0, .slice none 0 0, .int .i64 0, .slice none 0 0, .int .i64 0, .slice none 0 0, .int .i64 0, .slice none 0 0, .int .i64 0, .slice none 0 0, .int .i64 0, .slice none 0 0, .int .i64 0, .slice none 0 0, .int .i64 0] 103)).setRow P (cellsP L).toArray) := by
          have hbz : Below W2.heap.size W2 (W2.alloc (.cells #[.slice none 0 0, .int .i64 0, .slice none 0 0, .int .i64 0, .slice none 0 0, .int .i64 0, .slice none 0 0, .int .i64 0, .slice none 0 0, .int .i64 0, .slice none 0 0, .int .i64 0, .slice none 0 0, .int .i64 0, .slice none 0 0, .int .i64 0, .slice none 0 0, .int .i64 0, .slice none 0 0, .int .i64 0, .slice none 0 0, .int .i64 0, .slice none 0 0, .int .i64 0, .slice none 0 0, .int .i64 0, .slice none 0 0, .int .i64 0, .slice none 0 0, .int .i64 0, .slice none 0 0, .int .i64 0, .slice none 0 0, .int .i64 0, .slice none 0 0, .int .i64 0, .slice none 0 0, .int .i64 0, .slice none 0 0, .int .i64 0, .slice none 0 0, .int .i64 0, .slice none 0 0, .int .i64 0, .slice none 0 0, .int .i64 0, .slice none 0 0, .int .i64 0, .slice none 0 0, .int .i64 0, .slice none 0 0, .int .i64 0, .slice none 0 0, .int .i64 0, .slice none 0 0, .int .i64 0, .slice none 0 0, .int .i64 0, .slice none 0 0, .int .i64 0, .slice none 0 0, .int .i64 0] 103)) := (Below.refl _ _).alloc (Nat.le_refl _) _
          refine ⟨hbz.os, hbz.tape, hbz.output, by simp [World.setRow], fun k hk => ?_⟩
          refine Eq.trans ?_ (hbz.block k hk)
          simp only [World.setRow]
          rw [Array.getElem?_modify, if_neg (by omega)]
        have hrow : ((W2.alloc (.cells #[.slice none 0 0, .int .i64 0, .slice none 0 0, .int .i64 0, .slice none 0 0, .int .i64 0, .slice none 0 0, .int .i64 0, .slice none 0 0, .int .i64 0, .slice none 0 0, .int .i64 0, .slice none 0 0, .int .i64 0, .slice none 0 0, .int .i64 0, .slice none 0 0, .int .i64 0, .slice none 0 0, .int .i64 0, .slice none 0 0, .int .i64 0, .slice none 0 0, .int .i64 0, .slice none 0 0, .int .i64 0, .slice none 0 0, .int .i64 0, .slice none 0 0, .int .i64 0, .slice none 0 0, .int .i64 0, .slice none 0 0, .int .i64 0, .slice none 0 0, .int .i64 0, .slice none 0 0, .int .i64 0, .slice none 0 0, .int .i64 0, .slice none 0 0, .int .i64 0, .slice none 0 0, .int .i64 0, .slice none 0 0, .int .i64 0, .slice none 0 0, .int .i64 0, .slice none 0 0, .int .i64 0, .slice none 0 0, .int .i64 0, .slice none 0 0, .int .i64 0, .slice none 0 0, .int .i64 0, .slice none 0 0, .int .i64 0, .slice none 0 0, .int .i64 0, .slice none 0 0, .int .i64 0] 103)).setRow P (cellsP L).toArray).heap[P]? = some (.cells (cellsP L).toArray 103 (0, 0)) := setRow_heap _ P _ _ _ _ hg
        obtain ⟨g0, g1⟩ := cellsP_get L T (by rw [hP.len]; exact hT31)
        have c0 : ((W2.alloc (.cells #[.slice none 0 0, .int .i64 0, .slice none 0 0, .int .i64 0, .slice none 0 0, .int .i64 0, .slice none 0 0, .int .i64 0, .slice none 0 0, .int .i64 0, .slice none 0 0, .int .i64 0, .slice none 0 0, .int .i64 0, .slice none 0 0, .int .i64 0, .slice none 0 0, .int .i64 0, .slice none 0 0, .int .i64 0, .slice none 0 0, .int .i64 0, .slice none 0 0, .int .i64 0, .slice none 0 0, .int .i64 0, .slice none 0 0, .int .i64 0, .slice none 0 0, .int .i64 0, .slice none 0 0, .int .i64 0, .slice none 0 0, .int .i64 0, .slice none 0 0, .int .i64 0, .slice none 0 0, .int .i64 0, .slice none 0 0, .int .i64 0, .slice none 0 0, .int .i64 0, .slice none 0 0, .int .i64 0, .slice none 0 0, .int .i64 0, .slice none 0 0, .int .i64 0, .slice none 0 0, .int .i64 0, .slice none 0 0, .int .i64 0, .slice none 0 0, .int .i64 0, .slice none 0 0, .int .i64 0, .slice none 0 0, .int .i64 0, .slice none 0 0, .int .i64 0, .slice none 0 0, .int .i64 0] 103)).setRow P (cellsP L).toArray).cell? ⟨P, T * 2, none⟩ = some (.slice (L.getD T default).a (L.getD T default).n (L.getD T default).c) := by
          rw [cell_of_row _ _ _ _ _ _ hrow, List.getElem?_toArray]; exact g0
        have c1 : ((W2.alloc (.cells #[.slice none 0 0, .int .i64 0, .slice none 0 0, .int .i64 0, .slice none 0 0, .int .i64 0, .slice none 0 0, .int .i64 0, .slice none 0 0, .int .i64 0, .slice none 0 0, .int .i64 0, .slice none 0 0, .int .i64 0, .slice none 0 0, .int .i64 0, .slice none 0 0, .int .i64 0, .slice none 0 0, .int .i64 0, .slice none 0 0, .int .i64 0, .slice none 0 0, .int .i64 0, .slice none 0 0, .int .i64 0, .slice none 0 0, .int .i64 0, .slice none 0 0, .int .i64 0, .slice none 0 0, .int .i64 0, .slice none 0 0, .int .i64 0, .slice none 0 0, .int .i64 0, .slice none 0 0, .int .i64 0, .slice none 0 0, .int .i64 0, .slice none 0 0, .int .i64 0, .slice none 0 0, .int .i64 0, .slice none 0 0, .int .i64 0, .slice none 0 0, .int .i64 0, .slice none 0 0, .int .i64 0, .slice none 0 0, .int .i64 0, .slice none 0 0, .int .i64 0, .slice none 0 0, .int .i64 0, .slice none 0 0, .int .i64 0, .slice none 0 0, .int .i64 0, .slice none 0 0, .int .i64 0] 103)).setRow P (cellsP L).toArray).cell? ⟨P, T * 2 + 1, none⟩ = some (.int .i64 (L.getD T default).k) := by
          rw [cell_of_row _ _ _ _ _ _ hrow, List.getElem?_toArray]; exact g1
        obtain ⟨r1, r2, -⟩ := hP.row T hT31
        rw [r2] at c1
        have HPT : Hid (RouteM.pat A T = A.getD T RouteM.noPth) := by show _ = _; simp [RouteM.pat]
        generalize A.getD T RouteM.noPth = pT at r1 c1 HPT
        generalize L.getD T default = PT at r1 c0
        obtain ⟨aT, nT, cT, kT⟩ := PT
        simp only at r1 c0
        have HNS := Lib.hid (r1.later hb3)
        have HNl := Lib.hid r1.len
        have HB3 := Lib.hid hb3
        have i1 : decide (T < 31) = true := by simp; omega
        have i2 : (T : Int) < 31 := by omega
        clear hS hC hP b2 hb3 hrow g0 g1 r1 r2
        have hba : Below ((W2.alloc (.cells #[.slice none 0 0, .int .i64 0, .slice none 0 0, .int .i64 0, .slice none 0 0, .int .i64 0, .slice none 0 0, .int .i64 0, .slice none 0 0, .int .i64 0, .slice none 0 0, .int .i64 0, .slice none 0 0, .int .i64 0, .slice none 0 0, .int .i64 0, .slice none 0 0, .int .i64 0, .slice none 0 0, .int .i64 0, .slice none 0 0, .int .i64 0, .slice none 0 0, .int .i64 0, .slice none 0 0, .int .i64 0, .slice none 0 0, .int .i64 0, .slice none 0 0, .int .i64 0, .slice none 0 0, .int .i64 0, .slice none 0 0, .int .i64 0, .slice none 0 0, .int .i64 0, .slice none 0 0, .int .i64 0, .slice none 0 0, .int .i64 0, .slice none 0 0, .int .i64 0, .slice none 0 0, .int .i64 0, .slice none 0 0, .int .i64 0, .slice none 0 0, .int .i64 0, .slice none 0 0, .int .i64 0, .slice none 0 0, .int .i64 0, .slice none 0 0, .int .i64 0, .slice none 0 0, .int .i64 0, .slice none 0 0, .int .i64 0, .slice none 0 0, .int .i64 0, .slice none 0 0, .int .i64 0] 103)).setRow P (cellsP L).toArray).heap.size ((W2.alloc (.cells #[.slice none 0 0, .int .i64 0, .slice none 0 0, .int .i64 0, .slice none 0 0, .int .i64 0, .slice none 0 0, .int .i64 0, .slice none 0 0, .int .i64 0, .slice none 0 0, .int .i64 0, .slice none 0 0, .int .i64 0, .slice none 0 0, .int .i64 0, .slice none 0 0, .int .i64 0, .slice none 0 0, .int .i64 0, .slice none 0 0, .int .i64 0, .slice none 0 0, .int .i64 0, .slice none 0 0, .int .i64 0, .slice none 0 0, .int .i64 0, .slice none 0 0, .int .i64 0, .slice none 0 0, .int .i64 0, .slice none 0 0, .int .i64 0, .slice none 0 0, .int .i64 0, .slice none 0 0, .int .i64 0, .slice none 0 0, .int .i64 0, .slice none 0 0, .int .i64 0, .slice none 0 0, .int .i64 0, .slice none 0 0, .int .i64 0, .slice none 0 0, .int .i64 0, .slice none 0 0, .int .i64 0, .slice none 0 0, .int .i64 0, .slice none 0 0, .int .i64 0, .slice none 0 0, .int .i64 0, .slice none 0 0, .int .i64 0, .slice none 0 0, .int .i64 0, .slice none 0 0, .int .i64 0] 103)).setRow P (cellsP L).toArray) (((W2.alloc (.cells #[.slice none 0 0, .int .i64 0, .slice none 0 0, .int .i64 0, .slice none 0 0, .int .i64 0, .slice none 0 0, .int .i64 0, .slice none 0 0, .int .i64 0, .slice none 0 0, .int .i64 0, .slice none 0 0, .int .i64 0, .slice none 0 0, .int .i64 0, .slice none 0 0, .int .i64 0, .slice none 0 0, .int .i64 0, .slice none 0 0, .int .i64 0, .slice none 0 0, .int .i64 0, .slice none 0 0, .int .i64 0, .slice none 0 0, .int .i64 0, .slice none 0 0, .int .i64 0, .slice none 0 0, .int .i64 0, .slice none 0 0, .int .i64 0, .slice none 0 0, .int .i64 0, .slice none 0 0, .int .i64 0, .slice none 0 0, .int .i64 0, .slice none 0 0, .int .i64 0, .slice none 0 0, .int .i64 0, .slice none 0 0, .int .i64 0, .slice none 0 0, .int .i64 0, .slice none 0 0, .int .i64 0, .slice none 0 0, .int .i64 0, .slice none 0 0, .int .i64 0, .slice none 0 0, .int .i64 0, .slice none 0 0, .int .i64 0, .slice none 0 0, .int .i64 0, .slice none 0 0, .int .i64 0] 103)).setRow P (cellsP L).toArray).alloc (.cells #[.slice aT nT cT, .int .i64 pT.cost] 101)) := (Below.refl _ _).alloc (Nat.le_refl _) _
        have HBA := Lib.hid (below_then (below_then HB2.out HB3.out) hba)
        have HNA := Lib.hid (HNS.out.later hba)
        have hzz : ((W2.alloc (.cells #[.slice none 0 0, .int .i64 0, .slice none 0 0, .int .i64 0, .slice none 0 0, .int .i64 0, .slice none 0 0, .int .i64 0, .slice none 0 0, .int .i64 0, .slice none 0 0, .int .i64 0, .slice none 0 0, .int .i64 0, .slice none 0 0, .int .i64 0, .slice none 0 0, .int .i64 0, .slice none 0 0, .int .i64 0, .slice none 0 0, .int .i64 0, .slice none 0 0, .int .i64 0, .slice none 0 0, .int .i64 0, .slice none 0 0, .int .i64 0, .slice none 0 0, .int .i64 0, .slice none 0 0, .int .i64 0, .slice none 0 0, .int .i64 0, .slice none 0 0, .int .i64 0, .slice none 0 0, .int .i64 0, .slice none 0 0, .int .i64 0, .slice none 0 0, .int .i64 0, .slice none 0 0, .int .i64 0, .slice none 0 0, .int .i64 0, .slice none 0 0, .int .i64 0, .slice none 0 0, .int .i64 0, .slice none 0 0, .int .i64 0, .slice none 0 0, .int .i64 0, .slice none 0 0, .int .i64 0, .slice none 0 0, .int .i64 0, .slice none 0 0, .int .i64 0, .slice none 0 0, .int .i64 0] 103)).setRow P (cellsP L).toArray).heap.size = P + 1 := by simp [World.setRow, hPz]
        obtain ⟨y0, y1, -, -⟩ := path_cells (W := ((W2.alloc (.cells #[.slice none 0 0, .int .i64 0, .slice none 0 0, .int .i64 0, .slice none 0 0, .int .i64 0, .slice none 0 0, .int .i64 0, .slice none 0 0, .int .i64 0, .slice none 0 0, .int .i64 0, .slice none 0 0, .int .i64 0, .slice none 0 0, .int .i64 0, .slice none 0 0, .int .i64 0, .slice none 0 0, .int .i64 0, .slice none 0 0, .int .i64 0, .slice none 0 0, .int .i64 0, .slice none 0 0, .int .i64 0, .slice none 0 0, .int .i64 0, .slice none 0 0, .int .i64 0, .slice none 0 0, .int .i64 0, .slice none 0 0, .int .i64 0, .slice none 0 0, .int .i64 0, .slice none 0 0, .int .i64 0, .slice none 0 0, .int .i64 0, .slice none 0 0, .int .i64 0, .slice none 0 0, .int .i64 0, .slice none 0 0, .int .i64 0, .slice none 0 0, .int .i64 0, .slice none 0 0, .int .i64 0, .slice none 0 0, .int .i64 0, .slice none 0 0, .int .i64 0, .slice none 0 0, .int .i64 0, .slice none 0 0, .int .i64 0, .slice none 0 0, .int .i64 0, .slice none 0 0, .int .i64 0] 103)).setRow P (cellsP L).toArray).alloc (.cells #[.slice aT nT cT, .int .i64 pT.cost] 101)) (B := P + 1) (v0 := .slice aT nT cT) (v1 := .int .i64 pT.cost) (by rw [heap_at, if_pos hzz.symm])
        clear hba hzz
        by_cases hn0 : nT = 0
        · subst hn0
          have HNo : Hid (RouteM.NoWay l F T) := by
            show RouteM.NoWay _ _ _
            refine HCm.out.none HOK.out HT.out ?_
            rw [HPT.out]
            exact List.eq_nil_of_length_eq_zero HNl.out
          go_wp2_with (refine wpList_store_row rfl 103 (.tmp 10) (.tmp 27) rfl P (cellsP L).toArray rfl rfl 103 _ hg hi ho ha ?_)
          go_ret3
          exact ⟨[], 0, 4, none, 0, 0, .inr (.inr (.inl ⟨HE.out, HIn.out, HNo.out, rfl, rfl, rfl⟩)), rfl, NS.nil_ _, HBA.out⟩
        · have hnb : ((nT : Int) == 0) = false := by simp; omega
          have HBst : Hid (RouteM.Best l F T pT.vs pT.cost) := by
            show RouteM.Best _ _ _ _ _
            have := HCm.out.best HOK.out HS.out HT.out (by
              rw [HPT.out]
              intro e
              have := HNl.out
              rw [e] at this
              simp at this
              omega)
            rw [HPT.out] at this
            exact this
          go_wp2_with (refine wpList_store_row rfl 103 (.tmp 10) (.tmp 27) rfl P (cellsP L).toArray rfl rfl 103 _ hg hi ho ha ?_)
          generalize ((W2.alloc (.cells #[.slice none 0 0, .int .i64 0, .slice none 0 0, .int .i64 0, .slice none 0 0, .int .i64 0, .slice none 0 0, .int .i64 0, .slice none 0 0, .int .i64 0, .slice none 0 0, .int .i64 0, .slice none 0 0, .int .i64 0, .slice none 0 0, .int .i64 0, .slice none 0 0, .int .i64 0, .slice none 0 0, .int .i64 0, .slice none 0 0, .int .i64 0, .slice none 0 0, .int .i64 0, .slice none 0 0, .int .i64 0, .slice none 0 0, .int .i64 0, .slice none 0 0, .int .i64 0, .slice none 0 0, .int .i64 0, .slice none 0 0, .int .i64 0, .slice none 0 0, .int .i64 0, .slice none 0 0, .int .i64 0, .slice none 0 0, .int .i64 0, .slice none 0 0, .int .i64 0, .slice none 0 0, .int .i64 0, .slice none 0 0, .int .i64 0, .slice none 0 0, .int .i64 0, .slice none 0 0, .int .i64 0, .slice none 0 0, .int .i64 0, .slice none 0 0, .int .i64 0, .slice none 0 0, .int .i64 0, .slice none 0 0, .int .i64 0, .slice none 0 0, .int .i64 0, .slice none 0 0, .int .i64 0] 103)).setRow P (cellsP L).toArray).alloc (.cells #[.slice aT nT cT, .int .i64 pT.cost] 101) = W5 at HBA HNA y0 y1 ⊢
          go_region
          all_goals
            go_wp2_with fail
            go_ret3
            exact ⟨pT.vs, pT.cost, 0, aT, nT, cT, .inr (.inr (.inr ⟨HE.out, HIn.out, HBst.out, rfl⟩)), rfl, HNA.out.later (Below.refl _ _).drew, HBA.out.drew⟩
      · have d2 : decide (1 ≤ tt ∧ tt ≤ 30) = false := decide_eq_false h2
        have HN : Hid (¬ (RouteM.inV fr ∧ RouteM.inV tt)) := by show ¬ _; unfold RouteM.inV; omega
        clear h1 h2 hl
        go_enter Try.func36, Try.ntmps36
        go_wp2_with fail
        refine (HC.out _ HL.out).mono ?_
        rintro e W1 ⟨rfl, b1⟩
        have HB1 := Lib.hid b1
        clear b1
        go_wp2_with fail
        refine (isVersionR_any fr _).mono ?_
        rintro e w' ⟨rfl, rfl⟩
        rw [d1]
        go_wp2_with fail
        refine (isVersionR_any tt _).mono ?_
        rintro e w' ⟨rfl, rfl⟩
        rw [d2]
        go_wp2_with fail
        go_ret3
        exact ⟨[], 0, 2, none, 0, 0, .inr (.inl ⟨HE.out, HN.out, rfl, rfl, rfl⟩), rfl, NS.nil_ _, HB1.out⟩
    · have d1 : decide (1 ≤ fr ∧ fr ≤ 30) = false := decide_eq_false h1
      have HN : Hid (¬ (RouteM.inV fr ∧ RouteM.inV tt)) := by show ¬ _; unfold RouteM.inV; omega
      clear h1 hl
      go_enter Try.func36, Try.ntmps36
      go_wp2_with fail
      refine (HC.out _ HL.out).mono ?_
      rintro e W1 ⟨rfl, b1⟩
      have HB1 := Lib.hid b1
      clear b1
      go_wp2_with fail
      refine (isVersionR_any fr _).mono ?_
      rintro e w' ⟨rfl, rfl⟩
      rw [d1]
      go_wp2_with fail
      go_ret3
      exact ⟨[], 0, 2, none, 0, 0, .inr (.inl ⟨HE.out, HN.out, rfl, rfl, rfl⟩), rfl, NS.nil_ _, HB1.out⟩
  · have hnb : (E != 0) = true := by simp [hE0]
    clear hl
    go_enter Try.func36, Try.ntmps36
    go_wp2_with fail
    refine (HC.out _ HL.out).mono ?_
    rintro e W1 ⟨rfl, b1⟩
    have HB1 := Lib.hid b1
    clear b1
    go_wp2_with fail
    go_ret3
    exact ⟨[], 0, E, none, 0, 0, .inl ⟨by rw [HE.out]; exact hE0, rfl, rfl, HE.out.symm⟩, rfl, NS.nil_ _, HB1.out⟩
end Go.Proofs.Ytmpmaljkmfgagab
