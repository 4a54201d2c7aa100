/-
  The closed fact of the matches' statements.
-/
import Derived.Test.YtmpmaljkmfgagaaMatch
import Derived.Test.YtmpmaljkmfgagaaLit
namespace Go.Proofs.Ytmpmaljkmfgagaa
open Go.RowKit

theorem best_three : MatchM.Best [120, 97, 98, 99, 97, 98] [97, 98, 100] 1 2 :=
  (show MatchM.Upto [120, 97, 98, 99, 97, 98] [97, 98, 100] 6 1 2 from ⟨by decide, by decide, by decide, by decide⟩).best
theorem best_no : MatchM.Best [120] [121] 0 0 :=
  (show MatchM.Upto [120] [121] 1 0 0 from ⟨by decide, by decide, by decide, by decide⟩).best

set_option maxRecDepth 100000 in
set_option maxHeartbeats 1000000 in
theorem matched_any (w : World) :
    Calls Try.prog 31 #[] w fun e w' => e = .returned (.bool true) ∧ Below w.heap.size w w' := by
  have kc := fun (w : World) (C : Array Value) (n c : Nat) => Lib.run_convert_bytes_const (P := Try.prog) w 27 5 C n c Try.underlying27 Try.underlying5
  have sz : ∀ (w : World) (o : Obj), (w.alloc o).heap.size = w.heap.size + 1 := fun w o => by simp
  have kc2 : ∀ (w : World) (o : Obj) (C : Array Value) (n c : Nat), (convert 27 27 (.slice (some ⟨w.heap.size + 1, 0, none⟩) n c)).run Try.prog ((w.alloc o).alloc (.cells C 5)) = .ok (.slice (some ⟨w.heap.size + 1, 0, none⟩) n c) ((w.alloc o).alloc (.cells C 5 (C.size, C.size + 1))) := fun w o C n c => by
    have := kc (w.alloc o) C n c
    rwa [sz] at this
  have l1 := lit_bs_marked w [120, 97, 98, 99, 97, 98] 6 (6, 7) rfl (by omega) (by decide)
  have b1 : Below w.heap.size w (w.alloc (.cells (([120, 97, 98, 99, 97, 98] : List Int).map (Value.int .u8)).toArray 5 (6, 7))) := (Below.refl _ _).alloc (Nat.le_refl _) _
  have l2 := lit_bs_marked (w.alloc (.cells (([120, 97, 98, 99, 97, 98] : List Int).map (Value.int .u8)).toArray 5 (6, 7))) [122, 97, 98, 100] 4 (4, 5) rfl (by omega) (by decide)
  rw [sz] at l2
  have b2 := b1.alloc b1.size (.cells (([122, 97, 98, 100] : List Int).map (Value.int .u8)).toArray 5 (4, 5))
  replace l1 := l1.later ((Below.refl _ _).alloc (Nat.le_refl _) (.cells (([122, 97, 98, 100] : List Int).map (Value.int .u8)).toArray 5 (4, 5)))
  clear b1
  have SZ := Lib.hid sz
  clear sz
  go_enter Try.func31, Try.ntmps31
  go_wp2_with fail
  refine (longest_any _ _ 6 6 4 4 [120, 97, 98, 99, 97, 98] [122, 97, 98, 100] 1 _ l1 l2 (by omega) (by omega) (by omega)).mono ?_
  rintro e W ⟨i, n, hbest, rfl, hd⟩
  obtain ⟨rfl, rfl⟩ := hbest.det best_three
  replace b2 := below_then b2 hd.below
  clear hbest hd l1 l2
  have l1 := lit_bs_marked W [120] 1 (1, 2) rfl (by omega) (by decide)
  have b3 := b2.alloc b2.size (.cells (([120] : List Int).map (Value.int .u8)).toArray 5 (1, 2))
  have sz := SZ.out
  have l2 := lit_bs_marked (W.alloc (.cells (([120] : List Int).map (Value.int .u8)).toArray 5 (1, 2))) [121] 1 (1, 2) rfl (by omega) (by decide)
  rw [sz] at l2
  have b4 := b3.alloc b3.size (.cells (([121] : List Int).map (Value.int .u8)).toArray 5 (1, 2))
  replace l1 := l1.later ((Below.refl _ _).alloc (Nat.le_refl _) (.cells (([121] : List Int).map (Value.int .u8)).toArray 5 (1, 2)))
  clear b2 b3 sz
  go_wp2_with fail
  refine (longest_any _ _ 1 1 1 1 [120] [121] 0 _ l1 l2 (by omega) (by omega) (by omega)).mono ?_
  rintro e W' ⟨i, n, hbest, rfl, hd⟩
  obtain ⟨rfl, rfl⟩ := hbest.det best_no
  replace b4 := below_then b4 hd.below
  clear hbest hd l1 l2
  go_wp2_with fail
  refine (longest_who none none 0 0 0 0 1 _ (by omega) (by omega) (by omega)).mono ?_
  rintro e w' ⟨rfl, rfl⟩
  go_wp2_with fail
  go_ret
  exact ⟨rfl, b4⟩
end Go.Proofs.Ytmpmaljkmfgagaa
