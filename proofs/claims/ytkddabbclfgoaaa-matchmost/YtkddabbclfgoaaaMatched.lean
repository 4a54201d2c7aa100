/-
  The closed fact of the matches' statements; the statements' image: the first 64 bytes.
-/
import Derived.Test.YtkddabbclfgoaaaMatch
import Derived.Test.YtkddabbclfgoaaaAt
import Derived.Lib.SlBytesConst
namespace Go.Proofs.Ytkddabbclfgoaaa
open Go.RowKit

/-- a literal that was put as a text: its row bears a mark -/
theorem lit_bs_marked (w : World) (zs : List Int) (n : Nat) (fz : Nat × Nat) (hn : zs.length = n) (hm : n ≤ 1000) (hz : ∀ x ∈ zs, 0 ≤ x ∧ x ≤ 255) :
    BS (w.alloc (.cells (zs.map (Value.int .u8)).toArray 5 fz)) (some ⟨w.heap.size, 0, none⟩) n n zs := by
  refine ⟨hn, Nat.le_refl _, by omega, hz, fun _ => ⟨w.heap.size, 0, rfl, fun i hi => ?_⟩, fun h => by cases h⟩
  have hi' : i < zs.length := by omega
  rw [Nat.zero_add]
  simp only [World.cell?, heap_at, if_pos]
  simp [List.getElem?_eq_getElem hi']

theorem best_three : MatchM.Best [120, 97, 98, 99, 97, 98] [97, 98, 100] 1 2 :=
  (show MatchM.Upto [120, 97, 98, 99, 97, 98] [97, 98, 100] 6 1 2 from ⟨by decide, by decide, by decide, by decide⟩).best
theorem best_no : MatchM.Best [120] [121] 0 0 :=
  (show MatchM.Upto [120] [121] 1 0 0 from ⟨by decide, by decide, by decide, by decide⟩).best

set_option maxRecDepth 100000 in
set_option maxHeartbeats 1000000 in
theorem matched_any (w : World) :
    Calls Try.prog 27 #[] w fun e w' => e = .returned (.bool true) ∧ Below w.heap.size w w' := by
  have kc := fun (w : World) (C : Array Value) (n c : Nat) => Lib.run_convert_bytes_const (P := Try.prog) w 27 5 C n c Try.underlying27 Try.underlying5
  have sz : ∀ (w : World) (o : Obj), (w.alloc o).heap.size = w.heap.size + 1 := fun w o => by simp
  have kc2 : ∀ (w : World) (o : Obj) (C : Array Value) (n c : Nat), (convert 27 27 (.slice (some ⟨w.heap.size + 1, 0, none⟩) n c)).run Try.prog ((w.alloc o).alloc (.cells C 5)) = .ok (.slice (some ⟨w.heap.size + 1, 0, none⟩) n c) ((w.alloc o).alloc (.cells C 5 (C.size, C.size + 1))) := fun w o C n c => by
    have := kc (w.alloc o) C n c
    rwa [sz] at this
  have l1 := lit_bs_marked w [120, 97, 98, 99, 97, 98] 6 (6, 7) rfl (by omega) (by decide)
  have b1 : Below w.heap.size w (w.alloc (.cells (([120, 97, 98, 99, 97, 98] : List Int).map (Value.int .u8)).toArray 5 (6, 7))) := (Below.refl _ _).alloc (Nat.le_refl _) _
  have l2 := lit_bs_marked (w.alloc (.cells (([120, 97, 98, 99, 97, 98] : List Int).map (Value.int .u8)).toArray 5 (6, 7))) [122, 97, 98, 100] 4 (4, 5) rfl (by omega) (by decide)
  rw [sz] at l2
  have b2 := b1.alloc b1.size (.cells (([122, 97, 98, 100] : List Int).map (Value.int .u8)).toArray 5 (4, 5))
  replace l1 := l1.later ((Below.refl _ _).alloc (Nat.le_refl _) (.cells (([122, 97, 98, 100] : List Int).map (Value.int .u8)).toArray 5 (4, 5)))
  clear b1
  have SZ := Lib.hid sz
  clear sz
  go_enter Try.func27, Try.ntmps27
  go_wp2_with fail
  refine (longest_any _ _ 6 6 4 4 [120, 97, 98, 99, 97, 98] [122, 97, 98, 100] 1 _ l1 l2 (by omega) (by omega) (by omega)).mono ?_
  rintro e W ⟨i, n, hbest, rfl, hd⟩
  obtain ⟨rfl, rfl⟩ := hbest.det best_three
  replace b2 := below_then b2 hd.below
  clear hbest hd l1 l2
  have l1 := lit_bs_marked W [120] 1 (1, 2) rfl (by omega) (by decide)
  have b3 := b2.alloc b2.size (.cells (([120] : List Int).map (Value.int .u8)).toArray 5 (1, 2))
  have sz := SZ.out
  have l2 := lit_bs_marked (W.alloc (.cells (([120] : List Int).map (Value.int .u8)).toArray 5 (1, 2))) [121] 1 (1, 2) rfl (by omega) (by decide)
  rw [sz] at l2
  have b4 := b3.alloc b3.size (.cells (([121] : List Int).map (Value.int .u8)).toArray 5 (1, 2))
  replace l1 := l1.later ((Below.refl _ _).alloc (Nat.le_refl _) (.cells (([121] : List Int).map (Value.int .u8)).toArray 5 (1, 2)))
  clear b2 b3 sz
  go_wp2_with fail
  refine (longest_any _ _ 1 1 1 1 [120] [121] 0 _ l1 l2 (by omega) (by omega) (by omega)).mono ?_
  rintro e W' ⟨i, n, hbest, rfl, hd⟩
  obtain ⟨rfl, rfl⟩ := hbest.det best_no
  replace b4 := below_then b4 hd.below
  clear hbest hd l1 l2
  go_wp2_with fail
  refine (longest_who none none 0 0 0 0 1 _ (by omega) (by omega) (by omega)).mono ?_
  rintro e w' ⟨rfl, rfl⟩
  go_wp2_with fail
  go_ret
  exact ⟨rfl, b4⟩

theorem image_any (a : Option Addr) (n c : Nat) (l : List Int) (w : World) (h : BS w a n c l) :
    Calls Try.prog 29 #[.slice a n c] w fun e w' => e = .returned (.slice a (min n 64) c) ∧ w = w' := by
  have h1 := h.le
  have h2 := h.max
  clear h
  by_cases hn : n ≤ 64
  · have hcut : ∀ W, (Instr.slice 27 (.slice a n c) none (some (.int .i64 (n : Int))) none).run Try.prog W = .ok (.slice a n c) W := fun W => run_cut_h a n c W n h1
    have e1 : min n 64 = n := by omega
    have e2 : min (n : Int) 64 = n := by omega
    rw [e1]
    go_enter Try.func29, Try.ntmps29
    go_wp2
    go_ret
    exact ⟨rfl, rfl⟩
  · have hcut : ∀ W, (Instr.slice 27 (.slice a n c) none (some (.int .i64 64)) none).run Try.prog W = .ok (.slice a 64 c) W := fun W => run_cut_h a n c W 64 (by omega)
    have e1 : min n 64 = 64 := by omega
    have e2 : min (n : Int) 64 = 64 := by omega
    rw [e1]
    go_enter Try.func29, Try.ntmps29
    go_wp2
    go_ret
    exact ⟨rfl, rfl⟩
end Go.Proofs.Ytkddabbclfgoaaa
