/-
  Contract of the reference's Packed: it returns what the document says.
-/
import Derived.Test.YtmpmaljkmfgagaaPackRes
import Derived.Test.YtmpmaljkmfgagaaAlikeR
namespace Go.Proofs.Ytmpmaljkmfgagaa
open Go.RowKit

/-- the rounds of Packed: what is left of b, and what is made -/
def PackRel (l : List Int) (w : World) (b out : Value) (wr : World) : Prop :=
  ∃ (a : Option Addr) (m c : Nat) (rem : List Int) (a' : Option Addr) (k c' : Nat) (outl : List Int), b = .slice a m c ∧ out = .slice a' k c' ∧ BS w a m c rem ∧
    wr.ownsRow w.heap.size 5 1 (.slice a' k c') k (outl.map (Value.int .u8)) ∧ (∀ o, PackM.Packs rem o → PackM.Packs l (outl ++ o)) ∧ k + 2 * m ≤ 2 * l.length ∧ (∀ x ∈ outl, 0 ≤ x ∧ x ≤ 255) ∧ Below w.heap.size w wr

theorem one_bs (w : World) (x : Int) (hx : 0 ≤ x ∧ x ≤ 255) : BS (w.alloc (.cells #[.int .u8 x] 5)) (some ⟨w.heap.size, 0, none⟩) 1 1 [x] := by
  refine ⟨rfl, by omega, by omega, by simpa using hx, fun _ => ⟨w.heap.size, 0, rfl, ?_⟩, fun h => by cases h⟩
  intro i hi
  obtain rfl : i = 0 := by omega
  simp
theorem pair_bs (w : World) (x y : Int) (hx : 0 ≤ x ∧ x ≤ 255) (hy : 0 ≤ y ∧ y ≤ 255) : BS (w.alloc (.cells #[.int .u8 x, .int .u8 y] 5)) (some ⟨w.heap.size, 0, none⟩) 2 2 [x, y] := by
  refine ⟨rfl, by omega, by omega, by simp [hx, hy], fun _ => ⟨w.heap.size, 0, rfl, ?_⟩, fun h => by cases h⟩
  intro i hi
  match i, hi with
  | 0, _ => simp
  | 1, _ => simp

/-- literals are written: their number, then they themselves -/
theorem lit_appends {w Wx : World} {a2 : Option Addr} {k c2 : Nat} {outl : List Int} (hB : Below w.heap.size w Wx) (ho : Wx.ownsRow w.heap.size 5 1 (.slice a2 k c2) k (outl.map (Value.int .u8)))
    {A : Option Addr} {j C : Nat} {lt : List Int} (hh : BS w A j C lt) (hj : j ≤ 127) (hk : k ≤ 16777216) :
    ∃ a5 c5 W5 a6 c6 W6, (Builtin.append_ #[27, 27] 27 #[.slice a2 k c2, .slice (some ⟨Wx.heap.size, 0, none⟩) 1 1]).run Try.prog (Wx.alloc (.cells #[.int .u8 (j : Int)] 5)) = .ok (.slice a5 (k + 1) c5) W5 ∧
      (Builtin.append_ #[27, 27] 27 #[.slice a5 (k + 1) c5, .slice A j C]).run Try.prog W5 = .ok (.slice a6 (k + 1 + j) c6) W6 ∧
      Hid (W6.ownsRow w.heap.size 5 1 (.slice a6 (k + 1 + j) c6) (k + 1 + j) ((outl ++ ((j : Int) :: lt)).map (Value.int .u8))) ∧ Below w.heap.size w W6 := by
  have hB2 := hB.alloc hB.size (.cells #[.int .u8 (j : Int)] 5)
  have ho2 := ho.alloc (.cells #[.int .u8 (j : Int)] 5)
  obtain ⟨a5, c5, W5, hrun1, ho5, hg5⟩ := app_run ho2 (one_bs Wx (j : Int) (by omega)) (by omega) hB2.size
  have hB5 := hB2.grown hg5 hB2.size (fun g hg => (ho2.lt g hg).1)
  obtain ⟨a6, c6, W6, hrun2, ho6, hg6⟩ := app_run ho5 (hh.later hB5) (by omega) hB5.size
  have hB6 := hB5.grown hg6 hB5.size (fun g hg => (ho5.lt g hg).1)
  exact ⟨a5, c5, W5, a6, c6, W6, hrun1, hrun2, by simpa [Hid, List.append_assoc] using ho6, hB6⟩

/-- .. and what is left is to be packed -/
theorem lit_rel {l : List Int} {w : World} {a1 : Option Addr} {m c1 : Nat} {rem : List Int} {k : Nat} {outl : List Int} (hb : BS w a1 m c1 rem) (hu : ∀ o, PackM.Packs rem o → PackM.Packs l (outl ++ o)) (hy : ∀ x ∈ outl, 0 ≤ x ∧ x ≤ 255)
    (hbd : k + 2 * m ≤ 2 * l.length) {j : Nat} (h1 : 1 ≤ j) (h2 : j ≤ 127) (h3 : j ≤ m) (h4 : ∀ i, i < j → PackM.run (rem.drop i) < 3) (h5 : j = m ∨ j = 127 ∨ 3 ≤ PackM.run (rem.drop j))
    {a6 : Option Addr} {c6 : Nat} {W6 : World} (ho : W6.ownsRow w.heap.size 5 1 (.slice a6 (k + 1 + j) c6) (k + 1 + j) ((outl ++ ((j : Int) :: rem.take j)).map (Value.int .u8))) (hB : Below w.heap.size w W6) :
    PackRel l w (.slice (cutA a1 c1 j) (m - j) (c1 - j)) (.slice a6 (k + 1 + j) c6) W6 := by
  refine ⟨_, _, _, _, _, _, _, _, rfl, rfl, hb.cut j h3, ho, ?_, by omega, ?_, hB⟩
  · intro o h
    have := hu _ (.lit rem o j h1 h2 (by rw [hb.len]; exact h3) h4 (by rw [hb.len]; exact h5) h)
    simpa using this
  · intro y hyy
    simp only [List.mem_append, List.mem_cons] at hyy
    rcases hyy with hyy | rfl | hyy
    · exact hy y hyy
    · omega
    · exact hb.bytes y (List.mem_of_mem_take hyy)

set_option maxRecDepth 100000 in
set_option maxHeartbeats 1000000 in
theorem packed_any (a : Option Addr) (n c : Nat) (l : List Int) (w : World) (hr : BS w a n c l) (hn : n ≤ 4194304) :
    Calls Try.prog 29 #[.slice a n c] w (GivesPk l w) := by
  have hln := hr.len
  have HR := Lib.hid hr
  have hl : l.length ≤ 4194304 := by omega
  clear hr hln
  go_enter Try.func29, Try.ntmps29
  go_wp2
  go_loopw [0, 3] (fun b out wr => PackRel l w b out wr) (fun b _ _ => lenV b)
  case atStart => exact ⟨a, n, c, l, none, 0, 0, [], rfl, rfl, HR.out, World.ownsRow_nil _ _ _ _, fun o h => h, by rw [HR.out.len]; omega, by simp, Below.refl _ _⟩
  case round =>
    obtain ⟨a1, m, c1, rem, a2, k, c2, outl, rfl, rfl, hb, ho, hu, hbd, hby, hB⟩ := hrel
    have HO := Lib.hid ho
    have HU := Lib.hid hu
    have HY := Lib.hid hby
    have hk : k ≤ 8388608 := by omega
    clear ho hby hu
    by_cases hm : m = 0
    · subst hm
      obtain rfl : rem = [] := List.eq_nil_of_length_eq_zero hb.len
      go_wp2
      go_ret
      exact ⟨outl, a2, k, c2, by have := HU.out [] .nil; simpa using this, rfl, BS.of_own HO.out HY.out, hB⟩
    · have hm0 : 0 < m := by omega
      have hrm := PackM.run_max rem
      have hrl := PackM.run_le rem
      rw [hb.len] at hrl
      obtain ⟨R, hR⟩ : ∃ R, PackM.run rem = R := ⟨_, rfl⟩
      rw [hR] at hrm hrl
      have HRn := Lib.hid hR
      clear hR
      go_wp2_with fail
      refine (alike_any a1 m c1 rem _ (hb.later hB) hm0).mono ?_
      rintro e W1 ⟨rfl, hd1⟩
      rw [HRn.out]
      have hB1 := below_then hB hd1.below
      have HO1 := Lib.hid (own_later HO.out hd1.below)
      clear hd1 hB HO
      by_cases h3 : 3 ≤ R
      · obtain ⟨blk, off, rfl, hc⟩ := (hb.later hB1).cells hm0
        have hc0 := hc 0 hm0
        rw [Nat.add_zero] at hc0
        have hx := hb.byte 0
        clear hc
        have hcut : ∀ W, (Instr.slice 27 (.slice (some ⟨blk, off, none⟩) m c1) (some (.int .i64 R)) none none).run Try.prog W = .ok (.slice (cutA (some ⟨blk, off, none⟩) c1 R) (m - R) (c1 - R)) W := fun W => run_cut_l _ m c1 W R (by omega)
        have hb3 := hb.cut R (by omega)
        generalize cutA (some ⟨blk, off, none⟩) c1 R = A3 at hcut hb3
        have hB2 := hB1.alloc hB1.size (.cells #[.int .u8 (128 + (R : Int)), .int .u8 (rem[0]?.getD 0)] 5)
        have ho2 := HO1.out.alloc (.cells #[.int .u8 (128 + (R : Int)), .int .u8 (rem[0]?.getD 0)] 5)
        obtain ⟨a5, c5, W5, hrun, ho5, hg5⟩ := app_run ho2 (pair_bs W1 (128 + (R : Int)) (rem[0]?.getD 0) (by omega) hx) (by omega) hB2.size
        have hB5 := hB2.grown hg5 hB2.size (fun g hg => (ho2.lt g hg).1)
        have HO5 := Lib.hid ho5
        clear ho5 ho2 hg5 hB2
        go_wp2_with (at_builtin; refine Lib.wpList_append_run _ rfl _ _ _ _ rfl _ _ rfl rfl _ _ hrun ?_)
        go_roundw
        case rel =>
          refine ⟨A3, m - R, c1 - R, rem.drop R, a5, k + 2, c5, outl ++ [128 + (R : Int), rem[0]?.getD 0], rfl, rfl, hb3, HO5.out, ?_, by omega, ?_, hB5⟩
          · intro o h
            have := HU.out _ (.run rem o R HRn.out h3 h)
            simpa using this
          · intro y hy
            simp only [List.mem_append, List.mem_cons, List.not_mem_nil, or_false] at hy
            rcases hy with hy | rfl | rfl
            · exact HY.out y hy
            · omega
            · exact hx
        case measure => simp [lenV]; omega
      · have H3 := Lib.hid h3
        go_wp2_with fail
        go_loopw [5] (fun v wr => ∃ j : Nat, 1 ≤ j ∧ j ≤ m ∧ j ≤ 127 ∧ v = .int .i64 j ∧ Hid (∀ i, i < j → PackM.run (rem.drop i) < 3) ∧ Below W1.heap.size W1 wr) (fun v _ => 127 - (intOf v).toNat)
        case atStart =>
          refine ⟨1, by omega, by omega, by omega, rfl, Lib.hid (fun i hi => ?_), Below.refl _ _⟩
          rw [show i = 0 by omega, List.drop_zero, HRn.out]
          omega
        case round =>
          obtain ⟨j, hj1, hjm, hj127, rfl, HJ, hBj⟩ := hrel
          by_cases hlm : j < m
          · by_cases hl7 : j < 127
            · have hcut : ∀ W, (Instr.slice 27 (.slice a1 m c1) (some (.int .i64 j)) none none).run Try.prog W = .ok (.slice (cutA a1 c1 j) (m - j) (c1 - j)) W := fun W => run_cut_l _ m c1 W j (by omega)
              have hbj := hb.cut j (by omega)
              generalize cutA a1 c1 j = A3 at hcut hbj
              go_wp2_with fail
              refine (alike_any A3 (m - j) (c1 - j) (rem.drop j) _ ((hbj.later hB1).later hBj) (by omega)).mono ?_
              rintro e W4 ⟨rfl, hd4⟩
              have hrj := PackM.run_max (rem.drop j)
              have hB4 := below_then hBj hd4.below
              clear hcut hbj hBj hd4
              by_cases hrun : PackM.run (rem.drop j) < 3
              · have HS := Lib.hid hrun
                generalize PackM.run (rem.drop j) = S at hrun hrj ⊢
                go_wp2_with fail
                go_roundw
                case rel => exact ⟨j + 1, by omega, by omega, by omega, by go_num, Lib.hid (fun i hi => by
                  rcases Nat.lt_or_ge i j with h | h
                  · exact HJ.out i h
                  · obtain rfl : i = j := by omega
                    exact HS.out), hB4⟩
                case measure => simp [intOf]; omega
              · have HS : Hid (j = m ∨ j = 127 ∨ 3 ≤ PackM.run (rem.drop j)) := .inr (.inr (by omega))
                generalize PackM.run (rem.drop j) = S at hrun hrj ⊢
                have hBx := below_then hB1 hB4
                have HOx := Lib.hid (own_later HO1.out hB4)
                have hcut1 : ∀ W, (Instr.slice 27 (.slice a1 m c1) none (some (.int .i64 j)) none).run Try.prog W = .ok (.slice a1 j c1) W := fun W => run_cut_h a1 m c1 W j (by have := hb.le; omega)
                have hcut2 : ∀ W, (Instr.slice 27 (.slice a1 m c1) (some (.int .i64 j)) none none).run Try.prog W = .ok (.slice (cutA a1 c1 j) (m - j) (c1 - j)) W := fun W => run_cut_l _ m c1 W j (by omega)
                obtain ⟨a5, c5, W5, a6, c6, W6, hrun1, hrun2, HO6, hB6⟩ := lit_appends hBx HOx.out (hb.head j hjm) hj127 (by omega)
                go_wp2_with (at_builtin; first
                  | (refine Lib.wpList_append_run _ rfl (.tmp 42) (.tmp 45) _ _ rfl _ _ rfl rfl _ _ hrun1 ?_)
                  | (refine Lib.wpList_append_run _ rfl (.tmp 47) (.tmp 50) _ _ rfl _ _ rfl rfl _ _ hrun2 ?_))
                go_roundw
                case rel => exact lit_rel hb HU.out HY.out hbd hj1 hj127 hjm HJ.out HS.out HO6.out hB6
                case measure => simp [lenV]; omega
            · have HS : Hid (j = m ∨ j = 127 ∨ 3 ≤ PackM.run (rem.drop j)) := .inr (.inl (by omega))
              have hd : decide ((j : Int) < 127) = false := by simp; omega
              have hBx := below_then hB1 hBj
              have HOx := Lib.hid (own_later HO1.out hBj)
              have hcut1 : ∀ W, (Instr.slice 27 (.slice a1 m c1) none (some (.int .i64 j)) none).run Try.prog W = .ok (.slice a1 j c1) W := fun W => run_cut_h a1 m c1 W j (by have := hb.le; omega)
              have hcut2 : ∀ W, (Instr.slice 27 (.slice a1 m c1) (some (.int .i64 j)) none none).run Try.prog W = .ok (.slice (cutA a1 c1 j) (m - j) (c1 - j)) W := fun W => run_cut_l _ m c1 W j (by omega)
              obtain ⟨a5, c5, W5, a6, c6, W6, hrun1, hrun2, HO6, hB6⟩ := lit_appends hBx HOx.out (hb.head j hjm) hj127 (by omega)
              go_wp2_with (at_builtin; first
                | (refine Lib.wpList_append_run _ rfl (.tmp 42) (.tmp 45) _ _ rfl _ _ rfl rfl _ _ hrun1 ?_)
                | (refine Lib.wpList_append_run _ rfl (.tmp 47) (.tmp 50) _ _ rfl _ _ rfl rfl _ _ hrun2 ?_))
              go_roundw
              case rel => exact lit_rel hb HU.out HY.out hbd hj1 hj127 hjm HJ.out HS.out HO6.out hB6
              case measure => simp [lenV]; omega
          · have HS : Hid (j = m ∨ j = 127 ∨ 3 ≤ PackM.run (rem.drop j)) := .inl (by omega)
            have hd : decide (j < m) = false := by simp; omega
            have hBx := below_then hB1 hBj
            have HOx := Lib.hid (own_later HO1.out hBj)
            have hcut1 : ∀ W, (Instr.slice 27 (.slice a1 m c1) none (some (.int .i64 j)) none).run Try.prog W = .ok (.slice a1 j c1) W := fun W => run_cut_h a1 m c1 W j (by have := hb.le; omega)
            have hcut2 : ∀ W, (Instr.slice 27 (.slice a1 m c1) (some (.int .i64 j)) none none).run Try.prog W = .ok (.slice (cutA a1 c1 j) (m - j) (c1 - j)) W := fun W => run_cut_l _ m c1 W j (by omega)
            obtain ⟨a5, c5, W5, a6, c6, W6, hrun1, hrun2, HO6, hB6⟩ := lit_appends hBx HOx.out (hb.head j hjm) hj127 (by omega)
            go_wp2_with (at_builtin; first
              | (refine Lib.wpList_append_run _ rfl (.tmp 42) (.tmp 45) _ _ rfl _ _ rfl rfl _ _ hrun1 ?_)
              | (refine Lib.wpList_append_run _ rfl (.tmp 47) (.tmp 50) _ _ rfl _ _ rfl rfl _ _ hrun2 ?_))
            go_roundw
            case rel => exact lit_rel hb HU.out HY.out hbd hj1 hj127 hjm HJ.out HS.out HO6.out hB6
            case measure => simp [lenV]; omega
end Go.Proofs.Ytmpmaljkmfgagaa
