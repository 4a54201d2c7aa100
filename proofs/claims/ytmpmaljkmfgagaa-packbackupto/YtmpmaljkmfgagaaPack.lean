/-
  Contract of pack.Pack: it returns what the document says.
-/
import Derived.Test.YtmpmaljkmfgagaaPackSt
namespace Go.Proofs.Ytmpmaljkmfgagaa
open Go.RowKit

theorem litW_len (l : List Int) (fr t n : Nat) (hl : l.length = n) (h : fr ≤ t) (ht : t ≤ n) : (litW l fr t).length + 2 * (n - t) ≤ 2 * (n - fr) := by
  unfold litW
  split
  · simp only [List.length_cons, List.length_take, List.length_drop, hl]; omega
  · simp only [List.length_nil]; omega
theorem litW_byt (l : List Int) (fr t : Nat) (hl : ∀ x ∈ l, 0 ≤ x ∧ x ≤ 255) (h : t ≤ fr + 127) : ∀ x ∈ litW l fr t, 0 ≤ x ∧ x ≤ 255 := by
  intro x hx
  unfold litW at hx
  split at hx
  · rcases List.mem_cons.1 hx with rfl | hx
    · omega
    · exact hl x (List.mem_of_mem_drop (List.mem_of_mem_take hx))
  · cases hx
theorem flush_packs {l outl : List Int} {fr t n : Nat} (hl : l.length = n) (h1 : fr ≤ t) (h2 : t ≤ n) (h3 : t ≤ fr + 127) (h4 : ∀ i, fr ≤ i → i < t → PackM.run (l.drop i) < 3)
    (h5 : t = n ∨ t = fr + 127 ∨ 3 ≤ PackM.run (l.drop t)) (hu : ∀ o, PackM.Packs (l.drop fr) o → PackM.Packs l (outl ++ o)) : ∀ o, PackM.Packs (l.drop t) o → PackM.Packs l ((outl ++ litW l fr t) ++ o) := by
  intro o ho
  unfold litW
  split
  · rename_i hlt
    have := hu _ (.lit (l.drop fr) o (t - fr) (by omega) (by omega) (by rw [List.length_drop, hl]; omega) (fun j hj => by rw [List.drop_drop]; exact h4 _ (by omega) (by omega))
      (by rw [List.length_drop, hl, List.drop_drop, show fr + (t - fr) = t by omega]; omega) (by rw [List.drop_drop, show fr + (t - fr) = t by omega]; exact ho))
    simpa using this
  · obtain rfl : fr = t := by omega
    simpa using hu o ho

/-- the rounds of Pack -/
def PackRelI (l : List Int) (w : World) (a : Option Addr) (n c B0 B1 B2 : Nat) (i : Value) (wr : World) : Prop :=
  ∃ (j fr : Nat) (a' : Option Addr) (k c' : Nat) (outl : List Int), i = .int .i64 j ∧ fr ≤ j ∧ j ≤ n ∧ j ≤ fr + 126 ∧ PSt w B0 B1 B2 a n c fr a' k c' outl wr ∧ (∀ o, PackM.Packs (l.drop fr) o → PackM.Packs l (outl ++ o)) ∧
    (∀ i, fr ≤ i → i < j → PackM.run (l.drop i) < 3) ∧ outl.length + 2 * (n - fr) ≤ 2 * n ∧ (∀ x ∈ outl, 0 ≤ x ∧ x ≤ 255)

theorem pst_start (w : World) (a : Option Addr) (n c : Nat) : PSt w w.heap.size (w.heap.size + 1) (w.heap.size + 1 + 1) a n c 0 none 0 0 []
    (((w.alloc (.cells #[.slice a n c] 27)).alloc (.cells #[.slice none 0 0] 27)).alloc (.cells #[.int .i64 0] 3)) := by
  refine ⟨?_, ?_, ?_, World.ownsRow_nil _ _ _ _, (((Below.refl _ _).alloc (Nat.le_refl _) _).alloc (by simp) _).alloc (by simp; omega) _, Nat.le_refl _, by omega, by omega⟩
  · simp only [heap_at, World.size_alloc]; rw [if_neg (by omega), if_neg (by omega)]; simp
  · simp only [heap_at, World.size_alloc]; simp
  · simp only [heap_at, World.size_alloc]; simp

set_option maxRecDepth 100000 in
set_option maxHeartbeats 1000000 in
theorem pack_any (a : Option Addr) (n c : Nat) (l : List Int) (w : World) (hr : BS w a n c l) (hn : n ≤ 4194304) :
    Calls Try.prog 28 #[.slice a n c] w (GivesPk l w) := by
  have HR := Lib.hid hr
  have HL := Lib.hid hr.len
  have hst := Lib.hid (pst_start w a n c)
  clear hr
  go_enter Try.func28, Try.ntmps28
  go_wp2_with fail
  generalize (((w.alloc (.cells #[.slice a n c] 27)).alloc (.cells #[.slice none 0 0] 27)).alloc (.cells #[.int .i64 0] 3)) = W0 at hst ⊢
  generalize w.heap.size + 1 + 1 = B2 at hst ⊢
  generalize w.heap.size + 1 = B1 at hst ⊢
  obtain ⟨B0, hB0⟩ : ∃ B0, w.heap.size = B0 := ⟨_, rfl⟩
  rw [hB0] at hst ⊢
  clear hB0
  go_loopw [6] (fun i wr => PackRelI l w a n c B0 B1 B2 i wr) (fun i _ => n - (intOf i).toNat)
  case atStart => exact ⟨0, 0, none, 0, 0, [], rfl, Nat.le_refl _, Nat.zero_le _, by omega, hst.out, fun o h => h, fun i h1 h2 => by omega, by simp, by simp⟩
  case round =>
    obtain ⟨j, fr, a2, k, c2, outl, rfl, hfj, hjn, hj126, hs, hu, hr3, hbd, hby⟩ := hrel
    have k0 := blk_cell hs.c0
    have k1 := blk_cell hs.c1
    have k2 := blk_cell hs.c2
    have f2 := blk_frozen hs.c2
    have hol : outl.length = k := by simpa using hs.own.1
    have hk : k ≤ 8388608 := by omega
    have HS := Lib.hid hs
    have HU := Lib.hid hu
    have H3 := Lib.hid hr3
    have HY := Lib.hid hby
    have HK := Lib.hid hol
    have HD := Lib.hid hbd
    clear hs hu hr3 hby hol hbd
    by_cases hlt : j < n
    · have hcut : ∀ W, (Instr.slice 27 (.slice a n c) (some (.int .i64 j)) none none).run Try.prog W = .ok (.slice (cutA a c j) (n - j) (c - j)) W := fun W => run_cut_l a n c W j (by omega)
      have hbj := HR.out.cut j (by omega)
      generalize cutA a c j = A3 at hcut hbj
      go_wp2_with fail
      refine (runLength_any A3 (n - j) (c - j) (l.drop j) _ (hbj.later HS.out.below)).mono ?_
      rintro e W1 ⟨rfl, hd1⟩
      have HS1 := Lib.hid (HS.out.later hd1.below)
      have hRm := PackM.run_max (l.drop j)
      have hRl := PackM.run_le (l.drop j)
      rw [List.length_drop, HL.out] at hRl
      obtain ⟨R, hR⟩ : ∃ R, PackM.run (l.drop j) = R := ⟨_, rfl⟩
      rw [hR] at hRm hRl ⊢
      have HRn := Lib.hid hR
      clear hR k0 k1 k2 f2 HS hcut hbj hd1
      by_cases h3 : 3 ≤ R
      · go_wp2_with fail
        refine (flush_any j HS1.out HR.out hfj hjn (by omega) hk).mono ?_
        rintro e W2 ⟨rfl, a5, k5, c5, hs2⟩
        have hp2 := flush_packs HL.out hfj hjn (by omega) H3.out (.inr (.inr (by rw [HRn.out]; exact h3))) HU.out
        have hl2 := litW_len l fr j n HL.out hfj hjn
        have hy2 : ∀ x ∈ outl ++ litW l fr j, 0 ≤ x ∧ x ≤ 255 := fun x hx => (List.mem_append.1 hx).elim (HY.out x) (litW_byt l fr j HR.out.bytes (by omega) x)
        have hb2 : (outl ++ litW l fr j).length + 2 * (n - j) ≤ 2 * n := by rw [List.length_append]; have := HD.out; omega
        generalize outl ++ litW l fr j = out2 at hs2 hp2 hy2 hb2
        have hk5 : out2.length = k5 := by simpa using hs2.own.1
        have hk6 : k5 ≤ 8388608 := by omega
        obtain ⟨blk, off, rfl, hc⟩ := (HR.out.later hs2.below).cells (by omega)
        have hcj := hc j hlt
        have hx := HR.out.byte j
        have HX : Hid ((l.drop j)[0]?.getD 0 = l[j]?.getD 0) := by show (l.drop j)[0]?.getD 0 = l[j]?.getD 0; rw [List.getElem?_drop, Nat.add_zero]
        generalize l[j]?.getD 0 = x at hcj hx HX
        clear hc
        have k0 := blk_cell hs2.c0
        have k1 := blk_cell hs2.c1
        have z1 := blk_lt hs2.c1
        have hBa : Below W2.heap.size W2 (W2.alloc (.cells #[.int .u8 (128 + (R : Int)), .int .u8 x] 5)) := (Below.refl _ _).alloc (Nat.le_refl _) _
        obtain ⟨a7, c7, W7, hrun, k7, f7, HS7⟩ := (hs2.later hBa).drew.app ((pair_bs W2 (128 + (R : Int)) x (by omega) hx).later (Below.refl _ _).drew) (by omega) (by omega)
        have hw1 : IntKind.i64.wrap (128 + (R : Int)) = 128 + (R : Int) := IntWalk.i64_in _ (by omega)
        have hw2 : IntKind.u8.wrap (128 + (R : Int)) = 128 + (R : Int) := by rw [IntKind.wrap_u8]; omega
        have HP2 := Lib.hid hp2
        have HY2 := Lib.hid hy2
        have HB2 := Lib.hid hb2
        clear hp2 hy2 hb2 hl2 hk5 hBa hs2 HS1
        go_wp2_with fail
        go_region_law (refine step_append_run rfl (.tmp 22) (.tmp 30) 27 27 rfl (.slice a5 k5 c5) (.slice (some ⟨W2.heap.size, 0, none⟩) 2 2) (by simp [Act.eval]) (by simp [Act.eval]) _ _ hrun ?_)
        all_goals
          generalize W7.setCell ⟨B1, 0, none⟩ (.slice a7 (k5 + 2) c7) = W8 at HS7 ⊢
          clear k7 f7 hrun W7 k0 k1 hw1 hw2 hcj z1
          have k2 := blk_cell HS7.out.c2
          have f2 := blk_frozen HS7.out.c2
          obtain ⟨J, hJ⟩ : ∃ J : Nat, (j : Int) + (R : Int) = J := ⟨j + R, by omega⟩
          have hJn : J ≤ n := by omega
          have HJ : Hid (j + R = J) := by show j + R = J; omega
          have HS9 := Lib.hid (HS7.out.from_ J)
          go_wp2_with fail
          go_roundw
          case rel =>
            refine ⟨J, J, a7, k5 + 2, c7, out2 ++ [128 + (R : Int), x], rfl, Nat.le_refl _, hJn, by omega, HS9.out, ?_, fun i h1 h2 => by omega, ?_, ?_⟩
            · intro o ho
              have := HP2.out _ (.run (l.drop j) o R HRn.out h3 (by rw [List.drop_drop, HJ.out]; exact ho))
              rw [HX.out] at this
              simpa using this
            · have := HB2.out
              simp only [List.length_append, List.length_cons, List.length_nil]
              omega
            · intro y hy
              simp only [List.mem_append, List.mem_cons, List.not_mem_nil, or_false] at hy
              rcases hy with hy | rfl | rfl
              · exact HY2.out y hy
              · omega
              · exact hx
          case measure => simp [intOf]; omega
      · obtain ⟨J, hJ⟩ : ∃ J : Nat, (j : Int) + 1 = J := ⟨j + 1, by omega⟩
        obtain ⟨D, hD⟩ : ∃ D : Nat, (J : Int) - (fr : Int) = D := ⟨J - fr, by omega⟩
        have hJn : J ≤ n := by omega
        have HJ : Hid (j + 1 = J) := by show j + 1 = J; omega
        have H3' : Hid (∀ i, fr ≤ i → i < J → PackM.run (l.drop i) < 3) := by
          intro i h1 h2
          rcases Nat.lt_or_ge i j with h | h
          · exact H3.out i h1 h
          · obtain rfl : i = j := by omega
            rw [HRn.out]; omega
        have k2 := blk_cell HS1.out.c2
        by_cases hD7 : D = 127
        · have hb : ((D : Int) == 127) = true := by simp; omega
          go_wp2_with fail
          refine (flush_any J HS1.out HR.out (by omega) hJn (by omega) hk).mono ?_
          rintro e W2 ⟨rfl, a5, k5, c5, hs2⟩
          have hp2 := flush_packs HL.out (show fr ≤ J by omega) hJn (by omega) H3'.out (.inr (.inl (by omega))) HU.out
          have hl2 := litW_len l fr J n HL.out (by omega) hJn
          have hy2 : ∀ x ∈ outl ++ litW l fr J, 0 ≤ x ∧ x ≤ 255 := fun x hx => (List.mem_append.1 hx).elim (HY.out x) (litW_byt l fr J HR.out.bytes (by omega) x)
          have hb2 : (outl ++ litW l fr J).length + 2 * (n - J) ≤ 2 * n := by rw [List.length_append]; have := HD.out; omega
          have HP2 := Lib.hid hp2
          have HY2 := Lib.hid hy2
          have HB2 := Lib.hid hb2
          have HS2 := Lib.hid hs2
          clear hp2 hy2 hb2 hl2 hs2 k2
          go_wp2_with fail
          go_roundw
          case rel => exact ⟨J, J, a5, k5, c5, _, rfl, Nat.le_refl _, hJn, by omega, HS2.out, HP2.out, fun i h1 h2 => by omega, HB2.out, HY2.out⟩
          case measure => simp [intOf]; omega
        · have hb : ((D : Int) == 127) = false := by simp; omega
          go_wp2_with fail
          go_roundw
          case rel => exact ⟨J, fr, a2, k, c2, outl, rfl, by omega, hJn, by omega, HS1.out, HU.out, H3'.out, HD.out, HY.out⟩
          case measure => simp [intOf]; omega
    · obtain rfl : j = n := by omega
      go_wp2_with fail
      refine (flush_any j HS.out HR.out hfj (Nat.le_refl _) (by omega) hk).mono ?_
      rintro e W2 ⟨rfl, a5, k5, c5, hs2⟩
      have hp2 := flush_packs HL.out hfj (Nat.le_refl _) (by omega) H3.out (.inl rfl) HU.out
      have hy2 : ∀ x ∈ outl ++ litW l fr j, 0 ≤ x ∧ x ≤ 255 := fun x hx => (List.mem_append.1 hx).elim (HY.out x) (litW_byt l fr j HR.out.bytes (by omega) x)
      have HP2 := Lib.hid hp2
      have HY2 := Lib.hid hy2
      have HS2 := Lib.hid hs2
      have k1' := blk_cell hs2.c1
      clear hp2 hy2 hs2 k0 k1 k2 f2
      go_wp2_with fail
      go_ret
      refine ⟨_, a5, k5, c5, ?_, rfl, BS.of_own HS2.out.own HY2.out, HS2.out.below⟩
      have := HP2.out [] (by rw [List.drop_eq_nil_of_le (by rw [HL.out]; omega)]; exact .nil)
      simpa using this
end Go.Proofs.Ytmpmaljkmfgagaa
