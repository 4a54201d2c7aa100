/-
  The law ChunkAny, walked over what is asked of package chunk.
-/
import Derived.Test.YtmpmaljkmfgagabAnyTake
import Derived.Test.YtmpmaljkmfgagabChunkFact
import Derived.Test.YtmpmaljkmfgagabRowToOpenN
import Derived.Test.YtmpmaljkmfgagabAt
namespace Go.Proofs.Ytmpmaljkmfgagab
open Go.RowKit

theorem ChunkM.parts_pos {p : PatR} {o : List Int} (hc : PatM.check p = 0) (ho : PackM.Packs (PatM.putL p) o) : 0 < ChunkM.parts o := by
  have hon : o ≠ [] := by
    rintro rfl
    have := ho.back 400 [] [] (PatM.putL p, 0) (by have := PatM.putL_len hc; simp; omega) (by simpa using PackM.Unp.done (PatM.putL p))
    have h2 : PackM.Unp 400 [] [] (([] : List Int), 0) := .done []
    have h3 := this.det _ h2
    simp only [Prod.mk.injEq, and_true] at h3
    simp [PatM.putL, PatM.head] at h3
  have : 0 < o.length := List.length_pos_iff.2 hon
  unfold ChunkM.parts
  omega
/-- the rounds of the first loop -/
def AnyRel1 (w : World) (P L G S Mb : Nat) (p : PatR) (pa : Option Addr) (pn pc : Nat) (la : Option Addr) (ln lc : Nat) (o : List Int) (M : Nat) (i : Value) (wr : World) : Prop :=
  ∃ (k : Nat) (seen : Nat → Bool), i = .int .i64 k ∧ k ≤ M ∧ AnySt w P L G S Mb p pa pn pc la ln lc o k seen wr
/-- the rounds of the second one -/
def AnyRel2 (w : World) (P L G S Mb : Nat) (p : PatR) (pa : Option Addr) (pn pc : Nat) (la : Option Addr) (ln lc : Nat) (o : List Int) (i : Value) (wr : World) : Prop :=
  ∃ (k n : Nat) (seen : Nat → Bool), i = .int .i64 k ∧ k ≤ ln ∧ n ≤ 40 + k ∧ AnySt w P L G S Mb p pa pn pc la ln lc o n seen wr ∧ ∀ j, ln - k ≤ j → j < ln → seen j = true

set_option maxRecDepth 100000 in
set_option maxHeartbeats 4000000 in
theorem chunkAny_walk (HLs : ListCC) (HSc : SameCC) (HCt : CutCC) (HAd : AddCC) (HJn : JoinCC) (HSm : SamePC) (v0 : Value) (p : PatR) (a1 : Option Addr) (len1 cap1 : Nat) (od : List Int)
    (w : World) (hv0 : PV w v0 p) (w1 : NS w a1 len1 cap1 od) (hM : MaxCell w) :
    Calls Try.prog 13 #[v0, .slice a1 len1 cap1] w fun e w' => e = .returned (.bool true) ∧ Below w.heap.size w w' := by
  have HFact := Lib.hid (fun W => chunkFact_any HCt HAd HJn HLs HSm W)
  have HTake : Hid (∀ {P L G S Mb : Nat} {pa : Option Addr} {pn pc : Nat} {la : Option Addr} {ln lc : Nat} {o : List Int} {n : Nat} {seen : Nat → Bool} {W : World}, AnySt w P L G S Mb p pa pn pc la ln lc o n seen W → PatM.check p = 0 → PackM.Packs (PatM.putL p) o → PV w (.agg #[.int .i64 p.from_, .int .i64 p.to_, .int .i64 p.old, .int .i64 p.new, .int .i64 p.size, .slice pa pn pc]) p → ∀ k : Nat, k < ChunkM.parts o → n ≤ 1000 →
      Calls Try.prog 58 #[.int .i64 k, .pointer (some ⟨G, 0, none⟩), .pointer (some ⟨L, 0, none⟩), .pointer (some ⟨S, 0, none⟩), .pointer (some ⟨P, 0, none⟩)] W fun e W' => e = .returned (.bool true) ∧ AnySt w P L G S Mb p pa pn pc la ln lc o (n + 1) (fun j => seen j || decide (j = k)) W') := by
    show ∀ {P L G S Mb : Nat} {pa : Option Addr} {pn pc : Nat} {la : Option Addr} {ln lc : Nat} {o : List Int} {n : Nat} {seen : Nat → Bool} {W : World}, _
    intro P L G S Mb pa pn pc la ln lc o n seen W h1 h2 h3 h4 k h5 h6
    exact take_any HAd HJn HSm h1 h2 h3 h4 k h5 h6
  replace HSc := Lib.hid HSc
  replace HCt := Lib.hid HCt
  clear HLs HAd HJn HSm
  have HPV0 := hv0
  obtain ⟨pa, pn, pc, rfl, hop, hIs⟩ := hv0
  have HPV := Lib.hid HPV0
  have HN := Lib.hid w1
  have hmax : len1 ≤ 9223372036854775807 := by have := w1.le; have := w1.max; omega
  have hle1 := w1.le
  obtain ⟨C, hC⟩ : ∃ C, w.heap.size = C := ⟨_, rfl⟩
  have b9 : Below w.heap.size w (w.alloc (.cells #[.int .i64 p.from_, .int .i64 p.to_, .int .i64 p.old, .int .i64 p.new, .int .i64 p.size, .slice pa pn pc] 41)) := (Below.refl _ _).alloc (Nat.le_refl _) _
  have hP1 : (w.alloc (.cells #[.int .i64 p.from_, .int .i64 p.to_, .int .i64 p.old, .int .i64 p.new, .int .i64 p.size, .slice pa pn pc] 41)).heap[C]? = some (.cells #[.int .i64 p.from_, .int .i64 p.to_, .int .i64 p.old, .int .i64 p.new, .int .i64 p.size, .slice pa pn pc] 41 (0, 0)) := by rw [heap_at, if_pos hC.symm]
  replace hM := hM.later b9
  have hpv := HPV.out.later b9
  have hmf : ∀ (fn : Fn) (first cap : Array Value) (w : World), (Instr.makeFunc fn first cap).run Try.prog w = .ok (.func fn first cap) w := fun _ _ _ _ => rfl
  have hmm := @run_makeMap Try.prog
  clear HPV0 hop hIs w1
  go_enter Try.func13, Try.ntmps13
  go_wp2_with fail
  generalize w.alloc (.cells #[.int .i64 p.from_, .int .i64 p.to_, .int .i64 p.old, .int .i64 p.new, .int .i64 p.size, .slice pa pn pc] 41) = W0 at hP1 hM hpv b9 ⊢
  refine (HCt.out _ p _ hpv).mono ?_
  rintro e W1 ⟨cs, ex, la, ln, lc, hcut, rfl, xcs, d1⟩
  have hba : Below W1.heap.size W1 (W1.alloc (.cells #[.slice la ln lc] 67)) := (Below.refl _ _).alloc (Nat.le_refl _) _
  obtain ⟨L, hL⟩ : ∃ L, W1.heap.size = L := ⟨_, rfl⟩
  have hL1 : (W1.alloc (.cells #[.slice la ln lc] 67)).heap[L]? = some (.cells #[.slice la ln lc] 67 (0, 0)) := by rw [heap_at, if_pos hL.symm]
  replace d1 := below_then d1 hba
  replace hP1 := (d1.block C (lt_blk hP1)).trans hP1
  replace hM := hM.later d1
  replace b9 := below_then b9 d1
  have xcs1 := xcs.later hba
  have HCut := Lib.hid hcut
  clear d1 hba xcs hcut hpv
  go_wp2_with fail
  generalize W1.alloc (.cells #[.slice la ln lc] 67) = W1' at hL1 hP1 hM b9 xcs1 ⊢
  refine (HFact.out _ hM).mono ?_
  rintro e W2 ⟨rfl, d2⟩
  replace hP1 := (d2.block C (lt_blk hP1)).trans hP1
  replace hL1 := (d2.block L (lt_blk9 hL1)).trans hL1
  replace hM := hM.later d2
  replace b9 := below_then b9 d2
  replace xcs1 := xcs1.later d2
  clear d2
  by_cases hex : ex = 0
  · subst hex
    have hckp : PatM.check p = 0 := by
      rcases HCut.out with ⟨h1, _, h3⟩ | ⟨h1, _⟩
      · exact absurd h3.symm h1
      · exact h1
    obtain ⟨o, hpk, hcs⟩ : ∃ o, PackM.Packs (PatM.putL p) o ∧ cs = ChunkM.cutL p.from_ p.to_ o := by
      rcases HCut.out with ⟨h1, _, h3⟩ | ⟨_, o, h2, h3, _⟩
      · exact absurd hckp h1
      · exact ⟨o, h2, h3⟩
    subst hcs
    have hpos := ChunkM.parts_pos hckp hpk
    have hp10 := ChunkM.packed_parts hckp hpk
    have hlnp : ln = ChunkM.parts o := by rw [← xcs1.len, ChunkM.cutL_length]
    rw [← hlnp] at hpos hp10
    have HLNP := Lib.hid hlnp
    have HCK := Lib.hid hckp
    have HPK := Lib.hid hpk
    -- the new blocks
    obtain ⟨G, hG⟩ : ∃ G, W2.heap.size = G := ⟨_, rfl⟩
    have e1 : (W2.alloc (.cells #[.slice none 0 0] 67)).heap.size = W2.heap.size + 1 := by simp
    have e2 : ((W2.alloc (.cells #[.slice none 0 0] 67)).alloc (.map #[] 0)).heap.size = W2.heap.size + 1 + 1 := by simp
    have bA : Below W2.heap.size W2 (W2.alloc (.cells #[.slice none 0 0] 67)) := (Below.refl _ _).alloc (Nat.le_refl _) _
    have bB : Below W2.heap.size W2 ((W2.alloc (.cells #[.slice none 0 0] 67)).alloc (.map #[] 0)) := bA.alloc (by omega) _
    have bC : Below W2.heap.size W2 (((W2.alloc (.cells #[.slice none 0 0] 67)).alloc (.map #[] 0)).alloc (.cells #[.map (some (W2.heap.size + 1))] 78)) := bB.alloc (by omega) _
    have HST : Hid (AnySt w C L G (G + 1 + 1) (G + 1) p pa pn pc la ln lc o 0 (fun _ => false) (((W2.alloc (.cells #[.slice none 0 0] 67)).alloc (.map #[] 0)).alloc (.cells #[.map (some (W2.heap.size + 1))] 78))) := by
      refine ⟨(bC.block C (lt_blk hP1)).trans hP1, (bC.block L (lt_blk9 hL1)).trans hL1, xcs1.later bC, ⟨none, 0, 0, ?_, ?_⟩, ?_, ?_, ?_, ?_, ?_, below_then b9 bC⟩
      · rw [heap_at, if_neg (by rw [e2]; omega), heap_at, if_neg (by rw [e1]; omega), heap_at, if_pos hG.symm]
      · have h0 : ChunkM.some_ p.from_ p.to_ o (fun _ => false) = [] := by unfold ChunkM.some_; simp
        rw [h0]
        exact CS.nil_ _
      · rw [heap_at, if_pos (by rw [e2]; omega), hG]
      · have h0 := MapSt.start (W2.alloc (.cells #[.slice none 0 0] 67)) (ChunkM.parts o)
        rw [e1, hG] at h0
        exact h0.keep (by rw [heap_at, if_neg (by rw [e2]; omega)])
      · have := lt_blk9 hL1
        omega
      · have := b9.size
        omega
      · have := b9.size
        omega
    have HB2 := Lib.hid b9
    obtain ⟨M, hMM⟩ : ∃ M : Nat, (if 40 < len1 then (40 : Int) else (len1 : Int)) = M := ⟨min len1 40, by split <;> omega⟩
    have hMM2 : (if (40 : Int) < (len1 : Int) then (40 : Int) else (len1 : Int)) = M := by rw [← hMM]; split <;> split <;> omega
    have hMl : M ≤ len1 ∧ M ≤ 40 := by split at hMM <;> omega
    have hcutO : ∀ W, (Instr.slice 53 (.slice a1 len1 cap1) none (some (.int .i64 (M : Int))) none).run Try.prog W = .ok (.slice a1 M cap1) W := fun W => run_cutN_h a1 len1 cap1 W M (by omega)
    clear bA bB bC e1 e2 hP1 hL1 hM b9 xcs1 hckp hpk hlnp HFact HCut
    rw [hG] at HST
    go_wp2_with fail
    generalize ((W2.alloc (.cells #[.slice none 0 0] 67)).alloc (.map #[] 0)).alloc (.cells #[.map (some (G + 1))] 78) = W3 at HST ⊢
    go_loopw [33] (fun i wr => AnyRel1 w C L G (G + 1 + 1) (G + 1) p pa pn pc la ln lc o M i wr) (fun i _ => M - (intOf i).toNat)
    case atStart => exact ⟨0, _, rfl, Nat.zero_le _, HST.out⟩
    case round =>
      obtain ⟨k, seen, rfl, hk, hst⟩ := hrel
      have HS := Lib.hid hst
      clear hst HST
      by_cases hlt : k < M
      · obtain ⟨b, off, ha1, hcs⟩ := (HN.out.later HS.out.below).cells (by omega)
        subst ha1
        have q0 := hcs k (by omega)
        generalize od.getD k 0 = x at q0
        obtain ⟨l0, -⟩ := one_cell HS.out.lb
        obtain ⟨N1, hN1⟩ : ∃ N1 : Nat, ln = N1 + 1 := ⟨ln - 1, by omega⟩
        obtain ⟨J, hJ, hJl⟩ := mod_nat x N1 (ln : Int) (by omega)
        have hln0 : (0 : Int) < (ln : Int) := by omega
        have hlnm : (ln : Int) ≤ 9223372036854775807 := by omega
        have hk0 : (0 : Int) ≤ (k : Int) := by omega
        have hkM : (k : Int) < (M : Int) := by omega
        have HTk := Lib.hid (HTake.out HS.out HCK.out HPK.out HPV.out J (by rw [← HLNP.out]; omega) (by omega))
        clear hcs hN1 hJl
        go_wp2_with fail
        refine (at_any x ln _ hln0 hlnm).mono ?_
        rintro e w' ⟨rfl, rfl⟩
        rw [hJ]
        go_wp2_with fail
        refine HTk.out.mono ?_
        rintro e W5 ⟨rfl, hst5⟩
        have H5 := Lib.hid hst5
        clear hst5 l0 q0
        go_wp2_with fail
        go_roundw
        case rel => exact ⟨k + 1, _, by go_num, by omega, H5.out⟩
        case measure => simp [intOf]; omega
      · have hkM : k = M := by omega
        subst hkM
        obtain ⟨l0, -⟩ := one_cell HS.out.lb
        go_wp2_with fail
        go_loopw [47] (fun i wr => AnyRel2 w C L G (G + 1 + 1) (G + 1) p pa pn pc la ln lc o i wr) (fun i _ => ln - (intOf i).toNat)
        case atStart => exact ⟨0, k, seen, rfl, Nat.zero_le _, by omega, HS.out, fun j h1 h2 => absurd h2 (by omega)⟩
        case round =>
          obtain ⟨i, n, sn, rfl, hi, hn, hst, hall⟩ := hrel
          have HS2 := Lib.hid hst
          have HAl := Lib.hid hall
          clear hst hall HS l0
          obtain ⟨l0, -⟩ := one_cell HS2.out.lb
          by_cases hlt2 : i < ln
          · obtain ⟨X1, hX1⟩ : ∃ X1 : Nat, (ln : Int) - 1 = X1 := ⟨ln - 1, by omega⟩
            obtain ⟨J, hJ⟩ : ∃ J : Nat, (X1 : Int) - i = J := ⟨ln - 1 - i, by omega⟩
            have hJl : J = ln - 1 - i := by omega
            have hw1 : IntKind.i64.wrap (X1 : Int) = X1 := IntWalk.i64_in _ (by omega)
            have hw2 : IntKind.i64.wrap (J : Int) = J := IntWalk.i64_in _ (by omega)
            have HTk := Lib.hid (HTake.out HS2.out HCK.out HPK.out HPV.out J (by rw [← HLNP.out]; omega) (by omega))
            have HAl2 : Hid (∀ j, ln - (i + 1) ≤ j → j < ln → (sn j || decide (j = J)) = true) := by
              show ∀ j, _
              intro j h1 h2
              by_cases hjJ : j = J
              · simp [hjJ]
              · rw [HAl.out j (by omega) h2]
                rfl
            clear hJl
            go_wp2_with fail
            refine HTk.out.mono ?_
            rintro e W5 ⟨rfl, hst5⟩
            have H5 := Lib.hid hst5
            clear hst5 l0
            go_wp2_with fail
            go_roundw
            case rel => exact ⟨i + 1, n + 1, _, by go_num, by omega, by omega, H5.out, HAl2.out⟩
            case measure => simp [intOf]; omega
          · have hiln : i = ln := by omega
            obtain ⟨ga, gn, gc, hGb, hgcs⟩ := HS2.out.g
            rw [ChunkM.some_all _ _ _ (fun j hj => HAl.out j (by omega) (by rw [HLNP.out]; exact hj))] at hgcs
            obtain ⟨g0, -⟩ := one_cell hGb
            have HGC := Lib.hid hgcs
            clear hgcs hGb
            go_wp2_with fail
            refine (HSc.out _ _ _ _ _ _ _ _ _ HGC.out HS2.out.lcs).mono ?_
            rintro e W9 ⟨rfl, d9⟩
            rw [decide_eq_true rfl]
            have HB9 := Lib.hid (below_then HS2.out.below d9)
            clear d9
            go_wp2_with fail
            go_ret
            exact ⟨rfl, HB9.out⟩
  · have hne : (ex != 0) = true := by simp [hex]
    go_wp2_with fail
    refine (HFact.out _ hM).mono ?_
    rintro e W3 ⟨rfl, d3⟩
    replace b9 := below_then b9 d3
    go_wp2_with fail
    go_ret
    exact ⟨rfl, b9⟩
end Go.Proofs.Ytmpmaljkmfgagab
