/-
  Contract of the reference's Applied: it returns what the document says.
-/
import Derived.Test.YtmpmaljkmfgagaaCheckOps
import Derived.Test.YtmpmaljkmfgagaaAppSt
namespace Go.Proofs.Ytmpmaljkmfgagaa
open Go.RowKit

/-- the rounds of Applied -/
def AppRel (old : List Int) (l : List OpR) (w : World) (out i : Value) (wr : World) : Prop :=
  ∃ (k : Nat) (a : Option Addr) (n c : Nat) (outl : List Int), i = .int .i64 k ∧ out = .slice a n c ∧ outl.length = n ∧ k ≤ l.length ∧ wr.ownsRow w.heap.size 5 1 (.slice a n c) outl.length (outl.map (Value.int .u8)) ∧
    outl ++ DeltaM.makes old (l.drop k) = DeltaM.makes old l ∧ Below w.heap.size w wr
/-- its inner rounds -/
def InRel (old : List Int) (w : World) (B N M : Nat) (cs : Array Value) (out0 : List Int) (out i : Value) (wr : World) : Prop :=
  ∃ (q : Nat) (a : Option Addr) (n c : Nat) (outl : List Int), i = .int .i64 q ∧ out = .slice a n c ∧ outl.length = n ∧ q ≤ M ∧ outl = out0 ++ (old.drop N).take q ∧ ASt w B cs (.slice a n c) outl wr

set_option maxRecDepth 100000 in
set_option maxHeartbeats 2000000 in
theorem applied_any (a : Option Addr) (n c : Nat) (old : List Int) (a' : Option Addr) (n' c' : Nat) (l : List OpR) (s : Int) (w : World) (hx : BS w a n c old) (hl : OS w a' n' c' l) :
    Calls Try.prog 39 #[.slice a n c, .slice a' n' c', .int .i64 s] w (GivesA old l s w) := by
  have HX := Lib.hid hx
  have HL := Lib.hid hl
  have HLn := Lib.hid hl.len
  have HXn := Lib.hid hx.len
  have hlen : n' ≤ 9223372036854775807 := by have := hl.le; have := hl.max; omega
  obtain ⟨E, hE⟩ : ∃ E, DeltaM.check l n s = E := ⟨_, rfl⟩
  have HE : Hid (DeltaM.check l old.length s = E) := by show DeltaM.check l old.length s = E; rw [hx.len]; exact hE
  have hck := checkOps_any a' n' c' l n s
  rw [hE] at hck
  have HCK := Lib.hid hck
  clear hck hx hl
  by_cases h0 : E = 0
  · subst h0
    obtain ⟨h40, o1, o2, s1, s2, hgood, htot⟩ := DeltaM.check_zero hE
    have HG : Hid (DeltaM.Good old.length l) := by show DeltaM.Good old.length l; rw [HXn.out]; exact hgood
    have hml := DeltaM.makes_length (old := old) HG.out
    rw [htot] at hml
    have HML : Hid ((DeltaM.makes old l).length ≤ 64) := by show _ ≤ 64; omega
    have HAP : Hid (DeltaM.applied old l s = DeltaM.makes old l) := by show DeltaM.applied old l s = _; unfold DeltaM.applied; rw [if_pos HE.out]
    clear hgood htot hml hE h40
    go_enter Try.func39, Try.ntmps39
    go_wp2_with fail
    refine (HCK.out _ HL.out).mono ?_
    rintro e W0 ⟨rfl, b0⟩
    have HB0 := Lib.hid b0
    clear b0 HCK
    go_wp2_with fail
    go_loopw [9, 23] (fun out i wr => AppRel old l w out i wr) (fun _ i _ => n' - (intOf i).toNat)
    case atStart => exact ⟨0, none, 0, 0, [], rfl, rfl, rfl, Nat.zero_le _, World.ownsRow_nil _ _ _ _, rfl, HB0.out⟩
    case round =>
      clear HB0
      obtain ⟨k, a2, n2, c2, outl, rfl, rfl, hol, hk, ho, hu, hB⟩ := hrel
      rw [HLn.out] at hk
      have HO := Lib.hid ho
      have HU := Lib.hid hu
      have HOL := Lib.hid hol
      clear ho hu hol
      by_cases hlt : k < n'
      · obtain ⟨b, off, rfl, hcs⟩ := (HL.out.later hB).cells (by omega)
        obtain ⟨va, vn, vc, q0, q1, q2, q3, -, -⟩ := hcs k hlt
        have HD := Lib.hid (drop_op l k (by rw [HLn.out]; exact hlt))
        have hg := HG.out (l.getD k default) (by have : l.getD k default ∈ l.drop k := by rw [HD.out]; simp
                                                 exact List.mem_of_mem_drop this)
        generalize l.getD k default = o at q0 q1 q2 q3 HD hg
        obtain ⟨A, L, D⟩ := o
        simp only at q0 q1 q2 q3
        obtain ⟨r1, r2, r3⟩ := DeltaM.good_len hg.2
        simp only at r1 r2 r3
        obtain ⟨N, rfl⟩ : ∃ N : Nat, A = N := ⟨A.toNat, by omega⟩
        obtain ⟨M, rfl⟩ : ∃ M : Nat, L = M := ⟨L.toNat, by omega⟩
        have hNM : N + M ≤ old.length := by omega
        have HP : Hid (DeltaM.makes old (l.drop k) = D ++ ((old.drop N).take M ++ DeltaM.makes old (l.drop (k + 1)))) := by
          show _ = _
          rw [HD.out]
          simp [DeltaM.makes, DeltaM.part]
        have HLE : Hid (outl.length + D.length + M + (DeltaM.makes old (l.drop (k + 1))).length ≤ 64) := by
          show _ ≤ 64
          have h1 := congrArg List.length HU.out
          rw [HP.out] at h1
          simp only [List.length_append, List.length_take, List.length_drop] at h1
          have := HML.out
          omega
        clear hg hcs r1 r2 r3
        obtain ⟨B, hBB⟩ : ∃ B, wr.heap.size = B := ⟨_, rfl⟩
        have hbl : Below wr.heap.size wr (wr.alloc (.cells #[.int .i64 (N : Int), .int .i64 (M : Int), .slice va vn vc] 56)) := (Below.refl _ _).alloc (Nat.le_refl _) _
        have hst : ASt w B #[.int .i64 (N : Int), .int .i64 (M : Int), .slice va vn vc] (.slice a2 n2 c2) outl (wr.alloc (.cells #[.int .i64 (N : Int), .int .i64 (M : Int), .slice va vn vc] 56)) := by
          refine ⟨by rw [heap_at, if_pos hBB.symm], own_later HO.out hbl, fun e => ?_, below_then hB hbl, by rw [← hBB]; exact hB.size⟩
          have := (own_lt3 HO.out e).2
          omega
        have hDn := q3.len
        obtain ⟨a5, c5, W5, hrun, HS5⟩ := hst.app (q3.later hbl) (by have := HLE.out; omega) (by have := HLE.out; omega)
        rw [HOL.out] at hrun HS5
        clear hst hbl q3
        have c5' := cells_blk HS5.out.cb
        obtain ⟨d0, d1, -⟩ := c5'
        go_wp2_with (at_builtin; refine Lib.wpList_append_run _ rfl _ _ _ _ rfl _ _ rfl rfl _ _ hrun ?_)
        clear hrun q0 q1 q2 d0 d1
        have hkn := hlt
        go_loopw [9, 33] (fun out i wr => InRel old w B N M #[.int .i64 (N : Int), .int .i64 (M : Int), .slice va vn vc] (outl ++ D) out i wr) (fun _ i _ => M - (intOf i).toNat)
        case atStart => exact ⟨0, _, _, _, _, rfl, rfl, by rw [List.length_append, HOL.out, hDn], Nat.zero_le _, by simp, HS5.out⟩
        case round =>
          clear HS5 W5 hB hBB
          obtain ⟨q, a6, n6, c6, out6, rfl, rfl, h6, hq, he6, hs6⟩ := hrel
          have HS6 := Lib.hid hs6
          have HE6 := Lib.hid he6
          have H6 := Lib.hid h6
          clear hs6 he6 h6
          by_cases hqM : q < M
          · obtain ⟨blk, of1, rfl, hc⟩ := (HX.out.later HS6.out.below).cells (by have := HXn.out; omega)
            obtain ⟨K, hK⟩ : ∃ K : Nat, (N : Int) + q = K := ⟨N + q, by omega⟩
            have hKn : K < n := by have := HXn.out; omega
            have hcK := hc K hKn
            have hxv := HX.out.byte K
            have HT : Hid ((old.drop N).take (q + 1) = (old.drop N).take q ++ [old[K]?.getD 0]) := by
              show _ = _
              have hKl : N + q = K := by omega
              have : N + q < old.length := by omega
              rw [List.take_add_one, List.getElem?_drop, hKl, List.getElem?_eq_getElem (by omega)]
              simp
            generalize old[K]?.getD 0 = xv at hcK hxv HT
            clear hc
            obtain ⟨d0, d1, -⟩ := cells_blk HS6.out.cb
            have hbl : Below wr.heap.size wr (wr.alloc (.cells #[.int .u8 xv] 5)) := (Below.refl _ _).alloc (Nat.le_refl _) _
            have hl6 : out6.length ≤ 64 := by
              rw [HE6.out]
              have := HLE.out
              simp only [List.length_append, List.length_take, List.length_drop]
              omega
            obtain ⟨a7, c7, W7, hrun, HS7⟩ := (HS6.out.later hbl).app (one_lit wr xv hxv) (by omega) (by omega)
            rw [H6.out] at hrun HS7
            have hB1 := lt_blk HS6.out.cb
            clear hbl hl6
            go_wp2_with (at_builtin; refine Lib.wpList_append_run _ rfl _ _ _ _ rfl _ _ rfl rfl _ _ hrun ?_)
            go_roundw
            case rel => exact ⟨q + 1, a7, _, c7, out6 ++ [xv], by go_num, rfl, by rw [List.length_append, H6.out]; rfl, by omega, by rw [HT.out, HE6.out]; simp, HS7.out⟩
            case measure => simp [intOf]; omega
          · obtain rfl : q = M := by omega
            obtain ⟨d0, d1, -⟩ := cells_blk HS6.out.cb
            go_wp2_with fail
            go_roundw
            case rel =>
              refine ⟨k + 1, a6, n6, c6, out6, by go_num, rfl, H6.out, by rw [HLn.out]; omega, HS6.out.own, ?_, HS6.out.below⟩
              rw [HE6.out, ← HU.out, HP.out]
              simp
            case measure => simp [intOf]; omega
      · go_wp2_with fail
        go_ret2
        have hdr : l.drop k = [] := List.drop_eq_nil_of_le (by rw [HLn.out]; omega)
        have hu := HU.out
        rw [hdr] at hu
        simp only [DeltaM.makes, List.append_nil] at hu
        refine ⟨a2, n2, c2, tup_a HE.out.symm, ?_, hB⟩
        rw [HAP.out, ← hu]
        have ho := HO.out
        rw [HOL.out] at ho
        exact BS.of_own ho (by rw [hu]; exact DeltaM.makes_bytes HX.out.bytes (OS.bytes HL.out))
  · have HAP : Hid (DeltaM.applied old l s = []) := by show DeltaM.applied old l s = _; unfold DeltaM.applied; rw [if_neg (by rw [HE.out]; exact h0)]
    have hne : (E != 0) = true := by simp [h0]
    clear hE
    go_enter Try.func39, Try.ntmps39
    go_wp2_with fail
    refine (HCK.out _ HL.out).mono ?_
    rintro e W0 ⟨rfl, b0⟩
    go_wp2_with fail
    go_ret2
    exact ⟨none, 0, 0, tup_a HE.out.symm, by rw [HAP.out]; exact BS.nil_ _, b0⟩
end Go.Proofs.Ytmpmaljkmfgagaa
