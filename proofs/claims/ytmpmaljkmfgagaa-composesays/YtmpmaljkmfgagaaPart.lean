/-
  Contract of compose.part: the part of a list of steps that makes some bytes.
-/
import Derived.Test.YtmpmaljkmfgagaaPartSt
import Derived.Test.YtmpmaljkmfgagaaDeltaRes
namespace Go.Proofs.Ytmpmaljkmfgagaa
open Go.RowKit

/-- what part returns -/
def GivesPart (w0 : World) (l : List OpR) (s t : Nat) (W : World) (e : Ending) (W' : World) : Prop :=
  ∃ a n c, e = .returned (.slice a n c) ∧ Below W.heap.size W W' ∧ PartSt w0 W.heap.size (.slice a n c) (CompM.pieces s t 0 l) W' ∧ (CompM.pieces s t 0 l).length = n
/-- the rounds of part -/
def PartRel (w0 : World) (l : List OpR) (s t : Nat) (W : World) (p made i : Value) (wr : World) : Prop :=
  ∃ (k m : Nat) (out : List OpR), made = .int .i64 m ∧ i = .int .i64 k ∧ k ≤ l.length ∧ out.length ≤ k ∧ out ++ CompM.pieces s t m (l.drop k) = CompM.pieces s t 0 l ∧ (m : Int) + DeltaM.total (l.drop k) ≤ 64 ∧ PartSt w0 W.heap.size p out wr ∧ Below W.heap.size W wr

set_option maxRecDepth 100000 in
set_option maxHeartbeats 1000000 in
theorem part_any {w0 : World} (a : Option Addr) (n c : Nat) (l : List OpR) (s t : Nat) (W : World) (hl : OS w0 a n c l) (hb : Below w0.heap.size w0 W) {old : Int} (ho : old ≤ 64) (hg : DeltaM.Good old l) (hn : n ≤ 40) (ht : DeltaM.total l ≤ 64) (hst : s ≤ t) (ht64 : t ≤ 64) :
    Calls Try.prog 69 #[.slice a n c, .int .i64 (s : Int), .int .i64 (t : Int)] W (GivesPart w0 l s t W) := by
  have HL := Lib.hid hl
  have HLn := Lib.hid hl.len
  have HB := Lib.hid hb
  have HG := Lib.hid hg
  clear hl hb hg
  go_enter Try.func69, Try.ntmps69
  go_wp2_with fail
  go_loopw [7, 8, 16] (fun p made i wr => PartRel w0 l s t W p made i wr) (fun _ _ i _ => n - (intOf i).toNat)
  case atStart => exact ⟨0, 0, [], rfl, rfl, Nat.zero_le _, Nat.le_refl _, rfl, by simpa using ht, PartSt.start _ _ _, Below.refl _ _⟩
  case round =>
    obtain ⟨k, m, out, rfl, rfl, hk, hok, hu, hm, hp, hB⟩ := hrel
    rw [HLn.out] at hk
    have HU := Lib.hid hu
    have HP := Lib.hid hp
    have HBW := Lib.hid hB
    have HBR := Lib.hid (below_then HB.out hB)
    clear hu hp hB
    by_cases hlt : k < n
    · obtain ⟨b, off, rfl, hcs⟩ := HL.out.cells (by omega)
      obtain ⟨va, vn, vc, q0, q1, q2, q3, q4, q5⟩ := hcs k hlt
      replace q0 := cell_later HBR.out q0
      replace q1 := cell_later HBR.out q1
      replace q2 := cell_later HBR.out q2
      have HD := Lib.hid (drop_op l k (by rw [HLn.out]; exact hlt))
      have hgo := HG.out (l.getD k default) (by
        have : l.getD k default ∈ l.drop k := by rw [HD.out]; simp
        exact List.mem_of_mem_drop this)
      generalize l.getD k default = o at q0 q1 q2 q3 q4 q5 HD hgo
      obtain ⟨A, L, D⟩ := o
      simp only at q0 q1 q2 q3 q4 q5
      obtain ⟨r1, r2, r3⟩ := DeltaM.good_len hgo.2
      simp only at r1 r2 r3
      have HO := Lib.hid (CompM.good_one hgo)
      have hrest := DeltaM.total_nonneg (l := l.drop (k + 1)) (old := old) (fun o' ho' => HG.out o' (List.mem_of_mem_drop ho'))
      have hDl := q3.len
      obtain ⟨Z, hZ⟩ : ∃ Z : Nat, L + (vn : Int) = Z := ⟨(L + vn).toNat, by omega⟩
      have HSZ : Hid (DeltaM.size ⟨A, L, D⟩ = Z) := by show _ = _; unfold DeltaM.size; simp only; omega
      have hmz : (m : Int) + Z + DeltaM.total (l.drop (k + 1)) ≤ 64 := by
        rw [HD.out] at hm
        unfold DeltaM.total at hm
        rw [HSZ.out] at hm
        omega
      have HMZ := Lib.hid hmz
      have hmz' : m + Z ≤ 64 := by omega
      have HQ3 := Lib.hid q3
      clear hcs hgo q3 hm hmz hrest
      obtain ⟨M, hM⟩ : ∃ M : Nat, (m : Int) + (Z : Int) = M := ⟨m + Z, by omega⟩
      obtain ⟨I, hI⟩ : ∃ I : Nat, (if (s : Int) - (m : Int) < 0 then 0 else (s : Int) - (m : Int)) = I := ⟨s - m, by split <;> omega⟩
      have hI' : max ((s : Int) - (m : Int)) 0 = I := by rw [← hI]; split <;> omega
      have HPC : Hid (CompM.pieces s t m (l.drop k) = (if max ((s : Int) - (m : Int)) 0 < min ((t : Int) - (m : Int)) Z then [CompM.cutR ⟨A, L, D⟩ (max ((s : Int) - (m : Int)) 0) (min ((t : Int) - (m : Int)) Z)] else []) ++ CompM.pieces s t M (l.drop (k + 1))) := by
        show _ = _
        rw [HD.out, CompM.pieces_cons, HSZ.out, hM]
      rw [hI'] at HPC
      have hbl : Below wr.heap.size wr (wr.alloc (.cells #[.int .i64 A, .int .i64 L, .slice va vn vc] 56)) := (Below.refl _ _).alloc (Nat.le_refl _) _
      have HP1 := Lib.hid (HP.out.later hbl)
      have HB1 := Lib.hid (below_then HBW.out hbl)
      have hPl : out.length ≤ 1000 := by omega
      clear hbl HP
      by_cases hij : (I : Int) < min ((t : Int) - (m : Int)) Z
      · obtain ⟨J, hJ⟩ : ∃ J : Nat, (if (Z : Int) < (t : Int) - (m : Int) then (Z : Int) else (t : Int) - (m : Int)) = J := ⟨(min ((t : Int) - (m : Int)) Z).toNat, by split <;> omega⟩
        have hJ' : min ((t : Int) - (m : Int)) Z = J := by rw [← hJ]; split <;> omega
        rw [if_pos hij, hJ'] at HPC
        have hIJ : I < J := by omega
        have hJZ : J ≤ Z := by omega
        have HSJ : Hid ((J : Int) ≤ DeltaM.size ⟨A, L, D⟩) := by show _ ≤ _; rw [HSZ.out]; omega
        have hcut := fun W => cut_any ⟨A, L, D⟩ va vn vc I J W HQ3.out HO.out (by omega) HSJ.out ⟨r2, by simp only; omega⟩ (by simp only; omega)
        have HCU := Lib.hid hcut
        have HCB : Hid (I64 (CompM.cutR ⟨A, L, D⟩ I J).at_ ∧ I64 (CompM.cutR ⟨A, L, D⟩ I J).len) := by
          show I64 _ ∧ I64 _
          unfold CompM.cutR I64
          split
          · simp
          · simp only; omega
        clear hcut hij
        go_wp2_with fail
        refine (HCU.out _).mono ?_
        rintro e W2 ⟨ca, cn, cc, rfl, hcd, hb2⟩
        have hs2 := hb2.size
        obtain ⟨g5, cap5, W5, hrun, HS5, -⟩ := (HP1.out.later hb2).app _ _ hcd HCB.out.1 HCB.out.2 hPl (by have := HB1.out.size; omega) (below_then HB1.out hb2) rfl
        clear hb2 hs2 hcd
        go_wp2_with (at_builtin; refine Lib.wpList_append_run _ rfl _ _ _ _ rfl _ _ rfl rfl _ _ hrun ?_)
        go_roundw
        case rel =>
          refine ⟨k + 1, M, _, rfl, by go_num, by rw [HLn.out]; omega, ?_, ?_, ?_, HS5.out.1, HS5.out.2⟩
          · simp; omega
          · rw [← HU.out, HPC.out, List.append_assoc]
          · have := HMZ.out; omega
        case measure => simp [intOf]; omega
      · rw [if_neg hij] at HPC
        obtain ⟨J, hJ⟩ : ∃ J : Int, (if (Z : Int) < (t : Int) - (m : Int) then (Z : Int) else (t : Int) - (m : Int)) = J := ⟨_, rfl⟩
        have hJ' : ¬ (I : Int) < J := by rw [← hJ]; split <;> omega
        clear hij
        go_wp2_with fail
        go_roundw
        case rel =>
          refine ⟨k + 1, M, out, rfl, by go_num, by rw [HLn.out]; omega, by omega, ?_, ?_, HP1.out, HB1.out⟩
          · rw [← HU.out, HPC.out, List.nil_append]
          · have := HMZ.out; omega
        case measure => simp [intOf]; omega
    · have hdr : l.drop k = [] := List.drop_eq_nil_of_le (by rw [HLn.out]; omega)
      have hu := HU.out
      rw [hdr] at hu
      simp only [CompM.pieces, List.append_nil] at hu
      obtain ⟨a5, c5, hv⟩ := HP.out.form
      subst hv
      have HUU := Lib.hid hu
      clear hu hdr
      go_wp2_with fail
      go_ret
      exact ⟨a5, _, c5, rfl, HBW.out, by rw [← HUU.out]; exact HP.out, by rw [← HUU.out]⟩
end Go.Proofs.Ytmpmaljkmfgagaa
