/-
  Contract of the reference's Unpacked: it returns what the document says.
-/
import Derived.Test.YtmpmaljkmfgagaaPackRes
import Derived.Test.YtmpmaljkmfgagaaRepeat
namespace Go.Proofs.Ytmpmaljkmfgagaa
open Go.RowKit

theorem drop_at (l : List Int) (k : Nat) (h : k < l.length) : l.drop k = l[k]?.getD 0 :: l.drop (k + 1) := by
  rw [List.drop_eq_getElem_cons h]; simp [List.getElem?_eq_getElem h]

/-- the rounds of Unpacked: the place in l, and what is made -/
def UnpRelI (most : Int) (l : List Int) (w : World) (out i : Value) (wr : World) : Prop :=
  ∃ (j : Nat) (a' : Option Addr) (k c' : Nat) (outl : List Int), i = .int .i64 j ∧ out = .slice a' k c' ∧ j ≤ l.length ∧
    wr.ownsRow w.heap.size 5 1 (.slice a' k c') k (outl.map (Value.int .u8)) ∧ (∀ r, PackM.Unp most (l.drop j) outl r → PackM.Unp most l [] r) ∧ k ≤ 127 * j ∧ (∀ x ∈ outl, 0 ≤ x ∧ x ≤ 255) ∧ Below w.heap.size w wr

set_option maxRecDepth 100000 in
set_option maxHeartbeats 1000000 in
theorem unpacked_any (a : Option Addr) (n c : Nat) (l : List Int) (most : Int) (w : World) (hr : BS w a n c l) (hn : n ≤ 4194304) :
    Calls Try.prog 25 #[.slice a n c, .int .i64 most] w (GivesU most l w) := by
  have HR := Lib.hid hr
  have HLn := Lib.hid hr.len
  have hnc := hr.le
  have hcm := hr.max
  clear hr
  go_enter Try.func25, Try.ntmps25
  go_wp2
  go_loopw [6, 7] (fun out i wr => UnpRelI most l w out i wr) (fun _ i _ => n - (intOf i).toNat)
  case atStart => exact ⟨0, none, 0, 0, [], rfl, rfl, Nat.zero_le _, World.ownsRow_nil _ _ _ _, fun r h => h, by omega, by simp, Below.refl _ _⟩
  case round =>
    obtain ⟨i, a2, k, c2, outl, rfl, rfl, hi, ho, hu, hbd, hby, hB⟩ := hrel
    rw [HLn.out] at hi
    have HO := Lib.hid ho
    have HU := Lib.hid hu
    have HY := Lib.hid hby
    have hk : k ≤ 532676608 := by omega
    clear ho hby hu
    by_cases hlt : i < n
    · obtain ⟨blk, off, rfl, hc⟩ := (HR.out.later hB).cells (by omega)
      have hc0 := hc i hlt
      have hx := HR.out.byte i
      have HD := Lib.hid (drop_at l i (by rw [HLn.out]; exact hlt))
      generalize l[i]?.getD 0 = x at hc0 hx HD
      clear hc
      obtain ⟨I, hI⟩ : ∃ I : Nat, (i : Int) + 1 = I := ⟨i + 1, by omega⟩
      obtain ⟨L, hL⟩ : ∃ L : Nat, (n : Int) - I = L := ⟨n - I, by omega⟩
      have hIn : I ≤ n := by omega
      have HI : Hid (i + 1 = I) := by show i + 1 = I; omega
      have HT : Hid ((l.drop I).length = L) := by show (l.drop I).length = L; rw [List.length_drop, HLn.out]; omega
      rw [HI.out] at HD
      have hol : outl.length = k := by simpa using HO.out.1
      have HL := Lib.hid hol
      clear hol
      have hdm1 : 0 ≤ x % 128 := by omega
      have hdm2 : x % 128 ≤ 127 := by omega
      obtain ⟨N, hN⟩ : ∃ N : Nat, x % 128 = N := ⟨(x % 128).toNat, by omega⟩
      have hN2 : N ≤ 127 := by omega
      have HX := Lib.hid hN
      obtain ⟨t, ht⟩ : ∃ t, l.drop I = t := ⟨_, rfl⟩
      have HTT := Lib.hid ht
      rw [ht] at HT HD
      clear ht
      by_cases h128 : 128 ≤ x
      · have HF : Hid (PackM.follow x = 1) := by show PackM.follow x = 1; unfold PackM.follow; rw [if_pos h128]
        have HG : Hid (PackM.grp x t = List.replicate N (t[0]?.getD 0)) := by show PackM.grp x t = _; unfold PackM.grp; rw [if_pos h128, hN]; rfl
        clear hdm1 hdm2 hN
        go_wp2
        go_quiet (fail)
        rw [HX.out]
        have hB1 := below_drewN hB nq
        have HO1 : Hid ((wr.drewN nq).ownsRow w.heap.size 5 1 (.slice a2 k c2) k (outl.map (Value.int .u8))) := HO
        generalize wr.drewN nq = W1 at hB1 HO1 ⊢
        clear hB HO hc0 wr hx
        by_cases hN0 : N = 0
        · subst hN0
          go_wp2
          go_ret2
          exact ⟨([], 3), none, 0, 0, HU.out _ (by rw [HD.out]; exact .form x t outl (by rw [HX.out]; rfl)), rfl, BS.nil_ _, hB1⟩
        · have hNb : ((N : Int) == 0) = false := by simp; omega
          have HN0 : Hid (x % 128 ≠ 0) := by show x % 128 ≠ 0; rw [HX.out]; omega
          by_cases hM0 : L < 1
          · have hLz : L = 0 := by omega
            subst hLz
            go_wp2
            go_ret2
            exact ⟨([], 7), none, 0, 0, HU.out _ (by rw [HD.out]; exact .torn x t outl HN0.out (by rw [HF.out, HT.out]; omega)), rfl, BS.nil_ _, hB1⟩
          · have hL1 : ¬ (L : Int) < 1 := by omega
            by_cases hmost : most < (k : Int) + N
            · go_wp2
              go_ret2
              exact ⟨([], 1), none, 0, 0, HU.out _ (by rw [HD.out]; exact .many x t outl HN0.out (by rw [HF.out, HT.out]; omega) (by rw [HL.out, HX.out]; exact hmost)), rfl, BS.nil_ _, hB1⟩
            · obtain ⟨J, hJ⟩ : ∃ J : Nat, (I : Int) + 1 = J := ⟨I + 1, by omega⟩
              have hcut1 : ∀ W, (Instr.slice 27 (.slice (some ⟨blk, off, none⟩) n c) (some (.int .i64 I)) (some (.int .i64 J)) none).run Try.prog W = .ok (.slice (cutA (some ⟨blk, off, none⟩) c I) (J - I) (c - I)) W := fun W => run_cut_lh _ n c W I J (by omega) (by omega)
              have hh := (HR.out.later hB1).mid I J (by omega) (by omega)
              have hJI : J - I = 1 := by omega
              have e1 : (l.drop I).take (J - I) = [t[0]?.getD 0] := by
                rw [HTT.out, hJI]
                cases t with
                | nil => have := HT.out; simp at this; omega
                | cons y t => simp
              rw [e1, hJI] at hh
              simp only [hJI] at hcut1
              clear e1 hJI
              generalize cutA (some ⟨blk, off, none⟩) c I = A3 at hcut1 hh
              generalize c - I = C3 at hcut1 hh
              go_wp2_with fail
              refine (repeat_one A3 C3 (t[0]?.getD 0) N _ hh (by omega) hN2).mono ?_
              rintro e W2 ⟨a4, n4, c4, rfl, hb4, hB2⟩
              have hn4 : n4 = N := by have := hb4.len; simpa using this.symm
              subst hn4
              obtain ⟨a5, c5, W3, hrun, hown5, hg5⟩ := app_run (own_later HO1.out hB2) hb4 (by omega) (by have := hB1.size; have := hB2.size; omega)
              have hB3 := (below_then hB1 hB2).grown hg5 (by have := hB1.size; have := hB2.size; omega) (fun g hg => ((own_later HO1.out hB2).lt g hg).1)
              have HO5 := Lib.hid hown5
              clear hown5 hb4
              go_wp2_with (at_builtin; refine Lib.wpList_append_run _ rfl _ _ _ _ rfl _ _ rfl rfl _ _ hrun ?_)
              go_roundw
              case rel =>
                refine ⟨J, a5, k + n4, c5, outl ++ List.replicate n4 (t[0]?.getD 0), rfl, rfl, by rw [HLn.out]; omega, HO5.out, ?_, by omega, ?_, hB3⟩
                · intro r hr
                  refine HU.out r ?_
                  rw [HD.out]
                  refine .step x t outl r HN0.out (by rw [HF.out, HT.out]; omega) (by rw [HL.out, HX.out]; omega) ?_
                  rw [HF.out, HG.out, ← HTT.out, List.drop_drop, show I + 1 = J by omega, HTT.out]
                  exact hr
                · intro y hy
                  rcases List.mem_append.1 hy with hy | hy
                  · exact HY.out y hy
                  · rw [List.mem_replicate] at hy
                    rw [hy.2]
                    have := HR.out.byte I
                    rw [← HTT.out, List.getElem?_drop]
                    exact this
              case measure => simp [intOf]; omega
      · have HF : Hid (PackM.follow x = N) := by show PackM.follow x = N; unfold PackM.follow; rw [if_neg h128, hN]; rfl
        have HG : Hid (PackM.grp x t = t.take N) := by show PackM.grp x t = _; unfold PackM.grp; rw [if_neg h128, hN]; rfl
        clear hdm1 hdm2 hN
        go_wp2
        go_quiet (fail)
        rw [HX.out]
        have hB1 := below_drewN hB nq
        have HO1 : Hid ((wr.drewN nq).ownsRow w.heap.size 5 1 (.slice a2 k c2) k (outl.map (Value.int .u8))) := HO
        generalize wr.drewN nq = W1 at hB1 HO1 ⊢
        clear hB HO hc0 wr hx
        by_cases hN0 : N = 0
        · subst hN0
          go_wp2
          go_ret2
          exact ⟨([], 3), none, 0, 0, HU.out _ (by rw [HD.out]; exact .form x t outl (by rw [HX.out]; rfl)), rfl, BS.nil_ _, hB1⟩
        · have hNb : ((N : Int) == 0) = false := by simp; omega
          have HN0 : Hid (x % 128 ≠ 0) := by show x % 128 ≠ 0; rw [HX.out]; omega
          by_cases hM0 : L < N
          · go_wp2
            go_ret2
            exact ⟨([], 7), none, 0, 0, HU.out _ (by rw [HD.out]; exact .torn x t outl HN0.out (by rw [HF.out, HT.out]; omega)), rfl, BS.nil_ _, hB1⟩
          · by_cases hmost : most < (k : Int) + N
            · go_wp2
              go_ret2
              exact ⟨([], 1), none, 0, 0, HU.out _ (by rw [HD.out]; exact .many x t outl HN0.out (by rw [HF.out, HT.out]; omega) (by rw [HL.out, HX.out]; exact hmost)), rfl, BS.nil_ _, hB1⟩
            · obtain ⟨J, hJ⟩ : ∃ J : Nat, (I : Int) + N = J := ⟨I + N, by omega⟩
              have hcut1 : ∀ W, (Instr.slice 27 (.slice (some ⟨blk, off, none⟩) n c) (some (.int .i64 I)) (some (.int .i64 J)) none).run Try.prog W = .ok (.slice (cutA (some ⟨blk, off, none⟩) c I) (J - I) (c - I)) W := fun W => run_cut_lh _ n c W I J (by omega) (by omega)
              have hh := (HR.out.later hB1).mid I J (by omega) (by omega)
              have hJI : J - I = N := by omega
              rw [HTT.out, hJI] at hh
              simp only [hJI] at hcut1
              clear hJI
              generalize cutA (some ⟨blk, off, none⟩) c I = A3 at hcut1 hh
              generalize c - I = C3 at hcut1 hh
              obtain ⟨a5, c5, W3, hrun, hown5, hg5⟩ := app_run HO1.out hh (by omega) hB1.size
              have hB3 := hB1.grown hg5 hB1.size (fun g hg => (HO1.out.lt g hg).1)
              have HO5 := Lib.hid hown5
              clear hown5 hh
              go_wp2_with (at_builtin; refine Lib.wpList_append_run _ rfl _ _ _ _ rfl _ _ rfl rfl _ _ hrun ?_)
              go_roundw
              case rel =>
                refine ⟨J, a5, k + N, c5, outl ++ t.take N, rfl, rfl, by rw [HLn.out]; omega, HO5.out, ?_, by omega, ?_, hB3⟩
                · intro r hr
                  refine HU.out r ?_
                  rw [HD.out]
                  refine .step x t outl r HN0.out (by rw [HF.out, HT.out]; omega) (by rw [HL.out, HX.out]; omega) ?_
                  rw [HF.out, HG.out, ← HTT.out, List.drop_drop, show I + N = J by omega, HTT.out]
                  exact hr
                · intro y hy
                  rcases List.mem_append.1 hy with hy | hy
                  · exact HY.out y hy
                  · rw [← HTT.out] at hy
                    exact HR.out.bytes y (List.mem_of_mem_drop (List.mem_of_mem_take hy))
              case measure => simp [intOf]; omega
    · go_wp2
      go_ret2
      have hin : i = n := by omega
      exact ⟨(outl, 0), a2, k, c2, HU.out _ (by rw [List.drop_eq_nil_of_le (by rw [HLn.out]; omega)]; exact .done _), rfl, BS.of_own HO.out HY.out, hB⟩
end Go.Proofs.Ytmpmaljkmfgagaa
