/-
  Contract of pack.Unpack: it returns what the document says.
-/
import Derived.Test.YtmpmaljkmfgagaaPackRes
import Derived.Test.YtmpmaljkmfgagaaRepeat
namespace Go.Proofs.Ytmpmaljkmfgagaa
open Go.RowKit

/-- the rounds of Unpack: what is left of b, and what is made -/
def UnpRel (most : Int) (l : List Int) (w : World) (b out : Value) (wr : World) : Prop :=
  ∃ (a : Option Addr) (m c : Nat) (rem : List Int) (a' : Option Addr) (k c' : Nat) (outl : List Int), b = .slice a m c ∧ out = .slice a' k c' ∧ BS w a m c rem ∧
    wr.ownsRow w.heap.size 5 1 (.slice a' k c') k (outl.map (Value.int .u8)) ∧ (∀ r, PackM.Unp most rem outl r → PackM.Unp most l [] r) ∧ k + 127 * m ≤ 127 * l.length ∧ (∀ x ∈ outl, 0 ≤ x ∧ x ≤ 255) ∧ Below w.heap.size w wr

set_option maxRecDepth 100000 in
set_option maxHeartbeats 1000000 in
theorem unpack_any (a : Option Addr) (n c : Nat) (l : List Int) (most : Int) (w : World) (hr : BS w a n c l) (hn : n ≤ 4194304) :
    Calls Try.prog 24 #[.slice a n c, .int .i64 most] w (GivesU most l w) := by
  have hln := hr.len
  have HR := Lib.hid hr
  have hl : l.length ≤ 4194304 := by omega
  clear hr hln
  go_enter Try.func24, Try.ntmps24
  go_wp2
  go_loopw [0, 6] (fun b out wr => UnpRel most l w b out wr) (fun b _ _ => lenV b)
  case atStart => exact ⟨a, n, c, l, none, 0, 0, [], rfl, rfl, HR.out, World.ownsRow_nil _ _ _ _, fun r h => h, by rw [HR.out.len]; omega, by simp, Below.refl _ _⟩
  case round =>
    obtain ⟨a1, m, c1, rem, a2, k, c2, outl, rfl, rfl, hb, ho, hu, hbd, hby, hB⟩ := hrel
    have HO := Lib.hid ho
    have HU := Lib.hid hu
    have HY := Lib.hid hby
    have hk : k ≤ 532676608 := by omega
    have hbl := hb.later hB
    clear ho hby hu
    cases rem with
    | nil =>
      have hm : m = 0 := by have := hb.len; simpa using this.symm
      subst hm
      go_wp2
      go_ret2
      exact ⟨(outl, 0), a2, k, c2, HU.out _ (.done _), rfl, BS.of_own HO.out HY.out, hB⟩
    | cons x t =>
      obtain ⟨blk, off, rfl, hc⟩ := hbl.cells (by have := hb.len; simp at this; omega)
      have hx := hb.bytes x (by simp)
      have hc0 := hc 0 (by have := hb.len; simp at this; omega)
      simp only [Nat.add_zero, List.getElem?_cons_zero, Option.getD_some] at hc0
      have hm : 0 < m := by have := hb.len; simp at this; omega
      clear hc hbl
      have hcut : ∀ W, (Instr.slice 27 (.slice (some ⟨blk, off, none⟩) m c1) (some (.int .i64 1)) none none).run Try.prog W = .ok (.slice (cutA (some ⟨blk, off, none⟩) c1 1) (m - 1) (c1 - 1)) W := fun W => run_cut_l _ m c1 W 1 (by omega)
      have hb1 := hb.cut 1 (by omega)
      rw [List.drop_one, List.tail_cons] at hb1
      obtain ⟨M, hM⟩ : ∃ M, m - 1 = M := ⟨_, rfl⟩
      rw [hM] at hb1
      have hM1 : M + 1 ≤ m := by omega
      have hM2 : m ≤ M + 1 := by omega
      simp only [hM] at hcut
      clear hM
      generalize cutA (some ⟨blk, off, none⟩) c1 1 = A1 at hcut hb1
      generalize c1 - 1 = C1 at hcut hb1
      have hol : outl.length = k := by simpa using HO.out.1
      have HL := Lib.hid hol
      have htl := hb1.len
      have HT := Lib.hid htl
      have hMC := hb1.le
      clear hol htl hb
      have hdm1 : 0 ≤ x % 128 := by omega
      have hdm2 : x % 128 ≤ 127 := by omega
      obtain ⟨N, hN⟩ : ∃ N : Nat, x % 128 = N := ⟨(x % 128).toNat, by omega⟩
      have hN2 : N ≤ 127 := by omega
      have HX := Lib.hid hN
      by_cases h128 : 128 ≤ x
      · have HF : Hid (PackM.follow x = 1) := by show PackM.follow x = 1; unfold PackM.follow; rw [if_pos h128]
        have HG : Hid (PackM.grp x t = List.replicate N (t[0]?.getD 0)) := by show PackM.grp x t = _; unfold PackM.grp; rw [if_pos h128, hN]; rfl
        clear hdm1 hdm2 hN
        go_wp2
        go_quiet (fail)
        rw [HX.out]
        have hB1 := below_drewN hB nq
        have HO1 : Hid ((wr.drewN nq).ownsRow w.heap.size 5 1 (.slice a2 k c2) k (outl.map (Value.int .u8))) := HO
        have hb2 := hb1.later hB1
        generalize wr.drewN nq = W1 at hB1 HO1 hb2 ⊢
        clear hB HO hc0 wr hx
        by_cases hN0 : N = 0
        · subst hN0
          go_wp2
          go_ret2
          exact ⟨([], 3), none, 0, 0, HU.out _ (.form x t outl (by rw [HX.out]; rfl)), rfl, BS.nil_ _, hB1⟩
        · have hNb : ((N : Int) == 0) = false := by simp; omega
          have HN0 : Hid (x % 128 ≠ 0) := by show x % 128 ≠ 0; rw [HX.out]; omega
          by_cases hM0 : M < 1
          · have hMz : M = 0 := by omega
            subst hMz
            go_wp2
            go_ret2
            exact ⟨([], 7), none, 0, 0, HU.out _ (.torn x t outl HN0.out (by rw [HF.out, HT.out]; omega)), rfl, BS.nil_ _, hB1⟩
          · by_cases hmost : most < (k : Int) + N
            · go_wp2
              go_ret2
              exact ⟨([], 1), none, 0, 0, HU.out _ (.many x t outl HN0.out (by rw [HF.out, HT.out]; omega) (by rw [HL.out, HX.out]; exact hmost)), rfl, BS.nil_ _, hB1⟩
            · have hcut1 : ∀ W, (Instr.slice 27 (.slice A1 M C1) none (some (.int .i64 1)) none).run Try.prog W = .ok (.slice A1 1 C1) W := fun W => run_cut_h A1 M C1 W 1 (by omega)
              have hcut2 : ∀ W, (Instr.slice 27 (.slice A1 M C1) (some (.int .i64 1)) none none).run Try.prog W = .ok (.slice (cutA A1 C1 1) (M - 1) (C1 - 1)) W := fun W => run_cut_l A1 M C1 W 1 (by omega)
              have hb3 := hb1.cut 1 (by omega)
              have hh := hb2.head 1 (by omega)
              have e1 : t.take 1 = [t[0]?.getD 0] := by
                cases t with
                | nil => have := HT.out; simp at this; omega
                | cons y t => simp
              rw [e1] at hh
              generalize cutA A1 C1 1 = A3 at hcut2 hb3
              go_wp2_with fail
              refine (repeat_one A1 C1 (t[0]?.getD 0) N _ hh (by omega) hN2).mono ?_
              rintro e W2 ⟨a4, n4, c4, rfl, hb4, hB2⟩
              have hn4 : n4 = N := by have := hb4.len; simpa using this.symm
              subst hn4
              obtain ⟨a5, c5, W3, hrun, hown5, hg5⟩ := app_run (own_later HO1.out hB2) hb4 (by omega) (by have := hB1.size; have := hB2.size; omega)
              have hB3 := (below_then hB1 hB2).grown hg5 (by have := hB1.size; have := hB2.size; omega) (fun g hg => ((own_later HO1.out hB2).lt g hg).1)
              have HO5 := Lib.hid hown5
              clear hown5 hb4
              go_wp2_with (at_builtin; refine Lib.wpList_append_run _ rfl _ _ _ _ rfl _ _ rfl rfl _ _ hrun ?_)
              go_roundw
              case rel =>
                refine ⟨A3, M - 1, C1 - 1, t.drop 1, a5, k + n4, c5, outl ++ List.replicate n4 (t[0]?.getD 0), rfl, rfl, hb3, HO5.out, ?_, by omega, ?_, hB3⟩
                · intro r hr
                  refine HU.out r (.step x t outl r HN0.out (by rw [HF.out, HT.out]; omega) (by rw [HL.out, HX.out]; omega) ?_)
                  rw [HF.out, HG.out]
                  exact hr
                · intro y hy
                  rcases List.mem_append.1 hy with hy | hy
                  · exact HY.out y hy
                  · rw [List.mem_replicate] at hy
                    rw [hy.2]
                    exact hb1.byte 0
              case measure => simp [lenV]; omega
      · have HF : Hid (PackM.follow x = N) := by show PackM.follow x = N; unfold PackM.follow; rw [if_neg h128, hN]; rfl
        have HG : Hid (PackM.grp x t = t.take N) := by show PackM.grp x t = _; unfold PackM.grp; rw [if_neg h128, hN]; rfl
        clear hdm1 hdm2 hN
        go_wp2
        go_quiet (fail)
        rw [HX.out]
        have hB1 := below_drewN hB nq
        have HO1 : Hid ((wr.drewN nq).ownsRow w.heap.size 5 1 (.slice a2 k c2) k (outl.map (Value.int .u8))) := HO
        have hb2 := hb1.later hB1
        generalize wr.drewN nq = W1 at hB1 HO1 hb2 ⊢
        clear hB HO hc0 wr hx
        by_cases hN0 : N = 0
        · subst hN0
          go_wp2
          go_ret2
          exact ⟨([], 3), none, 0, 0, HU.out _ (.form x t outl (by rw [HX.out]; rfl)), rfl, BS.nil_ _, hB1⟩
        · have hNb : ((N : Int) == 0) = false := by simp; omega
          have HN0 : Hid (x % 128 ≠ 0) := by show x % 128 ≠ 0; rw [HX.out]; omega
          by_cases hM0 : M < N
          · go_wp2
            go_ret2
            exact ⟨([], 7), none, 0, 0, HU.out _ (.torn x t outl HN0.out (by rw [HF.out, HT.out]; omega)), rfl, BS.nil_ _, hB1⟩
          · by_cases hmost : most < (k : Int) + N
            · go_wp2
              go_ret2
              exact ⟨([], 1), none, 0, 0, HU.out _ (.many x t outl HN0.out (by rw [HF.out, HT.out]; omega) (by rw [HL.out, HX.out]; exact hmost)), rfl, BS.nil_ _, hB1⟩
            · have hcut1 : ∀ W, (Instr.slice 27 (.slice A1 M C1) none (some (.int .i64 N)) none).run Try.prog W = .ok (.slice A1 N C1) W := fun W => run_cut_h A1 M C1 W N (by omega)
              have hcut2 : ∀ W, (Instr.slice 27 (.slice A1 M C1) (some (.int .i64 N)) none none).run Try.prog W = .ok (.slice (cutA A1 C1 N) (M - N) (C1 - N)) W := fun W => run_cut_l A1 M C1 W N (by omega)
              have hb3 := hb1.cut N (by omega)
              have hh := hb2.head N (by omega)
              generalize cutA A1 C1 N = A3 at hcut2 hb3
              obtain ⟨a5, c5, W3, hrun, hown5, hg5⟩ := app_run HO1.out hh (by omega) hB1.size
              have hB3 := hB1.grown hg5 hB1.size (fun g hg => (HO1.out.lt g hg).1)
              have HO5 := Lib.hid hown5
              clear hown5 hh
              go_wp2_with (at_builtin; refine Lib.wpList_append_run _ rfl _ _ _ _ rfl _ _ rfl rfl _ _ hrun ?_)
              go_roundw
              case rel =>
                refine ⟨A3, M - N, C1 - N, t.drop N, a5, k + N, c5, outl ++ t.take N, rfl, rfl, hb3, HO5.out, ?_, by omega, ?_, hB3⟩
                · intro r hr
                  refine HU.out r (.step x t outl r HN0.out (by rw [HF.out, HT.out]; omega) (by rw [HL.out, HX.out]; omega) ?_)
                  rw [HF.out, HG.out]
                  exact hr
                · intro y hy
                  rcases List.mem_append.1 hy with hy | hy
                  · exact HY.out y hy
                  · exact hb1.bytes y (List.mem_of_mem_take hy)
              case measure => simp [lenV]; omega
end Go.Proofs.Ytmpmaljkmfgagaa
