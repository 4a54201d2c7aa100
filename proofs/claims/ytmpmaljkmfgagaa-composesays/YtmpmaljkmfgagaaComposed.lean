/-
  Contract of the reference's Composed: it returns what the document says.
-/
import Derived.Test.YtmpmaljkmfgagaaCompRes
import Derived.Test.YtmpmaljkmfgagaaCompOne
import Derived.Test.YtmpmaljkmfgagaaCompRows
import Derived.Test.YtmpmaljkmfgagaaCheckOps
import Derived.Test.YtmpmaljkmfgagaaAppSt
import Derived.StillTailTactics
namespace Go.Proofs.Ytmpmaljkmfgagaa
open Go.RowKit

def CR1 (first : List OpR) (w : World) (vf vd i : Value) (wr : World) : Prop :=
  ∃ (k : Nat) (m : List (Int × Int)), i = .int .i64 k ∧ k ≤ first.length ∧ m ++ CompM.srcs1 (first.drop k) = CompM.srcs1 first ∧ RSt w vf vd m wr
def CRA (m0 : List (Int × Int)) (B A M : Nat) (cs : Array Value) (w : World) (vf vd i : Value) (wr : World) : Prop :=
  ∃ (q : Nat) (m : List (Int × Int)), i = .int .i64 q ∧ q ≤ M ∧ m = m0 ++ (List.range q).map (fun (k : Nat) => ((A : Int) + (k : Int), (0 : Int))) ∧ RSt w vf vd m wr ∧ wr.heap[B]? = some (.cells cs 56 (0, 0)) ∧ some B ≠ vf.ownBlock ∧ some B ≠ vd.ownBlock
def CRB (m0 : List (Int × Int)) (D : List Int) (w : World) (vf vd i : Value) (wr : World) : Prop :=
  ∃ (q : Nat) (m : List (Int × Int)), i = .int .i64 q ∧ q ≤ D.length ∧ m = m0 ++ (D.take q).map (fun x => ((-1 : Int), x)) ∧ RSt w vf vd m wr

def CR4 (l' : List OpR) (M : List (Int × Int)) (W1 : World) (B0 : Nat) (i : Value) (wr : World) : Prop :=
  ∃ (k : Nat) (vo : Value) (lb : Option Nat) (ss : List (Int × Int)), i = .int .i64 k ∧ k ≤ l'.length ∧ ss ++ CompM.srcs2 M (l'.drop k) = CompM.srcs2 M l' ∧ CSt W1 B0 vo lb (CompM.canonR ss) wr
/-- a block that the closure does not touch -/
def Aside (W : World) (B0 : Nat) (vo : Value) (lb : Option Nat) (B : Nat) (cs : Array Value) : Prop :=
  W.heap[B]? = some (.cells cs 56 (0, 0)) ∧ B ≠ B0 ∧ some B ≠ vo.ownBlock ∧ some B ≠ lb
theorem Aside.on {W W' : World} {B0 : Nat} {vo vo' : Value} {lb lb' : Option Nat} {B : Nat} {cs : Array Value} (h : Aside W B0 vo lb B cs) (hf : Fr W B0 vo lb W' vo' lb') : Aside W' B0 vo' lb' B cs := by
  obtain ⟨h1, h2, h3, h4⟩ := h
  obtain ⟨q1, q2, q3⟩ := hf B (lt_blk h1) h2 h3 h4
  exact ⟨q1.trans h1, h2, q2, q3⟩
def CR5 (ss : List (Int × Int)) (x : List (Int × Int)) (W1 : World) (B0 B : Nat) (cs : Array Value) (i : Value) (wr : World) : Prop :=
  ∃ (q : Nat) (vo : Value) (lb : Option Nat), i = .int .i64 q ∧ q ≤ x.length ∧ CSt W1 B0 vo lb (CompM.canonR (ss ++ x.take q)) wr ∧ Aside wr B0 vo lb B cs
theorem CSt.lt_own {w0 : World} {B0 : Nat} {vo : Value} {lb : Option Nat} {r : List OpR} {W : World} (h : CSt w0 B0 vo lb r W) : ∀ k, W.heap.size ≤ k → some k ≠ vo.ownBlock ∧ some k ≠ lb := by
  intro k hk
  have ho := h.o
  constructor
  · intro e
    obtain ⟨⟨vs, _, q, _⟩, _⟩ := ho.out
    have := (own_lt3 q e.symm).2
    omega
  · intro e
    cases r with
    | nil =>
      obtain ⟨_, rfl⟩ : vo = .slice none 0 0 ∧ lb = none := ho
      cases e
    | cons last t =>
      obtain ⟨vs, o, _, _, _, q⟩ : OutL W (B0 + 1) vo lb t.reverse last := ho
      have := (q.lt e.symm).2
      omega

set_option maxRecDepth 100000 in
set_option maxHeartbeats 4000000 in
theorem composed_any (a : Option Addr) (n c : Nat) (l : List OpR) (a' : Option Addr) (n' c' : Nat) (l' : List OpR) (old mid s : Int) (w : World) (hl : OS w a n c l) (hl' : OS w a' n' c' l') :
    Calls Try.prog 46 #[.slice a n c, .slice a' n' c', .int .i64 old, .int .i64 mid, .int .i64 s] w (GivesC l l' old mid s w) := by
  have HL := Lib.hid hl
  have HL' := Lib.hid hl'
  have HLn := Lib.hid hl.len
  have HLn' := Lib.hid hl'.len
  have hlen : n ≤ 9223372036854775807 := by have := hl.le; have := hl.max; omega
  have hlen' : n' ≤ 9223372036854775807 := by have := hl'.le; have := hl'.max; omega
  obtain ⟨E1, hE1⟩ : ∃ E, DeltaM.check l old mid = E := ⟨_, rfl⟩
  obtain ⟨E2, hE2⟩ : ∃ E, DeltaM.check l' mid s = E := ⟨_, rfl⟩
  have hc1 := checkOps_any a n c l old mid
  have hc2 := checkOps_any a' n' c' l' mid s
  rw [hE1] at hc1
  rw [hE2] at hc2
  have HC1 := Lib.hid hc1
  have HC2 := Lib.hid hc2
  have HE1 := Lib.hid hE1
  have HE2 := Lib.hid hE2
  clear hl hl' hc1 hc2 hE1 hE2
  by_cases h1 : E1 = 0
  · subst h1
    by_cases h2 : E2 = 0
    · subst h2
      obtain ⟨-, o1, o2, m1, m2, hg1, ht1⟩ := DeltaM.check_zero HE1.out
      obtain ⟨-, -, -, s1, s2, hg2, ht2⟩ := DeltaM.check_zero HE2.out
      have HG1 := Lib.hid hg1
      have HG2 := Lib.hid hg2
      have hm1 := CompM.srcs1_length hg1
      rw [ht1] at hm1
      have HM1 : Hid ((CompM.srcs1 l).length ≤ 64) := by show _ ≤ 64; omega
      have HMm := Lib.hid hm1
      have HSrc := Lib.hid (CompM.srcs1_src o2 hg1 HL.out.bytes)
      have HT2 := Lib.hid ht2
      clear hg1 hg2 ht1 ht2 hm1
      go_enter Try.func46, Try.ntmps46
      go_wp2_with fail
      refine (HC1.out _ HL.out).mono ?_
      rintro e W0 ⟨rfl, b0⟩
      go_wp2_with fail
      refine (HC2.out _ (HL'.out.later b0)).mono ?_
      rintro e W1 ⟨rfl, b1⟩
      have HB1 := Lib.hid (below_then b0 b1)
      clear b0 b1 HC1 HC2
      go_wp2_with fail
      go_loopw [14, 15, 45] (fun vf vd i wr => CR1 l w vf vd i wr) (fun _ _ i _ => n - (intOf i).toNat)
      case atStart => exact ⟨0, [], rfl, Nat.zero_le _, rfl, RSt.start HB1.out⟩
      case round =>
        clear HB1
        obtain ⟨k, m, rfl, hk, hu, hr⟩ := hrel
        rw [HLn.out] at hk
        have HR := Lib.hid hr
        have HU := Lib.hid hu
        clear hr hu
        by_cases hlt : k < n
        · obtain ⟨b, off, rfl, hcs⟩ := HL.out.cells (by omega)
          obtain ⟨va, vn, vc, q0, q1, q2, q3, -, -⟩ := hcs k hlt
          replace q0 := cell_later HR.out.below q0
          replace q1 := cell_later HR.out.below q1
          replace q2 := cell_later HR.out.below q2
          have HD := Lib.hid (drop_op l k (by rw [HLn.out]; exact hlt))
          have hg := (HG1.out (l.getD k default) (by have : l.getD k default ∈ l.drop k := by rw [HD.out]; simp
                                                     exact List.mem_of_mem_drop this)).2
          generalize l.getD k default = o at q0 q1 q2 q3 HD hg
          obtain ⟨A0, L0, D⟩ := o
          simp only at q0 q1 q2 q3
          obtain ⟨r1, r2, r3⟩ := DeltaM.good_len hg
          simp only at r1 r2 r3
          obtain ⟨A, rfl⟩ : ∃ A : Nat, A0 = A := ⟨A0.toNat, by omega⟩
          obtain ⟨M, rfl⟩ : ∃ M : Nat, L0 = M := ⟨L0.toNat, by omega⟩
          have hAM : A + M ≤ 64 := by omega
          have HP : Hid (CompM.srcs1 (l.drop k) = (List.range M).map (fun (k : Nat) => ((A : Int) + (k : Int), (0 : Int))) ++ (D.map (fun x => ((-1 : Int), x)) ++ CompM.srcs1 (l.drop (k + 1)))) := by
            show _ = _
            rw [HD.out]
            simp [CompM.srcs1]
          have HLE : Hid (m.length + M + D.length + (CompM.srcs1 (l.drop (k + 1))).length ≤ 64) := by
            show _ ≤ 64
            have h1 := congrArg List.length HU.out
            rw [HP.out] at h1
            simp only [List.length_append, List.length_map, List.length_range] at h1
            have := HM1.out
            omega
          clear hg hcs r1 r2 r3
          obtain ⟨B, hBB⟩ : ∃ B, wr.heap.size = B := ⟨_, rfl⟩
          have hbl : Below wr.heap.size wr (wr.alloc (.cells #[.int .i64 (A : Int), .int .i64 (M : Int), .slice va vn vc] 56)) := (Below.refl _ _).alloc (Nat.le_refl _) _
          have HR1 := Lib.hid (HR.out.later hbl)
          have hcb : (wr.alloc (.cells #[.int .i64 (A : Int), .int .i64 (M : Int), .slice va vn vc] 56)).heap[B]? = some (.cells #[.int .i64 (A : Int), .int .i64 (M : Int), .slice va vn vc] 56 (0, 0)) := by rw [heap_at, if_pos hBB.symm]
          have HCB := Lib.hid hcb
          have HNF : Hid (some B ≠ u14.ownBlock ∧ some B ≠ u15.ownBlock) := by
            refine ⟨fun e => ?_, fun e => ?_⟩
            · have := (own_lt3 HR.out.f e.symm).2
              omega
            · have := (own_lt3 HR.out.d e.symm).2
              omega
          have HQ3 := Lib.hid q3
          have hDn := q3.len
          clear hbl hcb q3
          go_wp2_with fail
          go_loopw [14, 15, 51] (fun vf vd i wr => CRA m B A M #[.int .i64 (A : Int), .int .i64 (M : Int), .slice va vn vc] w vf vd i wr) (fun _ _ i _ => M - (intOf i).toNat)
          case atStart => exact ⟨0, m, rfl, Nat.zero_le _, by simp, HR1.out, HCB.out, HNF.out.1, HNF.out.2⟩
          case round =>
            clear HR HR1 HCB HNF q0 q1 q2 hBB
            obtain ⟨q, mq, rfl, hq, hmq, hr, hcb, hnf, hnd⟩ := hrel
            have HR := Lib.hid hr
            have HCB := Lib.hid hcb
            have HNF : Hid (some B ≠ u14.ownBlock ∧ some B ≠ u15.ownBlock) := ⟨hnf, hnd⟩
            have HMQ := Lib.hid hmq
            have hml : mq.length = m.length + q := by rw [hmq]; simp
            have HML := Lib.hid hml
            clear hr hcb hnf hnd hmq
            obtain ⟨d0, d1, d2⟩ := cells_blk HCB.out
            by_cases hqM : q < M
            · obtain ⟨K, hK⟩ : ∃ K : Nat, (A : Int) + q = K := ⟨A + q, by omega⟩
              obtain ⟨g1, c1, W5, g2, c2, W8, hrun1, hrun2, HS⟩ := HR.out.push (K : Int) 0 (by have := HLE.out; omega)
              have hBlt := lt_blk HCB.out
              have HB8 := Lib.hid (HS.out.2 B hBlt HNF.out.1 HNF.out.2)
              have hKb : (A : Int) + q ≤ 64 := by omega
              clear hml
              go_wp2_with (at_builtin; first | refine Lib.wpList_append_run _ rfl (.tmp 54) (.tmp 59) _ _ rfl _ _ rfl rfl _ _ hrun1 ?_ | refine Lib.wpList_append_run _ rfl (.tmp 61) (.tmp 62) _ _ rfl _ _ rfl rfl _ _ hrun2 ?_)
              go_roundw
              case rel =>
                refine ⟨q + 1, mq ++ [((K : Int), 0)], by go_num, by omega, ?_, HS.out.1, HB8.out.1.trans HCB.out, fun e => ?_, fun e => ?_⟩
                · rw [HMQ.out, List.range_succ, ← hK]
                  simp
                · simp only [Value.ownBlock] at e
                  injection e with e
                  exact HB8.out.2.1 e
                · simp only [Value.ownBlock] at e
                  injection e with e
                  exact HB8.out.2.2 e
              case measure => simp [intOf]; omega
            · obtain rfl : q = M := by omega
              have hvn : vn ≤ 64 := by have := HLE.out; omega
              clear hml
              go_wp2_with fail
              go_loopw [14, 15, 68] (fun vf vd i wr => CRB mq D w vf vd i wr) (fun _ _ i _ => vn - (intOf i).toNat)
              case atStart => exact ⟨0, mq, rfl, Nat.zero_le _, by simp, HR.out⟩
              case round =>
                clear HR HCB HNF d0 d1 d2
                obtain ⟨j, mj, rfl, hj, hmj, hr⟩ := hrel
                rw [hDn] at hj
                have HR := Lib.hid hr
                have HMJ := Lib.hid hmj
                have hmjl : mj.length = mq.length + j := by rw [hmj]; simp; omega
                clear hr hmj
                by_cases hjv : j < vn
                · obtain ⟨bd, od, rfl, hcd⟩ := (HQ3.out.later HR.out.below).cells (by omega)
                  have hcj := hcd j hjv
                  have hxv := HQ3.out.byte j
                  have HT : Hid (D.take (j + 1) = D.take j ++ [D[j]?.getD 0]) := by
                    show _ = _
                    rw [List.take_add_one, List.getElem?_eq_getElem (by omega)]
                    simp
                  generalize D[j]?.getD 0 = xv at hcj hxv HT
                  clear hcd
                  obtain ⟨g1, c1, W5, g2, c2, W8, hrun1, hrun2, HS⟩ := HR.out.push (-1) xv (by have := HLE.out; have := HML.out; omega)
                  clear hmjl
                  go_wp2_with (at_builtin; first | refine Lib.wpList_append_run _ rfl (.tmp 72) (.tmp 73) _ _ rfl _ _ rfl rfl _ _ hrun1 ?_ | refine Lib.wpList_append_run _ rfl (.tmp 75) (.tmp 77) _ _ rfl _ _ rfl rfl _ _ hrun2 ?_)
                  go_roundw
                  case rel =>
                    refine ⟨j + 1, mj ++ [(-1, xv)], by go_num, by omega, ?_, HS.out.1⟩
                    rw [HMJ.out, HT.out]
                    simp
                  case measure => simp [intOf]; omega
                · obtain rfl : j = vn := by omega
                  clear hmjl
                  go_wp2_with fail
                  go_roundw
                  case rel =>
                    refine ⟨k + 1, mj, by go_num, by rw [HLn.out]; omega, ?_, HR.out⟩
                    rw [HMJ.out, HMQ.out, ← HU.out, HP.out, List.take_of_length_le (by omega)]
                    simp
                  case measure => simp [intOf]; omega
        · have hdr : l.drop k = [] := List.drop_eq_nil_of_le (by rw [HLn.out]; omega)
          have hu := HU.out
          rw [hdr] at hu
          simp only [CompM.srcs1, List.append_nil] at hu
          subst hu
          obtain ⟨W1, rfl⟩ : ∃ W1, W1 = wr := ⟨_, rfl⟩
          have HR0 := Lib.hid HR.out.below
          have HG2' : Hid (DeltaM.Good (CompM.srcs1 l).length l') := by show DeltaM.Good _ l'; rw [HMm.out]; exact HG2.out
          have hsl := CompM.srcs2_length HG2'.out
          rw [HT2.out] at hsl
          have HSl : Hid ((CompM.srcs2 (CompM.srcs1 l) l').length ≤ 64) := by show _ ≤ 64; omega
          have HSrc2 := Lib.hid (CompM.srcs2_src HSrc.out HL'.out.bytes)
          have hml64 := HM1.out
          obtain ⟨Mm, hMm⟩ : ∃ Mm, CompM.srcs1 l = Mm := ⟨_, rfl⟩
          have HMM := Lib.hid hMm
          rw [hMm] at HR HG2' HSl HSrc2 HSrc hml64
          clear hdr hsl hMm HU
          obtain ⟨B0, hB0⟩ : ∃ B0, W1.heap.size = B0 := ⟨_, rfl⟩
          have hst : Hid (CSt W1 B0 (.slice none 0 0) none [] (W1.alloc (.cells #[.slice none 0 0] 48))) := by
            show CSt _ _ _ _ _ _
            exact ⟨by rw [heap_at, if_pos hB0.symm], ⟨rfl, rfl⟩, (Below.refl _ _).alloc (Nat.le_refl _) _, by omega⟩
          have HB0 := Lib.hid hB0
          go_wp2_with fail
          generalize W1.alloc (.cells #[.slice none 0 0] 48) = W2 at hst ⊢
          clear hB0
          go_loopw [84] (fun i wr2 => CR4 l' Mm W1 B0 i wr2) (fun i _ => n' - (intOf i).toNat)
          case atStart => exact ⟨0, _, _, [], rfl, Nat.zero_le _, rfl, hst.out⟩
          case round =>
            clear hst W2
            obtain ⟨k2, vo, lb, ss, rfl, hk2, hu2, hc⟩ := hrel
            rw [HLn'.out] at hk2
            have HC := Lib.hid hc
            have HU2 := Lib.hid hu2
            have HSS : Hid (∀ x ∈ ss, CompM.IsSrc x) := by
              show ∀ x ∈ ss, _
              intro x hx
              exact HSrc2.out x (by rw [← hu2]; simp [hx])
            have hssl : ss.length ≤ 64 := by
              have h1 := congrArg List.length hu2
              rw [List.length_append] at h1
              have := HSl.out
              omega
            clear hc hu2
            by_cases hlt2 : k2 < n'
            · obtain ⟨b, off, rfl, hcs⟩ := HL'.out.cells (by omega)
              obtain ⟨va, vn, vc, q0, q1, q2, q3, -, -⟩ := hcs k2 hlt2
              have hbw := below_then HR0.out HC.out.below
              replace q0 := cell_later hbw q0
              replace q1 := cell_later hbw q1
              replace q2 := cell_later hbw q2
              have HD := Lib.hid (drop_op l' k2 (by rw [HLn'.out]; exact hlt2))
              have hg := (HG2'.out (l'.getD k2 default) (by have : l'.getD k2 default ∈ l'.drop k2 := by rw [HD.out]; simp
                                                            exact List.mem_of_mem_drop this)).2
              generalize l'.getD k2 default = o at q0 q1 q2 q3 HD hg
              obtain ⟨A0, L0, D⟩ := o
              simp only at q0 q1 q2 q3
              obtain ⟨r1, r2, r3⟩ := DeltaM.good_len hg
              simp only at r1 r2 r3
              obtain ⟨A, rfl⟩ : ∃ A : Nat, A0 = A := ⟨A0.toNat, by omega⟩
              obtain ⟨M, rfl⟩ : ∃ M : Nat, L0 = M := ⟨L0.toNat, by omega⟩
              have hAM : A + M ≤ Mm.length := by omega
              have HP : Hid (CompM.srcs2 Mm (l'.drop k2) = D.map (fun x => ((-1 : Int), x)) ++ ((Mm.drop A).take M ++ CompM.srcs2 Mm (l'.drop (k2 + 1)))) := by
                show _ = _
                rw [HD.out]
                simp [CompM.srcs2]
              have HQ3 := Lib.hid q3
              have hDn := q3.len
              have hDl : vn ≤ 64 := by
                have h1 := congrArg List.length HU2.out
                rw [HP.out] at h1
                simp only [List.length_append, List.length_map] at h1
                have := HSl.out
                omega
              have hbl : Below wr.heap.size wr (wr.alloc (.cells #[.int .i64 (A : Int), .int .i64 (M : Int), .slice va vn vc] 56)) := (Below.refl _ _).alloc (Nat.le_refl _) _
              obtain ⟨B, hBB⟩ : ∃ B, wr.heap.size = B := ⟨_, rfl⟩
              have HC2 := Lib.hid (HC.out.later hbl)
              have hasd : Aside (wr.alloc (.cells #[.int .i64 (A : Int), .int .i64 (M : Int), .slice va vn vc] 56)) B0 vo lb B #[.int .i64 (A : Int), .int .i64 (M : Int), .slice va vn vc] := by
                have z := lt_blk HC.out.c0
                obtain ⟨z1, z2⟩ := HC.out.lt_own B (by omega)
                exact ⟨by rw [heap_at, if_pos hBB.symm], by omega, z1, z2⟩
              have HAS := Lib.hid hasd
              clear hg hcs r1 r2 r3 hbl hbw q3 hasd
              go_wp2_with fail
              generalize wr.alloc (.cells #[.int .i64 (A : Int), .int .i64 (M : Int), .slice va vn vc] 56) = W3 at HC2 HAS ⊢
              clear q0 q1 q2 hBB HC
              go_loopw [91] (fun i wr => CR5 ss (D.map (fun x => ((-1 : Int), x))) W1 B0 B #[.int .i64 (A : Int), .int .i64 (M : Int), .slice va vn vc] i wr) (fun i _ => vn - (intOf i).toNat)
              case atStart => exact ⟨0, vo, lb, rfl, Nat.zero_le _, by simpa using HC2.out, HAS.out⟩
              case round =>
                clear HC2 HAS W3
                obtain ⟨q, vo5, lb5, rfl, hq, hc5, has5⟩ := hrel
                rw [List.length_map, hDn] at hq
                have HC5 := Lib.hid hc5
                have HA5 := Lib.hid has5
                clear hc5 has5
                by_cases hqv : q < vn
                · obtain ⟨bd, od, rfl, hcd⟩ := (HQ3.out.later (below_then HR0.out HC5.out.below)).cells (by omega)
                  have hcj := hcd q hqv
                  have hxv := HQ3.out.byte q
                  have HT : Hid ((D.map (fun x => ((-1 : Int), x))).take (q + 1) = (D.map (fun x => ((-1 : Int), x))).take q ++ [(-1, D[q]?.getD 0)]) := by
                    show _ = _
                    rw [List.take_add_one, List.getElem?_map, List.getElem?_eq_getElem (by omega)]
                    simp
                  have HBd : Hid (CompM.Bd 1000 (CompM.canonR (ss ++ (D.map (fun x => ((-1 : Int), x))).take q))) := by
                    show CompM.Bd 1000 _
                    refine (CompM.Bd.canon _ ?_).mono ?_
                    · intro x hx
                      rcases List.mem_append.1 hx with hx | hx
                      · exact HSS.out x hx
                      · obtain ⟨v, hv, rfl⟩ := List.mem_map.1 (List.mem_of_mem_take hx)
                        have := HQ3.out.bytes v hv
                        exact ⟨by simp, this.1, this.2⟩
                    · simp only [List.length_append, List.length_take, List.length_map]
                      omega
                  generalize D[q]?.getD 0 = xv at hcj hxv HT
                  clear hcd
                  go_wp2_with fail
                  refine (one_any (-1) xv HC5.out hxv (by omega) HBd.out).mono ?_
                  rintro e W6 ⟨rfl, vo6, lb6, hc6, hf6⟩
                  have HC6 := Lib.hid hc6
                  have HA6 := Lib.hid (HA5.out.on hf6)
                  clear hc6 hf6 HC5 HA5 HBd hcj
                  go_wp2_with fail
                  go_roundw
                  case rel =>
                    refine ⟨q + 1, vo6, lb6, by go_num, by rw [List.length_map]; omega, ?_, HA6.out⟩
                    rw [HT.out, ← List.append_assoc, CompM.canonR_snoc]
                    exact HC6.out
                  case measure => simp [intOf]; omega
                · obtain rfl : q = vn := by omega
                  have hc5 := HC5.out
                  rw [List.take_of_length_le (by rw [List.length_map]; omega)] at hc5
                  have HC6 := Lib.hid hc5
                  obtain ⟨d0, d1, d2⟩ := cells_blk HA5.out.1
                  clear hc5 HC5
                  go_wp2_with fail
                  clear d0 d1 d2
                  have hxl : ((Mm.drop A).take M).length = M := by rw [List.length_take, List.length_drop]; omega
                  have HXL := Lib.hid hxl
                  clear hxl
                  go_loopw [101] (fun i wr => CR5 (ss ++ D.map (fun x => ((-1 : Int), x))) ((Mm.drop A).take M) W1 B0 B #[.int .i64 (A : Int), .int .i64 (M : Int), .slice va q vc] i wr) (fun i _ => M - (intOf i).toNat)
                  case atStart => exact ⟨0, vo5, lb5, rfl, Nat.zero_le _, by simpa using HC6.out, HA5.out⟩
                  case round =>
                    clear HC6 HA5
                    obtain ⟨j, vo7, lb7, rfl, hj, hc7, has7⟩ := hrel
                    rw [HXL.out] at hj
                    have HC7 := Lib.hid hc7
                    have HA7 := Lib.hid has7
                    clear hc7 has7
                    obtain ⟨d0, d1, d2⟩ := cells_blk HA7.out.1
                    by_cases hjM : j < M
                    · obtain ⟨g1, c1, g2, c2, rfl, rfl, hrc⟩ := HR.out.cells (by omega)
                      obtain ⟨K, hK⟩ : ∃ K : Nat, (A : Int) + j = K := ⟨A + j, by omega⟩
                      have hKl : K < Mm.length := by omega
                      obtain ⟨e1, e2⟩ := hrc K hKl
                      replace e1 := cell_later HC7.out.below e1
                      replace e2 := cell_later HC7.out.below e2
                      have hsrc := HSrc.out (Mm.getD K (0, 0)) (by rw [List.getD_eq_getElem?_getD, List.getElem?_eq_getElem hKl]; exact List.getElem_mem _)
                      have HT : Hid (((Mm.drop A).take M).take (j + 1) = ((Mm.drop A).take M).take j ++ [Mm.getD K (0, 0)]) := by
                        show _ = _
                        have hKe : A + j = K := by omega
                        rw [List.take_add_one, List.getElem?_take_of_lt hjM, List.getElem?_drop, hKe, List.getElem?_eq_getElem hKl]
                        simp [List.getD_eq_getElem?_getD, List.getElem?_eq_getElem hKl]
                      have HBd : Hid (CompM.Bd 1000 (CompM.canonR ((ss ++ D.map (fun x => ((-1 : Int), x))) ++ ((Mm.drop A).take M).take j))) := by
                        show CompM.Bd 1000 _
                        refine (CompM.Bd.canon _ ?_).mono ?_
                        · intro x hx
                          rcases List.mem_append.1 hx with hx | hx
                          · rcases List.mem_append.1 hx with hx | hx
                            · exact HSS.out x hx
                            · obtain ⟨v, hv, rfl⟩ := List.mem_map.1 hx
                              have := HQ3.out.bytes v hv
                              exact ⟨by simp, this.1, this.2⟩
                          · exact HSrc.out x (List.mem_of_mem_drop (List.mem_of_mem_take (List.mem_of_mem_take hx)))
                        · simp only [List.length_append, List.length_take, List.length_map, List.length_drop]
                          omega
                      generalize Mm.getD K (0, 0) = sv at e1 e2 hsrc HT
                      obtain ⟨at_, xv⟩ := sv
                      obtain ⟨t1, t2, t3⟩ := hsrc
                      simp only at e1 e2 t1 t2 t3
                      clear hrc
                      have hwK : IntKind.i64.wrap (K : Int) = K := IntWalk.i64_in _ (by omega)
                      go_wp2_with fail
                      go_still_tail 15, (by kernel_rfl)
                      change wpList _ _ _ _ _ wr.drew
                      have hbd : Below wr.heap.size wr wr.drew := (Below.refl _ _).drew
                      have HC8 := Lib.hid (HC7.out.later hbd)
                      have HA8 : Hid (Aside wr.drew B0 vo7 lb7 B #[.int .i64 (A : Int), .int .i64 (M : Int), .slice va q vc]) := ⟨(hbd.block B (lt_blk HA7.out.1)).trans HA7.out.1, HA7.out.2⟩
                      clear hbd HC7 HA7 d0 d1 d2 e1 e2
                      generalize wr.drew = W8 at HC8 HA8 ⊢
                      go_wp2_with fail
                      refine (one_any at_ xv HC8.out ⟨t2, t3⟩ (by omega) HBd.out).mono ?_
                      rintro e W9 ⟨rfl, vo9, lb9, hc9, hf9⟩
                      have HC9 := Lib.hid hc9
                      have HA9 := Lib.hid (HA8.out.on hf9)
                      clear hc9 hf9 HC8 HA8 HBd
                      go_wp2_with fail
                      go_roundw
                      case rel =>
                        refine ⟨j + 1, vo9, lb9, by go_num, by rw [HXL.out]; omega, ?_, HA9.out⟩
                        rw [HT.out, ← List.append_assoc, CompM.canonR_snoc]
                        exact HC9.out
                      case measure => simp [intOf]; omega
                    · obtain rfl : j = M := by omega
                      have hc7 := HC7.out
                      rw [List.take_of_length_le (by rw [HXL.out]; exact Nat.le_refl _)] at hc7
                      have HC8 := Lib.hid hc7
                      clear hc7 HC7
                      go_wp2_with fail
                      go_roundw
                      case rel =>
                        refine ⟨k2 + 1, vo7, lb7, _, by go_num, by rw [HLn'.out]; omega, ?_, HC8.out⟩
                        rw [← HU2.out, HP.out]
                        simp
                      case measure => simp [intOf]; omega
            · have hdr2 : l'.drop k2 = [] := List.drop_eq_nil_of_le (by rw [HLn'.out]; omega)
              have hu2 := HU2.out
              rw [hdr2] at hu2
              simp only [CompM.srcs2, List.append_nil] at hu2
              subst hu2
              have k0 := cell_blk HC.out.c0
              obtain ⟨ar, cr, rfl, hos⟩ := HC.out.o.out.os
              have HJ : Hid ((CompM.canonR (CompM.srcs2 Mm l')).reverse = CompM.joined l l') := by show _ = _; unfold CompM.joined; rw [HMM.out]
              rw [HJ.out] at hos k0
              have HOS := Lib.hid hos
              have HBW := Lib.hid (below_then HR0.out HC.out.below)
              clear hos hdr2
              generalize (CompM.joined l l').length = nr at *
              obtain ⟨E3, hE3⟩ : ∃ E, DeltaM.check (CompM.joined l l') old s = E := ⟨_, rfl⟩
              have hc3 := checkOps_any ar nr cr (CompM.joined l l') old s
              rw [hE3] at hc3
              have HC3 := Lib.hid hc3
              have HE3 := Lib.hid hE3
              clear hc3 hE3
              go_wp2_with fail
              refine (HC3.out _ HOS.out).mono ?_
              rintro e W9 ⟨rfl, b9⟩
              have k9 := cell_later b9 k0
              have HOS9 := Lib.hid (HOS.out.later b9)
              have HB9 := Lib.hid (below_then HBW.out b9)
              clear b9 k0 HOS
              by_cases h3 : E3 = 0
              · subst h3
                have HK := Lib.hid (CompM.composed_0 HE1.out HE2.out HE3.out)
                go_wp2_with fail
                go_ret2
                exact ⟨ar, nr, cr, tup_a (by rw [HK.out]), by rw [HK.out]; exact HOS9.out, HB9.out⟩
              · have HK := Lib.hid (CompM.composed_3 HE1.out HE2.out HE3.out h3)
                have hne : (E3 != 0) = true := by simp [h3]
                go_wp2_with fail
                go_ret2
                exact ⟨none, 0, 0, tup_a (by rw [HK.out]), by rw [HK.out]; exact OS.nil_ _, HB9.out⟩
    · have HK := Lib.hid (CompM.composed_2 HE1.out HE2.out h2)
      have hne : (E2 != 0) = true := by simp [h2]
      go_enter Try.func46, Try.ntmps46
      go_wp2_with fail
      refine (HC1.out _ HL.out).mono ?_
      rintro e W0 ⟨rfl, b0⟩
      go_wp2_with fail
      refine (HC2.out _ (HL'.out.later b0)).mono ?_
      rintro e W1 ⟨rfl, b1⟩
      have b2 := below_then b0 b1
      go_wp2_with fail
      go_ret2
      exact ⟨none, 0, 0, tup_a (by rw [HK.out]), by rw [HK.out]; exact OS.nil_ _, b2⟩
  · have HK := Lib.hid (CompM.composed_1 (second := l') (s := s) HE1.out h1)
    have hne : (E1 != 0) = true := by simp [h1]
    go_enter Try.func46, Try.ntmps46
    go_wp2_with fail
    refine (HC1.out _ HL.out).mono ?_
    rintro e W0 ⟨rfl, b0⟩
    go_wp2_with fail
    go_ret2
    exact ⟨none, 0, 0, tup_a (by rw [HK.out]), by rw [HK.out]; exact OS.nil_ _, b0⟩
end Go.Proofs.Ytmpmaljkmfgagaa
