/-
  The law RouteLeast, walked over what is asked of package route.
-/
import Derived.Test.YtmpmaljkmfgagabRouteMath4
import Derived.Test.YtmpmaljkmfgagabRouted
import Derived.Test.YtmpmaljkmfgagabCutN
import Derived.Test.YtmpmaljkmfgagabAt
namespace Go.Proofs.Ytmpmaljkmfgagab
open Go.RowKit

/-- the versions of the way, one after the other -/
def LeastRel (l : List RouteM.EdR) (p : List Int) (w : World) (cost i : Value) (wr : World) : Prop :=
  ∃ (I : Nat) (c : Int), i = .int .i64 I ∧ 1 ≤ I ∧ I ≤ p.length ∧ cost = .int .i64 c ∧ c = RouteM.sumLeast l (p.take I) ∧ 0 ≤ c ∧ c ≤ 1000 * (I : Int) ∧ Below w.heap.size w wr
/-- the edges between two of them -/
def EdgeRel (l : List RouteM.EdR) (u v : Int) (w : World) (least j : Value) (wr : World) : Prop :=
  ∃ (q : Nat) (m : Int), j = .int .i64 q ∧ q ≤ l.length ∧ least = .int .i64 m ∧ 0 ≤ m ∧ m ≤ 1000 ∧ RouteM.least u v (l.drop q) m = RouteM.least u v l 0 ∧ Below w.heap.size w wr
/-- the edges to the last version -/
def ToRel (l : List RouteM.EdR) (w : World) (j : Value) (wr : World) : Prop :=
  ∃ q : Nat, j = .int .i64 q ∧ q ≤ l.length ∧ Below w.heap.size w wr

theorem lt_of_blk {W : World} {g : Nat} {o : Obj} (h : W.heap[g]? = some o) : g < W.heap.size := by
  rcases Nat.lt_or_ge g W.heap.size with hlt | hge
  · exact hlt
  · rw [Array.getElem?_eq_none hge] at h; cases h

set_option maxRecDepth 100000 in
set_option maxHeartbeats 4000000 in
theorem routeLeast_walk (HBst : BestRC) (a0 : Option Addr) (len0 cap0 : Nat) (l : List RouteM.EdR) (fr to k : Int) (w : World) (w0 : ES w a0 len0 cap0 l) :
    Calls Try.prog 10 #[.slice a0 len0 cap0, .int .i64 fr, .int .i64 to, .int .i64 k] w fun e w' => e = .returned (.bool true) ∧ Below w.heap.size w w' := by
  have HFact := Lib.hid (fun W => routed_any HBst W)
  replace HBst := Lib.hid HBst
  have HLn := Lib.hid w0.len
  obtain ⟨F, hF, hF2⟩ := mod_nat fr 29 30 (by omega)
  obtain ⟨T, hT, hT2⟩ := mod_nat to 29 30 (by omega)
  obtain ⟨F1, hF1⟩ : ∃ F1 : Int, 1 + (F : Int) = F1 := ⟨_, rfl⟩
  obtain ⟨T1, hT1⟩ : ∃ T1 : Int, 1 + (T : Int) = T1 := ⟨_, rfl⟩
  have hinF : 1 ≤ F1 ∧ F1 ≤ 30 := by omega
  have hinT : 1 ≤ T1 ∧ T1 ≤ 30 := by omega
  have HInF : Hid (RouteM.inV F1 ∧ RouteM.inV T1) := ⟨hinF, hinT⟩
  go_enter Try.func10, Try.ntmps10
  go_wp2_with fail
  refine (at_any fr 30 _ (by omega) (by omega)).mono ?_
  rintro e W1 ⟨rfl, rfl⟩
  rw [hF]
  go_wp2_with fail
  refine (at_any to 30 _ (by omega) (by omega)).mono ?_
  rintro e W1 ⟨rfl, rfl⟩
  rw [hT]
  go_wp2_with fail
  refine (HBst.out _ _ _ l F1 T1 _ w0).mono ?_
  rintro e W1 ⟨p, N, err, a1, n1, c1, hr, rfl, s1, b1⟩
  have HR := Lib.hid hr
  replace w0 := w0.later b1
  clear hr hF hT
  go_wp2_with fail
  refine (HFact.out _).mono ?_
  rintro e W2 ⟨rfl, b2⟩
  replace w0 := w0.later b2
  replace s1 := s1.later b2
  replace b1 := below_then b1 b2
  clear b2
  by_cases he : err = 0
  · subst he
    obtain ⟨hc, -, hbest⟩ := HR.out.ok
    obtain ⟨h60, hok⟩ := RouteM.check_ok hc
    rw [HLn.out] at h60
    obtain ⟨p1, p2, n1', n2', hmem⟩ := hbest.bound hok hinT
    have HBE := Lib.hid hbest
    have HOK := Lib.hid hok
    have HC := Lib.hid hc
    have HPl := Lib.hid s1.len
    rw [s1.len] at p1 p2
    have HMem := Lib.hid hmem
    have HW0 := Lib.hid w0
    have HS1 := Lib.hid s1
    have HB1 := Lib.hid b1
    clear hbest hok hc hmem HR w0 s1 b1 HFact
    go_wp2_with fail
    go_loopw [12, 13] (fun cost i wr => LeastRel l p W2 cost i wr) (fun _ i _ => n1 - (intOf i).toNat)
    case atStart => exact ⟨1, 0, rfl, Nat.le_refl _, by rw [HPl.out]; exact p1, rfl, by cases hp : p with | nil => rfl | cons x t => simp [RouteM.sumLeast], Int.le_refl _, by simp, Below.refl _ _⟩
    case round =>
      obtain ⟨I, c, rfl, hI1, hI2, rfl, hcs, hc0, hc1, hB⟩ := hrel
      rw [HPl.out] at hI2
      have HCS := Lib.hid hcs
      have HB := Lib.hid hB
      clear hcs hB
      by_cases hlt : I < n1
      · obtain ⟨b, off, rfl, hcell⟩ := (HS1.out.later HB.out).cells (by omega)
        obtain ⟨K, hK⟩ : ∃ K : Nat, (I : Int) - 1 = K := ⟨I - 1, by omega⟩
        have hu := hcell K (by omega)
        have hv := hcell I hlt
        have HAl := Lib.hid (RouteM.along HOK.out HBE.out.1 hI1 (by rw [HPl.out]; exact hlt))
        have HST := Lib.hid (RouteM.sumLeast_take l p I hI1 (by rw [HPl.out]; exact hlt))
        have HLe := Lib.hid (RouteM.least_le (u := p.getD (I - 1) 0) (v := p.getD I 0) HOK.out)
        rw [show I - 1 = K by omega] at HAl HST HLe
        generalize p.getD K 0 = u at hu HAl HST HLe
        generalize p.getD I 0 = v at hv HAl HST HLe
        obtain ⟨Wr, hWr⟩ : ∃ Wr, wr = Wr := ⟨_, rfl⟩
        have HCU : Hid (∀ W, Below wr.heap.size wr W → W.cell? ⟨b, off + K, none⟩ = some (.int .i64 u) ∧ W.cell? ⟨b, off + I, none⟩ = some (.int .i64 v)) := fun W h => ⟨cell_later h hu, cell_later h hv⟩
        clear hcell hu hv hWr
        go_wp2_with fail
        go_loopw [14, 56] (fun least j wq => EdgeRel l u v wr least j wq) (fun _ j _ => len0 - (intOf j).toNat)
        case atStart => exact ⟨0, 0, rfl, Nat.zero_le _, rfl, Int.le_refl _, by omega, rfl, Below.refl _ _⟩
        case round =>
          obtain ⟨q, m, rfl, hq, rfl, hm0, hm1, hle, hBq⟩ := hrel
          rw [HLn.out] at hq
          have HLE := Lib.hid hle
          have HBq := Lib.hid hBq
          clear hle hBq
          by_cases hql : q < len0
          · obtain ⟨b', off', rfl, hcs⟩ := (HW0.out.later (below_then HB.out HBq.out)).cells (by omega)
            obtain ⟨x0, x1, x2, -⟩ := hcs q hql
            have HD := Lib.hid (RouteM.drop_ed l q (by rw [HLn.out]; exact hql))
            have hxn := RouteM.ok_nums HOK.out (e := l.getD q default) (by
              have : l.getD q default ∈ l.drop q := by rw [HD.out]; simp
              exact List.mem_of_mem_drop this)
            generalize l.getD q default = x at x0 x1 x2 HD hxn
            obtain ⟨xf, xt, xc⟩ := x
            simp only at x0 x1 x2 hxn
            have hxc1 := hxn.2.2.1
            have hxc2 := hxn.2.2.2
            have hbl : Below wr.heap.size wr (wr.alloc (.cells #[.int .i64 xf, .int .i64 xt, .int .i64 xc] 63)) := (Below.refl _ _).alloc (Nat.le_refl _) _
            have HB3 := Lib.hid (below_then HBq.out hbl)
            obtain ⟨y0, y1⟩ := HCU.out _ HB3.out
            clear hcs hxn hbl
            by_cases e1 : xf = u
            · subst e1
              have t1 : (xf == xf) = true := by simp
              by_cases e2 : xt = v
              · subst e2
                have t2 : (xt == xt) = true := by simp
                by_cases e3 : m = 0
                · subst e3
                  have HM : Hid (RouteM.least xf xt (⟨xf, xt, xc⟩ :: l.drop (q + 1)) 0 = RouteM.least xf xt (l.drop (q + 1)) xc) := RouteM.least_hit ⟨rfl, rfl, .inl rfl⟩
                  go_wp2_with fail
                  go_quiet (fail)
                  have HB4 := Lib.hid (below_drewN HB3.out nq)
                  go_wp2_with fail
                  go_roundw
                  case rel => exact ⟨q + 1, xc, by go_num, by rw [HLn.out]; omega, rfl, by omega, by omega, by rw [← HLE.out, HD.out, HM.out], HB4.out⟩
                  case measure => simp [intOf]; omega
                · have t3 : (m == 0) = false := by simp [e3]
                  by_cases e4 : xc < m
                  · have HM : Hid (RouteM.least xf xt (⟨xf, xt, xc⟩ :: l.drop (q + 1)) m = RouteM.least xf xt (l.drop (q + 1)) xc) := RouteM.least_hit ⟨rfl, rfl, .inr e4⟩
                    go_wp2_with fail
                    go_quiet (fail)
                    have HB4 := Lib.hid (below_drewN HB3.out nq)
                    go_wp2_with fail
                    go_roundw
                    case rel => exact ⟨q + 1, xc, by go_num, by rw [HLn.out]; omega, rfl, by omega, by omega, by rw [← HLE.out, HD.out, HM.out], HB4.out⟩
                    case measure => simp [intOf]; omega
                  · have HM : Hid (RouteM.least xf xt (⟨xf, xt, xc⟩ :: l.drop (q + 1)) m = RouteM.least xf xt (l.drop (q + 1)) m) := RouteM.least_miss (by simp only; omega)
                    have t4 : decide (xc < m) = false := by simp; omega
                    go_wp2_with fail
                    go_quiet (fail)
                    have HB4 := Lib.hid (below_drewN HB3.out nq)
                    go_wp2_with fail
                    go_roundw
                    case rel => exact ⟨q + 1, m, by go_num, by rw [HLn.out]; omega, rfl, by omega, by omega, by rw [← HLE.out, HD.out, HM.out], HB4.out⟩
                    case measure => simp [intOf]; omega
              · have t2 : (xt == v) = false := by simp [e2]
                have HM : Hid (RouteM.least xf v (⟨xf, xt, xc⟩ :: l.drop (q + 1)) m = RouteM.least xf v (l.drop (q + 1)) m) := RouteM.least_miss (fun h => e2 h.2.1)
                go_wp2_with fail
                go_quiet (fail)
                have HB4 := Lib.hid (below_drewN HB3.out nq)
                go_wp2_with fail
                go_roundw
                case rel => exact ⟨q + 1, m, by go_num, by rw [HLn.out]; omega, rfl, by omega, by omega, by rw [← HLE.out, HD.out, HM.out], HB4.out⟩
                case measure => simp [intOf]; omega
            · have t1 : (xf == u) = false := by simp [e1]
              have HM : Hid (RouteM.least u v (⟨xf, xt, xc⟩ :: l.drop (q + 1)) m = RouteM.least u v (l.drop (q + 1)) m) := RouteM.least_miss (fun h => e1 h.1)
              go_wp2_with fail
              go_quiet (fail)
              have HB4 := Lib.hid (below_drewN HB3.out nq)
              go_wp2_with fail
              go_roundw
              case rel => exact ⟨q + 1, m, by go_num, by rw [HLn.out]; omega, rfl, by omega, by omega, by rw [← HLE.out, HD.out, HM.out], HB4.out⟩
              case measure => simp [intOf]; omega
          · have hdr : l.drop q = [] := List.drop_eq_nil_of_le (by rw [HLn.out]; omega)
            have hme : m = RouteM.least u v l 0 := by rw [← HLE.out, hdr]; rfl
            have hmp : 0 < m := by rw [hme]; exact HAl.out
            have t3 : (m == 0) = false := by simp; omega
            obtain ⟨C, hC⟩ : ∃ C : Int, c + m = C := ⟨_, rfl⟩
            have HB4 := Lib.hid (below_then HB.out HBq.out)
            have HME := Lib.hid hme
            clear hdr hme
            go_wp2_with fail
            go_roundw
            case rel =>
              refine ⟨I + 1, C, by go_num, by omega, by rw [HPl.out]; omega, rfl, ?_, by omega, by omega, HB4.out⟩
              rw [HST.out, ← HCS.out, ← HME.out, hC]
            case measure => simp [intOf]; omega
      · obtain rfl : I = n1 := by omega
        have hcN : c = N := by rw [HCS.out, List.take_of_length_le (by rw [HPl.out]; exact Nat.le_refl _)]; exact HBE.out.least HOK.out
        subst hcN
        have tN : (c != c) = false := by simp
        have tF : (F1 != F1) = false := by simp
        have tT : (T1 != T1) = false := by simp
        obtain ⟨b, off, rfl, hcell⟩ := (HS1.out.later HB.out).cells (by omega)
        obtain ⟨Z, hZ⟩ : ∃ Z : Nat, (I : Int) - 1 = Z := ⟨I - 1, by omega⟩
        have z0 := hcell 0 (by omega)
        rw [RouteM.first_is HBE.out.1, Nat.add_zero] at z0
        have z1 := hcell Z (by omega)
        rw [RouteM.last_is HBE.out.1 (by rw [HPl.out]; omega)] at z1
        have HB9 := Lib.hid HB.out
        clear hcell HCS
        have hI0 : (0 : Int) < (I : Int) := by omega
        have hZI : (Z : Int) < (I : Int) := by omega
        go_wp2_with fail
        go_loopw [117] (fun j wq => ToRel l W2 j wq) (fun j _ => len0 - (intOf j).toNat)
        case atStart => exact ⟨0, rfl, Nat.zero_le _, HB.out⟩
        case round =>
          clear z0 z1 HB
          obtain ⟨q, rfl, hq, hBq⟩ := hrel
          rw [HLn.out] at hq
          have HBq := Lib.hid hBq
          clear hBq
          by_cases hql : q < len0
          · obtain ⟨b', off', rfl, hcs⟩ := (HW0.out.later HBq.out).cells (by omega)
            obtain ⟨x0, x1, x2, -⟩ := hcs q hql
            have HD := Lib.hid (RouteM.drop_ed l q (by rw [HLn.out]; exact hql))
            have hxm : l.getD q default ∈ l := by
              have : l.getD q default ∈ l.drop q := by rw [HD.out]; simp
              exact List.mem_of_mem_drop this
            have hxn := RouteM.ok_nums HOK.out hxm
            generalize l.getD q default = x at x0 x1 x2 HD hxn hxm
            obtain ⟨xf, xt, xc⟩ := x
            simp only at x0 x1 x2 hxn
            have hxc1 := hxn.2.2.1
            have hxc2 := hxn.2.2.2
            have HXf : Hid (RouteM.inV xf) := hxn.1
            have HXm := Lib.hid hxm
            have hbl : Below wr.heap.size wr (wr.alloc (.cells #[.int .i64 xf, .int .i64 xt, .int .i64 xc] 63)) := (Below.refl _ _).alloc (Nat.le_refl _) _
            have HB3 := Lib.hid (below_then HBq.out hbl)
            clear hcs hxn hbl hxm
            by_cases e1 : xt = T1
            · have t1 : (xt != T1) = false := by simp [e1]
              have hblk : (wr.alloc (.cells #[.int .i64 xf, .int .i64 xt, .int .i64 xc] 63)).heap[wr.heap.size]? = some (.cells #[.int .i64 xf, .int .i64 xt, .int .i64 xc] 63 (0, 0)) := by rw [heap_at, if_pos rfl]
              have HBlk := Lib.hid hblk
              have HE1 := Lib.hid e1
              clear hblk e1
              go_wp2_with fail
              refine (HBst.out _ _ _ l F1 xf _ (HW0.out.later HB3.out)).mono ?_
              rintro e W5 ⟨p5, N5, e5, a5, n5, c5, hr5, rfl, -, b5⟩
              have HB5 := Lib.hid (below_then HB3.out b5)
              have HR5 := Lib.hid hr5
              have hz2 := ((b5.block _ (lt_of_blk HBlk.out)).trans HBlk.out)
              have hz3 : W5.cell? ⟨wr.heap.size, 2, none⟩ = some (.int .i64 xc) := by simp [World.cell?, hz2]
              clear hr5 b5 hz2 HBlk
              by_cases e2 : e5 = 0
              · subst e2
                obtain ⟨-, -, hb5⟩ := HR5.out.ok
                obtain ⟨-, -, k1, k2, -⟩ := hb5.bound HOK.out HXf.out
                have hge : c ≤ N5 + xc := by
                  have h1 := HBE.out
                  rw [← HE1.out] at h1
                  exact h1.edge HXm.out hb5
                obtain ⟨S, hS⟩ : ∃ S : Int, N5 + xc = S := ⟨_, rfl⟩
                have t2 : decide (S < c) = false := by simp; omega
                have t3 : ¬ S < c := by omega
                clear hb5
                go_wp2_with fail
                go_roundw
                case rel => exact ⟨q + 1, by go_num, by rw [HLn.out]; omega, HB5.out⟩
                case measure => simp [intOf]; omega
              · obtain ⟨rfl, rfl⟩ := HR5.out.no e2
                have t2 : (e5 == 0) = false := by simp [e2]
                go_wp2_with fail
                go_roundw
                case rel => exact ⟨q + 1, by go_num, by rw [HLn.out]; omega, HB5.out⟩
                case measure => simp [intOf]; omega
            · have t1 : (xt != T1) = true := by simp [e1]
              go_wp2_with fail
              go_roundw
              case rel => exact ⟨q + 1, by go_num, by rw [HLn.out]; omega, HB3.out⟩
              case measure => simp [intOf]; omega
          · obtain ⟨K, hK, hK2⟩ := mod_nat k (I - 1) (I : Int) (by omega)
            have hKI : K < I := by omega
            obtain ⟨b2, off2, e2, hcell⟩ := (HS1.out.later HBq.out).cells (by omega)
            simp only [Option.some.injEq, Addr.mk.injEq, and_true] at e2
            obtain ⟨rfl, rfl⟩ := e2
            have z2 := hcell K hKI
            have HSp := Lib.hid (RouteM.split_at (p := p) (K := K) (by rw [HPl.out]; exact hKI))
            obtain ⟨K1, hK1⟩ : ∃ K1 : Nat, (K : Int) + 1 = K1 := ⟨K + 1, by omega⟩
            have hK1' : K1 = K + 1 := by omega
            have HT1 := Lib.hid (RouteM.take_at (p := p) (K := K) (by rw [HPl.out]; exact hKI))
            have HT2 := Lib.hid (RouteM.drop_at (p := p) (K := K) (by rw [HPl.out]; exact hKI))
            rw [← hK1'] at HT1
            have hvin := HMem.out (p.getD K 0) (by rw [List.getD_eq_getElem?_getD, List.getElem?_eq_getElem (by rw [HPl.out]; exact hKI)]; exact List.getElem_mem _)
            generalize p.getD K 0 = v at z2 HSp hvin HT1 HT2
            have hparts := HBE.out
            rw [HSp.out] at hparts
            obtain ⟨g1, g2, hb1, hb2, hsum⟩ := hparts.parts
            obtain ⟨-, -, k1, k2, -⟩ := hb1.bound HOK.out hvin
            obtain ⟨-, -, k3, k4, -⟩ := hb2.bound HOK.out hinT
            have HV : Hid (RouteM.inV v) := hvin
            have HBB1 := Lib.hid hb1
            have HBB2 := Lib.hid hb2
            have tS : (c == c) = true := by simp
            have hsum' : g1 + g2 = c := hsum.symm
            have hle1 := HS1.out.le
            have hcut1 : ∀ W, (Instr.slice 53 (.slice (some ⟨b, off, none⟩) I c1) none (some (.int .i64 (K1 : Int))) none).run Try.prog W = .ok (.slice (some ⟨b, off, none⟩) K1 c1) W := fun W => run_cutN_h _ I c1 W K1 (by omega)
            have hcut2 : ∀ W, (Instr.slice 53 (.slice (some ⟨b, off, none⟩) I c1) (some (.int .i64 (K : Int))) none none).run Try.prog W = .ok (.slice (cutA (some ⟨b, off, none⟩) c1 K) (I - K) (c1 - K)) W := fun W => run_cutN_l _ I c1 W K (by omega)
            have HN1 := Lib.hid (HS1.out.head K1 (by omega))
            have HN2 := Lib.hid (HS1.out.cut K (by omega))
            rw [HT1.out] at HN1
            rw [HT2.out] at HN2
            generalize cutA (some ⟨b, off, none⟩) c1 K = A2 at hcut2 HN2
            have hKI' : (K : Int) < (I : Int) := by omega
            clear hcell hparts hb1 hb2 hsum hvin HSp HT1 HT2 hle1 hK1'
            go_wp2_with fail
            refine (at_any k (I : Int) _ (by omega) (by omega)).mono ?_
            rintro e W3 ⟨rfl, rfl⟩
            rw [hK]
            go_wp2_with fail
            refine (HBst.out _ _ _ l F1 v _ (HW0.out.later HBq.out)).mono ?_
            rintro e W5 ⟨p5, N5, e5, a5, n5, c5, hr5, rfl, s5, b5⟩
            obtain ⟨rfl, rfl, rfl⟩ := hr5.best HC.out ⟨HInF.out.1, HV.out⟩ HBB1.out
            have HB5 := Lib.hid (below_then HBq.out b5)
            replace z2 := cell_later b5 z2
            clear hr5 b5
            go_wp2_with fail
            refine (HBst.out _ _ _ l v T1 _ (HW0.out.later HB5.out)).mono ?_
            rintro e W6 ⟨p6, N6, e6, a6, n6, c6, hr6, rfl, s6, b6⟩
            obtain ⟨rfl, rfl, rfl⟩ := hr6.best HC.out ⟨HV.out, HInF.out.2⟩ HBB2.out
            have HB6 := Lib.hid (below_then HB5.out b6)
            replace s5 := s5.later b6
            clear hr6 b6 z2
            go_wp2_with fail
            refine (eqInts_any _ _ _ _ _ _ _ _ _ s5 (HN1.out.later HB6.out)).mono ?_
            rintro e W7 ⟨rfl, hd7⟩
            rw [decide_eq_true (rfl : p.take K ++ [v] = p.take K ++ [v])]
            have HB7 := Lib.hid (below_then HB6.out hd7.below)
            replace s6 := s6.later hd7.below
            clear hd7 s5
            go_wp2_with fail
            refine (eqInts_any _ _ _ _ _ _ _ _ _ s6 (HN2.out.later HB7.out)).mono ?_
            rintro e W8 ⟨rfl, hd8⟩
            rw [decide_eq_true (rfl : v :: p.drop (K + 1) = v :: p.drop (K + 1))]
            have HB8 := below_then HB1.out (below_then HB7.out hd8.below)
            go_wp2_with fail
            go_ret
            exact ⟨rfl, HB8⟩
  · have hb2 : (err != 0) = true := by simp [he]
    go_wp2_with fail
    refine (HFact.out _).mono ?_
    rintro e W3 ⟨rfl, b3⟩
    replace b1 := below_then b1 b3
    go_wp2_with fail
    go_ret
    exact ⟨rfl, b1⟩
end Go.Proofs.Ytmpmaljkmfgagab
