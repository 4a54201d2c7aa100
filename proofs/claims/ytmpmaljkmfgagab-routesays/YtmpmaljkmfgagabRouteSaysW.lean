/-
  The walk of the law RouteSays.
-/
import Derived.Test.YtmpmaljkmfgagabRouted
import Derived.Test.YtmpmaljkmfgagabCheckEd
import Derived.Test.YtmpmaljkmfgagabBestWay
namespace Go.Proofs.Ytmpmaljkmfgagab
open Go.RowKit

set_option maxRecDepth 100000 in
set_option maxHeartbeats 1000000 in
theorem routeSays_walk (HBst : BestRC) (HCk : CheckRC) (a0 : Option Addr) (len0 cap0 : Nat) (l : List RouteM.EdR) (fr to : Int) (w : World) (w0 : ES w a0 len0 cap0 l) (w1 : I64 fr) (w2 : I64 to) :
    Calls Try.prog 9 #[.slice a0 len0 cap0, .int .i64 fr, .int .i64 to] w fun e w' => e = .returned (.bool true) ∧ Below w.heap.size w w' := by
  have HFact := Lib.hid (routed_any HBst)
  replace HBst := Lib.hid HBst
  replace HCk := Lib.hid HCk
  have HLn := Lib.hid w0.len
  unfold I64 at w1 w2
  go_enter Try.func9, Try.ntmps9
  go_wp2_with fail
  refine (HBst.out _ _ _ l fr to _ w0).mono ?_
  rintro e W1 ⟨p, N, err, a1, n1, c1, hr, rfl, s1, b1⟩
  have HR := Lib.hid hr
  have HS := Lib.hid s1.len
  replace w0 := w0.later b1
  clear hr
  go_wp2_with fail
  refine (checkEdges_any _ _ _ l _ w0).mono ?_
  rintro e W2 ⟨rfl, c2⟩
  obtain ⟨E, hE⟩ : ∃ E, RouteM.check l = E := ⟨_, rfl⟩
  have HE := Lib.hid hE
  rw [hE]
  clear hE
  replace w0 := w0.later c2
  replace s1 := s1.later c2
  replace b1 := below_then b1 c2
  clear c2
  go_wp2_with fail
  refine (HFact.out _).mono ?_
  rintro e W3 ⟨rfl, c3⟩
  replace w0 := w0.later c3
  replace s1 := s1.later c3
  replace b1 := below_then b1 c3
  clear c3
  go_wp2_with fail
  refine (HCk.out _ _ _ l _ w0).mono ?_
  rintro e W4 ⟨rfl, c4⟩
  rw [HE.out]
  replace w0 := w0.later c4
  replace s1 := s1.later c4
  replace b1 := below_then b1 c4
  clear c4
  have hee : (E != E) = false := by simp
  by_cases hE0 : E = 0
  · subst hE0
    by_cases r1 : fr < 1
    · obtain ⟨rfl, rfl, rfl⟩ := HR.out.range HE.out (by unfold RouteM.inV; omega)
      obtain rfl : n1 = 0 := HS.out.symm
      clear HR
      go_wp2_with fail
      go_ret
      exact ⟨rfl, b1⟩
    · by_cases r2 : 30 < fr
      · obtain ⟨rfl, rfl, rfl⟩ := HR.out.range HE.out (by unfold RouteM.inV; omega)
        obtain rfl : n1 = 0 := HS.out.symm
        clear HR
        go_wp2_with fail
        go_ret
        exact ⟨rfl, b1⟩
      · by_cases r3 : to < 1
        · obtain ⟨rfl, rfl, rfl⟩ := HR.out.range HE.out (by unfold RouteM.inV; omega)
          obtain rfl : n1 = 0 := HS.out.symm
          clear HR
          go_wp2_with fail
          go_ret
          exact ⟨rfl, b1⟩
        · by_cases r4 : 30 < to
          · obtain ⟨rfl, rfl, rfl⟩ := HR.out.range HE.out (by unfold RouteM.inV; omega)
            obtain rfl : n1 = 0 := HS.out.symm
            clear HR
            go_wp2_with fail
            go_ret
            exact ⟨rfl, b1⟩
          · obtain ⟨F, rfl⟩ : ∃ F : Nat, fr = F := ⟨fr.toNat, by omega⟩
            obtain ⟨T, rfl⟩ : ∃ T : Nat, to = T := ⟨to.toNat, by omega⟩
            obtain ⟨k60, hok⟩ := RouteM.check_ok HE.out
            have HIn : Hid (RouteM.inV F ∧ RouteM.inV T) := by show _ ∧ _; unfold RouteM.inV; omega
            have hF : 1 ≤ F ∧ F ≤ 30 := by omega
            have hT : 1 ≤ T ∧ T ≤ 30 := by omega
            have HBW := Lib.hid (fun W h => bestWay_any a0 len0 cap0 l F T W h (by rw [← HLn.out]; exact k60) hok hF hT)
            clear hok k60
            go_wp2_with fail
            refine (HBW.out _ w0).mono ?_
            rintro e W5 ⟨c5, hres⟩
            replace s1 := s1.later c5
            replace b1 := below_then b1 c5
            clear c5 w0 HBW
            rcases hres with ⟨rfl, hno⟩ | ⟨a2, n2, c2, q, M, rfl, s2, hbst⟩
            · obtain ⟨rfl, rfl, rfl⟩ := HR.out.none HE.out HIn.out hno
              obtain rfl : n1 = 0 := HS.out.symm
              clear HR hno
              go_wp2_with fail
              go_ret
              exact ⟨rfl, b1⟩
            · obtain ⟨rfl, rfl, rfl⟩ := HR.out.best HE.out HIn.out hbst
              clear HR hbst
              have hNN : (N == N) = true := by simp
              go_wp2_with fail
              refine (eqInts_any _ _ _ _ _ _ _ _ _ s1 s2).mono ?_
              rintro e W6 ⟨rfl, hd6⟩
              rw [decide_eq_true (rfl : p = p)]
              replace b1 := below_then b1 hd6.below
              go_wp2_with fail
              go_ret
              exact ⟨rfl, b1⟩
  · have hb1 : (E == 0) = false := by simp [hE0]
    have hb2 : (E != 0) = true := by simp [hE0]
    have hb3 : (E == E) = true := by simp
    obtain ⟨rfl, rfl, he⟩ := HR.out.bad (by rw [HE.out]; exact hE0)
    rw [HE.out] at he
    subst he
    obtain rfl : n1 = 0 := HS.out.symm
    clear HR
    go_wp2_with fail
    go_ret
    exact ⟨rfl, b1⟩
end Go.Proofs.Ytmpmaljkmfgagab
