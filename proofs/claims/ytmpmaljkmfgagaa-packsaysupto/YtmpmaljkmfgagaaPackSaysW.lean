/-
  The walk of the law PackSays.
-/
import Derived.Test.YtmpmaljkmfgagaaPackedFact
import Derived.Test.YtmpmaljkmfgagaaUnpacked
namespace Go.Proofs.Ytmpmaljkmfgagaa
open Go.RowKit

set_option maxRecDepth 100000 in
set_option maxHeartbeats 1000000 in
theorem packSays_walk (a0 : Option Addr) (len0 cap0 : Nat) (l0 : List Int) (most : Int) (w : World) (w0 : BS w a0 len0 cap0 l0) (s0 : cap0 ≤ 1048576) :
    Calls Try.prog 6 #[.slice a0 len0 cap0, .int .i64 most] w fun e w' => e = .returned (.bool true) ∧ Below w.heap.size w w' := by
  have hle := w0.le
  go_enter Try.func6, Try.ntmps6
  go_wp2_with fail
  refine (unpack_any a0 len0 cap0 l0 most _ w0 (by omega)).mono ?_
  rintro e W1 ⟨r, a1, n1, c1, hu, rfl, s1, hb1⟩
  go_wp2_with fail
  refine (unpacked_any a0 len0 cap0 l0 most _ (w0.later hb1) (by omega)).mono ?_
  rintro e W2 ⟨r2, a2, n2, c2, hu2, rfl, s2, hb2⟩
  obtain rfl := hu.det _ hu2
  replace s1 := s1.later hb2
  replace hb2 := below_then hb1 hb2
  clear hu hu2 hb1
  go_wp2_with fail
  refine (packedFact_any _).mono ?_
  rintro e W3 ⟨rfl, hb3⟩
  replace s1 := s1.later hb3
  replace s2 := s2.later hb3
  replace hb3 := below_then hb2 hb3
  clear hb2
  go_wp2_with fail
  refine (pack_any a0 len0 cap0 l0 _ (w0.later hb3) (by omega)).mono ?_
  rintro e W4 ⟨o, a4, n4, c4, hp, rfl, s4, hb4⟩
  replace s1 := s1.later hb4
  replace s2 := s2.later hb4
  replace hb4 := below_then hb3 hb4
  clear hb3
  go_wp2_with fail
  refine (packed_any a0 len0 cap0 l0 _ (w0.later hb4) (by omega)).mono ?_
  rintro e W5 ⟨o5, a5, n5, c5, hp5, rfl, s5, hb5⟩
  obtain rfl := hp.det _ hp5
  replace s1 := s1.later hb5
  replace s2 := s2.later hb5
  replace s4 := s4.later hb5
  replace hb5 := below_then hb4 hb5
  clear hb4 hp hp5
  go_wp2_with fail
  refine (eqBytes_same a4 a5 n4 c4 n5 c5 o _ s4 s5).mono ?_
  rintro e w' ⟨rfl, rfl⟩
  have hbeq : (r.2 == r.2) = true := by simp
  go_wp2_with fail
  refine (eqBytes_same a1 a2 n1 c1 n2 c2 r.1 _ s1 s2).mono ?_
  rintro e w' ⟨rfl, rfl⟩
  go_wp2_with fail
  go_ret
  exact ⟨rfl, hb5⟩
end Go.Proofs.Ytmpmaljkmfgagaa
