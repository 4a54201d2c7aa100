/-
  The law RouteMore, walked over what is asked of package route.
-/
import Derived.Test.YtmpmaljkmfgagabRouteMath3
import Derived.Test.YtmpmaljkmfgagabRevE
import Derived.Test.YtmpmaljkmfgagabAt
namespace Go.Proofs.Ytmpmaljkmfgagab
open Go.RowKit

theorem Try.info_edge3 : (Try.prog.info? 63).map (fun i => i.size) = some 3 := by kernel_rfl
theorem size_run_edge (w : World) : (Go.sizeOf 63).run Try.prog w = .ok 3 w := by
  have h := Try.info_edge3
  cases hi : Try.prog.info? 63 with
  | none => rw [hi] at h; cases h
  | some i0 =>
    rw [hi] at h
    simp at h
    simp [Go.sizeOf, typeInfo, hi, h]
theorem run_cutE_h (a : Option Addr) (n c : Nat) (W : World) (h : Nat) (hh : h ≤ c) : (Instr.slice 52 (.slice a n c) none (some (.int .i64 (h : Int))) none).run Try.prog W = .ok (.slice a h c) W := by
  have ht : Try.prog.underlying 52 = some (.slice (Try.prog.elem 52)) := by simp [Program.elem, Try.underlying52]
  have he : Try.prog.elem 52 = 63 := by simp [Program.elem, Try.underlying52]
  rw [run_slice_h W 52 _ _ _ ht .i64 _ (by omega) (by omega), he, size_run_edge]
  cases a <;> simp [Result.andThen, sliced, Addr.add]
theorem ES.head {w : World} {a : Option Addr} {n c : Nat} {l : List RouteM.EdR} (h : ES w a n c l) (k : Nat) (hk : k ≤ n) : ES w a k c (l.take k) := by
  have h1 := h.len
  have h2 := h.le
  refine ⟨by simp; omega, by omega, h.max, fun hp => ?_, h.none_⟩
  obtain ⟨b, off, rfl, hc⟩ := h.cells (by omega)
  refine ⟨b, off, rfl, fun i hi => ?_⟩
  have := hc i (by omega)
  rwa [show (l.take k).getD i default = l.getD i default by simp [List.getD_eq_getElem?_getD, List.getElem?_take_of_lt hi]]
theorem ES.nums {w : World} {a : Option Addr} {n c : Nat} {l : List RouteM.EdR} (h : ES w a n c l) : ∀ e ∈ l, I64 e.fr ∧ I64 e.to_ ∧ I64 e.cost := by
  intro e he
  obtain ⟨i, hi, rfl⟩ := List.mem_iff_getElem.1 he
  have hlen := h.len
  obtain ⟨b, off, _, hc⟩ := h.cells (by omega)
  obtain ⟨_, _, _, hb⟩ := hc i (by omega)
  rw [List.getD_eq_getElem?_getD, List.getElem?_eq_getElem hi, Option.getD_some] at hb
  exact hb
/-- a row of the caller's own as a slice of edges -/
theorem ES.of_own {w : World} {base : Nat} {a : Option Addr} {n c : Nat} {l : List RouteM.EdR} (h : w.ownsRow base 63 3 (.slice a n c) n (cellsE l)) (hl : l.length = n) (h64 : ∀ e ∈ l, I64 e.fr ∧ I64 e.to_ ∧ I64 e.cost) : ES w a n c l := by
  rcases h.2 with ⟨hv, hn⟩ | ⟨g, cap, cur, hv, _, _, hnc, hcm, _, _⟩
  · simp only [Value.slice.injEq] at hv
    obtain ⟨rfl, rfl, rfl⟩ := hv
    obtain rfl : l = [] := List.eq_nil_of_length_eq_zero hl
    exact ES.nil_ w
  · simp only [Value.slice.injEq, true_and] at hv
    obtain ⟨rfl, rfl⟩ := hv
    refine ⟨hl, hnc, by unfold maxLen at hcm; omega, fun hp => ⟨g, 0, rfl, fun i hi => ?_⟩, fun h => by cases h⟩
    obtain ⟨c0, c1, c2⟩ := cellsE_get l i (by omega)
    have q0 := h.cellAt (i * 3) (by omega)
    have q1 := h.cellAt (i * 3 + 1) (by omega)
    have q2 := h.cellAt (i * 3 + 2) (by omega)
    rw [c0] at q0
    rw [c1] at q1
    rw [c2] at q2
    have hm : l.getD i default ∈ l := by rw [List.getD_eq_getElem?_getD, List.getElem?_eq_getElem (by omega)]; exact List.getElem_mem _
    refine ⟨?_, ?_, ?_, h64 _ hm⟩
    · rw [Nat.zero_add]; exact q0
    · rw [Nat.zero_add]; exact q1
    · rw [Nat.zero_add]; exact q2
theorem revE_nil (w : World) :
    Calls Try.prog 44 #[.slice none 0 0] w fun e w' => e = .returned (.tuple #[]) ∧ w = w' := by
  go_enter Try.func44, Try.ntmps44
  go_wp2_with fail
  go_loopw [2, 3] (fun i j wr => i = .int .i64 0 ∧ j = .int .i64 (-1) ∧ w = wr) (fun _ _ _ => 0)
  case atStart => exact ⟨rfl, rfl, rfl⟩
  case round =>
    obtain ⟨rfl, rfl, rfl⟩ := hrel
    go_wp2_with fail
    go_end0
    exact ⟨rfl, rfl⟩
/-- a row of the caller's own, turned round -/
theorem revE_own (base n : Nat) (a : Option Addr) (cap : Nat) (l : List RouteM.EdR) (w : World) (hl : l.length = n) (hn : n ≤ 60) (ho : w.ownsRow base 63 3 (.slice a n cap) n (cellsE l)) :
    Calls Try.prog 44 #[.slice a n cap] w fun e w' => e = .returned (.tuple #[]) ∧ w'.ownsRow base 63 3 (.slice a n cap) n (cellsE l.reverse) ∧ Below base w w' := by
  rcases ho.2 with ⟨hv, hn0⟩ | ⟨g, cap', cur, hv, _⟩
  · simp only [Value.slice.injEq] at hv
    obtain ⟨rfl, rfl, rfl⟩ := hv
    obtain rfl : l = [] := List.eq_nil_of_length_eq_zero hl
    exact (revE_nil w).mono (fun e w' ⟨h1, h2⟩ => by subst h2; exact ⟨h1, ho, Below.refl _ _⟩)
  · simp only [Value.slice.injEq, true_and] at hv
    obtain ⟨rfl, rfl⟩ := hv
    exact revE_any base g n cap l w hl hn ho

set_option maxRecDepth 100000 in
set_option maxHeartbeats 1000000 in
theorem routeMore_walk (HBst : BestRC) (HCk : CheckRC) (a0 : Option Addr) (len0 cap0 : Nat) (l : List RouteM.EdR) (fr to k : Int) (w : World) (w0 : ES w a0 len0 cap0 l) :
    Calls Try.prog 11 #[.slice a0 len0 cap0, .int .i64 fr, .int .i64 to, .int .i64 k] w fun e w' => e = .returned (.bool true) ∧ Below w.heap.size w w' := by
  have HFact := Lib.hid (fun W => routed_any HBst W)
  replace HBst := Lib.hid HBst
  replace HCk := Lib.hid HCk
  have HLn := Lib.hid w0.len
  have hlen := w0.le
  have hmax := w0.max
  have HN := Lib.hid w0.nums
  obtain ⟨F, hF, hF2⟩ := mod_nat fr 29 30 (by omega)
  obtain ⟨T, hT, hT2⟩ := mod_nat to 29 30 (by omega)
  obtain ⟨F1, hF1⟩ : ∃ F1 : Int, 1 + (F : Int) = F1 := ⟨_, rfl⟩
  obtain ⟨T1, hT1⟩ : ∃ T1 : Int, 1 + (T : Int) = T1 := ⟨_, rfl⟩
  have hinF : 1 ≤ F1 ∧ F1 ≤ 30 := by omega
  have hinT : 1 ≤ T1 ∧ T1 ≤ 30 := by omega
  have HInF : Hid (RouteM.inV F1 ∧ RouteM.inV T1) := ⟨hinF, hinT⟩
  go_enter Try.func11, Try.ntmps11
  go_wp2_with fail
  refine (at_any fr 30 _ (by omega) (by omega)).mono ?_
  rintro e W1 ⟨rfl, rfl⟩
  rw [hF]
  go_wp2_with fail
  refine (at_any to 30 _ (by omega) (by omega)).mono ?_
  rintro e W1 ⟨rfl, rfl⟩
  rw [hT]
  go_wp2_with fail
  refine (HFact.out _).mono ?_
  rintro e W1 ⟨rfl, b1⟩
  replace w0 := w0.later b1
  go_wp2_with fail
  refine (HCk.out _ _ _ l _ w0).mono ?_
  rintro e W2 ⟨rfl, b2⟩
  replace w0 := w0.later b2
  replace b1 := below_then b1 b2
  clear b2
  obtain ⟨E, hE⟩ : ∃ E, RouteM.check l = E := ⟨_, rfl⟩
  rw [hE]
  by_cases hE0 : E = 0
  · subst hE0
    have HE := Lib.hid hE
    obtain ⟨h60, -⟩ := RouteM.check_ok hE
    rw [HLn.out] at h60
    obtain ⟨K, hK, hK2⟩ := mod_nat k len0 ((len0 : Int) + 1) rfl
    have hcut : ∀ W, (Instr.slice 52 (.slice a0 len0 cap0) none (some (.int .i64 (K : Int))) none).run Try.prog W = .ok (.slice a0 K cap0) W := fun W => run_cutE_h a0 len0 cap0 W K (by omega)
    have HC1 : Hid (RouteM.check (l.take K) = 0) := RouteM.check_sub (fun e he => List.mem_of_mem_take he) (by simp; omega) hE
    have HC2 : Hid (RouteM.check l.reverse = 0) := RouteM.check_sub (fun e he => by simpa using he) (by simp) hE
    clear hE
    go_wp2_with fail
    refine (at_any k ((len0 : Int) + 1) _ (by omega) (by omega)).mono ?_
    rintro e W3 ⟨rfl, rfl⟩
    rw [hK]
    go_wp2_with fail
    refine (HBst.out _ _ _ _ F1 T1 _ (w0.head K hK2)).mono ?_
    rintro e W3 ⟨p1, N1, e1, a1, n1, c1, hr1, rfl, s1, b3⟩
    have HR1 := Lib.hid hr1
    have HS1 := Lib.hid s1.len
    replace w0 := w0.later b3
    replace b1 := below_then b1 b3
    clear b3 hr1 s1 hcut
    go_wp2_with fail
    refine (HBst.out _ _ _ l F1 T1 _ w0).mono ?_
    rintro e W4 ⟨p2, N2, e2, a2, n2, c2, hr2, rfl, s2, b4⟩
    have HR2 := Lib.hid hr2
    replace w0 := w0.later b4
    replace b1 := below_then b1 b4
    clear b4 hr2
    go_wp2_with fail
    refine (cloneE_any _ _ _ l _ w0 h60).mono ?_
    rintro e W5 ⟨a5, c5, rfl, ho5, b5⟩
    go_wp2_with fail
    refine (revE_own _ _ _ _ l _ HLn.out h60 ho5).mono ?_
    rintro e W6 ⟨rfl, ho6, b6⟩
    have hes := ES.of_own ho6 (by simp; exact HLn.out) (fun e he => HN.out e (by simpa using he))
    have b56 : Below W4.heap.size W4 W6 := b5.trans b6
    have b7 := below_then b1 b56
    have s2'' := s2.later b56
    clear ho5 ho6 b5 b6 b56 s2 b1
    go_wp2_with fail
    refine (HBst.out _ _ _ l.reverse F1 T1 _ hes).mono ?_
    rintro e W7 ⟨p3, N3, e3, a3, n3, c3, hr3, rfl, s3, b8⟩
    replace b7 := below_then b7 b8
    replace s2'' := s2''.later b8
    obtain ⟨rfl, rfl, rfl⟩ := RouteM.RouteIs.same (fun e => by simp) HE.out HC2.out HR2.out hr3
    clear b8 hr3 hes
    have h1 : (e2 != e2) = false := by simp
    have h2 : (N2 != N2) = false := by simp
    by_cases he1 : e1 = 0
    · subst he1
      obtain ⟨rfl, hle⟩ := RouteM.RouteIs.more (fun e he => List.mem_of_mem_take he) HE.out HR1.out HR2.out
      go_wp2_with fail
      refine (eqInts_any _ _ _ _ _ _ _ _ _ s2'' s3).mono ?_
      rintro e W8 ⟨rfl, hd⟩
      rw [decide_eq_true (rfl : p2 = p2)]
      replace b7 := below_then b7 hd.below
      go_wp2_with fail
      go_ret
      exact ⟨rfl, b7⟩
    · obtain ⟨rfl, rfl⟩ := HR1.out.no he1
      obtain rfl : n1 = 0 := HS1.out.symm
      have h3 : (e1 != 0) = true := by simp [he1]
      go_wp2_with fail
      refine (eqInts_any _ _ _ _ _ _ _ _ _ s2'' s3).mono ?_
      rintro e W8 ⟨rfl, hd⟩
      rw [decide_eq_true (rfl : p2 = p2)]
      replace b7 := below_then b7 hd.below
      go_wp2_with fail
      go_ret
      exact ⟨rfl, b7⟩
  · have hb2 : (E != 0) = true := by simp [hE0]
    go_wp2_with fail
    refine (HFact.out _).mono ?_
    rintro e W3 ⟨rfl, b3⟩
    replace b1 := below_then b1 b3
    go_wp2_with fail
    go_ret
    exact ⟨rfl, b1⟩
end Go.Proofs.Ytmpmaljkmfgagab
