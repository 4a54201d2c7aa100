/-
  Contract of the reference's BestWay: it returns what the document says.
-/
import Derived.Test.YtmpmaljkmfgagabRouteMath2
import Derived.Test.YtmpmaljkmfgagabEdges
import Derived.Test.YtmpmaljkmfgagabInts
namespace Go.Proofs.Ytmpmaljkmfgagab
open Go.RowKit

/-- the memory of BestWay: the costs, the steps -/
structure WaySt (w0 : World) (B : Nat) (C S : List Int) (W : World) : Prop where
  c : IntsAt W B 105 C
  s : IntsAt W (B + 1) 105 S
  below : Below w0.heap.size w0 W
  le : w0.heap.size ≤ B
section
variable {w0 : World} {B : Nat} {C S : List Int} {W W' : World}
theorem WaySt.later (h : WaySt w0 B C S W) (hb : Below W.heap.size W W') : WaySt w0 B C S W' :=
  ⟨(hb.block _ h.c.lt).trans h.c, (hb.block _ h.s.lt).trans h.s, below_then h.below hb, h.le⟩
/-- both are set at a place -/
theorem WaySt.set (h : WaySt w0 B C S W) (i : Nat) (x y : Int) (hC : i < C.length) (hS : i < S.length) :
    W.cell? ⟨B, i, none⟩ = some (.int .i64 (C.getD i 0)) ∧ W.frozen? ⟨B, i, none⟩ = false ∧ (W.setCell ⟨B, i, none⟩ (.int .i64 x)).cell? ⟨B + 1, i, none⟩ = some (.int .i64 (S.getD i 0)) ∧ (W.setCell ⟨B, i, none⟩ (.int .i64 x)).frozen? ⟨B + 1, i, none⟩ = false ∧
      Hid (WaySt w0 B (C.set i x) (S.set i y) ((W.setCell ⟨B, i, none⟩ (.int .i64 x)).setCell ⟨B + 1, i, none⟩ (.int .i64 y))) := by
  have h1 : IntsAt (W.setCell ⟨B, i, none⟩ (.int .i64 x)) (B + 1) 105 S := (Below.heap_setCell W _ _ (B + 1) (by show B + 1 ≠ B; omega)).trans h.s
  have h2 : IntsAt ((W.setCell ⟨B, i, none⟩ (.int .i64 x)).setCell ⟨B + 1, i, none⟩ (.int .i64 y)) B 105 (C.set i x) := (Below.heap_setCell _ _ _ B (by show B ≠ B + 1; omega)).trans (h.c.set x)
  exact ⟨h.c.cell hC, h.c.frozen i, h1.cell hS, h1.frozen i, h2, h1.set y, (h.below.setCell (by show w0.heap.size ≤ B; exact h.le) _).setCell (by show w0.heap.size ≤ B + 1; have := h.le; omega) _, h.le⟩
end
theorem fill_set (k : Nat) (h : k < 31) (x : Int) : (List.replicate k x ++ List.replicate (31 - k) 0).set k x = List.replicate (k + 1) x ++ List.replicate (31 - (k + 1)) 0 := by
  rw [List.set_append_right _ _ (by simp)]
  simp only [List.length_replicate, Nat.sub_self]
  rw [show 31 - k = (31 - (k + 1)) + 1 by omega, List.replicate_succ, List.set_cons_zero, List.replicate_succ', List.append_assoc]
  rfl
/-- the rounds that fill -/
def FillRel (w : World) (B : Nat) (i : Value) (wr : World) : Prop := ∃ k : Nat, i = .int .i64 k ∧ k ≤ 31 ∧ WaySt w B (List.replicate k 1099511627776 ++ List.replicate (31 - k) 0) (List.replicate k 1099511627776 ++ List.replicate (31 - k) 0) wr
/-- the rounds that make better -/
def BetRel (l : List RouteM.EdR) (b : Int) (w : World) (B : Nat) (i : Value) (wr : World) : Prop :=
  ∃ (r : Nat) (t : Int) (A : List Int × List Int), i = .int .i64 r ∧ r ≤ 31 ∧ 0 ≤ t ∧ t ≤ 60 * r ∧ RouteM.Inv l b t A ∧ RouteM.Comp l b r A ∧ WaySt w B A.1 A.2 wr
def EdgRel (l : List RouteM.EdR) (b : Int) (w : World) (B : Nat) (r : Nat) (i : Value) (wr : World) : Prop :=
  ∃ (k : Nat) (t : Int) (A : List Int × List Int), i = .int .i64 k ∧ k ≤ l.length ∧ 0 ≤ t ∧ t ≤ 60 * r + k ∧ RouteM.Inv l b t A ∧ RouteM.Half l b r k A ∧ WaySt w B A.1 A.2 wr
/-- the rounds of the search from the front -/
def WayRel (l : List RouteM.EdR) (from_ to_ : Nat) (C S : List Int) (w : World) (B : Nat) (at_ now : Value) (wr : World) : Prop :=
  ∃ (v : Nat) (pre : List Int) (a : Option Addr) (c : Nat), now = .int .i64 v ∧ at_ = .slice a (pre.length + 1) c ∧ 1 ≤ v ∧ v ≤ 30 ∧ RouteM.g C v < RouteM.far ∧ wr.ownsRow (B + 2) 3 1 (.slice a (pre.length + 1) c) (pre.length + 1) ((pre ++ [(v : Int)]).map (Value.int .i64)) ∧
    (∀ q, RouteM.Best l v to_ q (RouteM.g C v) → RouteM.Best l from_ to_ (pre ++ q) (RouteM.g C from_)) ∧ (pre.length : Int) + RouteM.g S v ≤ 2000 ∧ WaySt w B C S wr
/-- .. and of the lowest version to go on to -/
def LowRel (l : List RouteM.EdR) (C S : List Int) (v : Nat) (w : World) (B : Nat) (at_ : Value) (k1 : Nat) (xs : List Value) (next i : Value) (wr : World) : Prop :=
  ∃ (k m : Nat), i = .int .i64 k ∧ next = .int .i64 m ∧ k ≤ l.length ∧ 1 ≤ m ∧ m ≤ 31 ∧ RouteM.lowest C S v (l.drop k) m = RouteM.lowest C S v l 31 ∧ wr.ownsRow (B + 2) 3 1 at_ k1 xs ∧ WaySt w B C S wr
theorem own_drewN {w : World} {base e s n q : Nat} {v : Value} {xs : List Value} (h : w.ownsRow base e s v n xs) : (w.drewN q).ownsRow base e s v n xs := h
theorem ed_cells {W : World} {D : Nat} {v0 v1 v2 : Value} (h : W.heap[D]? = some (.cells #[v0, v1, v2] 63 (0, 0))) : W.cell? ⟨D, 0, none⟩ = some v0 ∧ W.cell? ⟨D, 1, none⟩ = some v1 ∧ W.cell? ⟨D, 2, none⟩ = some v2 := by
  simp [World.cell?, h]

set_option maxRecDepth 100000 in
set_option maxHeartbeats 2000000 in
theorem bestWay_any (a : Option Addr) (n c : Nat) (l : List RouteM.EdR) (from_ to_ : Nat) (w : World) (hl : ES w a n c l) (hn : n ≤ 60) (hok : RouteM.okAll l) (hf : 1 ≤ from_ ∧ from_ ≤ 30) (ht : 1 ≤ to_ ∧ to_ ≤ 30) :
    Calls Try.prog 40 #[.slice a n c, .int .i64 from_, .int .i64 to_] w fun e w' => Below w.heap.size w w' ∧
      ((e = .returned (.tuple #[.slice none 0 0, .int .i64 0, .bool false]) ∧ RouteM.NoWay l from_ to_) ∨ ∃ a' n' c' p N, e = .returned (.tuple #[.slice a' n' c', .int .i64 N, .bool true]) ∧ NS w' a' n' c' p ∧ RouteM.Best l from_ to_ p N) := by
  obtain ⟨B, hB⟩ : ∃ B, w.heap.size = B := ⟨_, rfl⟩
  have e0 : (w.alloc (.cells #[.int .i64 0, .int .i64 0, .int .i64 0, .int .i64 0, .int .i64 0, .int .i64 0, .int .i64 0, .int .i64 0, .int .i64 0, .int .i64 0, .int .i64 0, .int .i64 0, .int .i64 0, .int .i64 0, .int .i64 0, .int .i64 0, .int .i64 0, .int .i64 0, .int .i64 0, .int .i64 0, .int .i64 0, .int .i64 0, .int .i64 0, .int .i64 0, .int .i64 0, .int .i64 0, .int .i64 0, .int .i64 0, .int .i64 0, .int .i64 0, .int .i64 0] 105)).heap.size = B + 1 := by simp [hB]
  have hst : Hid (WaySt w B (List.replicate 31 0) (List.replicate 31 0) ((w.alloc (.cells #[.int .i64 0, .int .i64 0, .int .i64 0, .int .i64 0, .int .i64 0, .int .i64 0, .int .i64 0, .int .i64 0, .int .i64 0, .int .i64 0, .int .i64 0, .int .i64 0, .int .i64 0, .int .i64 0, .int .i64 0, .int .i64 0, .int .i64 0, .int .i64 0, .int .i64 0, .int .i64 0, .int .i64 0, .int .i64 0, .int .i64 0, .int .i64 0, .int .i64 0, .int .i64 0, .int .i64 0, .int .i64 0, .int .i64 0, .int .i64 0, .int .i64 0] 105)).alloc (.cells #[.int .i64 0, .int .i64 0, .int .i64 0, .int .i64 0, .int .i64 0, .int .i64 0, .int .i64 0, .int .i64 0, .int .i64 0, .int .i64 0, .int .i64 0, .int .i64 0, .int .i64 0, .int .i64 0, .int .i64 0, .int .i64 0, .int .i64 0, .int .i64 0, .int .i64 0, .int .i64 0, .int .i64 0, .int .i64 0, .int .i64 0, .int .i64 0, .int .i64 0, .int .i64 0, .int .i64 0, .int .i64 0, .int .i64 0, .int .i64 0, .int .i64 0] 105))) := by
    refine ⟨?_, ?_, ((Below.refl _ _).alloc (Nat.le_refl _) _).alloc (by rw [e0]; omega) _, by omega⟩
    · unfold IntsAt
      rw [heap_at, if_neg (by rw [e0]; omega), heap_at, if_pos hB.symm]
      rfl
    · unfold IntsAt
      rw [heap_at, if_pos e0.symm]
      rfl
  have HL := Lib.hid hl
  have HLn := Lib.hid hl.len
  have HOK := Lib.hid hok
  have HT : Hid (1 ≤ (to_ : Int) ∧ (to_ : Int) ≤ 30) := by show _ ∧ _; omega
  clear hl hok e0
  go_enter Try.func40, Try.ntmps40
  go_wp2_with fail
  generalize (w.alloc (.cells #[.int .i64 0, .int .i64 0, .int .i64 0, .int .i64 0, .int .i64 0, .int .i64 0, .int .i64 0, .int .i64 0, .int .i64 0, .int .i64 0, .int .i64 0, .int .i64 0, .int .i64 0, .int .i64 0, .int .i64 0, .int .i64 0, .int .i64 0, .int .i64 0, .int .i64 0, .int .i64 0, .int .i64 0, .int .i64 0, .int .i64 0, .int .i64 0, .int .i64 0, .int .i64 0, .int .i64 0, .int .i64 0, .int .i64 0, .int .i64 0, .int .i64 0] 105)).alloc (.cells #[.int .i64 0, .int .i64 0, .int .i64 0, .int .i64 0, .int .i64 0, .int .i64 0, .int .i64 0, .int .i64 0, .int .i64 0, .int .i64 0, .int .i64 0, .int .i64 0, .int .i64 0, .int .i64 0, .int .i64 0, .int .i64 0, .int .i64 0, .int .i64 0, .int .i64 0, .int .i64 0, .int .i64 0, .int .i64 0, .int .i64 0, .int .i64 0, .int .i64 0, .int .i64 0, .int .i64 0, .int .i64 0, .int .i64 0, .int .i64 0, .int .i64 0] 105) = W0 at hst ⊢
  go_loopw [21] (fun i wr => FillRel w B i wr) (fun i _ => 31 - (intOf i).toNat)
  case atStart => exact ⟨0, rfl, by omega, hst.out⟩
  case round =>
    clear hst
    obtain ⟨k, rfl, hk, hw⟩ := hrel
    by_cases hlt : k < 31
    · obtain ⟨r1, r2, r3, r4, HW⟩ := hw.set k 1099511627776 1099511627776 (by simp; omega) (by simp; omega)
      rw [fill_set k hlt] at HW
      clear hw
      go_wp2_with fail
      go_roundw
      case rel => exact ⟨k + 1, by go_num, by omega, HW.out⟩
      case measure => simp [intOf]; omega
    · obtain rfl : k = 31 := by omega
      obtain ⟨r1, r2, r3, r4, HW⟩ := hw.set to_ 0 0 (by simp; omega) (by simp; omega)
      clear hw
      have hI := RouteM.Inv.start l HT.out
      have hC := RouteM.Comp.start l HT.out
      rw [Int.toNat_natCast] at hI hC
      simp only [Nat.sub_self, List.replicate_zero, List.append_nil] at HW
      have HI := Lib.hid hI
      have HC := Lib.hid hC
      clear hI hC
      have hd1 : decide (to_ < 31) = true := by simp; omega
      have hd2 : to_ < 31 := by omega
      go_wp2_with fail
      generalize (wr.setCell ⟨B, to_, none⟩ (.int .i64 0)).setCell ⟨B + 1, to_, none⟩ (.int .i64 0) = W1 at HW ⊢
      clear r1 r2 r3 r4
      go_loopw [33] (fun i wr => BetRel l to_ w B i wr) (fun i _ => 31 - (intOf i).toNat)
      case atStart => exact ⟨0, 0, _, rfl, by omega, by omega, by omega, HI.out, HC.out, HW.out⟩
      case round =>
        clear HW HI HC
        obtain ⟨r, t, A, rfl, hr, ht0, ht1, hI, hC, hW⟩ := hrel
        have HI := Lib.hid hI
        have HC := Lib.hid hC
        have HW := Lib.hid hW
        clear hI hC hW
        by_cases hr31 : r < 31
        · have hr31i : (r : Int) < 31 := by omega
          go_wp2_with fail
          go_loopw [37] (fun i wr => EdgRel l to_ w B r i wr) (fun i _ => n - (intOf i).toNat)
          case atStart => exact ⟨0, t, A, rfl, Nat.zero_le _, ht0, by omega, HI.out, .start HC.out, HW.out⟩
          case round =>
            clear HW HI HC ht0 ht1 A t
            obtain ⟨k, t, A, rfl, hk, ht0, ht1, hI, hH, hW⟩ := hrel
            rw [HLn.out] at hk
            have HI := Lib.hid hI
            have HH := Lib.hid hH
            clear hI hH
            by_cases hkn : k < n
            · obtain ⟨b, off, rfl, hcs⟩ := (HL.out.later hW.below).cells (by omega)
              obtain ⟨q0, q1, q2, -⟩ := hcs k hkn
              have hkl : k < l.length := by rw [HLn.out]; exact hkn
              obtain ⟨HN1, HN2⟩ := HH.out.next HOK.out HT.out (by omega) HI.out hkl
              have nums := RouteM.ok_nums HOK.out (show l.getD k default ∈ l by rw [List.getD_eq_getElem?_getD, List.getElem?_eq_getElem hkl]; exact List.getElem_mem hkl)
              have l1 := HI.out.l1
              have l2 := HI.out.l2
              have bnd := HI.out.at_
              generalize l.getD k default = o at q0 q1 q2 HN1 HN2 nums
              obtain ⟨F0, T0, K⟩ := o
              simp only at q0 q1 q2 nums
              obtain ⟨F, rfl⟩ : ∃ F : Nat, F0 = F := ⟨F0.toNat, by omega⟩
              obtain ⟨T, rfl⟩ : ∃ T : Nat, T0 = T := ⟨T0.toNat, by omega⟩
              have HNx := Lib.hid HN1
              have HNi := Lib.hid HN2
              clear HN1 HN2 hcs HI HH
              obtain ⟨C, S⟩ := A
              simp only at l1 l2 hW bnd
              have bT := bnd T (by omega)
              have bF := bnd F (by omega)
              simp only [RouteM.g, Int.toNat_natCast] at bT bF
              have cT : 0 ≤ C.getD T 0 ∧ C.getD T 0 ≤ 1099511627776 ∧ 0 ≤ S.getD T 0 ∧ S.getD T 0 ≤ 1099511627776 := by
                rcases bT with ⟨h1, h2⟩ | ⟨h1, h2, _⟩
                · unfold RouteM.far at h1 h2; omega
                · omega
              have cF : 0 ≤ C.getD F 0 ∧ C.getD F 0 ≤ 1099511627776 ∧ 0 ≤ S.getD F 0 ∧ S.getD F 0 ≤ 1099511627776 := by
                rcases bF with ⟨h1, h2⟩ | ⟨h1, h2, _⟩
                · unfold RouteM.far at h1 h2; omega
                · omega
              clear bT bF bnd
              obtain ⟨D, hD⟩ : ∃ D, wr.heap.size = D := ⟨_, rfl⟩
              have hbl : Below wr.heap.size wr (wr.alloc (.cells #[.int .i64 (F : Int), .int .i64 (T : Int), .int .i64 K] 63)) := (Below.refl _ _).alloc (Nat.le_refl _) _
              have hD1 : (wr.alloc (.cells #[.int .i64 (F : Int), .int .i64 (T : Int), .int .i64 K] 63)).heap[D]? = some (.cells #[.int .i64 (F : Int), .int .i64 (T : Int), .int .i64 K] 63 (0, 0)) := by rw [heap_at, if_pos hD.symm]
              have hW2 := hW.later hbl
              have tc := hW2.c.cell (i := T) (by omega)
              have ts := hW2.s.cell (i := T) (by omega)
              obtain ⟨d0, d1, d2⟩ := ed_cells hD1
              have hBD : B + 1 < D := by have := hW.s.lt; omega
              clear hbl
              have u1 : (T : Int) < 31 := by omega
              have u2 : T < 31 := by omega
              have u3 : decide (T < 31) = true := by simp; omega
              have v1 : (F : Int) < 31 := by omega
              have v2 : F < 31 := by omega
              have v3 : decide (F < 31) = true := by simp; omega
              clear hW
              go_wp2_with fail
              generalize wr.alloc (.cells #[.int .i64 (F : Int), .int .i64 (T : Int), .int .i64 K] 63) = W2 at hD1 hW2 tc ts d0 d1 d2 ⊢
              obtain ⟨c1, hc1⟩ : ∃ c1, C.getD T 0 + K = c1 := ⟨_, rfl⟩
              obtain ⟨s1, hs1⟩ : ∃ s1, S.getD T 0 + 1 = s1 := ⟨_, rfl⟩
              have hw1 : IntKind.i64.wrap c1 = c1 := IntWalk.i64_in _ (by omega)
              have hw2 : IntKind.i64.wrap s1 = s1 := IntWalk.i64_in _ (by omega)
              have HRx : Hid (RouteM.relax (C, S) ⟨F, T, K⟩ = if c1 < C.getD F 0 ∨ (c1 = C.getD F 0 ∧ s1 < S.getD F 0) then (C.set F c1, S.set F s1) else (C, S)) := by
                show _ = _
                rw [← hc1, ← hs1]
                rfl
              have tcF := hW2.c.cell (i := F) (by omega)
              have tsF := hW2.s.cell (i := F) (by omega)
              have HW2 := Lib.hid hW2
              have HD1 := Lib.hid hD1
              generalize C.getD T 0 = cTv at tc cT hc1
              generalize S.getD T 0 = sTv at ts cT hs1
              go_quiet (fail)
              have HW3 := Lib.hid (HW2.out.later (below_drewN (Below.refl _ _) nq))
              have HD3 : Hid ((W2.drewN nq).heap[D]? = some (.cells #[.int .i64 (F : Int), .int .i64 (T : Int), .int .i64 K] 63 (0, 0))) := HD1.out
              clear hW2 hD1 HW2 HD1 tc ts tcF tsF d0 d1 d2 q0 q1 q2
              generalize W2.drewN nq = W3 at HW3 HD3 ⊢
              obtain ⟨d0, d1, d2⟩ := ed_cells HD3.out
              have tcF := HW3.out.c.cell (i := F) (by omega)
              have tsF := HW3.out.s.cell (i := F) (by omega)
              obtain ⟨cv, hcv⟩ : ∃ cv, C.getD F 0 = cv := ⟨_, rfl⟩
              obtain ⟨sv, hsv⟩ : ∃ sv, S.getD F 0 = sv := ⟨_, rfl⟩
              have HCV := Lib.hid hcv
              have HSV := Lib.hid hsv
              rw [hcv] at tcF HRx
              rw [hsv] at tsF HRx
              clear hcv hsv cF cT hc1 hs1
              obtain ⟨x1, x2, x3, x4, HW5⟩ := HW3.out.set F c1 s1 (by omega) (by omega)
              rw [HCV.out] at x1
              rw [HSV.out] at x3
              have hdf : (W3.setCell ⟨B, F, none⟩ (.int .i64 c1)).cell? ⟨D, 0, none⟩ = some (.int .i64 (F : Int)) := by
                have : (W3.setCell ⟨B, F, none⟩ (.int .i64 c1)).heap[D]? = W3.heap[D]? := Below.heap_setCell W3 _ _ D (by show D ≠ B; omega)
                simp only [World.cell?, this, HD3.out]
                rfl
              by_cases hb1 : c1 < cv
              · have HRe : Hid (RouteM.relax (C, S) ⟨F, T, K⟩ = (C.set F c1, S.set F s1)) := by show _ = _; rw [HRx.out, if_pos (.inl hb1)]
                rw [HRe.out] at HNx HNi
                go_wp2_with fail
                go_region
                all_goals
                  go_wp2_with fail
                  go_roundw
                  case rel => exact ⟨k + 1, t + 1, _, by go_num, by rw [HLn.out]; omega, by omega, by omega, HNi.out, HNx.out, HW5.out.later (Below.refl _ _).drew⟩
                  case measure => simp [intOf]; omega
              · by_cases hb2 : c1 = cv ∧ s1 < sv
                · obtain ⟨rfl, hb3⟩ := hb2
                  have HRe : Hid (RouteM.relax (C, S) ⟨F, T, K⟩ = (C.set F c1, S.set F s1)) := by show _ = _; rw [HRx.out, if_pos (.inr ⟨rfl, hb3⟩)]
                  rw [HRe.out] at HNx HNi
                  have hee : (c1 == c1) = true := by simp
                  go_wp2_with fail
                  go_region
                  all_goals
                    go_wp2_with fail
                    go_roundw
                    case rel =>
                      (repeat apply Exists.intro)
                      exact ⟨⟨k + 1, t + 1, _, by go_num, by rw [HLn.out]; omega, by omega, by omega, HNi.out, HNx.out, HW5.out.later (Below.refl _ _).drew⟩, rfl⟩
                    case measure => simp [intOf]; omega
                · have HRe : Hid (RouteM.relax (C, S) ⟨F, T, K⟩ = (C, S)) := by show _ = _; rw [HRx.out, if_neg (by omega)]
                  rw [HRe.out] at HNx HNi
                  clear x1 x2 x3 x4 HW5 hdf
                  by_cases hb4 : c1 = cv
                  · subst hb4
                    have hb5 : ¬ s1 < sv := fun h => hb2 ⟨rfl, h⟩
                    have hee : (c1 == c1) = true := by simp
                    clear hb2
                    go_wp2_with fail
                    go_roundw
                    case rel => exact ⟨k + 1, t + 1, _, by go_num, by rw [HLn.out]; omega, by omega, by omega, HNi.out, HNx.out, HW3.out⟩
                    case measure => simp [intOf]; omega
                  · have hee : (c1 == cv) = false := by simp [hb4]
                    clear hb2
                    go_wp2_with fail
                    go_roundw
                    case rel => exact ⟨k + 1, t + 1, _, by go_num, by rw [HLn.out]; omega, by omega, by omega, HNi.out, HNx.out, HW3.out⟩
                    case measure => simp [intOf]; omega
            · have HCN : Hid (RouteM.Comp l to_ (r + 1) A) := by
                show RouteM.Comp _ _ _ _
                refine RouteM.Half.done ?_
                have hkl : k = l.length := by rw [HLn.out]; omega
                rw [← hkl]
                exact HH.out
              go_wp2_with fail
              go_roundw
              case rel => exact ⟨r + 1, t, A, by go_num, by omega, ht0, by omega, HI.out, HCN.out, hW⟩
              case measure => simp [intOf]; omega
        · obtain rfl : r = 31 := by omega
          obtain ⟨C, S⟩ := A
          have hE : RouteM.Exact l to_ C S := RouteM.Exact.of HOK.out HT.out (t := t) (by omega) HI.out (fun v p c hw hp => HC.out v p c hw (by omega))
          have HE := Lib.hid hE
          have l1 := hE.l1
          have l2 := hE.l2
          have tc := HW.out.c.cell (i := from_) (by simp only; omega)
          simp only at tc
          have u1 : (from_ : Int) < 31 := by omega
          have u2 : from_ < 31 := by omega
          have u3 : decide (from_ < 31) = true := by simp; omega
          obtain ⟨N, hN⟩ : ∃ N, C.getD from_ 0 = N := ⟨_, rfl⟩
          have HN : Hid (RouteM.g C from_ = N) := by show _ = _; rw [← hN]; simp [RouteM.g]
          rw [hN] at tc
          clear hE HI HC
          by_cases hfar : 1099511627776 ≤ N
          · have HNW : Hid (RouteM.NoWay l from_ to_) := HE.out.noWay HOK.out HT.out (by rw [HN.out]; exact hfar)
            go_wp2_with fail
            go_ret3
            exact ⟨by have := HW.out.below; first | exact this | (rw [hB] at this; exact this), .inl ⟨rfl, HNW.out⟩⟩
          · have hba : Below wr.heap.size wr (wr.alloc (.cells #[.int .i64 (from_ : Int)] 3)) := (Below.refl _ _).alloc (Nat.le_refl _) _
            have hBz : B + 2 ≤ wr.heap.size := by have := HW.out.s.lt; omega
            have hown := World.ownsRow_lit (base := B + 2) (e := 3) (size := 1) wr #[.int .i64 (from_ : Int)] 1 hBz (by unfold maxLen; omega) rfl
            have HOwn := Lib.hid hown
            have HW6 := Lib.hid (HW.out.later hba)
            clear hown hba
            go_wp2_with fail
            generalize wr.alloc (.cells #[.int .i64 (from_ : Int)] 3) = W6 at HOwn HW6 ⊢
            clear tc HW
            have hSf := HE.out.sound from_ (by omega)
            have HSb : Hid (∀ v : Nat, v ≤ 30 → RouteM.g C v < RouteM.far → (0 ≤ RouteM.g C v ∧ RouteM.g C v ≤ 2000000) ∧ 0 ≤ RouteM.g S v ∧ RouteM.g S v ≤ 2000) := by
              show ∀ v : Nat, _
              intro v hv hlt
              rcases HE.out.sound v (by omega) with ⟨h1, _⟩ | ⟨h1, h2, _⟩
              · omega
              · exact ⟨h1, h2⟩
            clear hSf
            have hNf : RouteM.g C from_ < RouteM.far := by rw [HN.out]; unfold RouteM.far; omega
            have HNf := Lib.hid hNf
            clear hNf
            go_loopw [16, 17] (fun at_ now wr => WayRel l from_ to_ C S w B at_ now wr) (fun _ now _ => (S.getD (intOf now).toNat 0).toNat)
            case atStart => exact ⟨from_, [], _, _, rfl, rfl, hf.1, hf.2, HNf.out, HOwn.out, fun q h => h, by have := (HSb.out from_ hf.2 HNf.out).2.2; simp only [List.length_nil]; omega, HW6.out⟩
            case round =>
              clear HOwn HW6 hBz
              obtain ⟨v, pre, aw, cw, rfl, rfl, hv1, hv30, hvf, hown, hbest, hpl, hW⟩ := hrel
              have HOwn := Lib.hid hown
              have HBs := Lib.hid hbest
              have HW := Lib.hid hW
              clear hown hbest hW
              obtain ⟨PL, hPL⟩ : ∃ PL, pre.length = PL := ⟨_, rfl⟩
              have HPL := Lib.hid hPL
              rw [hPL] at HOwn hpl ⊢
              clear hPL
              have bS := HSb.out v hv30 hvf
              by_cases hvt : v = to_
              · subst hvt
                have HB1 : Hid (RouteM.Best l from_ v (pre ++ [(v : Int)]) N) := by
                  show RouteM.Best _ _ _ _ _
                  have h0 : RouteM.g C v = 0 := by
                    have h1 := HE.out.comp v _ _ .one
                    unfold RouteM.lexP at h1
                    have := bS.1.1
                    omega
                  have h2 := RouteM.best_end (l := l) (b := v) HOK.out
                  rw [← h0] at h2
                  have h3 := HBs.out _ h2
                  rwa [HN.out] at h3
                have hne : ((v : Int) != v) = false := by simp
                have tc := HW.out.c.cell (i := from_) (by omega)
                rw [hN] at tc
                go_wp2_with fail
                go_quiet (fail)
                have bq := below_drewN (Below.refl wr.heap.size wr) nq
                go_wp2_with fail
                go_ret3
                refine ⟨by have := (HW.out.later bq).below; first | exact this | (rw [hB] at this; exact this), .inr ⟨aw, PL + 1, cw, pre ++ [(v : Int)], N, rfl, ?_, HB1.out⟩⟩
                exact NS.of_own (own_drewN HOwn.out)
              · have hne : ((v : Int) != to_) = true := by simp; omega
                obtain ⟨hu, huf, hS0, hSlt, hstep⟩ := HE.out.next HT.out HOK.out (v := v) (by omega) hvf (by omega)
                obtain ⟨u, hu2⟩ : ∃ u : Nat, RouteM.lowest C S v l 31 = u := ⟨(RouteM.lowest C S v l 31).toNat, by omega⟩
                rw [hu2] at hu huf hSlt hstep
                have HU := Lib.hid hu2
                have HStep := Lib.hid hstep
                have HUf := Lib.hid huf
                clear hstep hu2 huf
                go_wp2_with fail
                go_loopw [18, 97] (fun next i wr => LowRel l C S v w B (.slice aw (PL + 1) cw) (PL + 1) ((pre ++ [(v : Int)]).map (Value.int .i64)) next i wr) (fun _ i _ => n - (intOf i).toNat)
                case atStart => exact ⟨0, 31, rfl, rfl, Nat.zero_le _, by omega, by omega, rfl, HOwn.out, HW.out⟩
                case round =>
                  clear HOwn HW
                  obtain ⟨k, m, rfl, rfl, hk, hm1, hm31, hlow, hown, hW⟩ := hrel
                  rw [HLn.out] at hk
                  have HLow := Lib.hid hlow
                  have HOwn := Lib.hid hown
                  clear hlow hown
                  by_cases hkn : k < n
                  · obtain ⟨b, off, rfl, hcs⟩ := (HL.out.later hW.below).cells (by omega)
                    obtain ⟨q0, q1, q2, -⟩ := hcs k hkn
                    have hkl : k < l.length := by rw [HLn.out]; exact hkn
                    have nums := RouteM.ok_nums HOK.out (show l.getD k default ∈ l by rw [List.getD_eq_getElem?_getD, List.getElem?_eq_getElem hkl]; exact List.getElem_mem hkl)
                    have hdr : l.drop k = l.getD k default :: l.drop (k + 1) := by
                      rw [List.drop_eq_getElem_cons hkl]; simp [List.getD_eq_getElem?_getD, List.getElem?_eq_getElem hkl]
                    have hlo := HLow.out
                    rw [hdr, RouteM.lowest] at hlo
                    generalize l.getD k default = o at q0 q1 q2 nums hlo
                    obtain ⟨F0, T0, K⟩ := o
                    simp only at q0 q1 q2 nums hlo
                    obtain ⟨F, rfl⟩ : ∃ F : Nat, F0 = F := ⟨F0.toNat, by omega⟩
                    obtain ⟨T, rfl⟩ : ∃ T : Nat, T0 = T := ⟨T0.toNat, by omega⟩
                    have HLo := Lib.hid hlo
                    clear hlo hdr HLow hcs
                    have bT : 0 ≤ C.getD T 0 ∧ C.getD T 0 ≤ 1099511627776 ∧ 0 ≤ S.getD T 0 ∧ S.getD T 0 ≤ 1099511627776 := by
                      have := HE.out.sound T (by omega)
                      simp only [RouteM.g, Int.toNat_natCast] at this
                      rcases this with ⟨h1, h2⟩ | ⟨h1, h2, _⟩
                      · unfold RouteM.far at h1 h2; omega
                      · omega
                    obtain ⟨D, hD⟩ : ∃ D, wr.heap.size = D := ⟨_, rfl⟩
                    have hbl : Below wr.heap.size wr (wr.alloc (.cells #[.int .i64 (F : Int), .int .i64 (T : Int), .int .i64 K] 63)) := (Below.refl _ _).alloc (Nat.le_refl _) _
                    have hD1 : (wr.alloc (.cells #[.int .i64 (F : Int), .int .i64 (T : Int), .int .i64 K] 63)).heap[D]? = some (.cells #[.int .i64 (F : Int), .int .i64 (T : Int), .int .i64 K] 63 (0, 0)) := by rw [heap_at, if_pos hD.symm]
                    have hW2 := hW.later hbl
                    have HOw2 := Lib.hid (own_later HOwn.out hbl)
                    have tcT := hW2.c.cell (i := T) (by omega)
                    have tsT := hW2.s.cell (i := T) (by omega)
                    have tcV := hW2.c.cell (i := v) (by omega)
                    have tsV := hW2.s.cell (i := v) (by omega)
                    obtain ⟨d0, d1, d2⟩ := ed_cells hD1
                    obtain ⟨c1, hc1⟩ : ∃ c1, C.getD T 0 + K = c1 := ⟨_, rfl⟩
                    obtain ⟨s1, hs1⟩ : ∃ s1, S.getD T 0 + 1 = s1 := ⟨_, rfl⟩
                    have hw1 : IntKind.i64.wrap c1 = c1 := IntWalk.i64_in _ (by omega)
                    have hw2 : IntKind.i64.wrap s1 = s1 := IntWalk.i64_in _ (by omega)
                    have HTg : Hid (RouteM.tight C S v ⟨F, T, K⟩ ↔ (F : Int) = v ∧ c1 = C.getD v 0 ∧ s1 = S.getD v 0) := by
                      show _ ↔ _
                      rw [← hc1, ← hs1]
                      simp only [RouteM.tight, RouteM.g, Int.toNat_natCast]
                    generalize C.getD T 0 = cTv at tcT bT hc1
                    generalize S.getD T 0 = sTv at tsT bT hs1
                    generalize C.getD v 0 = cv at tcV HTg
                    generalize S.getD v 0 = sv at tsV HTg
                    have HW2 := Lib.hid hW2
                    clear hW2 hbl hD1 HOwn hW
                    have y1 : decide (T < 31) = true := by simp; omega
                    have y2 : decide (v < 31) = true := by simp; omega
                    have y3 : (T : Int) < 31 := by omega
                    have y4 : (v : Int) < 31 := by omega
                    have y5 : T < 31 := by omega
                    have y6 : v < 31 := by omega
                    by_cases hx1 : F = v
                    · subst hx1
                      have z1 : ((F : Int) == F) = true := by simp
                      by_cases hx2 : c1 = cv
                      · subst hx2
                        have z2 : (c1 == c1) = true := by simp
                        by_cases hx3 : s1 = sv
                        · subst hx3
                          have z3 : (s1 == s1) = true := by simp
                          have HLn2 : Hid (RouteM.lowest C S F (l.drop (k + 1)) (min m T : Nat) = RouteM.lowest C S F l 31) := by
                            show _ = _
                            rw [← HLo.out, if_pos (HTg.out.2 ⟨rfl, rfl, rfl⟩)]
                            congr 1
                            omega
                          obtain ⟨M, hM⟩ : ∃ M : Nat, min (m : Int) T = M := ⟨min m T, by omega⟩
                          have hM2 : min m T = M := by omega
                          rw [hM2] at HLn2
                          go_wp2_with fail
                          go_quiet (fail)
                          have HW3 := Lib.hid (HW2.out.later (below_drewN (Below.refl _ _) nq))
                          have HOw3 := Lib.hid (own_later HOw2.out (below_drewN (Below.refl _ _) nq))
                          go_wp2_with fail
                          go_roundw
                          case rel => exact ⟨k + 1, M, by go_num, by congr 1; split <;> omega, by rw [HLn.out]; omega, by omega, by omega, HLn2.out, HOw3.out, HW3.out⟩
                          case measure => simp [intOf]; omega
                        · have z3 : (s1 == sv) = false := by simp [hx3]
                          have HLn2 : Hid (RouteM.lowest C S F (l.drop (k + 1)) m = RouteM.lowest C S F l 31) := by
                            show _ = _
                            rw [← HLo.out, if_neg (fun h => hx3 (HTg.out.1 h).2.2)]
                          go_wp2_with fail
                          go_quiet (fail)
                          have HW3 := Lib.hid (HW2.out.later (below_drewN (Below.refl _ _) nq))
                          have HOw3 := Lib.hid (own_later HOw2.out (below_drewN (Below.refl _ _) nq))
                          go_wp2_with fail
                          go_roundw
                          case rel => exact ⟨k + 1, m, by go_num, rfl, by rw [HLn.out]; omega, by omega, by omega, HLn2.out, HOw3.out, HW3.out⟩
                          case measure => simp [intOf]; omega
                      · have z2 : (c1 == cv) = false := by simp [hx2]
                        have HLn2 : Hid (RouteM.lowest C S F (l.drop (k + 1)) m = RouteM.lowest C S F l 31) := by
                          show _ = _
                          rw [← HLo.out, if_neg (fun h => hx2 (HTg.out.1 h).2.1)]
                        go_wp2_with fail
                        go_quiet (fail)
                        have HW3 := Lib.hid (HW2.out.later (below_drewN (Below.refl _ _) nq))
                        have HOw3 := Lib.hid (own_later HOw2.out (below_drewN (Below.refl _ _) nq))
                        go_wp2_with fail
                        go_roundw
                        case rel => exact ⟨k + 1, m, by go_num, rfl, by rw [HLn.out]; omega, by omega, by omega, HLn2.out, HOw3.out, HW3.out⟩
                        case measure => simp [intOf]; omega
                    · have z1 : ((F : Int) == v) = false := by simp; omega
                      have HLn2 : Hid (RouteM.lowest C S v (l.drop (k + 1)) m = RouteM.lowest C S v l 31) := by
                        show _ = _
                        rw [← HLo.out, if_neg (fun h => hx1 (by have := (HTg.out.1 h).1; omega))]
                      go_wp2_with fail
                      go_quiet (fail)
                      have HW3 := Lib.hid (HW2.out.later (below_drewN (Below.refl _ _) nq))
                      have HOw3 := Lib.hid (own_later HOw2.out (below_drewN (Below.refl _ _) nq))
                      go_wp2_with fail
                      go_roundw
                      case rel => exact ⟨k + 1, m, by go_num, rfl, by rw [HLn.out]; omega, by omega, by omega, HLn2.out, HOw3.out, HW3.out⟩
                      case measure => simp [intOf]; omega
                  · have hmu : (m : Int) = u := by
                      have h1 := HLow.out
                      rw [List.drop_eq_nil_of_le (by rw [HLn.out]; omega), RouteM.lowest, HU.out] at h1
                      exact h1
                    obtain rfl : m = u := by omega
                    have hba : Below wr.heap.size wr (wr.alloc (.cells #[.int .i64 (m : Int)] 3)) := (Below.refl _ _).alloc (Nat.le_refl _) _
                    have hBz : B + 2 ≤ wr.heap.size := by have := hW.s.lt; omega
                    obtain ⟨a7, c7, W7, hrun, hown7, hg7⟩ := app_int (own_later HOwn.out hba) (B := wr.heap.size) (x := m) (by rw [heap_at, if_pos rfl]) (by omega) (by have := hba.size; omega)
                    have hW7 : WaySt w B C S W7 := by
                      have h1 := hW.later hba
                      have far : ∀ g, g < B + 2 → some g ≠ (Value.slice aw (PL + 1) cw).ownBlock := by
                        intro g hg e
                        have := (HOwn.out.lt g e.symm).1
                        omega
                      have hz := hba.size
                      refine ⟨(hg7.block B (by have := h1.c.lt; omega) (far _ (by omega))).trans h1.c, (hg7.block (B + 1) (by have := h1.s.lt; omega) (far _ (by omega))).trans h1.s, h1.below.grown hg7 h1.below.size (fun g hg => ?_), h1.le⟩
                      have := (HOwn.out.lt g hg).1
                      have := h1.le
                      omega
                    have HW7 := Lib.hid hW7
                    have HOw7 := Lib.hid hown7
                    have HBn : Hid (∀ q, RouteM.Best l m to_ q (RouteM.g C m) → RouteM.Best l from_ to_ ((pre ++ [(v : Int)]) ++ q) (RouteM.g C from_)) := by
                      show ∀ q, _ → _
                      intro q hq
                      have := HBs.out _ (HStep.out q hq)
                      rwa [List.append_assoc]
                    clear hW7 hown7 hg7 hba hmu hW HOwn
                    go_wp2_with (at_builtin; refine Lib.wpList_append_run _ rfl _ _ _ _ rfl _ _ rfl rfl _ _ hrun ?_)
                    go_roundw
                    case rel =>
                      refine ⟨m, pre ++ [(v : Int)], a7, c7, rfl, ?_, hm1, by omega, HUf.out, ?_, HBn.out, ?_, HW7.out⟩
                      · rw [List.length_append, HPL.out]; rfl
                      · rw [List.length_append, HPL.out]; exact HOw7.out
                      · rw [List.length_append, HPL.out]; simp only [List.length_cons, List.length_nil]; omega
                    case measure =>
                      simp only [RouteM.g, Int.toNat_natCast] at hSlt hS0
                      simp only [intOf, Int.toNat_natCast]
                      omega
end Go.Proofs.Ytmpmaljkmfgagab
