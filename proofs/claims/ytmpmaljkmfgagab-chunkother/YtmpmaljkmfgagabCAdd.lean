/-
  Contract of chunk.Add: it returns what the document says.
-/
import Derived.Test.YtmpmaljkmfgagabCList
import Derived.Test.YtmpmaljkmfgagabIdxC
import Derived.Test.YtmpmaljkmfgagabBCloneToInsFin
import Derived.Deep.RegionHeld3
import Derived.Deep.DeepCutAuto
import Derived.BigQuiet
namespace Go.Proofs.Ytmpmaljkmfgagab
open Go.RowKit

/-- the memory of Add: the chunk in a block of its own, the chunks -/
structure AdW (w : World) (B : Nat) (x : ChR) (xa : Option Addr) (xm xc : Nat) (a : Option Addr) (n c : Nat) (l : List ChR) (W : World) : Prop where
  blk : W.heap[B]? = some (.cells #[.int .i64 x.fr, .int .i64 x.to_, .int .i64 x.n, .int .i64 x.of_, .slice xa xm xc] 69 (0, 0))
  cs : CS W a n c l
  bs : BS W xa xm xc x.data
  below : Below w.heap.size w W
theorem AdW.later {w : World} {B : Nat} {x : ChR} {xa : Option Addr} {xm xc : Nat} {a : Option Addr} {n c : Nat} {l : List ChR} {W W' : World} (h : AdW w B x xa xm xc a n c l W) (hb : Below W.heap.size W W') : AdW w B x xa xm xc a n c l W' :=
  ⟨(hb.block B (lt_blk h.blk)).trans h.blk, h.cs.later hb, h.bs.later hb, below_then h.below hb⟩
theorem AdW.cells {w : World} {B : Nat} {x : ChR} {xa : Option Addr} {xm xc : Nat} {a : Option Addr} {n c : Nat} {l : List ChR} {W : World} (h : AdW w B x xa xm xc a n c l W) : W.cell? ⟨B, 0, none⟩ = some (.int .i64 x.fr) ∧ W.cell? ⟨B, 1, none⟩ = some (.int .i64 x.to_) ∧ W.cell? ⟨B, 2, none⟩ = some (.int .i64 x.n) ∧ W.cell? ⟨B, 3, none⟩ = some (.int .i64 x.of_) ∧ W.cell? ⟨B, 4, none⟩ = some (.slice xa xm xc) := ch_cells h.blk
/-- a literal of the chunk -/
theorem AdW.lit {w : World} {B : Nat} {x : ChR} {xa : Option Addr} {xm xc : Nat} {a : Option Addr} {n c : Nat} {l : List ChR} {W : World} (h : AdW w B x xa xm xc a n c l W) (hI : x.I) {Q : Nat} (hQ : W.heap[Q]? = some (.cells #[.int .i64 x.fr, .int .i64 x.to_, .int .i64 x.n, .int .i64 x.of_, .slice xa xm xc] 69 (0, 0))) : CS W (some ⟨Q, 0, none⟩) 1 1 [x] := by
  refine ⟨rfl, Nat.le_refl _, by omega, fun _ => ⟨Q, 0, rfl, fun i hi => ?_⟩, fun h => by cases h⟩
  obtain rfl : i = 0 := by omega
  obtain ⟨k0, k1, k2, k3, k4⟩ := ch_cells hQ
  exact ⟨xa, xm, xc, k0, k1, k2, k3, k4, h.bs, hI⟩
/-- copied, with the length that is known -/
theorem copied_len (a : Option Addr) (n c : Nat) (l : List ChR) (hln : l.length = n) (hn : n ≤ 1000) (hd : ∀ x ∈ l, x.data.length ≤ 1000) (w : World) (hs : CS w a n c l) :
    Calls Try.prog 89 #[.slice a n c] w fun e w' => ∃ a' c', e = .returned (.slice a' n c') ∧ CpSt w.heap.size (.slice a' n c') l w' ∧ Below w.heap.size w w' := by
  refine (copied_any a n c l w hs hn hd).mono ?_
  rintro e w' ⟨a', n', c', rfl, h1, h2, h3⟩
  obtain rfl : n = n' := hln.symm.trans h1
  exact ⟨a', c', rfl, h2, h3⟩

/-- what Add returns, its memory new -/
def GivesAdN (l : List ChR) (x : ChR) (w : World) (e : Ending) (w' : World) : Prop :=
  ∃ a n c, e = .returned (.tuple #[.slice a n c, .int .i64 (ChunkM.addOf l x).2]) ∧ NewR w.heap.size w' (fun V => CS V a n c (ChunkM.addOf l x).1) ∧ Below w.heap.size w w'

set_option maxRecDepth 100000 in
set_option maxHeartbeats 4000000 in
theorem addC_n (a : Option Addr) (n c : Nat) (l : List ChR) (v : Value) (x : ChR) (w : World) (hl : CS w a n c l) (hv : CV w v x) : Calls Try.prog 46 #[.slice a n c, v] w (GivesAdN l x w) := by
  obtain ⟨xa, xm, xc, rfl, hd, hI⟩ := hv
  obtain ⟨F, T, N, O, D⟩ := x
  simp only at hd ⊢
  have hlen : n ≤ 9223372036854775807 := by have := hl.le; have := hl.max; omega
  have HLn := Lib.hid hl.len
  have HI := Lib.hid hI
  obtain ⟨B, hBB⟩ : ∃ B, w.heap.size = B := ⟨_, rfl⟩
  have hb0 : Below w.heap.size w (w.alloc (.cells #[.int .i64 F, .int .i64 T, .int .i64 N, .int .i64 O, .slice xa xm xc] 69)) := (Below.refl _ _).alloc (Nat.le_refl _) _
  have H0 : Hid (AdW w B ⟨F, T, N, O, D⟩ xa xm xc a n c l (w.alloc (.cells #[.int .i64 F, .int .i64 T, .int .i64 N, .int .i64 O, .slice xa xm xc] 69))) := ⟨by rw [heap_at, if_pos hBB.symm], hl.later hb0, hd.later hb0, hb0⟩
  have HBw : Hid (w.heap.size ≤ B) := by show _ ≤ _; omega
  clear hl hb0 hd hI
  go_enter Try.func46, Try.ntmps46
  go_wp2_with fail
  generalize w.alloc (.cells #[.int .i64 F, .int .i64 T, .int .i64 N, .int .i64 O, .slice xa xm xc] 69) = W0 at H0 ⊢
  refine (listC_ok a n c l _ H0.out.cs).mono ?_
  rintro e W1 ⟨rfl, b1⟩
  have H1 := Lib.hid (H0.out.later b1)
  obtain ⟨E, hE⟩ : ∃ E, ChunkM.checks l = E := ⟨_, rfl⟩
  rw [hE]
  clear b1 H0
  by_cases hE0 : E = 0
  · subst hE0
    have HE := Lib.hid hE
    obtain ⟨k0, k1, k2, k3, k4⟩ := H1.out.cells
    simp only at k0 k1 k2 k3 k4
    have HCV : Hid (CV W1 (.agg #[.int .i64 F, .int .i64 T, .int .i64 N, .int .i64 O, .slice xa xm xc]) ⟨F, T, N, O, D⟩) := ⟨xa, xm, xc, rfl, H1.out.bs, HI.out⟩
    have h52 := ChunkM.checks_few hE
    rw [HLn.out] at h52
    have HDat : Hid (∀ y ∈ l, y.data.length ≤ 1000) := fun y hy => by have := ChunkM.checks_data HE.out y hy; omega
    clear hE
    go_wp2_with fail
    refine (checkC_ok _ _ _ HCV.out).mono ?_
    rintro e W2 ⟨rfl, b2⟩
    have H2 := Lib.hid (H1.out.later b2)
    have HCV2 := Lib.hid (HCV.out.later b2)
    obtain ⟨E2, hE2⟩ : ∃ E, ChunkM.check ⟨F, T, N, O, D⟩ = E := ⟨_, rfl⟩
    rw [hE2]
    clear b2 H1 HCV k0 k1 k2 k3 k4
    by_cases hE20 : E2 = 0
    · subst hE20
      have HE2 := Lib.hid hE2
      have hgood := ChunkM.check_good hE2
      simp only at hgood
      obtain ⟨-, -, gO, gN, -, gD, -⟩ := hgood
      have HK : Hid (ChunkM.addOf l ⟨F, T, N, O, D⟩ = (ChunkM.ins (ChunkM.those l ⟨F, T, N, O, D⟩) ⟨F, T, N, O, D⟩, 0)) := by
        show _ = _
        unfold ChunkM.addOf
        rw [if_neg (by rw [HE.out]; simp), if_neg (by rw [HE2.out]; simp)]
      obtain ⟨k0, k1, k2, k3, k4⟩ := H2.out.cells
      simp only at k0 k1 k2 k3 k4
      clear hE2
      go_upto_if 29 with fail
      go_cut [29] (fun s29 wx => ∃ q : Bool, s29 = .bool q ∧ ((q = true ∧ ChunkM.those l ⟨F, T, N, O, D⟩ = []) ∨ (q = false ∧ ChunkM.those l ⟨F, T, N, O, D⟩ = l)) ∧ Below W2.heap.size W2 wx)
      case first =>
        by_cases hn0 : n = 0
        · subst hn0
          have HTh : Hid (ChunkM.those l ⟨F, T, N, O, D⟩ = l) := by
            show _ = _
            unfold ChunkM.those
            rw [if_neg (fun h => h.1 (List.eq_nil_of_length_eq_zero HLn.out))]
          go_wp2_with fail
          go_quiet (fail)
          have hbq := below_drewN (Below.refl W2.heap.size W2) nq
          go_wp2_with fail
          go_meet
          exact ⟨_, rfl, .inr ⟨rfl, HTh.out⟩, hbq⟩
        · obtain ⟨b, off, rfl, hcs⟩ := H2.out.cs.cells (by omega)
          obtain ⟨za, zm, zc, z0, z1, z2, z3, z4, z5, zI⟩ := hcs 0 (by omega)
          have HNil : Hid (l ≠ []) := by
            show l ≠ []
            rintro rfl
            exact hn0 HLn.out.symm
          obtain ⟨zz, hzz⟩ : ∃ zz, l.getD 0 default = zz := ⟨_, rfl⟩
          rw [hzz] at z0 z1 z2 z3 z5 zI
          have HZZ := Lib.hid hzz
          obtain ⟨ZF, ZT, ZN, ZO, ZD⟩ := zz
          simp only [Nat.zero_mul, Nat.add_zero] at z0 z1 z2 z3 z4 z5
          have HW : Hid (KinW W2 b off B ⟨ZF, ZT, ZN, ZO, ZD⟩ ⟨F, T, N, O, D⟩ za zm zc xa xm xc W2) := ⟨z0, z1, z2, z3, z4, H2.out.blk, ⟨za, zm, zc, rfl, z5, zI⟩, HCV2.out, Below.refl _ _⟩
          have h0n : (0 : Int) < (n : Int) := by omega
          have h0m : 0 < n := by omega
          have HTh : Hid ((ChunkM.kin ⟨ZF, ZT, ZN, ZO, ZD⟩ ⟨F, T, N, O, D⟩ → ChunkM.those l ⟨F, T, N, O, D⟩ = l) ∧ (¬ ChunkM.kin ⟨ZF, ZT, ZN, ZO, ZD⟩ ⟨F, T, N, O, D⟩ → ChunkM.those l ⟨F, T, N, O, D⟩ = [])) := by
            refine ⟨fun h => ?_, fun h => ?_⟩
            · unfold ChunkM.those
              rw [if_neg (fun h' => h'.2 (by rw [HZZ.out]; exact ⟨h.1.symm, h.2.1.symm, h.2.2.symm⟩))]
            · unfold ChunkM.those
              rw [if_pos ⟨HNil.out, by rw [HZZ.out]; exact fun h' => h ⟨h'.1.symm, h'.2.1.symm, h'.2.2.symm⟩⟩]
          obtain ⟨q, hq⟩ : ∃ q, decide (ChunkM.kin ⟨ZF, ZT, ZN, ZO, ZD⟩ ⟨F, T, N, O, D⟩) = q := ⟨_, rfl⟩
          have HKK : Hid (∀ W, CV W (.agg #[.int .i64 ZF, .int .i64 ZT, .int .i64 ZN, .int .i64 ZO, .slice za zm zc]) ⟨ZF, ZT, ZN, ZO, ZD⟩ → CV W (.agg #[.int .i64 F, .int .i64 T, .int .i64 N, .int .i64 O, .slice xa xm xc]) ⟨F, T, N, O, D⟩ → Calls Try.prog 88 #[.agg #[.int .i64 ZF, .int .i64 ZT, .int .i64 ZN, .int .i64 ZO, .slice za zm zc], .agg #[.int .i64 F, .int .i64 T, .int .i64 N, .int .i64 O, .slice xa xm xc]] W fun e w' => e = .returned (.bool q) ∧ Below W.heap.size W w') := by
            show ∀ W, _
            intro W h1 h2
            have := kinC_any _ _ _ _ W h1 h2
            rwa [hq] at this
          have HQ := Lib.hid hq
          clear hcs z0 z1 z2 z3 z4 z5 zI hzz hq k0 k1 k2 k3 k4
          go_wp2_with fail
          refine wp_region_quiet (C := fun W => KinW W2 b off B ⟨ZF, ZT, ZN, ZO, ZD⟩ ⟨F, T, N, O, D⟩ za zm zc xa xm xc W) (by kernel_rfl) (by kernel_rfl) (HW.out.later (Below.refl _ _).drew) ?_
          dsimp only
          repeat (first
            | go_big_quiet_skip
            | (go_big_quiet_want
               first
                 | (go_big_quiet_op
                    go_big_quiet_on)
                 | (unfold Oper.quiet
                    apply Exists.intro
                    refine ⟨fun W9 hW9 => ?_, ?_⟩
                    · obtain ⟨c0, c1, c2, c3, c4, d0, d1, d2, d3, d4⟩ := hW9.cells
                      simp only at c0 c1 c2 c3 c4 d0 d1 d2 d3 d4
                      go_simp
                      first
                        | with_reducible rfl
                        | (go_at_call 88; exact (HKK.out _ hW9.cx hW9.cy).mono (fun _ _ h => ⟨h.1, hW9.later h.2⟩))
                    simp only [Act.put, List.setIfInBounds_toArray, List.set_cons_zero, List.set_cons_succ]
                    go_big_quiet_on)))
          refine wpQuiet_nil ?_
          intro W9 hW9
          go_wp2_with fail
          go_meet
          refine ⟨_, rfl, ?_, hW9.below⟩
          cases q with
          | true => exact .inr ⟨rfl, HTh.out.1 (of_decide_eq_true HQ.out)⟩
          | false => exact .inl ⟨rfl, HTh.out.2 (of_decide_eq_false HQ.out)⟩
      case rest =>
       obtain ⟨qb, rfl, hqb, hbw⟩ := hcut
       have H7 := Lib.hid (H2.out.later hbw)
       clear hbw k0 k1 k2 k3 k4 H2 HCV2
       generalize wc = W7 at H7 ⊢
       obtain ⟨k0, k1, k2, k3, k4⟩ := H7.out.cells
       simp only at k0 k1 k2 k3 k4
       rcases hqb with ⟨rfl, hth⟩ | ⟨rfl, hth⟩
       · have HTh := Lib.hid hth
         clear hth
         have hba : Below W7.heap.size W7 (W7.alloc (.cells #[.int .i64 F, .int .i64 T, .int .i64 N, .int .i64 O, .slice xa xm xc] 69)) := (Below.refl _ _).alloc (Nat.le_refl _) _
         have H8 := H7.out.later hba
         have HCp := Lib.hid (copied_len (some ⟨W7.heap.size, 0, none⟩) 1 1 [⟨F, T, N, O, D⟩] rfl (by omega) (by intro y hy; simp at hy; rw [hy]; simp only; omega) _ (H8.lit HI.out (Q := W7.heap.size) (by rw [heap_at, if_pos rfl])))
         have HB8 := Lib.hid H8.below
         clear H8 hba
         go_wp2_with fail
         refine HCp.out.mono ?_
         rintro e W9 ⟨a9, c9, rfl, hcp, b9⟩
         have HCS := Lib.hid ((hcp.newR.mono HB8.out.size).imp (fun _ q => q.cs rfl))
         have HB9 := Lib.hid (below_then HB8.out b9)
         clear hcp b9
         go_wp2_with fail
         go_ret2
         exact ⟨a9, 1, c9, tup_a (by rw [HK.out]), by rw [HK.out, HTh.out]; exact HCS.out, HB9.out⟩
       · have HTh := Lib.hid hth
         clear hth
         have HCpl := Lib.hid (copied_len a n c l HLn.out (by omega) HDat.out)
         have hmf : ∀ (fn : Fn) (first cap : Array Value) (w : World), (Instr.makeFunc fn first cap).run Try.prog w = .ok (.func fn first cap) w := fun _ _ _ _ => rfl
         have HAt := Lib.hid (atC_any a n c l B N _ H7.out.cs k2)
         go_wp2_with fail
         refine HAt.out.mono ?_
         rintro e W8 ⟨at_, rfl, hat, b8⟩
         have H8 := Lib.hid (H7.out.later b8)
         clear b8 H7 HAt k0 k1 k2 k3 k4
         obtain ⟨k0, k1, k2, k3, k4⟩ := H8.out.cells
         simp only at k0 k1 k2 k3 k4
         rcases hat with ⟨rfl, hno⟩ | ⟨k, rfl, hk, hge, hlo⟩
         · have HIns : Hid (ChunkM.ins l ⟨F, T, N, O, D⟩ = l.take n ++ ⟨F, T, N, O, D⟩ :: l.drop n) := by
             show _ = _
             have := ChunkM.ins_last (c := ⟨F, T, N, O, D⟩) hno
             rwa [HLn.out] at this
           have hnn : n ≤ n := Nat.le_refl n
           clear hno
           go_wp2_with fail
           have hba0 : Below W8.heap.size W8 (W8.alloc (.cells #[.int .i64 F, .int .i64 T, .int .i64 N, .int .i64 O, .slice xa xm xc] 69)) := (Below.refl _ _).alloc (Nat.le_refl _) _
           have HA1 := Lib.hid (H8.out.later (Below.refl _ _).drew)
           have HA2 := Lib.hid ((H8.out.later hba0).later (Below.refl _ _).drew)
           have HQ2 : Hid ((W8.alloc (.cells #[.int .i64 F, .int .i64 T, .int .i64 N, .int .i64 O, .slice xa xm xc] 69)).drew.heap[W8.heap.size]? = some (.cells #[.int .i64 F, .int .i64 T, .int .i64 N, .int .i64 O, .slice xa xm xc] 69 (0, 0))) := by
             show (W8.alloc (.cells #[.int .i64 F, .int .i64 T, .int .i64 N, .int .i64 O, .slice xa xm xc] 69)).heap[W8.heap.size]? = _
             rw [heap_at, if_pos rfl]
           have HCo : Hid (∀ Q W, CS W (some ⟨Q, 0, none⟩) 1 1 [⟨F, T, N, O, D⟩] → Calls Try.prog 89 #[.slice (some ⟨Q, 0, none⟩) 1 1] W fun e w' => ∃ a' c', e = .returned (.slice a' 1 c') ∧ CpSt W.heap.size (.slice a' 1 c') [⟨F, T, N, O, D⟩] w' ∧ Below W.heap.size W w') :=
             fun Q W => copied_len (some ⟨Q, 0, none⟩) 1 1 [⟨F, T, N, O, D⟩] rfl (by omega) (by intro y hy; simp at hy; rw [hy]; simp only; omega) W
           have hn9 : n ≤ 1000 := by omega
           obtain ⟨o0, o1, o2, o3, o4⟩ := HA2.out.cells
           simp only at o0 o1 o2 o3 o4
           clear hba0
           go_region_held3 (fun W => W.cell? ⟨B, 0, none⟩ = some (.int .i64 F) ∧ W.cell? ⟨B, 1, none⟩ = some (.int .i64 T) ∧ W.cell? ⟨B, 2, none⟩ = some (.int .i64 N) ∧ W.cell? ⟨B, 3, none⟩ = some (.int .i64 O) ∧ W.cell? ⟨B, 4, none⟩ = some (.slice xa xm xc))
             (first | exact ⟨k0, k1, k2, k3, k4⟩ | exact ⟨o0, o1, o2, o3, o4⟩ | exact ⟨p0, p1, p2, p3, p4⟩ | exact ⟨q0, q1, q2, q3, q4⟩ | exact ⟨r0, r1, r2, r3, r4⟩ | exact ⟨t0, t1, t2, t3, t4⟩ | go_keep) (first
             | (go_at_call 92; (with_reducible refine HFA.out.mono ?_); rintro e W7 ⟨a7, c7, rfl, hcs7, hb7, hk7⟩
                have hz7 := HZ6.out
                obtain ⟨t0, t1, t2, t3, t4⟩ := ch_cells ((hk7 B (lt_blk hz7.1.blk) hz7.2).trans hz7.1.blk)
                have HCS7 := Lib.hid hcs7
                have HB7 := Lib.hid hb7
                clear hcs7 hb7 hk7 hz7)
             | (go_at_call 89; (with_reducible refine (HCpl.out _ HA1.out.cs).mono ?_); rintro e W4 ⟨a1, c1, rfl, hcp, da⟩
                have HA4 := Lib.hid (HA1.out.later da)
                obtain ⟨p0, p1, p2, p3, p4⟩ := HA4.out.cells
                simp only at p0 p1 p2 p3 p4
                have hba : Below W4.heap.size W4 (W4.alloc (.cells #[.int .i64 F, .int .i64 T, .int .i64 N, .int .i64 O, .slice xa xm xc] 69)) := (Below.refl _ _).alloc (Nat.le_refl _) _
                have HA5 := Lib.hid (HA4.out.later hba)
                obtain ⟨q0, q1, q2, q3, q4⟩ := HA5.out.cells
                simp only at q0 q1 q2 q3 q4
                have HCP5 := Lib.hid (hcp.later hba)
                have HLt := Lib.hid (fun g hg => hcp.own (g := g) hg)
                have HSz := Lib.hid da.size
                have HLit := Lib.hid (HA5.out.lit HI.out (Q := W4.heap.size) (by rw [heap_at, if_pos rfl]))
                clear hba hcp da)
             | (go_at_call 89; (with_reducible refine (HCo.out _ _ HLit.out).mono ?_); rintro e W6 ⟨a2, c2, rfl, hcp2, db⟩
                have HA6 := HA5.out.later db
                obtain ⟨r0, r1, r2, r3, r4⟩ := HA6.cells
                simp only at r0 r1 r2 r3 r4
                have hs5 : W4.heap.size ≤ (W4.alloc (.cells #[.int .i64 F, .int .i64 T, .int .i64 N, .int .i64 O, .slice xa xm xc] 69)).heap.size := by simp
                have HFA := Lib.hid (insFin_any HA6.below (HCP5.out.later db) HLn.out (Nat.le_trans HA1.out.below.size (Nat.le_refl _)) (Nat.le_trans HSz.out (Nat.le_trans hs5 db.size)) hcp2 HA5.out.below.size (fun g hg => Nat.lt_of_lt_of_le (HLt.out g hg).2 hs5) n hnn hn9)
                have HZ6 : Hid (AdW w B ⟨F, T, N, O, D⟩ xa xm xc a n c l W6 ∧ some B ≠ (Value.slice a1 n c1).ownBlock) := ⟨HA6, fun e => by
                  have h9 := (HLt.out B e.symm).1
                  have h8 := lt_blk H8.out.blk
                  have h7 : W8.heap.size ≤ B := h9
                  omega⟩
                clear hcp2 db HA6 hs5)
             | (go_at_call 89; (with_reducible refine (HCpl.out _ HA2.out.cs).mono ?_); rintro e W4 ⟨a1, c1, rfl, hcp, da⟩
                have HA5 := Lib.hid (HA2.out.later da)
                obtain ⟨p0, p1, p2, p3, p4⟩ := HA5.out.cells
                simp only at p0 p1 p2 p3 p4
                have HCP5 := Lib.hid hcp
                have HLtB := Lib.hid (fun g hg => hcp.own (g := g) hg)
                have HSzB := Lib.hid da.size
                have HLitB := Lib.hid (HA5.out.lit HI.out (Q := W8.heap.size) ((da.block _ (lt_blk HQ2.out)).trans HQ2.out))
                clear hcp da)
             | (go_at_call 89; (with_reducible refine (HCo.out _ _ HLitB.out).mono ?_); rintro e W6 ⟨a2, c2, rfl, hcp2, db⟩
                have HA6 := HA5.out.later db
                obtain ⟨r0, r1, r2, r3, r4⟩ := HA6.cells
                simp only at r0 r1 r2 r3 r4
                have HFA := Lib.hid (insFin_any HA6.below (HCP5.out.later db) HLn.out HA2.out.below.size (Nat.le_trans HSzB.out db.size) hcp2 HA5.out.below.size (fun g hg => (HLtB.out g hg).2) n hnn hn9)
                have HZ6 : Hid (AdW w B ⟨F, T, N, O, D⟩ xa xm xc a n c l W6 ∧ some B ≠ (Value.slice a1 n c1).ownBlock) := ⟨HA6, fun e => by
                  have h9 := (HLtB.out B e.symm).1
                  have h8 := lt_blk H8.out.blk
                  have h7 : (W8.alloc (.cells #[.int .i64 F, .int .i64 T, .int .i64 N, .int .i64 O, .slice xa xm xc] 69)).heap.size ≤ B := h9
                  simp at h7
                  omega⟩
                clear hcp2 db HA6))
           all_goals
             go_wp2_with fail
             go_ret2
             exact ⟨_, _, _, tup_a (by rw [HK.out]), by rw [HK.out, HTh.out, HIns.out]; exact HCS7.out, HB7.out⟩
         · rw [HLn.out] at hk
           obtain ⟨b, off, rfl, hcs⟩ := H8.out.cs.cells (by omega)
           obtain ⟨ya, ym, yc, y0, y1, y2, y3, y4, -, -⟩ := hcs k hk
           have HKl : Hid (k < l.length) := by show k < l.length; rw [HLn.out]; exact hk
           obtain ⟨yN, hyN⟩ : ∃ yN, (l.getD k default).n = yN := ⟨_, rfl⟩
           rw [hyN] at y2 hge
           have HYN := Lib.hid hyN
           have HLo := Lib.hid hlo
           have hk0 : (0 : Int) ≤ (k : Int) := by omega
           have hkn : (k : Int) < (n : Int) := by omega
           clear hcs y0 y1 y3 y4 hyN hlo
           by_cases hyn : yN = N
           · subst hyn
             have tN : (yN == yN) = true := by simp
             have HIns : Hid (ChunkM.ins l ⟨F, T, yN, O, D⟩ = l) := ChunkM.ins_there (ChunkM.checks_up HE.out) HKl.out HYN.out
             go_wp2_with fail
             go_quiet (fail)
             have H9 := Lib.hid (H8.out.later (below_drewN (Below.refl _ _) nq))
             clear H8 k0 k1 k2 k3 k4 y2
             generalize W8.drewN nq = W9 at H9 ⊢
             go_wp2_with fail
             refine (HCpl.out _ H9.out.cs).mono ?_
             rintro e W10 ⟨a9, c9, rfl, hcp, b9⟩
             have HCS := Lib.hid ((hcp.newR.mono H9.out.below.size).imp (fun _ q => q.cs HLn.out))
             have HB9 := Lib.hid (below_then H9.out.below b9)
             clear hcp b9
             go_wp2_with fail
             go_ret2
             exact ⟨a9, n, c9, tup_a (by rw [HK.out]), by rw [HK.out, HTh.out, HIns.out]; exact HCS.out, HB9.out⟩
           · have tN : (yN == N) = false := by simp [hyn]
             have HIns : Hid (ChunkM.ins l ⟨F, T, N, O, D⟩ = l.take k ++ ⟨F, T, N, O, D⟩ :: l.drop k) := ChunkM.ins_at (c := ⟨F, T, N, O, D⟩) (Nat.le_of_lt HKl.out) HLo.out (fun _ => by rw [HYN.out]; simp only; omega)
             have hnn : k ≤ n := by omega
             go_wp2_with fail
             go_quiet (fail)
             have H9 := Lib.hid (H8.out.later (below_drewN (Below.refl _ _) nq))
             clear H8 k0 k1 k2 k3 k4 y2
             generalize W8.drewN nq = W8 at H9 ⊢
             have H8 := H9
             clear H9
             obtain ⟨k0, k1, k2, k3, k4⟩ := H8.out.cells
             simp only at k0 k1 k2 k3 k4
             go_wp2_with fail
             have hba0 : Below W8.heap.size W8 (W8.alloc (.cells #[.int .i64 F, .int .i64 T, .int .i64 N, .int .i64 O, .slice xa xm xc] 69)) := (Below.refl _ _).alloc (Nat.le_refl _) _
             have HA1 := Lib.hid (H8.out.later (Below.refl _ _).drew)
             have HA2 := Lib.hid ((H8.out.later hba0).later (Below.refl _ _).drew)
             have HQ2 : Hid ((W8.alloc (.cells #[.int .i64 F, .int .i64 T, .int .i64 N, .int .i64 O, .slice xa xm xc] 69)).drew.heap[W8.heap.size]? = some (.cells #[.int .i64 F, .int .i64 T, .int .i64 N, .int .i64 O, .slice xa xm xc] 69 (0, 0))) := by
               show (W8.alloc (.cells #[.int .i64 F, .int .i64 T, .int .i64 N, .int .i64 O, .slice xa xm xc] 69)).heap[W8.heap.size]? = _
               rw [heap_at, if_pos rfl]
             have HCo : Hid (∀ Q W, CS W (some ⟨Q, 0, none⟩) 1 1 [⟨F, T, N, O, D⟩] → Calls Try.prog 89 #[.slice (some ⟨Q, 0, none⟩) 1 1] W fun e w' => ∃ a' c', e = .returned (.slice a' 1 c') ∧ CpSt W.heap.size (.slice a' 1 c') [⟨F, T, N, O, D⟩] w' ∧ Below W.heap.size W w') :=
               fun Q W => copied_len (some ⟨Q, 0, none⟩) 1 1 [⟨F, T, N, O, D⟩] rfl (by omega) (by intro y hy; simp at hy; rw [hy]; simp only; omega) W
             have hn9 : n ≤ 1000 := by omega
             obtain ⟨o0, o1, o2, o3, o4⟩ := HA2.out.cells
             simp only at o0 o1 o2 o3 o4
             clear hba0
             go_region_held3 (fun W => W.cell? ⟨B, 0, none⟩ = some (.int .i64 F) ∧ W.cell? ⟨B, 1, none⟩ = some (.int .i64 T) ∧ W.cell? ⟨B, 2, none⟩ = some (.int .i64 N) ∧ W.cell? ⟨B, 3, none⟩ = some (.int .i64 O) ∧ W.cell? ⟨B, 4, none⟩ = some (.slice xa xm xc))
               (first | exact ⟨k0, k1, k2, k3, k4⟩ | exact ⟨o0, o1, o2, o3, o4⟩ | exact ⟨p0, p1, p2, p3, p4⟩ | exact ⟨q0, q1, q2, q3, q4⟩ | exact ⟨r0, r1, r2, r3, r4⟩ | exact ⟨t0, t1, t2, t3, t4⟩ | go_keep) (first
               | (go_at_call 92; (with_reducible refine HFA.out.mono ?_); rintro e W7 ⟨a7, c7, rfl, hcs7, hb7, hk7⟩
                  have hz7 := HZ6.out
                  obtain ⟨t0, t1, t2, t3, t4⟩ := ch_cells ((hk7 B (lt_blk hz7.1.blk) hz7.2).trans hz7.1.blk)
                  have HCS7 := Lib.hid hcs7
                  have HB7 := Lib.hid hb7
                  clear hcs7 hb7 hk7 hz7)
               | (go_at_call 89; (with_reducible refine (HCpl.out _ HA1.out.cs).mono ?_); rintro e W4 ⟨a1, c1, rfl, hcp, da⟩
                  have HA4 := Lib.hid (HA1.out.later da)
                  obtain ⟨p0, p1, p2, p3, p4⟩ := HA4.out.cells
                  simp only at p0 p1 p2 p3 p4
                  have hba : Below W4.heap.size W4 (W4.alloc (.cells #[.int .i64 F, .int .i64 T, .int .i64 N, .int .i64 O, .slice xa xm xc] 69)) := (Below.refl _ _).alloc (Nat.le_refl _) _
                  have HA5 := Lib.hid (HA4.out.later hba)
                  obtain ⟨q0, q1, q2, q3, q4⟩ := HA5.out.cells
                  simp only at q0 q1 q2 q3 q4
                  have HCP5 := Lib.hid (hcp.later hba)
                  have HLt := Lib.hid (fun g hg => hcp.own (g := g) hg)
                  have HSz := Lib.hid da.size
                  have HLit := Lib.hid (HA5.out.lit HI.out (Q := W4.heap.size) (by rw [heap_at, if_pos rfl]))
                  clear hba hcp da)
               | (go_at_call 89; (with_reducible refine (HCo.out _ _ HLit.out).mono ?_); rintro e W6 ⟨a2, c2, rfl, hcp2, db⟩
                  have HA6 := HA5.out.later db
                  obtain ⟨r0, r1, r2, r3, r4⟩ := HA6.cells
                  simp only at r0 r1 r2 r3 r4
                  have hs5 : W4.heap.size ≤ (W4.alloc (.cells #[.int .i64 F, .int .i64 T, .int .i64 N, .int .i64 O, .slice xa xm xc] 69)).heap.size := by simp
                  have HFA := Lib.hid (insFin_any HA6.below (HCP5.out.later db) HLn.out (Nat.le_trans HA1.out.below.size (Nat.le_refl _)) (Nat.le_trans HSz.out (Nat.le_trans hs5 db.size)) hcp2 HA5.out.below.size (fun g hg => Nat.lt_of_lt_of_le (HLt.out g hg).2 hs5) k hnn hn9)
                  have HZ6 : Hid (AdW w B ⟨F, T, N, O, D⟩ xa xm xc (some ⟨b, off, none⟩) n c l W6 ∧ some B ≠ (Value.slice a1 n c1).ownBlock) := ⟨HA6, fun e => by
                    have h9 := (HLt.out B e.symm).1
                    have h8 := lt_blk H8.out.blk
                    have h7 : W8.heap.size ≤ B := h9
                    omega⟩
                  clear hcp2 db HA6 hs5)
               | (go_at_call 89; (with_reducible refine (HCpl.out _ HA2.out.cs).mono ?_); rintro e W4 ⟨a1, c1, rfl, hcp, da⟩
                  have HA5 := Lib.hid (HA2.out.later da)
                  obtain ⟨p0, p1, p2, p3, p4⟩ := HA5.out.cells
                  simp only at p0 p1 p2 p3 p4
                  have HCP5 := Lib.hid hcp
                  have HLtB := Lib.hid (fun g hg => hcp.own (g := g) hg)
                  have HSzB := Lib.hid da.size
                  have HLitB := Lib.hid (HA5.out.lit HI.out (Q := W8.heap.size) ((da.block _ (lt_blk HQ2.out)).trans HQ2.out))
                  clear hcp da)
               | (go_at_call 89; (with_reducible refine (HCo.out _ _ HLitB.out).mono ?_); rintro e W6 ⟨a2, c2, rfl, hcp2, db⟩
                  have HA6 := HA5.out.later db
                  obtain ⟨r0, r1, r2, r3, r4⟩ := HA6.cells
                  simp only at r0 r1 r2 r3 r4
                  have HFA := Lib.hid (insFin_any HA6.below (HCP5.out.later db) HLn.out HA2.out.below.size (Nat.le_trans HSzB.out db.size) hcp2 HA5.out.below.size (fun g hg => (HLtB.out g hg).2) k hnn hn9)
                  have HZ6 : Hid (AdW w B ⟨F, T, N, O, D⟩ xa xm xc (some ⟨b, off, none⟩) n c l W6 ∧ some B ≠ (Value.slice a1 n c1).ownBlock) := ⟨HA6, fun e => by
                    have h9 := (HLtB.out B e.symm).1
                    have h8 := lt_blk H8.out.blk
                    have h7 : (W8.alloc (.cells #[.int .i64 F, .int .i64 T, .int .i64 N, .int .i64 O, .slice xa xm xc] 69)).heap.size ≤ B := h9
                    simp at h7
                    omega⟩
                  clear hcp2 db HA6))
             all_goals
               go_wp2_with fail
               go_ret2
               exact ⟨_, _, _, tup_a (by rw [HK.out]), by rw [HK.out, HTh.out, HIns.out]; exact HCS7.out, HB7.out⟩
    · have t0 : (E2 != 0) = true := by simp [hE20]
      have HK : Hid (ChunkM.addOf l ⟨F, T, N, O, D⟩ = ([], E2)) := by
        show _ = _
        unfold ChunkM.addOf
        rw [if_neg (by rw [HE.out]; simp), if_pos (by rw [hE2]; exact hE20), hE2]
      clear hE2
      go_wp2_with fail
      go_ret2
      exact ⟨none, 0, 0, tup_a (by rw [HK.out]), by rw [HK.out]; exact NewR.any (fun V => CS.nil_ V), H2.out.below⟩
  · have t0 : (E != 0) = true := by simp [hE0]
    have HK : Hid (ChunkM.addOf l ⟨F, T, N, O, D⟩ = ([], E)) := by
      show _ = _
      unfold ChunkM.addOf
      rw [if_pos (by rw [hE]; exact hE0), hE]
    clear hE
    go_wp2_with fail
    go_ret2
    exact ⟨none, 0, 0, tup_a (by rw [HK.out]), by rw [HK.out]; exact NewR.any (fun V => CS.nil_ V), H1.out.below⟩
theorem addC_ok : AddCC := fun a n c l v x w hl hv => (addC_n a n c l v x w hl hv).mono fun _ _ ⟨a', n', c', h1, h2, h3⟩ => ⟨a', n', c', h1, h2.here, h3⟩
end Go.Proofs.Ytmpmaljkmfgagab
