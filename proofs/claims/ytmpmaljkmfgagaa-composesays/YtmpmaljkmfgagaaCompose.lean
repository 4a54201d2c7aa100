/-
  Contract of compose.Of: it returns what the document says.
-/
import Derived.Test.YtmpmaljkmfgagaaCompRes
import Derived.Test.YtmpmaljkmfgagaaAdd
import Derived.Test.YtmpmaljkmfgagaaPart
namespace Go.Proofs.Ytmpmaljkmfgagaa
open Go.RowKit

/-- the bounds of a step whose sources are known -/
theorem one_bound {o : OpR} (h : CompM.OneStep o) (hs : ∀ x ∈ CompM.src o, CompM.IsSrc x) (hl : (CompM.src o).length ≤ 64) : o.at_ ≤ 64 ∧ o.len ≤ 64 ∧ o.data.length ≤ 64 := by
  rcases h with ⟨h1, h2, h3⟩ | ⟨h1, h2, h3⟩
  · rw [CompM.src_data h1, List.length_map] at hl
    omega
  · have e := CompM.src_copy h3
    rw [e, List.length_map, List.length_range] at hl
    have hm : (o.at_ + ((0 : Nat) : Int), (0 : Int)) ∈ CompM.src o := by
      rw [e]
      exact List.mem_map.2 ⟨0, List.mem_range.2 (by omega), rfl⟩
    have := (hs _ hm).1
    simp only at this
    rw [h3]
    simp only [List.length_nil]
    omega

/-- so many steps have so many sources at least -/
theorem pieces_le : ∀ {P : List OpR}, (∀ o ∈ P, CompM.OneStep o) → P.length ≤ (CompM.srcs1 P).length
  | [], _ => Nat.zero_le _
  | o :: t, h => by
    have ih := pieces_le (P := t) (fun o' ho' => h o' (by simp [ho']))
    have h1 : 0 < (CompM.src o).length := by
      rcases h o (by simp) with ⟨h1, h2, h3⟩ | ⟨h1, h2, h3⟩
      · rw [CompM.src_data h1, List.length_map]
        exact List.length_pos_iff.2 h3
      · rw [CompM.src_copy h3, List.length_map, List.length_range]
        omega
    rw [CompM.srcs1_cons, List.length_append, List.length_cons]
    omega

/-- the rounds of Of -/
def OfRel (w : World) (M : List (Int × Int)) (l' : List OpR) (vo i : Value) (wr : World) : Prop :=
  ∃ (k : Nat) (lb : Option Nat) (ss : List (Int × Int)), i = .int .i64 k ∧ k ≤ l'.length ∧ ss ++ CompM.srcs2 M (l'.drop k) = CompM.srcs2 M l' ∧ JSt w none vo lb (CompM.canonR ss) wr
/-- the rounds inside -/
def OfIn (w : World) (ex : Option Nat) (ss : List (Int × Int)) (P : List OpR) (Wp : World) (vo i : Value) (wr : World) : Prop :=
  ∃ (j : Nat) (lb : Option Nat), i = .int .i64 j ∧ j ≤ P.length ∧ JSt w ex vo lb (CompM.canonR (ss ++ CompM.srcs1 (P.take j))) wr ∧ Left ex Wp wr

set_option maxRecDepth 100000 in
set_option maxHeartbeats 2000000 in
theorem compose_any (a : Option Addr) (n c : Nat) (l : List OpR) (a' : Option Addr) (n' c' : Nat) (l' : List OpR) (old mid s : Int) (w : World) (hl : OS w a n c l) (hl' : OS w a' n' c' l') :
    Calls Try.prog 45 #[.slice a n c, .slice a' n' c', .int .i64 old, .int .i64 mid, .int .i64 s] w (GivesC l l' old mid s w) := by
  have HL := Lib.hid hl
  have HL' := Lib.hid hl'
  have HLn := Lib.hid hl.len
  have HLn' := Lib.hid hl'.len
  have hlen : n ≤ 9223372036854775807 := by have := hl.le; have := hl.max; omega
  have hlen' : n' ≤ 9223372036854775807 := by have := hl'.le; have := hl'.max; omega
  obtain ⟨E1, hE1⟩ : ∃ E, DeltaM.check l old mid = E := ⟨_, rfl⟩
  obtain ⟨E2, hE2⟩ : ∃ E, DeltaM.check l' mid s = E := ⟨_, rfl⟩
  have hc1 := check_any a n c l old mid
  have hc2 := check_any a' n' c' l' mid s
  rw [hE1] at hc1
  rw [hE2] at hc2
  have HC1 := Lib.hid hc1
  have HC2 := Lib.hid hc2
  have HE1 := Lib.hid hE1
  have HE2 := Lib.hid hE2
  clear hl hl' hc1 hc2 hE1 hE2
  by_cases h1 : E1 = 0
  · subst h1
    by_cases h2 : E2 = 0
    · subst h2
      obtain ⟨hl40, o1, o2, m1, m2, hg1, ht1⟩ := DeltaM.check_zero HE1.out
      obtain ⟨-, -, -, s1, s2, hg2, ht2⟩ := DeltaM.check_zero HE2.out
      rw [HLn.out] at hl40
      have HG1 := Lib.hid hg1
      have HG2 := Lib.hid hg2
      have hm1 := CompM.srcs1_length hg1
      rw [ht1] at hm1
      have HT1 : Hid (DeltaM.total l ≤ 64) := by show _ ≤ (64 : Int); omega
      have HSrc := Lib.hid (CompM.srcs1_src o2 hg1 HL.out.bytes)
      have HSrc2 := Lib.hid (CompM.srcs2_src HSrc.out HL'.out.bytes)
      have HG2' : Hid (DeltaM.Good (CompM.srcs1 l).length l') := by show DeltaM.Good _ l'; rw [hm1]; exact hg2
      have hsl := CompM.srcs2_length HG2'.out
      rw [ht2] at hsl
      have HSl : Hid ((CompM.srcs2 (CompM.srcs1 l) l').length ≤ 64) := by show _ ≤ 64; omega
      have HOne : Hid (∀ o ∈ l, CompM.OneStep o) := fun o ho => CompM.good_one (HG1.out o ho)
      have HMm := Lib.hid hm1
      clear hg1 hg2 ht1 ht2 hm1 hsl HG2'
      go_enter Try.func45, Try.ntmps45
      go_wp2_with fail
      refine (HC1.out _ HL.out).mono ?_
      rintro e W0 ⟨rfl, b0⟩
      go_wp2_with fail
      refine (HC2.out _ (HL'.out.later b0)).mono ?_
      rintro e W1 ⟨rfl, b1⟩
      have HB1 := Lib.hid (below_then b0 b1)
      clear b0 b1 HC1 HC2
      go_wp2_with fail
      go_loopw [14, 36] (fun vo i wr => OfRel w (CompM.srcs1 l) l' vo i wr) (fun _ i _ => n' - (intOf i).toNat)
      case atStart => exact ⟨0, none, [], rfl, Nat.zero_le _, rfl, JSt.start _ _ HB1.out⟩
      case round =>
        clear HB1
        obtain ⟨k, lb, ss, rfl, hk, hu, hs⟩ := hrel
        rw [HLn'.out] at hk
        have HU := Lib.hid hu
        have HS := Lib.hid hs
        have HSS : Hid (∀ x ∈ ss, CompM.IsSrc x) := by
          show ∀ x ∈ ss, _
          intro x hx
          exact HSrc2.out x (by rw [← hu]; simp [hx])
        clear hu hs
        by_cases hlt : k < n'
        · obtain ⟨b, off, rfl, hcs⟩ := HL'.out.cells (by omega)
          obtain ⟨va, vn, vc, q0, q1, q2, q3, -, -⟩ := hcs k hlt
          replace q0 := cell_later HS.out.below q0
          replace q1 := cell_later HS.out.below q1
          replace q2 := cell_later HS.out.below q2
          have HD := Lib.hid (drop_op l' k (by rw [HLn'.out]; exact hlt))
          have hgo := HG2.out (l'.getD k default) (by
            have : l'.getD k default ∈ l'.drop k := by rw [HD.out]; simp
            exact List.mem_of_mem_drop this)
          generalize l'.getD k default = o at q0 q1 q2 q3 HD hgo
          obtain ⟨A0, L0, D⟩ := o
          simp only at q0 q1 q2 q3
          obtain ⟨r1, r2, r3⟩ := DeltaM.good_len hgo.2
          simp only at r1 r2 r3
          have HO := Lib.hid (CompM.good_one hgo)
          have HQ3 := Lib.hid q3
          clear hgo hcs q3
          have hbl : Below wr.heap.size wr (wr.alloc (.cells #[.int .i64 A0, .int .i64 L0, .slice va vn vc] 56)) := (Below.refl _ _).alloc (Nat.le_refl _) _
          have HS1 := Lib.hid (HS.out.later hbl)
          have HP : Hid (CompM.srcs2 (CompM.srcs1 l) (l'.drop k) = D.map (fun x => ((-1 : Int), x)) ++ (((CompM.srcs1 l).drop A0.toNat).take L0.toNat ++ CompM.srcs2 (CompM.srcs1 l) (l'.drop (k + 1)))) := by
            show _ = _
            rw [HD.out]
            rfl
          have HLE : Hid (ss.length + (CompM.srcs2 (CompM.srcs1 l) (l'.drop k)).length ≤ 64) := by
            show _ ≤ 64
            have h1 := congrArg List.length HU.out
            rw [List.length_append] at h1
            have := HSl.out
            omega
          have hssl : ss.length ≤ 64 := by have := HLE.out; omega
          have HBd := Lib.hid ((CompM.Bd.canon ss HSS.out).mono hssl)
          have HIn : Hid (∀ x ∈ CompM.srcs2 (CompM.srcs1 l) (l'.drop k), CompM.IsSrc x) := by
            show ∀ x ∈ _, _
            intro x hx
            exact HSrc2.out x (by rw [← HU.out]; simp [hx])
          clear hbl HS
          by_cases hL0 : L0 = 0
          · subst hL0
            have HSr : Hid (CompM.src ⟨A0, 0, D⟩ = D.map (fun x => ((-1 : Int), x))) := CompM.src_data rfl
            have hbn := one_bound HO.out (by
              intro x hx
              rw [HSr.out] at hx
              exact HIn.out x (by rw [HP.out]; simp only [List.mem_append]; exact .inl hx)) (by
              rw [HSr.out]
              have h1 := HLE.out
              rw [HP.out] at h1
              simp only [List.length_append, List.length_map] at h1 ⊢
              omega)
            obtain ⟨n1, -, n3⟩ := hbn
            simp only at n1 n3
            rw [HQ3.out.len] at n3
            have hadd := fun W (h : JSt w none u14 lb (CompM.canonR ss) W) => add_any h A0 0 D HQ3.out HO.out HBd.out n1 (by omega) n3
            have HADD := Lib.hid hadd
            clear hadd n1 n3
            go_wp2_with fail
            refine (HADD.out _ HS1.out).mono ?_
            rintro e W2 ⟨vo2, lb2, rfl, hs2, -⟩
            rw [CompM.canon_add HO.out HSS.out, HSr.out] at hs2
            have HS2 := Lib.hid hs2
            clear hs2 HADD HS1
            go_wp2_with fail
            go_roundw
            case rel =>
              refine ⟨k + 1, lb2, _, by go_num, by rw [HLn'.out]; omega, ?_, HS2.out⟩
              rw [← HU.out, HP.out]
              simp
            case measure => simp [intOf]; omega
          · obtain ⟨A, rfl⟩ : ∃ A : Nat, A0 = A := ⟨A0.toNat, by omega⟩
            obtain ⟨Lh, rfl⟩ : ∃ Lh : Nat, L0 = Lh := ⟨L0.toNat, by omega⟩
            obtain ⟨T, hT⟩ : ∃ T : Nat, (A : Int) + (Lh : Int) = T := ⟨A + Lh, by omega⟩
            have hLb : ((Lh : Int) == 0) = false := by simp only [beq_eq_false_iff_ne, ne_eq]; exact hL0
            have hDn : D = [] := by
              rcases HO.out with ⟨q, _⟩ | ⟨_, _, q⟩
              · exact absurd q hL0
              · exact q
            have HPS := Lib.hid (CompM.pieces_src (A : Int) (T : Int) (by omega) l 0 HOne.out)
            obtain ⟨P, hPP⟩ : ∃ P, CompM.pieces (A : Int) (T : Int) 0 l = P := ⟨_, rfl⟩
            have HPP := Lib.hid hPP
            rw [hPP] at HPS
            have HPSrc : Hid (CompM.srcs1 P = ((CompM.srcs1 l).drop A).take Lh) := by
              show _ = _
              rw [HPS.out.1, List.drop_take]
              congr 1
              omega
            have HP' : Hid (CompM.srcs2 (CompM.srcs1 l) (l'.drop k) = CompM.srcs1 P ++ CompM.srcs2 (CompM.srcs1 l) (l'.drop (k + 1))) := by
              show _ = _
              rw [HP.out, hDn, HPSrc.out]
              simp
            have hT64 : T ≤ 64 := by omega
            clear hPP hDn HP
            have hpart := part_any a n c l A T (w0 := w)
            have HPT := Lib.hid hpart
            clear hpart
            go_wp2_with fail
            refine (HPT.out _ HL.out HS1.out.below o2 HG1.out hl40 HT1.out (by omega) hT64).mono ?_
            rintro e Wp ⟨pa, pn, pc, rfl, hbp, hps, hpl⟩
            rw [HPP.out] at hps hpl
            have hsp : JSt w (Value.slice pa pn pc).ownBlock u14 lb (CompM.canonR ss) Wp := (HS1.out.later hbp).other _ (fun g hg => by
              have hg2 := hps.own hg
              refine ⟨hg2.2, fun e => ?_, fun e => ?_⟩
              · have := (HS1.out.own e).2
                omega
              · have := (HS1.out.ownL e).2
                omega)
            have HSP := Lib.hid hsp
            have HPS2 := Lib.hid hps
            have HPL := Lib.hid hpl
            obtain ⟨ex, hex⟩ : ∃ ex, (Value.slice pa pn pc).ownBlock = ex := ⟨_, rfl⟩
            rw [hex] at HSP
            have HEX := Lib.hid hex
            have hpn : pn ≤ 9223372036854775807 := by
              have h1 := HLE.out
              rw [HP'.out, List.length_append] at h1
              have h2 := pieces_le HPS.out.2
              omega
            clear hsp hps hpl hbp HS1 HPT hex
            go_wp2_with fail
            go_loopw [14, 56] (fun vo i wr => OfIn w ex ss P Wp vo i wr) (fun _ i _ => pn - (intOf i).toNat)
            case atStart => exact ⟨0, lb, rfl, Nat.zero_le _, by simpa [CompM.srcs1] using HSP.out, Left.refl _ _⟩
            case round =>
              clear HSP q0 q1 q2
              obtain ⟨j, lb2, rfl, hj, hs, hlf⟩ := hrel
              rw [HPL.out] at hj
              have HS := Lib.hid hs
              have HLf := Lib.hid hlf
              clear hs hlf
              by_cases hjl : j < pn
              · obtain ⟨g, av, nv, cv, rfl, e0, e1, e2, e3⟩ := (HPS2.out.keep (W' := wr) (fun g hg => HLf.out g (HEX.out.symm.trans hg))).at_ (k := j) (by rw [HPL.out]; exact hjl)
                have HDj := Lib.hid (drop_op P j (by rw [HPL.out]; exact hjl))
                have HTj : Hid (P.take (j + 1) = P.take j ++ [P.getD j default]) := by
                  show _ = _
                  have hjl2 : j < P.length := by rw [HPL.out]; exact hjl
                  rw [List.take_add_one, List.getD_eq_getElem?_getD, List.getElem?_eq_getElem hjl2]
                  rfl
                have hone := HPS.out.2 (P.getD j default) (by
                  have : P.getD j default ∈ P.drop j := by rw [HDj.out]; simp
                  exact List.mem_of_mem_drop this)
                generalize P.getD j default = p at e0 e1 e2 e3 HDj HTj hone
                obtain ⟨PA, PL, PD⟩ := p
                simp only at e0 e1 e2 e3
                have HON := Lib.hid hone
                have HSpl : Hid (CompM.srcs1 P = CompM.srcs1 (P.take j) ++ (CompM.src ⟨PA, PL, PD⟩ ++ CompM.srcs1 (P.drop (j + 1)))) := by
                  show _ = _
                  rw [← CompM.srcs1_cons, ← HDj.out, ← CompM.srcs1_append, List.take_append_drop]
                have HSS2 : Hid (∀ x ∈ ss ++ CompM.srcs1 (P.take j), CompM.IsSrc x) := by
                  show ∀ x ∈ _, _
                  intro x hx
                  rcases List.mem_append.1 hx with hx | hx
                  · exact HSS.out x hx
                  · exact HIn.out x (by rw [HP'.out, HSpl.out]; simp only [List.mem_append]; exact .inl (.inl hx))
                have hlen2 : ss.length + ((CompM.srcs1 (P.take j)).length + (CompM.src ⟨PA, PL, PD⟩).length) ≤ 64 := by
                  have h1 := HLE.out
                  rw [HP'.out, HSpl.out] at h1
                  simp only [List.length_append] at h1
                  omega
                have hbn := one_bound hone (by
                  intro x hx
                  exact HIn.out x (by rw [HP'.out, HSpl.out]; simp only [List.mem_append]; exact .inl (.inr (.inl hx)))) (by omega)
                obtain ⟨n1, n2, n3⟩ := hbn
                simp only at n1 n2 n3
                rw [e3.len] at n3
                have HBd2 := Lib.hid ((CompM.Bd.canon _ HSS2.out).mono (show (ss ++ CompM.srcs1 (P.take j)).length ≤ 64 by rw [List.length_append]; omega))
                have hadd := fun W (h : JSt w ex u14 lb2 (CompM.canonR (ss ++ CompM.srcs1 (P.take j))) W) => add_any h PA PL PD e3 hone HBd2.out n1 n2 n3
                have HADD := Lib.hid hadd
                have hbl : Below wr.heap.size wr (wr.alloc (.cells #[.int .i64 PA, .int .i64 PL, .slice av nv cv] 56)) := (Below.refl _ _).alloc (Nat.le_refl _) _
                have HS3 := Lib.hid (HS.out.later hbl)
                have HL3 := Lib.hid (HLf.out.trans (HS.out.left hbl))
                clear hadd n1 n2 n3 hone e3 hlen2 hbl HS HLf HBd2
                go_wp2_with fail
                refine (HADD.out _ HS3.out).mono ?_
                rintro e W2 ⟨vo2, lb3, rfl, hs2, hl2⟩
                rw [CompM.canon_add HON.out HSS2.out] at hs2
                have HS4 := Lib.hid hs2
                have HL4 := Lib.hid (HL3.out.trans hl2)
                clear hs2 hl2 HADD HS3 HL3 e0 e1 e2
                go_wp2_with fail
                go_roundw
                case rel =>
                  refine ⟨j + 1, lb3, by go_num, by rw [HPL.out]; omega, ?_, HL4.out⟩
                  rw [HTj.out, CompM.srcs1_append, CompM.srcs1_cons]
                  simpa [CompM.srcs1] using HS4.out
                case measure => simp [intOf]; omega
              · obtain rfl : j = pn := by omega
                go_wp2_with fail
                go_roundw
                case rel =>
                  refine ⟨k + 1, lb2, ss ++ CompM.srcs1 P, by go_num, by rw [HLn'.out]; omega, ?_, ?_⟩
                  · rw [← HU.out, HP'.out, List.append_assoc]
                  · have := HS.out.other none (fun g hg => by cases hg)
                    rwa [List.take_of_length_le (by rw [HPL.out]; exact Nat.le_refl _)] at this
                case measure => simp [intOf]; omega
        · have hdr : l'.drop k = [] := List.drop_eq_nil_of_le (by rw [HLn'.out]; omega)
          have hu := HU.out
          rw [hdr] at hu
          simp only [CompM.srcs2, List.append_nil] at hu
          subst hu
          obtain ⟨ar, cr, hvo, hos⟩ := HS.out.slice
          subst hvo
          rw [show (CompM.canonR (CompM.srcs2 (CompM.srcs1 l) l')).reverse = CompM.joined l l' from rfl] at hos
          have HOS := Lib.hid hos
          have HBW := Lib.hid HS.out.below
          obtain ⟨nr, hnr⟩ : ∃ nr, (CompM.canonR (CompM.srcs2 (CompM.srcs1 l) l')).length = nr := ⟨_, rfl⟩
          rw [hnr] at HOS
          simp only [hnr]
          obtain ⟨E3, hE3⟩ : ∃ E, DeltaM.check (CompM.joined l l') old s = E := ⟨_, rfl⟩
          have hc3 := check_any ar nr cr (CompM.joined l l') old s
          rw [hE3] at hc3
          have HC3 := Lib.hid hc3
          have HE3 := Lib.hid hE3
          clear hos hdr hc3 hE3 hnr HS
          go_wp2_with fail
          refine (HC3.out _ HOS.out).mono ?_
          rintro e W9 ⟨rfl, b9⟩
          have HOS9 := Lib.hid (HOS.out.later b9)
          have HB9 := Lib.hid (below_then HBW.out b9)
          clear b9 HOS
          by_cases h3 : E3 = 0
          · subst h3
            have HK := Lib.hid (CompM.composed_0 HE1.out HE2.out HE3.out)
            go_wp2_with fail
            go_ret2
            exact ⟨ar, nr, cr, tup_a (by rw [HK.out]), by rw [HK.out]; exact HOS9.out, HB9.out⟩
          · have HK := Lib.hid (CompM.composed_3 HE1.out HE2.out HE3.out h3)
            have hne : (E3 != 0) = true := by simp [h3]
            go_wp2_with fail
            go_ret2
            exact ⟨none, 0, 0, tup_a (by rw [HK.out]), by rw [HK.out]; exact OS.nil_ _, HB9.out⟩
    · have HK := Lib.hid (CompM.composed_2 HE1.out HE2.out h2)
      have hne : (E2 != 0) = true := by simp [h2]
      go_enter Try.func45, Try.ntmps45
      go_wp2_with fail
      refine (HC1.out _ HL.out).mono ?_
      rintro e W0 ⟨rfl, b0⟩
      go_wp2_with fail
      refine (HC2.out _ (HL'.out.later b0)).mono ?_
      rintro e W1 ⟨rfl, b1⟩
      have b2 := below_then b0 b1
      go_wp2_with fail
      go_ret2
      exact ⟨none, 0, 0, tup_a (by rw [HK.out]), by rw [HK.out]; exact OS.nil_ _, b2⟩
  · have HK := Lib.hid (CompM.composed_1 (second := l') (s := s) HE1.out h1)
    have hne : (E1 != 0) = true := by simp [h1]
    go_enter Try.func45, Try.ntmps45
    go_wp2_with fail
    refine (HC1.out _ HL.out).mono ?_
    rintro e W0 ⟨rfl, b0⟩
    go_wp2_with fail
    go_ret2
    exact ⟨none, 0, 0, tup_a (by rw [HK.out]), by rw [HK.out]; exact OS.nil_ _, b0⟩
end Go.Proofs.Ytmpmaljkmfgagaa
