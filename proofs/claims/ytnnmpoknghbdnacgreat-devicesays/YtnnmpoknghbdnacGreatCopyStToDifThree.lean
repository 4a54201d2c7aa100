/-
  Texts put into one: CopySt, CloneC, BClone, CopiedC, CpyU, OpU, InsSt, InsC, InsG, InsFin, DvCopy, DevMath2, InsMathC, DvFew, RecCop, RecCps, RecRd, RecWr, DvPut, TurnMem, InRef, CheckOps, EqBytes, EqAny, SameOps, CheckPat, SumR, Index, LongestOf, Step, Diffed, AppSt, Applied, PatMade, Lit, StepsL, DifThree.
-/
import Derived.Test.YtnnmpoknghbdnacGreatRowToChSt
import Derived.Laws.OwnMore
import Derived.Lib.SliceRun
import Derived.Laws.CopyOwn
import Derived.Laws.Slices
import Derived.Lib.AppendZerosOnto
import Derived.Lib.Overlaps
import Derived.Deep.RegionLaw
import Derived.Deep.Cut
import Derived.Shelf.Bytes.SlEqualAll
import Derived.Ground.NamesProg
import Derived.Shelf.Lay
import Derived.Shelf.Bytes.SlIndexWhole
import Derived.Maps.AppendAt
import Derived.Handy
import Derived.Lib.SlBytesConst
set_option maxRecDepth 100000
set_option maxHeartbeats 4000000
namespace Go.Proofs.YtnnmpoknghbdnacGreat
open Go.RowKit
def ReadsG (W : World) (base : Nat) (ex : Option Nat) (o : ChVv) (r : ChR) : Prop :=
 o.fr = r.fr ∧ o.to_ = r.to_ ∧ o.n = r.n ∧ o.of_ = r.of_ ∧ r.I ∧ ∃ a n c, o.v = .slice a n c ∧ BS W a n c r.data ∧ ∀ p, a = some p → base ≤ p.block ∧ p.block < W.heap.size ∧ some p.block ≠ ex
theorem ReadsG.plain {W : World} {base : Nat} {ex : Option Nat} {o : ChVv} {r : ChR} (h : ReadsG W base ex o r) : zbG W o r := by
 obtain ⟨h1, h2, h3, h4, h5, a, n, c, h6, h7, -⟩ := h; exact ⟨h1, h2, h3, h4, h5, a, n, c, h6, h7⟩
theorem ReadsG.keep {W W' : World} {base : Nat} {ex : Option Nat} {o : ChVv} {r : ChR} (h : ReadsG W base ex o r) (hs : W.heap.size ≤ W'.heap.size) (hk : ∀ k, base ≤ k → k < W.heap.size → some k ≠ ex → W'.heap[k]? = W.heap[k]?) : ReadsG W' base ex o r := by
 obtain ⟨h1, h2, h3, h4, h5, a, n, c, h6, h7, h8⟩ := h; refine ⟨h1, h2, h3, h4, h5, a, n, c, h6, h7.keepBlk (fun p hp => hk _ (h8 p hp).1 (h8 p hp).2.1 (h8 p hp).2.2), fun p hp => ⟨(h8 p hp).1, ?_, (h8 p hp).2.2⟩⟩; have := (h8 p hp).2.1; omega
theorem zbG.one {W : World} {o : ChVv} {r : ChR} (h : zbG W o r) : o.v.oneCell' = true := by
 obtain ⟨-, -, -, -, -, a, n, c, h6, -⟩ := h; rw [h6]
 rfl
theorem zbc {vs : List ChVv} (h : ∀ o ∈ vs, o.v.oneCell' = true) : ∀ u ∈ zas vs, u.oneCell' = true := by
 induction vs with
 | nil => intro u hu; simp [zas] at hu
 | cons o t ih =>
   intro u hu; simp only [zas, List.mem_cons] at hu; rcases hu with rfl | rfl | rfl | rfl | rfl | hu
   · rfl
   · rfl
   · rfl
   · rfl
   · exact h o (by simp)
   · exact ih (fun o' ho' => h o' (by simp [ho'])) u hu
theorem one_all {W : World} {vs : List ChVv} {l : List ChR} (hl : vs.length = l.length) (h : ∀ i, i < l.length → zbG W (vs.getD i default) (l.getD i default)) : ∀ o ∈ vs, o.v.oneCell' = true := by
 intro o ho; obtain ⟨i, hi, rfl⟩ := List.mem_iff_getElem.1 ho; have := (h i (by omega)).one
 rwa [List.getD_eq_getElem?_getD, List.getElem?_eq_getElem hi, Option.getD_some] at this
def CpSt (base : Nat) (vo : Value) (out : List ChR) (W : World) : Prop :=
 ∃ vs : List ChVv, vs.length = out.length ∧ W.ownsRow base 39 5 vo out.length (zas vs) ∧ ∀ i, i < out.length → ReadsG W base vo.ownBlock (vs.getD i default) (out.getD i default)
theorem CpSt.later {base : Nat} {vo : Value} {out : List ChR} {W W' : World} (h : CpSt base vo out W) (hb : Below W.heap.size W W') : CpSt base vo out W' := by
 obtain ⟨vs, h1, h2, h3⟩ := h; exact ⟨vs, h1, za1 h2 (fun g hg => hb.block _ (oL3 h2 hg).2), fun i hi => (h3 i hi).keep hb.size (fun k _ hk _ => hb.block k hk)⟩
theorem CpSt.ch {base : Nat} {vo : Value} {out : List ChR} {W : World} (h : CpSt base vo out W) : ChSt W base vo out W := by
 obtain ⟨vs, h1, h2, h3⟩ := h; exact ⟨vs, h1, h2, fun i hi => (h3 i hi).plain⟩
theorem CpSt.cs {base : Nat} {a : Option Addr} {n c : Nat} {out : List ChR} {W : World} (h : CpSt base (.slice a n c) out W) (hn : out.length = n) : CS W a n c out := h.ch.cs hn (Below.refl _ _)
theorem CS.vs {w : World} {a : Option Addr} {n c : Nat} {l : List ChR} (h : CS w a n c l) : ∃ vs : List ChVv, vs.length = l.length ∧ (∀ i, i < l.length → zbG w (vs.getD i default) (l.getD i default)) ∧ ∀ ad, a = some ad → ∀ j u, (zas vs)[j]? = some u → w.cell? (ad.add j) = some u := by
 have hlen := h.len; by_cases hp : 0 < n
 · obtain ⟨b, off, rfl, hc⟩ := h.cells hp
   have each : ∀ i, i < l.length → ∃ o : ChVv, zbG w o (l.getD i default) ∧ w.cell? ⟨b, off + i * 5, none⟩ = some (.int .i64 o.fr) ∧ w.cell? ⟨b, off + i * 5 + 1, none⟩ = some (.int .i64 o.to_) ∧ w.cell? ⟨b, off + i * 5 + 2, none⟩ = some (.int .i64 o.n) ∧ w.cell? ⟨b, off + i * 5 + 3, none⟩ = some (.int .i64 o.of_) ∧ w.cell? ⟨b, off + i * 5 + 4, none⟩ = some o.v := by
    intro i hi; obtain ⟨va, vm, vc, q0, q1, q2, q3, q4, q5, qI⟩ := hc i (by omega); exact ⟨⟨_, _, _, _, .slice va vm vc⟩, ⟨rfl, rfl, rfl, rfl, qI, va, vm, vc, rfl, q5⟩, q0, q1, q2, q3, q4⟩
   obtain ⟨vs, hvl, hvs⟩ := list_of default _ l.length each; refine ⟨vs, hvl, fun i hi => (hvs i hi).1, fun ad had j u hu => ?_⟩; injection had with had; subst had
   have hj : j < vs.length * 5 := by
    rcases Nat.lt_or_ge j (vs.length * 5) with q | q
    · exact q
    · rw [List.getElem?_eq_none (by rw [zaN]; exact q)] at hu; cases hu
   obtain ⟨-, q0, q1, q2, q3, q4⟩ := hvs (j / 5) (by omega); obtain ⟨g0, g1, g2, g3, g4⟩ := zbM vs (j / 5) (by omega); rw [addr_add]; rcases (by omega : j = j / 5 * 5 ∨ j = j / 5 * 5 + 1 ∨ j = j / 5 * 5 + 2 ∨ j = j / 5 * 5 + 3 ∨ j = j / 5 * 5 + 4) with hr | hr | hr | hr | hr
   · rw [hr] at hu ⊢
     rw [g0] at hu; rw [← hu]; exact q0
   · rw [hr] at hu ⊢
     rw [g1] at hu; rw [← hu]; exact q1
   · rw [hr] at hu ⊢
     rw [g2] at hu; rw [← hu]; exact q2
   · rw [hr] at hu ⊢
     rw [g3] at hu; rw [← hu]; exact q3
   · rw [hr] at hu ⊢
     rw [g4] at hu; rw [← hu]; exact q4
 · obtain rfl : l = [] := List.eq_nil_of_length_eq_zero (by omega)
   exact ⟨[], rfl, fun i hi => absurd hi (by simp), fun ad _ j u hu => by simp [zas] at hu⟩
theorem cellsC_set4 : ∀ (L : List ChVv) (k : Nat) (v : Value), k < L.length → (zas L).set (k * 5 + 4) v = zas (L.set k ⟨(L.getD k default).fr, (L.getD k default).to_, (L.getD k default).n, (L.getD k default).of_, v⟩)
 | [], k, v, h => by simp at h
 | e :: t, 0, v, _ => by simp [zas]
 | e :: t, k + 1, v, h => by
   have := cellsC_set4 t k v (by simpa using h)
   simp only [zas, List.set_cons_succ, List.getD_cons_succ, show (k + 1) * 5 + 4 = k * 5 + 4 + 1 + 1 + 1 + 1 + 1 by omega]
   rw [this]
theorem getD_setC (L : List ChVv) (k q : Nat) (e : ChVv) (hk : k < L.length) : (L.set k e).getD q default = if k = q then e else L.getD q default := by
 simp only [List.getD_eq_getElem?_getD, List.getElem?_set]; split
 · simp
 · rfl
def CpUp (w : World) (vo : Value) (l : List ChR) (k : Nat) (W : World) : Prop :=
 ∃ vs : List ChVv, vs.length = l.length ∧ W.ownsRow w.heap.size 39 5 vo l.length (zas vs) ∧ (∀ i, i < k → i < l.length → ReadsG W w.heap.size vo.ownBlock (vs.getD i default) (l.getD i default)) ∧ (∀ i, k ≤ i → i < l.length → zbG w (vs.getD i default) (l.getD i default)) ∧ Below w.heap.size w W
theorem CpUp.start {w W : World} {vo : Value} {l : List ChR} (h : ChSt w w.heap.size vo l W) (hb : Below w.heap.size w W) : CpUp w vo l 0 W := by
 obtain ⟨vs, h1, h2, h3⟩ := h; exact ⟨vs, h1, h2, fun i hi => absurd hi (by omega), fun i _ hi => h3 i hi, hb⟩
theorem CpUp.fin {w W : World} {vo : Value} {l : List ChR} {k : Nat} (h : CpUp w vo l k W) (hk : l.length ≤ k) : CpSt w.heap.size vo l W := by
 obtain ⟨vs, h1, h2, h3, -⟩ := h; exact ⟨vs, h1, h2, fun i hi => h3 i (by omega) hi⟩
theorem CpUp.later {w W W' : World} {vo : Value} {l : List ChR} {k : Nat} (h : CpUp w vo l k W) (hb : Below W.heap.size W W') : CpUp w vo l k W' := by
 obtain ⟨vs, h1, h2, h3, h4, h5⟩ := h; exact ⟨vs, h1, za1 h2 (fun g hg => hb.block _ (oL3 h2 hg).2), fun i hi hi' => (h3 i hi hi').keep hb.size (fun k _ hk _ => hb.block k hk), h4, bTh h5 hb⟩
theorem CpUp.cell {w W : World} {g n cap : Nat} {l : List ChR} {k : Nat} (h : CpUp w (.slice (some ⟨g, 0, none⟩) n cap) l k W) (hl : l.length = n) (hk : k < n) :
 ∃ a m c, W.cell? ⟨g, k * 5 + 4, none⟩ = some (.slice a m c) ∧ BS W a m c (l.getD k default).data ∧ W.frozen? ⟨g, k * 5 + 4, none⟩ = false := by
 obtain ⟨vs, h1, h2, h3, h4, h5⟩ := h; subst hl; obtain ⟨-, -, -, -, -, a, m, c, hv, hbs⟩ := h4 k (Nat.le_refl _) hk; have e4 := h2.cellAt (k * 5 + 4) (by omega); rw [(zbM vs k (by omega)).2.2.2.2, hv] at e4; exact ⟨a, m, c, e4, hbs.later h5, h2.frozenAt _⟩
theorem CpUp.step {w W W2 : World} {g n cap : Nat} {l : List ChR} {k : Nat} (h : CpUp w (.slice (some ⟨g, 0, none⟩) n cap) l k W) (hl : l.length = n) (hk : k < n) {a : Option Addr} {m c : Nat}
 (ho : W2.ownsRow W.heap.size 5 1 (.slice a m c) m ((l.getD k default).data.map (Value.int .u8))) (hby : ∀ x ∈ (l.getD k default).data, 0 ≤ x ∧ x ≤ 255) (hb : Below W.heap.size W W2) :
 CpUp w (.slice (some ⟨g, 0, none⟩) n cap) l (k + 1) (W2.setCell ⟨g, k * 5 + 4, none⟩ (.slice a m c)) := by
 have hwg := h; obtain ⟨vs0, -, hown0, -, -, hb0⟩ := hwg; have hgb := oL3 hown0 (g := g) rfl; obtain ⟨vs, h1, h2, h3, h4, h5⟩ := h.later hb; subst hl; have hst := h2.stored (k * 5 + 4) (.slice a m c); rw [cellsC_set4 vs k _ (by omega)] at hst; have hsz : (W2.setCell ⟨g, k * 5 + 4, none⟩ (.slice a m c)).heap.size = W2.heap.size := by simp
 have hoth : ∀ q, q ≠ g → (W2.setCell ⟨g, k * 5 + 4, none⟩ (.slice a m c)).heap[q]? = W2.heap[q]? := fun q hq => Below.heap_setCell _ _ _ q hq; refine ⟨_, by simp [h1], hst.1, fun i hi hi' => ?_, fun i hi hi' => ?_, h5.setCell hgb.1 _⟩
 · rw [getD_setC _ _ _ _ (by omega)]
   by_cases hik : k = i
   · subst hik
     rw [if_pos rfl]; obtain ⟨r1, r2, r3, r4, r5, -⟩ := h4 k (Nat.le_refl _) hk; refine ⟨r1, r2, r3, r4, r5, a, m, c, rfl, ?_, fun p hp => ?_⟩
     · refine (BS.of_own ho hby).keepBlk (fun p hp => hoth _ ?_)
       have := oL3 ho (g := p.block) (by rw [hp]; rfl); omega
     · have := oL3 ho (g := p.block) (by rw [hp]; rfl)
       refine ⟨?_, by rw [hsz]; omega, ?_⟩
       · have := hb0.size
         omega
       · simp only [Value.ownBlock, ne_eq, Option.some.injEq]
         omega
   · rw [if_neg hik]
     refine (h3 i (by omega) hi').keep (by rw [hsz]; exact Nat.le_refl _) (fun q _ _ hq => hoth q ?_); rintro rfl; exact hq rfl
 · rw [getD_setC _ _ _ _ (by omega), if_neg (by omega)]
   exact h4 i (by omega) hi'
theorem CpSt.own {base : Nat} {vo : Value} {out : List ChR} {W : World} (h : CpSt base vo out W) {g : Nat} (hg : vo.ownBlock = some g) : base ≤ g ∧ g < W.heap.size := by
 obtain ⟨vs, h1, h2, h3⟩ := h; exact oL3 h2 hg
theorem between {W : World} {vs : List ChVv} {l : List ChR} {o : ChVv} {r : ChR} (hl : vs.length = l.length) (h : ∀ i, i < l.length → zbG W (vs.getD i default) (l.getD i default)) (ho : zbG W o r) (j : Nat) (hj : j ≤ l.length) :
 (vs.take j ++ o :: vs.drop j).length = (l.take j ++ r :: l.drop j).length ∧ ∀ i, i < (l.take j ++ r :: l.drop j).length → zbG W ((vs.take j ++ o :: vs.drop j).getD i default) ((l.take j ++ r :: l.drop j).getD i default) := by
 refine ⟨by simp [hl], fun i hi => ?_⟩; have hlen : (l.take j ++ r :: l.drop j).length = l.length + 1 := by simp; omega
 rw [hlen] at hi; have tv : (vs.take j).length = j := by simp; omega
 have tl : (l.take j).length = j := by simp; omega
 simp only [List.getD_eq_getElem?_getD] at h ⊢; rcases Nat.lt_trichotomy i j with hlt | rfl | hgt
 · rw [List.getElem?_append_left (by omega), List.getElem?_append_left (by omega), List.getElem?_take_of_lt hlt, List.getElem?_take_of_lt hlt]
   exact h i (by omega)
 · rw [List.getElem?_append_right (by omega), List.getElem?_append_right (by omega), tv, tl, Nat.sub_self]
   exact ho
 · obtain ⟨q, rfl⟩ : ∃ q, i = j + q + 1 := ⟨i - j - 1, by omega⟩
   rw [List.getElem?_append_right (by omega), List.getElem?_append_right (by omega), tv, tl, show j + q + 1 - j = q + 1 by omega, List.getElem?_cons_succ, List.getElem?_cons_succ, List.getElem?_drop, List.getElem?_drop]; exact h (j + q) (by omega)
theorem cloneC_any (a : Option Addr) (n c : Nat) (l : List ChR) (w : World) (hs : CS w a n c l) (hn : n ≤ 1000) :
 Calls Tryz.prog 49 #[.slice a n c] w fun e w' => ∃ a' c', e = .returned (.slice a' n c') ∧ ChSt w w.heap.size (.slice a' n c') l w' ∧ Below w.heap.size w w' := by
 have hq := fun (A : Option Addr) (n c : Nat) (w : World) => Lib.run_eql_slice_nil (P := Tryz.prog) w 32 39 A n c 0 0 U32
 cases a with
 | none =>
   have hc := hs.none_ rfl; subst hc; obtain rfl : n = 0 := by have := hs.le; omega
   obtain rfl : l = [] := List.eq_nil_of_length_eq_zero hs.len; go_enter Tryz.func49, Tryz.ntmps49; go_wp2; go_ret; exact ⟨none, 0, rfl, ChSt.start _ _ _, Below.refl _ _⟩
 | some ad =>
   obtain ⟨i0, hi, hz0, hz1, hz2⟩ := info_parts Tryz.info_chunk; obtain ⟨vs, hvl, hvr, hvc⟩ := hs.vs; have hll := hs.len; have hown := World.ownsRow_lit (base := w.heap.size) (e := 39) (size := 5) w #[] 0 (Nat.le_refl _) (by unfold maxLen; omega) rfl; have hb1 := (Below.refl w.heap.size w).alloc (Nat.le_refl _) (.cells #[] 39)
   obtain ⟨v', w', hr, ho, hg, _⟩ := run_append_own (P := Tryz.prog) (w.alloc (.cells #[] 39)) w.heap.size 32 32 39 i0 _ 5 56 U32 hi hz0 hz1 hz2 rfl (by decide) _ 0 _ hown ad n c (zas vs)
    (by rw [zaN, hvl, hll]) (fun j u hu => cell_later hb1 (hvc ad rfl j u hu)) (zbc (one_all hvl hvr)) (by unfold maxLen; omega) (by omega) (by simp)
   obtain ⟨a', c', rfl⟩ : ∃ a' c', v' = .slice a' (0 + n) c' := by
    rcases ho.2 with ⟨h1, h2⟩ | ⟨g, cap, cur, h1, _⟩
    · exact ⟨none, 0, by rw [h1, h2]⟩
    · exact ⟨_, _, h1⟩
   rw [Nat.zero_add] at hr ho; have hb' := hb1.grown hg (by simp) (fun g hg => (hown.lt g hg).1)
   have HO : Hid (ChSt w w.heap.size (.slice a' n c') l w') := by
    refine ⟨vs, hvl, ?_, hvr⟩; rw [hll]
    simpa using ho
   clear ho hown hz0 hz1 hz2 hi hvr hvc; go_enter Tryz.func49, Tryz.ntmps49; go_wp2_with (at_builtin; refine Lib.wpList_append_run _ rfl _ _ _ _ rfl _ _ rfl rfl _ _ hr ?_); go_ret; exact ⟨a', c', rfl, HO.out, hb'⟩
theorem zbV (a : Option Addr) (n c : Nat) (l : List Int) (w : World) (hs : BS w a n c l) (hn : n ≤ 140737488355328) :
 Calls Tryz.prog 98 #[.slice a n c] w (GivesB w l) := by
 have hq := fun (A : Option Addr) (n c : Nat) (w : World) => Lib.run_eql_slice_nil (P := Tryz.prog) w 22 5 A n c 0 0 U22
 cases a with
 | none =>
   have hc := hs.none_ rfl; subst hc; obtain rfl : n = 0 := by have := hs.le; omega
   obtain rfl : l = [] := List.eq_nil_of_length_eq_zero hs.len; go_enter Tryz.func98, Tryz.ntmps98; go_wp2; go_ret; exact ⟨none, 0, 0, rfl, World.ownsRow_nil _ _ _ _, Below.refl _ _⟩
 | some ad =>
   have hown := World.ownsRow_lit (base := w.heap.size) (e := 5) (size := 1) w #[] 0 (Nat.le_refl _) (by unfold maxLen; omega) rfl; have hb1 := (Below.refl w.heap.size w).alloc (Nat.le_refl _) (.cells #[] 5); obtain ⟨a', c', w', hrun, hown', hg⟩ := zbi (l := []) hown (hs.later hb1) (by omega) (by simp); have hb' := hb1.grown hg (by simp) (fun g hg => (hown.lt g hg).1); have HO := LH hown'; clear hown' hown; go_enter Tryz.func98, Tryz.ntmps98; go_wp2_with (at_builtin; refine Lib.wpList_append_run _ rfl _ _ _ _ rfl _ _ rfl rfl _ _ hrun ?_); go_ret; exact ⟨a', n, c', rfl, by simpa using HO.out, hb'⟩
def GivesCp (l : List ChR) (w : World) (e : Ending) (w' : World) : Prop :=
 ∃ a n c, e = .returned (.slice a n c) ∧ l.length = n ∧ CpSt w.heap.size (.slice a n c) l w' ∧ Below w.heap.size w w'
def CpRel (l : List ChR) (w : World) (vo i : Value) (wr : World) : Prop := ∃ k : Nat, i = .int .i64 k ∧ k ≤ l.length ∧ CpUp w vo l k wr
theorem copied_any (a : Option Addr) (n c : Nat) (l : List ChR) (w : World) (hs : CS w a n c l) (hn : n ≤ 1000) (hd : ∀ x ∈ l, x.data.length ≤ 1000) :
 Calls Tryz.prog 135 #[.slice a n c] w (GivesCp l w) := by
 have HL := LH hs; have HLn := LH hs.len; have HDat := LH hd; clear hs hd; go_enter Tryz.func135, Tryz.ntmps135; go_wp2_with fail; refine (cloneC_any a n c l _ HL.out hn).mono ?_; rintro e W1 ⟨a1, c1, rfl, hch, b1⟩; have HU := LH (CpUp.start hch b1); clear hch b1; go_wp2_with fail; go_loopw [8] (fun i wr => CpRel l w (.slice a1 n c1) i wr) (fun i _ => n - (intOf i).toNat)
 case atStart => exact ⟨0, rfl, Nat.zero_le _, HU.out⟩
 case round =>
  obtain ⟨k, rfl, hk, hu⟩ := hrel; rw [HLn.out] at hk; have HU2 := LH hu; clear hu HU; by_cases hlt : k < n
  · obtain ⟨g, rfl⟩ : ∃ g, a1 = some ⟨g, 0, none⟩ := by
     obtain ⟨vs, -, ho, -⟩ := HU2.out; obtain ⟨g, cap, hv, -⟩ := ho.form (by rw [HLn.out]; omega); simp only [Value.slice.injEq] at hv; exact ⟨g, hv.1⟩
    obtain ⟨va, vm, vc, q4, q5, f4⟩ := HU2.out.cell HLn.out hlt
    have hml : (l.getD k default).data.length ≤ 1000 := HDat.out _ (by
     have hkl : k < l.length := by rw [HLn.out]; exact hlt
     rw [List.getD_eq_getElem?_getD, List.getElem?_eq_getElem hkl]
     exact List.getElem_mem _)
    have hvl := q5.len; have HBy := LH q5.bytes; have HBC := LH (zbV va vm vc _ _ q5 (by omega)); clear q5; go_wp2_with fail; refine HBC.out.mono ?_; rintro e W2 ⟨a2, n2, c2, rfl, ho2, b2⟩; have HS := LH (HU2.out.step HLn.out hlt ho2 HBy.out b2); have q4' := cell_later b2 q4
    have f4' : W2.frozen? ⟨g, k * 5 + 4, none⟩ = false := by
     obtain ⟨_, _, _, _, _, hf⟩ := (HU2.out.later b2).cell HLn.out hlt; exact hf
    clear ho2 b2 HBC HBy q4 f4; go_wp2_with fail; go_roundw
    case rel => exact ⟨k + 1, by go_num, by rw [HLn.out]; omega, HS.out⟩
    case measure => simp [intOf]; omega
  · have HF := LH (HU2.out.fin (by rw [HLn.out]; omega))
    have HB : Hid (Below w.heap.size w wr) := by
     obtain ⟨_, _, _, _, _, hb⟩ := HU2.out; exact hb
    go_wp2_with fail; go_ret; exact ⟨a1, n, c1, rfl, HLn.out, HF.out, HB.out⟩
def CpU (w : World) (B : Nat) (vo : Value) (l : List ChR) (k : Nat) (W : World) : Prop :=
 ∃ vs : List ChVv, vs.length = l.length ∧ W.ownsRow B 39 5 vo l.length (zas vs) ∧ (∀ i, i < k → i < l.length → ReadsG W B vo.ownBlock (vs.getD i default) (l.getD i default)) ∧ (∀ i, k ≤ i → i < l.length → zbG w (vs.getD i default) (l.getD i default))
section
variable {w W W' W2 : World} {B : Nat} {vo : Value} {l : List ChR} {k : Nat}
theorem CpU.start (h : ChSt w B vo l W) : CpU w B vo l 0 W := by
 obtain ⟨vs, h1, h2, h3⟩ := h; exact ⟨vs, h1, h2, fun i hi => absurd hi (by omega), fun i _ hi => h3 i hi⟩
theorem CpU.fin (h : CpU w B vo l k W) (hk : l.length ≤ k) : CpSt B vo l W := by
 obtain ⟨vs, h1, h2, h3, -⟩ := h; exact ⟨vs, h1, h2, fun i hi => h3 i (by omega) hi⟩
theorem CpU.own (h : CpU w B vo l k W) {g : Nat} (hg : vo.ownBlock = some g) : B ≤ g ∧ g < W.heap.size := by
 obtain ⟨vs, h1, h2, -⟩ := h; exact oL3 h2 hg
theorem CpU.form (h : CpU w B vo l k W) (hl : 0 < l.length) : ∃ g cap, vo = .slice (some ⟨g, 0, none⟩) l.length cap := by
 obtain ⟨vs, h1, h2, -⟩ := h; obtain ⟨g, cap, hv, -⟩ := h2.form hl; exact ⟨g, cap, hv⟩
theorem CpU.keep (h : CpU w B vo l k W) (hs : W.heap.size ≤ W'.heap.size) (hk : ∀ q, B ≤ q → q < W.heap.size → W'.heap[q]? = W.heap[q]?) : CpU w B vo l k W' := by
 obtain ⟨vs, h1, h2, h3, h4⟩ := h; exact ⟨vs, h1, za1 h2 (fun g hg => hk g (oL3 h2 hg).1 (oL3 h2 hg).2), fun i hi hi' => (h3 i hi hi').keep hs (fun q q1 q2 _ => hk q q1 q2), h4⟩
theorem CpU.later (h : CpU w B vo l k W) (hb : Below W.heap.size W W') : CpU w B vo l k W' := h.keep hb.size (fun q _ q2 => hb.block q q2)
theorem CpU.cell {g n cap : Nat} (h : CpU w B (.slice (some ⟨g, 0, none⟩) n cap) l k W) (hw : Below w.heap.size w W) (hl : l.length = n) (hk : k < n) :
 ∃ a m c, W.cell? ⟨g, k * 5 + 4, none⟩ = some (.slice a m c) ∧ BS W a m c (l.getD k default).data ∧ W.frozen? ⟨g, k * 5 + 4, none⟩ = false := by
 obtain ⟨vs, h1, h2, h3, h4⟩ := h; subst hl; obtain ⟨-, -, -, -, -, a, m, c, hv, hbs⟩ := h4 k (Nat.le_refl _) hk; have e4 := h2.cellAt (k * 5 + 4) (by omega); rw [(zbM vs k (by omega)).2.2.2.2, hv] at e4; exact ⟨a, m, c, e4, hbs.later hw, h2.frozenAt _⟩
theorem CpU.step {g n cap : Nat} (h : CpU w B (.slice (some ⟨g, 0, none⟩) n cap) l k W) (hl : l.length = n) (hk : k < n) {a : Option Addr} {m c : Nat}
 (ho : W2.ownsRow W.heap.size 5 1 (.slice a m c) m ((l.getD k default).data.map (Value.int .u8))) (hby : ∀ x ∈ (l.getD k default).data, 0 ≤ x ∧ x ≤ 255) (hb : Below W.heap.size W W2) :
 CpU w B (.slice (some ⟨g, 0, none⟩) n cap) l (k + 1) (W2.setCell ⟨g, k * 5 + 4, none⟩ (.slice a m c)) := by
 have hgb := h.own (g := g) rfl; obtain ⟨vs, h1, h2, h3, h4⟩ := h.later hb; subst hl; have hst := h2.stored (k * 5 + 4) (.slice a m c); rw [cellsC_set4 vs k _ (by omega)] at hst; have hsz : (W2.setCell ⟨g, k * 5 + 4, none⟩ (.slice a m c)).heap.size = W2.heap.size := by simp
 have hoth : ∀ q, q ≠ g → (W2.setCell ⟨g, k * 5 + 4, none⟩ (.slice a m c)).heap[q]? = W2.heap[q]? := fun q hq => Below.heap_setCell _ _ _ q hq; refine ⟨_, by simp [h1], hst.1, fun i hi hi' => ?_, fun i hi hi' => ?_⟩
 · rw [getD_setC _ _ _ _ (by omega)]
   by_cases hik : k = i
   · subst hik
     rw [if_pos rfl]; obtain ⟨r1, r2, r3, r4, r5, -⟩ := h4 k (Nat.le_refl _) hk; refine ⟨r1, r2, r3, r4, r5, a, m, c, rfl, ?_, fun p hp => ?_⟩
     · refine (BS.of_own ho hby).keepBlk (fun p hp => hoth _ ?_)
       have := oL3 ho (g := p.block) (by rw [hp]; rfl); omega
     · have := oL3 ho (g := p.block) (by rw [hp]; rfl)
       refine ⟨by omega, by rw [hsz]; omega, ?_⟩; simp only [Value.ownBlock, ne_eq, Option.some.injEq]; omega
   · rw [if_neg hik]
     refine (h3 i (by omega) hi').keep (by rw [hsz]; exact Nat.le_refl _) (fun q _ _ hq => hoth q ?_); rintro rfl; exact hq rfl
 · rw [getD_setC _ _ _ _ (by omega), if_neg (by omega)]
   exact h4 i (by omega) hi'
end
theorem cloneC_from (a : Option Addr) (n c : Nat) (l : List ChR) (w W : World) (hs : CS w a n c l) (hw : Below w.heap.size w W) (hn : n ≤ 1000) :
 Calls Tryz.prog 49 #[.slice a n c] W fun e w' => ∃ a' c', e = .returned (.slice a' n c') ∧ ChSt w W.heap.size (.slice a' n c') l w' ∧ Below W.heap.size W w' := by
 have hq := fun (A : Option Addr) (n c : Nat) (w : World) => Lib.run_eql_slice_nil (P := Tryz.prog) w 32 39 A n c 0 0 U32
 cases a with
 | none =>
   have hc := hs.none_ rfl; subst hc; obtain rfl : n = 0 := by have := hs.le; omega
   obtain rfl : l = [] := List.eq_nil_of_length_eq_zero hs.len; clear hw; go_enter Tryz.func49, Tryz.ntmps49; go_wp2; go_ret; exact ⟨none, 0, rfl, ChSt.start _ _ _, Below.refl _ _⟩
 | some ad =>
   obtain ⟨i0, hi, hz0, hz1, hz2⟩ := info_parts Tryz.info_chunk; obtain ⟨vs, hvl, hvr, hvc⟩ := hs.vs; have hll := hs.len; have hown := World.ownsRow_lit (base := W.heap.size) (e := 39) (size := 5) W #[] 0 (Nat.le_refl _) (by unfold maxLen; omega) rfl; have hb1 := (Below.refl W.heap.size W).alloc (Nat.le_refl _) (.cells #[] 39); have hwb := bTh hw hb1
   obtain ⟨v', w', hr, ho, hg, _⟩ := run_append_own (P := Tryz.prog) (W.alloc (.cells #[] 39)) W.heap.size 32 32 39 i0 _ 5 56 U32 hi hz0 hz1 hz2 rfl (by decide) _ 0 _ hown ad n c (zas vs)
    (by rw [zaN, hvl, hll]) (fun j u hu => cell_later hwb (hvc ad rfl j u hu)) (zbc (one_all hvl hvr)) (by unfold maxLen; omega) (by omega) (by simp)
   obtain ⟨a', c', rfl⟩ : ∃ a' c', v' = .slice a' (0 + n) c' := by
    rcases ho.2 with ⟨h1, h2⟩ | ⟨g, cap, cur, h1, _⟩
    · exact ⟨none, 0, by rw [h1, h2]⟩
    · exact ⟨_, _, h1⟩
   rw [Nat.zero_add] at hr ho; have hb' := hb1.grown hg (by simp) (fun g hg => (hown.lt g hg).1)
   have HO : Hid (ChSt w W.heap.size (.slice a' n c') l w') := by
    refine ⟨vs, hvl, ?_, hvr⟩; rw [hll]
    simpa using ho
   clear ho hown hz0 hz1 hz2 hi hvr hvc hw hwb; go_enter Tryz.func49, Tryz.ntmps49; go_wp2_with (at_builtin; refine Lib.wpList_append_run _ rfl _ _ _ _ rfl _ _ rfl rfl _ _ hr ?_); go_ret; exact ⟨a', c', rfl, HO.out, hb'⟩
def ReadsP (w0 : World) (o : OpV) (r : OpR) : Prop :=
 o.at_ = r.at_ ∧ o.len = r.len ∧ I64 r.at_ ∧ I64 r.len ∧ ∃ a n c, o.v = .slice a n c ∧ BS w0 a n c r.data
def ReadsQ (W : World) (base : Nat) (ex : Option Nat) (o : OpV) (r : OpR) : Prop :=
 o.at_ = r.at_ ∧ o.len = r.len ∧ I64 r.at_ ∧ I64 r.len ∧ ∃ a n c, o.v = .slice a n c ∧ BS W a n c r.data ∧ ∀ p, a = some p → base ≤ p.block ∧ p.block < W.heap.size ∧ some p.block ≠ ex
theorem ReadsQ.keep {W W' : World} {base : Nat} {ex : Option Nat} {o : OpV} {r : OpR} (h : ReadsQ W base ex o r) (hs : W.heap.size ≤ W'.heap.size) (hk : ∀ k, base ≤ k → k < W.heap.size → some k ≠ ex → W'.heap[k]? = W.heap[k]?) : ReadsQ W' base ex o r := by
 obtain ⟨h1, h2, h4, h5, a, n, c, h6, h7, h8⟩ := h; refine ⟨h1, h2, h4, h5, a, n, c, h6, h7.keepBlk (fun p hp => hk _ (h8 p hp).1 (h8 p hp).2.1 (h8 p hp).2.2), fun p hp => ⟨(h8 p hp).1, ?_, (h8 p hp).2.2⟩⟩; have := (h8 p hp).2.1; omega
theorem ReadsP.one {W : World} {o : OpV} {r : OpR} (h : ReadsP W o r) : o.v.oneCell' = true := by
 obtain ⟨-, -, -, -, a, n, c, h6, -⟩ := h; rw [h6]
 rfl
theorem oneCell_ops {vs : List OpV} (h : ∀ o ∈ vs, o.v.oneCell' = true) : ∀ u ∈ zaJ vs, u.oneCell' = true := by
 induction vs with
 | nil => intro u hu; simp [zaJ] at hu
 | cons o t ih =>
   intro u hu; simp only [zaJ, List.mem_cons] at hu; rcases hu with rfl | rfl | rfl | hu
   · rfl
   · rfl
   · exact h o (by simp)
   · exact ih (fun o' ho' => h o' (by simp [ho'])) u hu
theorem one_allO {W : World} {vs : List OpV} {l : List OpR} (hl : vs.length = l.length) (h : ∀ i, i < l.length → ReadsP W (vs.getD i default) (l.getD i default)) : ∀ o ∈ vs, o.v.oneCell' = true := by
 intro o ho; obtain ⟨i, hi, rfl⟩ := List.mem_iff_getElem.1 ho; have := (h i (by omega)).one
 rwa [List.getD_eq_getElem?_getD, List.getElem?_eq_getElem hi, Option.getD_some] at this
def OpSt (w0 : World) (base : Nat) (vo : Value) (out : List OpR) (W : World) : Prop :=
 ∃ vs : List OpV, vs.length = out.length ∧ W.ownsRow base 159 3 vo out.length (zaJ vs) ∧ ∀ i, i < out.length → ReadsP w0 (vs.getD i default) (out.getD i default)
theorem OpSt.start (w0 W : World) (base : Nat) : OpSt w0 base (.slice none 0 0) [] W := ⟨[], rfl, World.ownsRow_nil _ _ _ _, fun i hi => absurd hi (by simp)⟩
def OpFin (base : Nat) (vo : Value) (out : List OpR) (W : World) : Prop :=
 ∃ vs : List OpV, vs.length = out.length ∧ W.ownsRow base 159 3 vo out.length (zaJ vs) ∧ ∀ i, i < out.length → ReadsQ W base vo.ownBlock (vs.getD i default) (out.getD i default)
theorem OpFin.newR {base : Nat} {vo : Value} {out : List OpR} {W : World} (h : OpFin base vo out W) : NewR base W (fun V => OpFin base vo out V) := by
 obtain ⟨vs, h1, h2, h3⟩ := h; exact fun V s k => ⟨vs, h1, za1 h2 (fun g hg => k g (oL3 h2 hg).1 (oL3 h2 hg).2), fun i hi => (h3 i hi).keep s (fun q q1 q2 _ => k q q1 q2)⟩
theorem OpFin.os {base : Nat} {a : Option Addr} {n c : Nat} {out : List OpR} {W : World} (h : OpFin base (.slice a n c) out W) (hn : out.length = n) : OS W a n c out := by
 obtain ⟨vs, h1, h2, h3⟩ := h
 have ho : zbm W base none (.slice a n c) out := ⟨⟨vs, h1, h2, fun i hi => by
  obtain ⟨r1, r2, r3, r4, b, m, k, r5, r6, r7⟩ := h3 i hi
  exact ⟨r1, r2, r3, r4, b, m, k, r5, r6, fun p hp => ⟨(r7 p hp).1, (r7 p hp).2.1, (r7 p hp).2.2, by simp⟩⟩⟩, fun g hg => by cases hg⟩
 obtain ⟨a', c', hv, hos⟩ := ho.os; simp only [Value.slice.injEq] at hv; obtain ⟨rfl, -, rfl⟩ := hv; rw [hn] at hos; exact hos
theorem OS.vs {w : World} {a : Option Addr} {n c : Nat} {l : List OpR} (h : OS w a n c l) : ∃ vs : List OpV, vs.length = l.length ∧ (∀ i, i < l.length → ReadsP w (vs.getD i default) (l.getD i default)) ∧ ∀ ad, a = some ad → ∀ j u, (zaJ vs)[j]? = some u → w.cell? (ad.add j) = some u := by
 have hlen := h.len; by_cases hp : 0 < n
 · obtain ⟨b, off, rfl, hc⟩ := h.cells hp
   have each : ∀ i, i < l.length → ∃ o : OpV, ReadsP w o (l.getD i default) ∧ w.cell? ⟨b, off + i * 3, none⟩ = some (.int .i64 o.at_) ∧ w.cell? ⟨b, off + i * 3 + 1, none⟩ = some (.int .i64 o.len) ∧ w.cell? ⟨b, off + i * 3 + 2, none⟩ = some o.v := by
    intro i hi; obtain ⟨va, vm, vc, q0, q1, q2, q3, q4, q5⟩ := hc i (by omega); exact ⟨⟨_, _, .slice va vm vc⟩, ⟨rfl, rfl, q4, q5, va, vm, vc, rfl, q3⟩, q0, q1, q2⟩
   obtain ⟨vs, hvl, hvs⟩ := list_of default _ l.length each; refine ⟨vs, hvl, fun i hi => (hvs i hi).1, fun ad had j u hu => ?_⟩; injection had with had; subst had
   have hj : j < vs.length * 3 := by
    rcases Nat.lt_or_ge j (vs.length * 3) with q | q
    · exact q
    · rw [List.getElem?_eq_none (by rw [zb6]; exact q)] at hu; cases hu
   obtain ⟨-, q0, q1, q2⟩ := hvs (j / 3) (by omega); obtain ⟨g0, g1, g2⟩ := zbR vs (j / 3) (by omega); rw [addr_add]; rcases (by omega : j = j / 3 * 3 ∨ j = j / 3 * 3 + 1 ∨ j = j / 3 * 3 + 2) with hr | hr | hr
   · rw [hr] at hu ⊢
     rw [g0] at hu; rw [← hu]; exact q0
   · rw [hr] at hu ⊢
     rw [g1] at hu; rw [← hu]; exact q1
   · rw [hr] at hu ⊢
     rw [g2] at hu; rw [← hu]; exact q2
 · obtain rfl : l = [] := List.eq_nil_of_length_eq_zero (by omega)
   exact ⟨[], rfl, fun i hi => absurd hi (by simp), fun ad _ j u hu => by simp [zaJ] at hu⟩
theorem cellsV_set2 : ∀ (L : List OpV) (k : Nat) (v : Value), k < L.length → (zaJ L).set (k * 3 + 2) v = zaJ (L.set k ⟨(L.getD k default).at_, (L.getD k default).len, v⟩)
 | [], k, v, h => by simp at h
 | e :: t, 0, v, _ => by simp [zaJ]
 | e :: t, k + 1, v, h => by
   have := cellsV_set2 t k v (by simpa using h)
   simp only [zaJ, List.set_cons_succ, List.getD_cons_succ, show (k + 1) * 3 + 2 = k * 3 + 2 + 1 + 1 + 1 by omega]
   rw [this]
theorem getD_setV (L : List OpV) (k q : Nat) (e : OpV) (hk : k < L.length) : (L.set k e).getD q default = if k = q then e else L.getD q default := by
 simp only [List.getD_eq_getElem?_getD, List.getElem?_set]; split
 · simp
 · rfl
def OpU (w : World) (B : Nat) (vo : Value) (l : List OpR) (k : Nat) (W : World) : Prop :=
 ∃ vs : List OpV, vs.length = l.length ∧ W.ownsRow B 159 3 vo l.length (zaJ vs) ∧ (∀ i, i < k → i < l.length → ReadsQ W B vo.ownBlock (vs.getD i default) (l.getD i default)) ∧ (∀ i, k ≤ i → i < l.length → ReadsP w (vs.getD i default) (l.getD i default))
section
variable {w W W' W2 : World} {B : Nat} {vo : Value} {l : List OpR} {k : Nat}
theorem OpU.start (h : OpSt w B vo l W) : OpU w B vo l 0 W := by
 obtain ⟨vs, h1, h2, h3⟩ := h; exact ⟨vs, h1, h2, fun i hi => absurd hi (by omega), fun i _ hi => h3 i hi⟩
theorem OpU.fin (h : OpU w B vo l k W) (hk : l.length ≤ k) : OpFin B vo l W := by
 obtain ⟨vs, h1, h2, h3, -⟩ := h; exact ⟨vs, h1, h2, fun i hi => h3 i (by omega) hi⟩
theorem OpU.own (h : OpU w B vo l k W) {g : Nat} (hg : vo.ownBlock = some g) : B ≤ g ∧ g < W.heap.size := by
 obtain ⟨vs, h1, h2, -⟩ := h; exact oL3 h2 hg
theorem OpU.form (h : OpU w B vo l k W) (hl : 0 < l.length) : ∃ g cap, vo = .slice (some ⟨g, 0, none⟩) l.length cap := by
 obtain ⟨vs, h1, h2, -⟩ := h; obtain ⟨g, cap, hv, -⟩ := h2.form hl; exact ⟨g, cap, hv⟩
theorem OpU.keep (h : OpU w B vo l k W) (hs : W.heap.size ≤ W'.heap.size) (hk : ∀ q, B ≤ q → q < W.heap.size → W'.heap[q]? = W.heap[q]?) : OpU w B vo l k W' := by
 obtain ⟨vs, h1, h2, h3, h4⟩ := h; exact ⟨vs, h1, za1 h2 (fun g hg => hk g (oL3 h2 hg).1 (oL3 h2 hg).2), fun i hi hi' => (h3 i hi hi').keep hs (fun q q1 q2 _ => hk q q1 q2), h4⟩
theorem OpU.later (h : OpU w B vo l k W) (hb : Below W.heap.size W W') : OpU w B vo l k W' := h.keep hb.size (fun q _ q2 => hb.block q q2)
theorem OpU.cell {g n cap : Nat} (h : OpU w B (.slice (some ⟨g, 0, none⟩) n cap) l k W) (hw : Below w.heap.size w W) (hl : l.length = n) (hk : k < n) :
 ∃ a m c, W.cell? ⟨g, k * 3 + 2, none⟩ = some (.slice a m c) ∧ BS W a m c (l.getD k default).data ∧ W.frozen? ⟨g, k * 3 + 2, none⟩ = false := by
 obtain ⟨vs, h1, h2, h3, h4⟩ := h; subst hl; obtain ⟨-, -, -, -, a, m, c, hv, hbs⟩ := h4 k (Nat.le_refl _) hk; have e4 := h2.cellAt (k * 3 + 2) (by omega); rw [(zbR vs k (by omega)).2.2, hv] at e4; exact ⟨a, m, c, e4, hbs.later hw, h2.frozenAt _⟩
theorem OpU.step {g n cap : Nat} (h : OpU w B (.slice (some ⟨g, 0, none⟩) n cap) l k W) (hl : l.length = n) (hk : k < n) {a : Option Addr} {m c : Nat}
 (ho : W2.ownsRow W.heap.size 5 1 (.slice a m c) m ((l.getD k default).data.map (Value.int .u8))) (hby : ∀ x ∈ (l.getD k default).data, 0 ≤ x ∧ x ≤ 255) (hb : Below W.heap.size W W2) :
 OpU w B (.slice (some ⟨g, 0, none⟩) n cap) l (k + 1) (W2.setCell ⟨g, k * 3 + 2, none⟩ (.slice a m c)) := by
 have hgb := h.own (g := g) rfl; obtain ⟨vs, h1, h2, h3, h4⟩ := h.later hb; subst hl; have hst := h2.stored (k * 3 + 2) (.slice a m c); rw [cellsV_set2 vs k _ (by omega)] at hst; have hsz : (W2.setCell ⟨g, k * 3 + 2, none⟩ (.slice a m c)).heap.size = W2.heap.size := by simp
 have hoth : ∀ q, q ≠ g → (W2.setCell ⟨g, k * 3 + 2, none⟩ (.slice a m c)).heap[q]? = W2.heap[q]? := fun q hq => Below.heap_setCell _ _ _ q hq; refine ⟨_, by simp [h1], hst.1, fun i hi hi' => ?_, fun i hi hi' => ?_⟩
 · rw [getD_setV _ _ _ _ (by omega)]
   by_cases hik : k = i
   · subst hik
     rw [if_pos rfl]; obtain ⟨r1, r2, r3, r4, -⟩ := h4 k (Nat.le_refl _) hk; refine ⟨r1, r2, r3, r4, a, m, c, rfl, ?_, fun p hp => ?_⟩
     · refine (BS.of_own ho hby).keepBlk (fun p hp => hoth _ ?_)
       have := oL3 ho (g := p.block) (by rw [hp]; rfl); omega
     · have := oL3 ho (g := p.block) (by rw [hp]; rfl)
       refine ⟨by omega, by rw [hsz]; omega, ?_⟩; simp only [Value.ownBlock, ne_eq, Option.some.injEq]; omega
   · rw [if_neg hik]
     refine (h3 i (by omega) hi').keep (by rw [hsz]; exact Nat.le_refl _) (fun q _ _ hq => hoth q ?_); rintro rfl; exact hq rfl
 · rw [getD_setV _ _ _ _ (by omega), if_neg (by omega)]
   exact h4 i (by omega) hi'
end
theorem cloneO_from (a : Option Addr) (n c : Nat) (l : List OpR) (w W : World) (hs : OS w a n c l) (hw : Below w.heap.size w W) (hn : n ≤ 1000) :
 Calls Tryz.prog 139 #[.slice a n c] W fun e w' => ∃ a' c', e = .returned (.slice a' n c') ∧ OpSt w W.heap.size (.slice a' n c') l w' ∧ Below W.heap.size W w' := by
 have hq := fun (A : Option Addr) (n c : Nat) (w : World) => Lib.run_eql_slice_nil (P := Tryz.prog) w 33 159 A n c 0 0 U33
 cases a with
 | none =>
   have hc := hs.none_ rfl; subst hc; obtain rfl : n = 0 := by have := hs.le; omega
   obtain rfl : l = [] := List.eq_nil_of_length_eq_zero hs.len; clear hw; go_enter Tryz.func139, Tryz.ntmps139; go_wp2; go_ret; exact ⟨none, 0, rfl, OpSt.start _ _ _, Below.refl _ _⟩
 | some ad =>
   obtain ⟨i0, hi, hz0, hz1, hz2⟩ := info_parts Tryz.info_op; obtain ⟨vs, hvl, hvr, hvc⟩ := hs.vs; have hll := hs.len; have hown := World.ownsRow_lit (base := W.heap.size) (e := 159) (size := 3) W #[] 0 (Nat.le_refl _) (by unfold maxLen; omega) rfl; have hb1 := (Below.refl W.heap.size W).alloc (Nat.le_refl _) (.cells #[] 159); have hwb := bTh hw hb1
   obtain ⟨v', w', hr, ho, hg, _⟩ := run_append_own (P := Tryz.prog) (W.alloc (.cells #[] 159)) W.heap.size 33 33 159 i0 _ 3 40 U33 hi hz0 hz1 hz2 rfl (by decide) _ 0 _ hown ad n c (zaJ vs)
    (by rw [zb6, hvl, hll]) (fun j u hu => cell_later hwb (hvc ad rfl j u hu)) (oneCell_ops (one_allO hvl hvr)) (by unfold maxLen; omega) (by omega) (by simp)
   obtain ⟨a', c', rfl⟩ : ∃ a' c', v' = .slice a' (0 + n) c' := by
    rcases ho.2 with ⟨h1, h2⟩ | ⟨g, cap, cur, h1, _⟩
    · exact ⟨none, 0, by rw [h1, h2]⟩
    · exact ⟨_, _, h1⟩
   rw [Nat.zero_add] at hr ho; have hb' := hb1.grown hg (by simp) (fun g hg => (hown.lt g hg).1)
   have HO : Hid (OpSt w W.heap.size (.slice a' n c') l w') := by
    refine ⟨vs, hvl, ?_, hvr⟩; rw [hll]
    simpa using ho
   clear ho hown hz0 hz1 hz2 hi hvr hvc hw hwb; go_enter Tryz.func139, Tryz.ntmps139; go_wp2_with (at_builtin; refine Lib.wpList_append_run _ rfl _ _ _ _ rfl _ _ rfl rfl _ _ hr ?_); go_ret; exact ⟨a', c', rfl, HO.out, hb'⟩
theorem run_copy_rowK {P : Program} (w : World) (dT sT ty elem : TypeId) (size g o dLen dCap : Nat) (a : Addr) (sLen sCap : Nat) (cur : Array Value) (t : TypeId) (cs : List Value)
 (hu : P.underlying dT = some (.slice elem)) (hs : (P.info? elem).map (·.size) = some size)
 (hg : w.heap[g]? = some (.cells cur t (0, 0))) (hn : cs.length = Nat.min sLen dLen * size)
 (hsrc : ∀ j v, cs[j]? = some v → w.cell? (a.add j) = some v) (hfit : o + cs.length ≤ cur.size) (h1 : ∀ v ∈ cs, v.oneCell' = true) :
 (Builtin.copy_ #[dT, sT] ty #[.slice (some ⟨g, o, none⟩) dLen dCap, .slice (some a) sLen sCap]).run P w =
  .ok (goInt (Nat.min sLen dLen)) (w.setRow g (cur.toList.take o ++ cs ++ cur.toList.drop (o + cs.length)).toArray) := by
 have hl := run_loadCells_list (P := P) w a cs hsrc; have hst := run_storeCells_at P g o t cs 0 cur w hg (by simpa using hfit) h1
 cases hq : P.info? elem with
 | none => simp [hq] at hs
 | some i =>
   have hi : i.size = size := by simpa [hq] using hs
   simp [Builtin.copy_, run_underlying hu, Builtin.lenOf, Builtin.firstCells, sizeOf, typeInfo, hq, hi, ← hn, hl, hst]
theorem copyC {w : World} (g o dLen dCap : Nat) (ad : Addr) (sLen sCap : Nat) (cur cs : List Value) (hg : w.heap[g]? = some (.cells cur.toArray 39 (0, 0))) (hn : cs.length = Nat.min sLen dLen * 5)
 (hsrc : ∀ j v, cs[j]? = some v → w.cell? (ad.add j) = some v) (hfit : o + cs.length ≤ cur.length) (h1 : ∀ v ∈ cs, v.oneCell' = true) :
 ∃ W', (∀ ty, (Builtin.copy_ #[32, 32] ty #[.slice (some ⟨g, o, none⟩) dLen dCap, .slice (some ad) sLen sCap]).run Tryz.prog w = .ok (goInt (Nat.min sLen dLen)) W') ∧
   W'.heap[g]? = some (.cells (splice cur o cs).toArray 39 (0, 0)) ∧ w.grownBy W' (some g) ∧ W'.heap.size = w.heap.size := by
 obtain ⟨i0, hi, hz0, hz1, hz2⟩ := info_parts Tryz.info_chunk; refine ⟨_, fun ty => run_copy_rowK (P := Tryz.prog) w 32 32 ty 39 5 g o dLen dCap ad sLen sCap cur.toArray 39 cs U32 (by rw [hi]; simp [hz1]) hg hn hsrc (by simpa using hfit) h1, ?_, ?_, ?_⟩
 · rw [setRow_heap w g _ _ 39 _ hg]
   simp [splice]
 · exact ⟨rfl, rfl, rfl, by simp [World.setRow], fun k _ hk => setRow_other w g k _ (fun e => hk (by simp [e]))⟩
 · simp [World.setRow]
def cutC (a : Option Addr) (c k : Nat) : Option Addr := if c = k then a else a.map (·.add (k * 5))
theorem size_run_ch (w : World) : (Go.sizeOf 39).run Tryz.prog w = .ok 5 w := by
 obtain ⟨i0, hi, hz0, hz1, hz2⟩ := info_parts Tryz.info_chunk; simp [Go.sizeOf, typeInfo, hi, hz1]
section
variable (a : Option Addr) (n c : Nat) (W : World)
theorem zbo (k : Nat) (hk : k ≤ n) : (Instr.slice 32 (.slice a n c) (some (.int .i64 (k : Int))) none none).run Tryz.prog W = .ok (.slice (cutC a c k) (n - k) (c - k)) W := by
 have ht : Tryz.prog.underlying 32 = some (.slice (Tryz.prog.elem 32)) := by simp [Program.elem, Tryz.underlying32]
 have he : Tryz.prog.elem 32 = 39 := by simp [Program.elem, Tryz.underlying32]
 rw [run_slice_l W 32 _ _ _ ht .i64 _ (by omega) (by omega), he, size_run_ch]; simp [Result.andThen, sliced, cutC]
theorem run_cutC_h (h : Nat) (hh : h ≤ c) : (Instr.slice 32 (.slice a n c) none (some (.int .i64 (h : Int))) none).run Tryz.prog W = .ok (.slice a h c) W := by
 have ht : Tryz.prog.underlying 32 = some (.slice (Tryz.prog.elem 32)) := by simp [Program.elem, Tryz.underlying32]
 have he : Tryz.prog.elem 32 = 39 := by simp [Program.elem, Tryz.underlying32]
 rw [run_slice_h W 32 _ _ _ ht .i64 _ (by omega) (by omega), he, size_run_ch]
 cases a <;> simp [Result.andThen, sliced, Addr.add]
end
theorem shift_row {cur xs ys : List Value} {I N K : Nat} (hI : I ≤ N) (hxl : xs.length = N) (hyl : ys.length = K) (hx : cur.take N = xs) (hc : N + K ≤ cur.length) :
 (splice (splice cur (I + K) (xs.drop I)) I ys).take (N + K) = xs.take I ++ ys ++ xs.drop I ∧ (splice (splice cur (I + K) (xs.drop I)) I ys).length = cur.length := by
 have hdl : (xs.drop I).length = N - I := by rw [List.length_drop, hxl]
 have hl1 : (splice cur (I + K) (xs.drop I)).length = cur.length := length_splice _ _ _ (by omega); refine ⟨?_, by rw [length_splice _ _ _ (by omega), hl1]⟩; apply List.ext_getElem?; intro j; rw [List.getElem?_take]; by_cases hj : j < N + K
 · rw [if_pos hj]
   rcases Nat.lt_or_ge j I with h1 | h1
   · rw [show (xs.take I ++ ys ++ xs.drop I)[j]? = xs[j]? by rw [List.append_assoc, List.getElem?_append_left (by rw [List.length_take]; omega), List.getElem?_take_of_lt h1]]
     unfold splice; rw [List.getElem?_append_left (by simp; omega), List.getElem?_take_of_lt h1, List.getElem?_append_left (by simp; omega), List.getElem?_take_of_lt (by omega), ← hx, List.getElem?_take_of_lt (by omega)]
   · rcases Nat.lt_or_ge j (I + K) with h2 | h2
     · rw [show (xs.take I ++ ys ++ xs.drop I)[j]? = ys[j - I]? by rw [List.append_assoc, List.getElem?_append_right (by rw [List.length_take]; omega), List.length_take, show min I xs.length = I by omega, List.getElem?_append_left (by omega)]]
       rw [splice, List.getElem?_append_right (by rw [List.length_take]; omega), List.length_take, hl1, show min I cur.length = I by omega, List.getElem?_append_left (by omega)]
     · rw [show (xs.take I ++ ys ++ xs.drop I)[j]? = xs[j - K]? by rw [List.getElem?_append_right (by simp; omega), List.getElem?_drop]; congr 1; simp; omega]
       rw [splice, List.getElem?_append_right (by rw [List.length_take]; omega), List.length_take, hl1, show min I cur.length = I by omega, List.getElem?_append_right (by omega), List.getElem?_drop, splice,
        List.getElem?_append_right (by rw [List.length_take]; omega), List.length_take, show min (I + K) cur.length = I + K by omega, List.getElem?_append_left (by omega), List.getElem?_drop]
       congr 1
       omega
 · rw [if_neg hj, List.getElem?_eq_none]
   simp; omega
theorem grow_row {Z xs ys : List Value} {I N K : Nat} (hI : I ≤ N) (hxl : xs.length = N) (hyl : ys.length = K) (hx : Z.take I = xs.take I) (hc : N + K ≤ Z.length) :
 (splice (splice Z I ys) (I + K) (xs.drop I)).take (N + K) = xs.take I ++ ys ++ xs.drop I ∧ (splice (splice Z I ys) (I + K) (xs.drop I)).length = Z.length := by
 have hdl : (xs.drop I).length = N - I := by rw [List.length_drop, hxl]
 have hl1 : (splice Z I ys).length = Z.length := length_splice _ _ _ (by omega); refine ⟨?_, by rw [length_splice _ _ _ (by omega), hl1]⟩
 have h1 : (splice Z I ys).take (I + K) = xs.take I ++ ys := by
  unfold splice; rw [← List.append_assoc, List.take_append_of_le_length (by simp; omega), List.take_of_length_le (by simp; omega), hx]
 unfold splice at h1 ⊢; rw [h1, ← List.append_assoc, List.take_append_of_le_length (by simp; omega), List.take_of_length_le (by simp; omega)]
theorem cellsC_take : ∀ (vs : List ChVv) (i : Nat), (zas vs).take (i * 5) = zas (vs.take i)
 | [], i => by simp [zas]
 | o :: t, 0 => by simp [zas]
 | o :: t, i + 1 => by
   have := cellsC_take t i
   rw [show (i + 1) * 5 = i * 5 + 1 + 1 + 1 + 1 + 1 by omega]
   simp [zas, this]
theorem cellsC_drop : ∀ (vs : List ChVv) (i : Nat), (zas vs).drop (i * 5) = zas (vs.drop i)
 | [], i => by simp [zas]
 | o :: t, 0 => by simp [zas]
 | o :: t, i + 1 => by
   have := cellsC_drop t i
   rw [show (i + 1) * 5 = i * 5 + 1 + 1 + 1 + 1 + 1 by omega]
   simp [zas, this]
theorem cellsC_between (vs : List ChVv) (b : ChVv) (i : Nat) : (zas vs).take (i * 5) ++ zas [b] ++ (zas vs).drop (i * 5) = zas (vs.take i ++ b :: vs.drop i) := by
 rw [cellsC_take, cellsC_drop, show vs.take i ++ b :: vs.drop i = vs.take i ++ ([b] ++ vs.drop i) by simp, zbj, zbj, List.append_assoc]
theorem step_copy_runC {P : Program} {ops : Array Oper} {o : Oper} {a : Act} {w : World} {K : Act → World → Prop} {Q : Exit → Act → World → Prop} {E : Prop} (hgd : o.guard = none) (d s : Operand) (dT sT : TypeId)
 (ho : o.op = .call { callee := .builtin .copy, args := #[d, s], argTypes := #[dT, sT] }) (vd vs : Value) (hd : a.eval d = vd) (hs : a.eval s = vs)
 (v' : Value) (w' : World) (hr : (Builtin.copy_ #[dT, sT] o.type #[vd, vs]).run P w = .ok v' w') (h : K (a.put o.dst v') w') :
 if Region.wanted o (yielded ops a.tmps) = true then Oper.wp P o a w K Q else E := by
 have hw : Region.wanted o (yielded ops a.tmps) = true := by simp [Region.wanted, hgd]
 rw [if_pos hw]; unfold Oper.wp; simp [execOp, ho, resolve, invoke, builtin, hd, hs, hr, Result.andThen]; exact h
def zb7 (base : Nat) (vo : Value) (n i : Nat) (vs : List ChVv) (b : ChVv) (w : World) (e : Ending) (w' : World) : Prop :=
 ∃ g c, e = .returned (.slice (some ⟨g, 0, none⟩) (n + 1) c) ∧ w'.ownsRow base 39 5 (.slice (some ⟨g, 0, none⟩) (n + 1) c) (n + 1) (zas (vs.take i ++ b :: vs.drop i)) ∧ w.grownBy w' vo.ownBlock ∧ (vo.ownBlock = some g ∨ w.heap.size ≤ g)
theorem insEnd_any (base : Nat) (vo : Value) (n : Nat) (vs : List ChVv) (b : ChVv) (vb vc : Nat) (w : World) (hown : w.ownsRow base 39 5 vo n (zas vs)) (hvl : vs.length = n) (hn : n ≤ 1000) (hbase : base ≤ w.heap.size)
 (hsrc : ∀ j u, (zas [b])[j]? = some u → w.cell? ((⟨vb, 0, none⟩ : Addr).add j) = some u) (hb1 : b.v.oneCell' = true) :
 Calls Tryz.prog 138 #[vo, .int .i64 n, .slice (some ⟨vb, 0, none⟩) 1 vc] w (zb7 base vo n n vs b w) := by
 obtain ⟨i0, hi, hz0, hz1, hz2⟩ := info_parts Tryz.info_chunk
 obtain ⟨g, cap, W5, hr, ho, hg, hlies, hlt⟩ := run_append_lies (P := Tryz.prog) w 32 32 base 39 i0 _ 5 56 U32 hi hz0 hz1 hz2 rfl (by decide) vo n _ hown ⟨vb, 0, none⟩ 1 vc (zas [b])
  rfl hsrc (zbc (by intro o ho; simp at ho; rw [ho]; exact hb1)) (by omega) (by unfold maxLen; omega) (by omega) hbase w.heap.size rfl
 obtain ⟨ao, co, rfl⟩ : ∃ ao co, vo = .slice ao n co := by
  rcases hown.2 with ⟨q1, q2⟩ | ⟨g, cap, cur, q1, _⟩
  · exact ⟨none, 0, by rw [q1, q2]⟩
  · exact ⟨_, _, q1⟩
 have HR : Hid (zb7 base (.slice ao n co) n n vs b w (.returned (.slice (some ⟨g, 0, none⟩) (n + 1) cap)) W5) := by
  refine ⟨g, cap, rfl, ?_, hg, hlies.imp id (fun h => by omega)⟩; have e : vs.take n ++ b :: vs.drop n = vs ++ [b] := by rw [List.take_of_length_le (by omega), List.drop_eq_nil_of_le (by omega)]
  rw [e, zbj]; exact ho
 have hcut : ∀ W, (Instr.slice 32 (.slice ao n co) (some (.int .i64 (n : Int))) none none).run Tryz.prog W = .ok (.slice (cutC ao co n) (n - n) (co - n)) W := fun W => zbo ao n co W n (Nat.le_refl _); have hnn : ((n : Int) == (n : Int)) = true := by simp
 clear ho hg hlies hlt hown hi hz0 hz1 hz2 hsrc; go_enter Tryz.func138, Tryz.ntmps138; go_wp2_with (at_builtin; refine Lib.wpList_append_run _ rfl _ _ _ _ rfl _ _ rfl rfl _ _ hr ?_); go_ret; exact HR.out
theorem insRoom_any (base : Nat) (g n cap i : Nat) (vs : List ChVv) (b : ChVv) (vb vc : Nat) (w : World) (hown : w.ownsRow base 39 5 (.slice (some ⟨g, 0, none⟩) n cap) n (zas vs)) (hvl : vs.length = n) (hn : n ≤ 1000) (hi : i < n) (hroom : n + 1 ≤ cap)
 (cb : Array Value) (hvb : w.heap[vb]? = some (.cells cb 39 (0, 0))) (hsrc : ∀ j u, (zas [b])[j]? = some u → w.cell? ((⟨vb, 0, none⟩ : Addr).add j) = some u) (hne : vb ≠ g) (h1 : ∀ o ∈ vs, o.v.oneCell' = true) (hb1 : b.v.oneCell' = true) :
 Calls Tryz.prog 138 #[.slice (some ⟨g, 0, none⟩) n cap, .int .i64 i, .slice (some ⟨vb, 0, none⟩) 1 vc] w (zb7 base (.slice (some ⟨g, 0, none⟩) n cap) n i vs b w) := by
 have hxl : (zas vs).length = n * 5 := by rw [zaN, hvl]
 rcases hown.2 with ⟨q, _⟩ | ⟨g', cap', cur, q, hbg, hg, hnc, hcm, hcs, htake⟩
 · simp at q
 simp only [Value.slice.injEq, Option.some.injEq, Addr.mk.injEq, and_true, true_and] at q; obtain ⟨rfl, rfl⟩ := q; obtain ⟨cl, rfl⟩ : ∃ cl : List Value, cur = cl.toArray := ⟨cur.toList, by simp⟩; simp only [List.size_toArray] at hcs; have hmax : cap ≤ 9223372036854775807 := by unfold maxLen at hcm; omega
 have hI5 : (i + 1) * 5 = i * 5 + 5 := by omega
 have hdl : ((zas vs).drop (i * 5)).length = (n - i) * 5 := by rw [List.length_drop, hxl]; omega
 have hcell : ∀ j u, (zas vs)[j]? = some u → w.cell? ((⟨g, 0, none⟩ : Addr).add j) = some u := hown.cells rfl
 obtain ⟨W1, hr1, hg1, hgr1, hs1⟩ := copyC (w := w.drew) g ((i + 1) * 5) (n + 1 - (i + 1)) (cap - (i + 1)) ⟨g, i * 5, none⟩ (n + 1 - i) (cap - i) cl ((zas vs).drop (i * 5)) hg
  (by rw [hdl, show Nat.min (n + 1 - i) (n + 1 - (i + 1)) = n - i from by simp only [Nat.min_def]; split <;> omega]) (fun j u hu => by
   rw [List.getElem?_drop] at hu; have := hcell _ _ hu; rw [addr_add] at this ⊢; rw [Nat.zero_add] at this
   exact this) (by omega) (fun u hu => zbc h1 u (List.mem_of_mem_drop hu))
 have hlen1 : (splice cl ((i + 1) * 5) ((zas vs).drop (i * 5))).length = cl.length := length_splice _ _ _ (by omega)
 obtain ⟨W2, hr2, hg2, hgr2, hs2⟩ := copyC (w := W1) g (i * 5) (n + 1 - i) (cap - i) ⟨vb, 0, none⟩ 1 vc _ (zas [b]) hg1
  (by rw [show Nat.min 1 (n + 1 - i) = 1 from by simp only [Nat.min_def]; split <;> omega]; rfl) (fun j u hu => by
   refine hgr1.cell (hsrc j u hu) ?_; simp only [addr_add, ne_eq, Option.some.injEq]
   exact hne) (by rw [hlen1, show (zas [b]).length = 5 from rfl]; omega) (zbc (by intro o ho; simp at ho; rw [ho]; exact hb1))
 obtain ⟨hrow, hrl⟩ := shift_row (cur := cl) (xs := zas vs) (ys := zas [b]) (I := i * 5) (N := n * 5) (K := 5) (by omega) hxl rfl htake (by omega); rw [← hI5] at hrow hrl
 have HR : Hid (zb7 base (.slice (some ⟨g, 0, none⟩) n cap) n i vs b w (.returned (.slice (some ⟨g, 0, none⟩) (n + 1) cap)) W2) := by
  refine ⟨g, cap, rfl, ⟨?_, .inr ⟨g, cap, _, rfl, hbg, hg2, hroom, hcm, ?_, ?_⟩⟩, ?_, .inl rfl⟩
  · rw [zaN]
    simp; omega
  · rw [List.size_toArray, hrl, hcs]
  · rw [List.toList_toArray, show (n + 1) * 5 = n * 5 + 5 by omega, hrow, cellsC_between]
  · exact ⟨(hgr2.os.trans hgr1.os : _), (hgr2.tape.trans hgr1.tape : _), (hgr2.output.trans hgr1.output : _), (Nat.le_trans hgr1.size hgr2.size : _), fun k k1 k2 => (hgr2.block k (Nat.lt_of_lt_of_le k1 hgr1.size) k2).trans (hgr1.block k k1 k2)⟩
 have hcut0 : ∀ W, (Instr.slice 32 (.slice (some ⟨g, 0, none⟩) n cap) (some (.int .i64 (i : Int))) none none).run Tryz.prog W = .ok (.slice (cutC (some ⟨g, 0, none⟩) cap i) (n - i) (cap - i)) W := fun W => zbo _ n cap W i (by omega); obtain ⟨M, hM⟩ : ∃ M : Nat, (n : Int) + 1 = M := ⟨n + 1, by omega⟩; obtain ⟨J, hJ⟩ : ∃ J : Nat, (i : Int) + 1 = J := ⟨i + 1, by omega⟩; have hM' : M = n + 1 := by omega
 have hJ' : J = i + 1 := by omega
 have hcutM : ∀ W, (Instr.slice 32 (.slice (some ⟨g, 0, none⟩) n cap) none (some (.int .i64 (M : Int))) none).run Tryz.prog W = .ok (.slice (some ⟨g, 0, none⟩) M cap) W := fun W => run_cutC_h _ n cap W M (by omega)
 have hcutJ : ∀ W, (Instr.slice 32 (.slice (some ⟨g, 0, none⟩) M cap) (some (.int .i64 (J : Int))) none none).run Tryz.prog W = .ok (.slice (some ⟨g, J * 5, none⟩) (M - J) (cap - J)) W := fun W => by
  rw [zbo _ M cap W J (by omega), show cutC (some ⟨g, 0, none⟩) cap J = some ⟨g, J * 5, none⟩ by unfold cutC; rw [if_neg (by omega), Option.map_some, addr_add, Nat.zero_add]]
 have hcutI : ∀ W, (Instr.slice 32 (.slice (some ⟨g, 0, none⟩) M cap) (some (.int .i64 (i : Int))) none none).run Tryz.prog W = .ok (.slice (some ⟨g, i * 5, none⟩) (M - i) (cap - i)) W := fun W => by
  rw [zbo _ M cap W i (by omega), show cutC (some ⟨g, 0, none⟩) cap i = some ⟨g, i * 5, none⟩ by unfold cutC; rw [if_neg (by omega), Option.map_some, addr_add, Nat.zero_add]]
 have hsh : ∀ k, k < w.heap.size → w.heap[k]? = w.heap[k]? := fun _ _ => rfl
 have hov : ∀ lb cb', (callFunc 181 #[.slice (some ⟨vb, 0, none⟩) 1 vc, .slice (some ⟨g, J * 5, none⟩) lb cb']).run Tryz.prog w = .ok (.value (.bool false)) w := fun lb cb' => by
  rw [run_callFunc_extern Tryz.func181 (by kernel_rfl) (by kernel_rfl) (by kernel_rfl) (e := Extern.SlicesOverlaps.overlaps #[32, 32] #[4]) (by kernel_rfl),
   Lib.run_overlaps_apart w 32 4 39 U32 5 size_run_ch ⟨vb, 0, none⟩ ⟨g, J * 5, none⟩ 1 vc lb cb' hne 39 39 cb.size cl.length (by simp [World.shape?, hvb]) (by simp [World.shape?, hg]) (by omega) (by simp [World.frozen?, hvb]) (by simp [World.frozen?, hvb])]
  rfl
 have HR2 : Hid (zb7 base (.slice (some ⟨g, 0, none⟩) n cap) n i vs b w (.returned (.slice (some ⟨g, 0, none⟩) M cap)) W2) := by
  show zb7 _ _ _ _ _ _ _ _ _; rw [hM']; exact HR.out
 rw [← hM', ← hJ'] at hr1; rw [← hM'] at hr2; have hne2 : ((i : Int) == (n : Int)) = false := by simp; omega
 have hcap : ¬ ((cap : Int) < (M : Int)) := by omega
 have hcap' : ¬ (cap < M) := by omega
 have hw1 : IntKind.i64.wrap (M : Int) = M := IntWalk.i64_in _ (by omega); have hw2 : IntKind.i64.wrap (J : Int) = J := IntWalk.i64_in _ (by omega); generalize cutC (some ⟨g, 0, none⟩) cap i = A0 at hcut0; clear hg hg1 hg2 hgr1 hgr2 hrow hrl hown hcell hsrc htake hcs hdl hxl hs1 hs2 hlen1 hsh hM' hJ' hvb h1; go_enter Tryz.func138, Tryz.ntmps138; go_wp2_with (simp only [hov]); go_region_law (refine step_copy_runC rfl (.tmp 73) (.tmp 76) 32 32 rfl (.slice (some ⟨g, J * 5, none⟩) (M - J) (cap - J)) (.slice (some ⟨g, i * 5, none⟩) (M - i) (cap - i)) (by simp [Act.eval, Act.put]) (by simp [Act.eval, Act.put]) _ _ (hr1 _) ?_)
 all_goals
  go_wp2_with (at_builtin; refine wpList_copy_runC rfl _ _ 32 32 rfl _ _ rfl rfl _ _ (hr2 _) ?_); go_ret; exact HR2.out
theorem zero_len (z : Value) (k m : Nat) (h : z.cells.size = m) : (Builtin.zeroCells z.cells k).size = k * m := by
 simp [Builtin.zeroCells, h]
theorem zeros_row {w : World} {base : Nat} (g n cap i : Nat) (vs : List ChVv) (hown : w.ownsRow base 39 5 (.slice (some ⟨g, 0, none⟩) n cap) n (zas vs)) (hvl : vs.length = n) (hn : n ≤ 1000) (hi : i < n) (hroom : cap < n + 1) :
 ∃ W1 Z G, (∀ ty, (Builtin.append_ #[32, 3] ty #[.slice (some ⟨g, 0, none⟩) i cap, .int .i64 ((n + 1 - i : Nat) : Int)]).run Tryz.prog w = .ok (.slice (some ⟨w.heap.size, 0, none⟩) (n + 1) G) W1) ∧ W1.heap[w.heap.size]? = some (.cells (List.toArray Z) 39 (0, 0)) ∧
   Z.length = G * 5 ∧ Z.take (i * 5) = (zas vs).take (i * 5) ∧ n + 1 ≤ G ∧ G ≤ maxLen ∧ w.grownBy W1 none ∧ W1.heap.size = w.heap.size + 1 := by
 obtain ⟨i0, hi0, hz0, hz1, hz2⟩ := info_parts Tryz.info_chunk; have hxl : (zas vs).length = n * 5 := by rw [zaN, hvl]
 have hol : ((zas vs).take (i * 5)).length = i * 5 := by rw [List.length_take]; omega
 have hold : (Builtin.firstCells i0.size i (.slice (some ⟨g, 0, none⟩) i cap)).run Tryz.prog w.drew = .ok ((zas vs).take (i * 5)).toArray w.drew := by
  rw [hz1]; refine run_firstCells_some w.drew 5 i ⟨g, 0, none⟩ i cap _ hol (fun j u hu => ?_); rw [List.getElem?_take] at hu; split at hu
  · exact hown.cells rfl j u hu
  · cases hu
 have hcn : n ≤ cap := by
  rcases hown.2 with ⟨q, _⟩ | ⟨g', cap', cur, q, _, _, hnc, _⟩
  · simp at q
  · simp only [Value.slice.injEq, true_and] at q
    omega
 have hik : i + (n + 1 - i) = n + 1 := by omega
 have hrun := fun ty => Lib.run_append_grow_zeros (P := Tryz.prog) w 32 3 ty 39 i0 _ .i64 .i64 U32 U3 hi0 hz0 (some ⟨g, 0, none⟩) i cap _ hold (n + 1 - i) (by omega) (by omega) (by omega) (by omega) (by rw [hz2]; omega) (by rw [hz2, hik]; exact growslice_fits hroom (by omega)); rw [hik] at hrun; have hG := grownCap_ge w (n + 1) cap 39; have hG2 := grownCap_le_maxLen w (n + 1) cap 39 (by unfold maxLen; omega); refine ⟨_, (((zas vs).take (i * 5)).toArray ++ Builtin.zeroCells (Value.agg #[.int .i64 0, .int .i64 0, .int .i64 0, .int .i64 0, .slice none 0 0]).cells (n + 1 - i) ++ Builtin.zeroCells (Value.agg #[.int .i64 0, .int .i64 0, .int .i64 0, .int .i64 0, .slice none 0 0]).cells (grownCap w (n + 1) cap 39 - (n + 1))).toList, _, hrun, ?_, ?_, ?_, hG, hG2, ?_, ?_⟩
 · rw [Array.toArray_toList, hpA, if_pos (show w.heap.size = w.drew.heap.size from rfl)]
 · rw [Array.length_toList, Array.size_append, Array.size_append, List.size_toArray, hol, zero_len _ _ 5 rfl, zero_len _ _ 5 rfl]
   omega
 · rw [Array.toList_append, Array.toList_append, List.append_assoc, List.take_append_of_le_length (by rw [List.toList_toArray, hol]; exact Nat.le_refl _), List.toList_toArray, List.take_of_length_le (by rw [hol]; exact Nat.le_refl _)]
 · exact ⟨rfl, rfl, rfl, by simp, fun k hk _ => by rw [hpA, if_neg (by simp; omega)]; rfl⟩
 · simp
theorem insGrow_any (base : Nat) (g n cap i : Nat) (vs : List ChVv) (b : ChVv) (vb vc : Nat) (w : World) (hown : w.ownsRow base 39 5 (.slice (some ⟨g, 0, none⟩) n cap) n (zas vs)) (hvl : vs.length = n) (hn : n ≤ 1000) (hi : i < n) (hroom : cap < n + 1) (hbase : base ≤ w.heap.size)
 (hsrc : ∀ j u, (zas [b])[j]? = some u → w.cell? ((⟨vb, 0, none⟩ : Addr).add j) = some u) (h1 : ∀ o ∈ vs, o.v.oneCell' = true) (hb1 : b.v.oneCell' = true) :
 Calls Tryz.prog 138 #[.slice (some ⟨g, 0, none⟩) n cap, .int .i64 i, .slice (some ⟨vb, 0, none⟩) 1 vc] w (zb7 base (.slice (some ⟨g, 0, none⟩) n cap) n i vs b w) := by
 have hxl : (zas vs).length = n * 5 := by rw [zaN, hvl]
 have hgb := oL3 hown (g := g) rfl; have hcell : ∀ j u, (zas vs)[j]? = some u → w.cell? ((⟨g, 0, none⟩ : Addr).add j) = some u := hown.cells rfl; obtain ⟨W1, Z, G, hr0, hg0, hZl, hZt, hGn, hGm, hgr0, hs0⟩ := zeros_row g n cap i vs hown hvl hn hi hroom
 have hcn : n ≤ cap := by
  rcases hown.2 with ⟨q, _⟩ | ⟨g', cap', cur, q, _, _, hnc, _⟩
  · simp at q
  · simp only [Value.slice.injEq, true_and] at q
    omega
 obtain ⟨H, hH⟩ : ∃ H, w.heap.size = H := ⟨_, rfl⟩; rw [hH] at hr0 hg0 hs0 hbase hgb; have hI5 : (i + 1) * 5 = i * 5 + 5 := by omega
 have hdl : ((zas vs).drop (i * 5)).length = (n - i) * 5 := by rw [List.length_drop, hxl]; omega
 have hbv : vb < H := by
  have h9 := World.block_lt_of_cell? w _ (hsrc 0 (.int .i64 b.fr) rfl); rw [addr_add] at h9; have h8 : vb < w.heap.size := h9; omega
 obtain ⟨W2, hr1, hg1, hgr1, hs1⟩ := copyC (w := W1) H (i * 5) (n + 1 - i) (G - i) ⟨vb, 0, none⟩ 1 vc Z (zas [b]) hg0
  (by rw [show Nat.min 1 (n + 1 - i) = 1 from by simp only [Nat.min_def]; split <;> omega]; rfl) (fun j u hu => by
   exact hgr0.cell (hsrc j u hu) (by simp)) (by rw [hZl, show (zas [b]).length = 5 from rfl]; omega) (zbc (by intro o ho; simp at ho; rw [ho]; exact hb1))
 have hlen1 : (splice Z (i * 5) (zas [b])).length = Z.length := length_splice _ _ _ (by rw [hZl, show (zas [b]).length = 5 from rfl]; omega)
 obtain ⟨W3, hr2, hg2, hgr2, hs2⟩ := copyC (w := W2.drew) H ((i + 1) * 5) (n + 1 - (i + 1)) (G - (i + 1)) ⟨g, i * 5, none⟩ (n - i) (cap - i) _ ((zas vs).drop (i * 5)) hg1
  (by rw [hdl, show Nat.min (n - i) (n + 1 - (i + 1)) = n - i from by simp only [Nat.min_def]; split <;> omega]) (fun j u hu => by
   rw [List.getElem?_drop] at hu; have h9 := hgr1.cell (hgr0.cell (hcell _ _ hu) (by simp)) (by rw [addr_add]; simp only [ne_eq, Option.some.injEq]; omega); rw [addr_add] at h9 ⊢; rw [Nat.zero_add] at h9
   exact h9) (by rw [hlen1, hZl, hdl]; omega) (fun u hu => zbc h1 u (List.mem_of_mem_drop hu))
 obtain ⟨hrow, hrl⟩ := grow_row (Z := Z) (xs := zas vs) (ys := zas [b]) (I := i * 5) (N := n * 5) (K := 5) (by omega) hxl rfl hZt (by omega); rw [← hI5] at hrow hrl; obtain ⟨M, hM⟩ : ∃ M : Nat, (n : Int) + 1 = M := ⟨n + 1, by omega⟩; obtain ⟨J, hJ⟩ : ∃ J : Nat, (i : Int) + 1 = J := ⟨i + 1, by omega⟩; obtain ⟨K, hK⟩ : ∃ K : Nat, (M : Int) - i = K := ⟨n + 1 - i, by omega⟩; have hM' : M = n + 1 := by omega
 have hJ' : J = i + 1 := by omega
 have hK' : K = n + 1 - i := by omega
 have HR : Hid (zb7 base (.slice (some ⟨g, 0, none⟩) n cap) n i vs b w (.returned (.slice (some ⟨H, 0, none⟩) M G)) W3) := by
  refine ⟨H, G, by rw [hM'], ⟨?_, .inr ⟨H, G, _, rfl, hbase, hg2, hGn, hGm, ?_, ?_⟩⟩, ?_, .inr (by omega)⟩
  · rw [zaN]
    simp; omega
  · rw [List.size_toArray, hrl, hZl]
  · rw [List.toList_toArray, show (n + 1) * 5 = n * 5 + 5 by omega, hrow, cellsC_between]
  · refine ⟨((hgr2.os.trans hgr1.os).trans hgr0.os : _), ((hgr2.tape.trans hgr1.tape).trans hgr0.tape : _), ((hgr2.output.trans hgr1.output).trans hgr0.output : _), (Nat.le_trans hgr0.size (Nat.le_trans hgr1.size hgr2.size) : _), fun k k1 k2 => ?_⟩
    have hkH : k ≠ H := by omega
    have e2 := hgr2.block k (by show k < W2.heap.size; omega) (by simpa using hkH); have e1 := hgr1.block k (by omega) (by simpa using hkH); have e0 := hgr0.block k k1 (by simp); exact (e2.trans e1).trans e0
 have hmx : G ≤ 9223372036854775807 := by unfold maxLen at hGm; omega
 have hcut0 : ∀ W, (Instr.slice 32 (.slice (some ⟨g, 0, none⟩) n cap) (some (.int .i64 (i : Int))) none none).run Tryz.prog W = .ok (.slice (some ⟨g, i * 5, none⟩) (n - i) (cap - i)) W := fun W => by
  rw [zbo _ n cap W i (by omega), show cutC (some ⟨g, 0, none⟩) cap i = some ⟨g, i * 5, none⟩ by unfold cutC; rw [if_neg (by omega), Option.map_some, addr_add, Nat.zero_add]]
 have hcutH : ∀ W, (Instr.slice 32 (.slice (some ⟨g, 0, none⟩) n cap) none (some (.int .i64 (i : Int))) none).run Tryz.prog W = .ok (.slice (some ⟨g, 0, none⟩) i cap) W := fun W => run_cutC_h _ n cap W i (by omega)
 have hcutI : ∀ W, (Instr.slice 32 (.slice (some ⟨H, 0, none⟩) M G) (some (.int .i64 (i : Int))) none none).run Tryz.prog W = .ok (.slice (some ⟨H, i * 5, none⟩) (M - i) (G - i)) W := fun W => by
  rw [zbo _ M G W i (by omega), show cutC (some ⟨H, 0, none⟩) G i = some ⟨H, i * 5, none⟩ by unfold cutC; rw [if_neg (by omega), Option.map_some, addr_add, Nat.zero_add]]
 -- the last cut may lie at the row's end
 have hcutJ : ∀ W, (Instr.slice 32 (.slice (some ⟨H, 0, none⟩) M G) (some (.int .i64 (J : Int))) none none).run Tryz.prog W = .ok (.slice (some ⟨H, J * 5, none⟩) (M - J) (G - J)) W := fun W => by
  rw [zbo _ M G W J (by omega), show cutC (some ⟨H, 0, none⟩) G J = some ⟨H, J * 5, none⟩ by unfold cutC; rw [if_neg (by omega), Option.map_some, addr_add, Nat.zero_add]]
 rw [← hK', ← hM'] at hr0; rw [← hM'] at hr1; rw [← hM', ← hJ'] at hr2; have hr0' := fun ty => hr0 ty; have hne2 : ((i : Int) == (n : Int)) = false := by simp; omega
 have hcap : (cap : Int) < (M : Int) := by omega
 have hcap' : cap < M := by omega
 have hw1 : IntKind.i64.wrap (M : Int) = M := IntWalk.i64_in _ (by omega); have hw2 : IntKind.i64.wrap (J : Int) = J := IntWalk.i64_in _ (by omega); have hw3 : IntKind.i64.wrap (K : Int) = K := IntWalk.i64_in _ (by omega); clear hg0 hg1 hg2 hgr0 hgr1 hgr2 hrow hrl hown hcell hsrc hZl hZt hdl hxl hs0 hs1 hs2 hlen1 hM' hJ' hK' h1 hr0; go_enter Tryz.func138, Tryz.ntmps138
 go_wp2_with (first
  | (at_builtin; refine Lib.wpList_append_run _ rfl _ _ _ _ rfl _ _ rfl rfl _ _ (hr0' _) ?_)
  | (at_builtin; refine wpList_copy_runC rfl _ _ 32 32 rfl _ _ rfl rfl _ _ (hr1 _) ?_))
 go_region_law (refine step_copy_runC rfl (.tmp 50) (.tmp 53) 32 32 rfl (.slice (some ⟨H, J * 5, none⟩) (M - J) (G - J)) (.slice (some ⟨g, i * 5, none⟩) (n - i) (cap - i)) (by simp [Act.eval, Act.put]) (by simp [Act.eval, Act.put]) _ _ (hr2 _) ?_)
 all_goals
  go_wp2_with fail; go_ret; exact HR.out
theorem insC_any (base : Nat) (vo : Value) (n i : Nat) (vs : List ChVv) (b : ChVv) (vb vc : Nat) (w : World) (hown : w.ownsRow base 39 5 vo n (zas vs)) (hvl : vs.length = n) (hn : n ≤ 1000) (hi : i ≤ n) (hbase : base ≤ w.heap.size)
 (cb : Array Value) (hvb : w.heap[vb]? = some (.cells cb 39 (0, 0))) (hsrc : ∀ j u, (zas [b])[j]? = some u → w.cell? ((⟨vb, 0, none⟩ : Addr).add j) = some u) (hne : some vb ≠ vo.ownBlock) (h1 : ∀ o ∈ vs, o.v.oneCell' = true) (hb1 : b.v.oneCell' = true) :
 Calls Tryz.prog 138 #[vo, .int .i64 i, .slice (some ⟨vb, 0, none⟩) 1 vc] w (zb7 base vo n i vs b w) := by
 by_cases hin : i = n
 · subst hin
   exact insEnd_any base vo i vs b vb vc w hown hvl hn hbase hsrc hb1
 · obtain ⟨g, cap, rfl, -⟩ := hown.form (by omega)
   by_cases hroom : n + 1 ≤ cap
   · exact insRoom_any base g n cap i vs b vb vc w hown hvl hn (by omega) hroom cb hvb hsrc (fun e => hne (by rw [e]; rfl)) h1 hb1
   · exact insGrow_any base g n cap i vs b vb vc w hown hvl hn (by omega) (by omega) hbase hsrc h1 hb1
theorem CpSt.newR {base : Nat} {vo : Value} {out : List ChR} {W : World} (h : CpSt base vo out W) : NewR base W (fun V => CpSt base vo out V) := by
 obtain ⟨vs, h1, h2, h3⟩ := h; exact fun V s k => ⟨vs, h1, za1 h2 (fun g hg => k g (oL3 h2 hg).1 (oL3 h2 hg).2), fun i hi => (h3 i hi).keep s (fun q q1 q2 _ => k q q1 q2)⟩
def GivesFin (w : World) (n i : Nat) (l : List ChR) (x : ChR) (own : Option Nat) (W : World) (e : Ending) (W' : World) : Prop :=
 ∃ a c, e = .returned (.slice a (n + 1) c) ∧ NewR w.heap.size W' (fun V => CS V a (n + 1) c (l.take i ++ x :: l.drop i)) ∧ Below w.heap.size w W' ∧ ∀ k, k < W.heap.size → some k ≠ own → W'.heap[k]? = W.heap[k]?
theorem insFin_any {w W : World} {base1 base2 : Nat} {a1 a2 : Option Addr} {n c1 c2 : Nat} {l : List ChR} {x : ChR} (hb : Below w.heap.size w W) (h1 : CpSt base1 (.slice a1 n c1) l W) (hl : l.length = n) (hw1 : w.heap.size ≤ base1) (hbase : base1 ≤ W.heap.size) (h2 : CpSt base2 (.slice a2 1 c2) [x] W)
 (hw2 : w.heap.size ≤ base2) (hsep : ∀ g, (Value.slice a1 n c1).ownBlock = some g → g < base2) (i : Nat) (hi : i ≤ n) (hn : n ≤ 1000) :
 Calls Tryz.prog 138 #[.slice a1 n c1, .int .i64 i, .slice a2 1 c2] W (GivesFin w n i l x (Value.slice a1 n c1).ownBlock W) := by
 obtain ⟨vs, v1, v2, v3⟩ := h1; obtain ⟨us, u1, u2, u3⟩ := h2
 obtain ⟨b, rfl⟩ : ∃ b, us = [b] := by
  match us, u1 with
  | [b], _ => exact ⟨b, rfl⟩
 rw [hl] at v1 v2; have hblk := u2.2; obtain ⟨vb, c2', hv, hbv, hlt⟩ := u2.form (by simp); simp only [Value.slice.injEq] at hv; obtain ⟨rfl, -, rfl⟩ := hv
 obtain ⟨cb, hcb⟩ : ∃ cb, W.heap[vb]? = some (.cells cb 39 (0, 0)) := by
  rcases hblk with ⟨q, _⟩ | ⟨g', cap', cur, q, _, hg, _⟩
  · simp at q
  · simp only [Value.slice.injEq, Option.some.injEq, Addr.mk.injEq, and_true] at q
    obtain ⟨rfl, -⟩ := q; exact ⟨cur, hg⟩
 have hne : some vb ≠ (Value.slice a1 n c1).ownBlock := by
  intro e; have := hsep vb e.symm; omega
 have ub := u3 0 (by simp); simp only [List.getD_cons_zero] at ub; have h1c : ∀ o ∈ vs, o.v.oneCell' = true := one_all (l := l) (by omega) (fun j hj => (v3 j hj).plain); refine (insC_any base1 (.slice a1 n c1) n i vs b vb _ W v2 v1 hn hi hbase cb hcb (u2.cells rfl) hne h1c ub.plain.one).mono ?_; rintro e W' ⟨g, c', rfl, ho, hg, hlie⟩; have hlen : (l.take i ++ x :: l.drop i).length = n + 1 := by simp; omega
 refine ⟨_, c', rfl, fun V vs1 vk => ?_, hb.grown hg hb.size (fun k hk => ?_), hg.block⟩
 · have hrd : ∀ j, j < l.length → zbG V (vs.getD j default) (l.getD j default) := fun j hj => (((v3 j hj).keep hg.size (fun k _ hk hk2 => hg.block k hk hk2)).keep vs1 (fun k k1 k2 _ => vk k (by omega) k2)).plain
   have hrb : zbG V b x := by
    obtain ⟨r1, r2, r3, r4, r5, ad, nd, cd, r6, r7, r8⟩ := ub; refine ⟨r1, r2, r3, r4, r5, ad, nd, cd, r6, r7.keepBlk (fun p hp => (vk _ ?_ ?_).trans (hg.block _ (r8 p hp).2.1 (fun e => ?_)))⟩
    · have h8 := (r8 p hp).1
      omega
    · have h8 := (r8 p hp).2.1
      have := hg.size; omega
    · have h9 := hsep p.block e.symm
      have h8 := (r8 p hp).1; omega
   obtain ⟨hl', hr'⟩ := between (by omega) hrd hrb i (by omega)
   have hst : ChSt V base1 (.slice (some ⟨g, 0, none⟩) (n + 1) c') (l.take i ++ x :: l.drop i) V := ⟨_, hl', by
    rw [hlen]
    exact za1 ho (fun g' hg' => vk g' (by have := (oL3 ho hg').1; omega) (oL3 ho hg').2), hr'⟩
   exact hst.cs hlen (Below.refl _ _)
 · have := oL3 v2 hk
   omega
def DevH.slots (h : DevH) (a0 : Option Addr) (n0 c0 : Nat) (a1 : Option Addr) (n1 c1 : Nat) : DevH := { h with a0 := a0, n0 := n0, c0 := c0, a1 := a1, n1 := n1, c1 := c1 }
def DevH.gots (h : DevH) (ga : Option Addr) (gc : Nat) : DevH := { h with ga := ga, gc := gc }
def DevH.jobs (h : DevH) (oa : Option Addr) (oc : Nat) : DevH := { h with oa := oa, oc := oc }
theorem put_slots (h : DevH) (d : DevR) (a0 : Option Addr) (n0 c0 : Nat) (a1 : Option Addr) (n1 c1 : Nat) : putAt (dvC h d) 0 (za4 (h.slots a0 n0 c0 a1 n1 c1)).toList = dvC (h.slots a0 n0 c0 a1 n1 c1) d := by kernel_rfl
theorem put_gots (h : DevH) (d : DevR) (ga : Option Addr) (gc : Nat) : (dvC h d).setIfInBounds 28 (.slice ga h.gn gc) = dvC (h.gots ga gc) d := by kernel_rfl
theorem put_jobs (h : DevH) (d : DevR) (oa : Option Addr) (oc : Nat) : (dvC h d).setIfInBounds 35 (.slice oa h.on oc) = dvC (h.jobs oa oc) d := by kernel_rfl
theorem one_slots (h : DevH) : (za4 h).all (·.oneCell') = true := by kernel_rfl
structure Few (d : DevR) : Prop where
 s0 : d.s0.length ≤ 1000
 s1 : d.s1.length ≤ 1000
 got : d.got.length ≤ 1000
 gotD : ∀ x ∈ d.got, x.data.length ≤ 1000
 ops : d.job.ops.length ≤ 1000
 opsD : ∀ x ∈ d.job.ops, x.data.length ≤ 1000
abbrev Own (m : Nat) (a : Option Addr) (n c : Nat) (l : List Int) : World → Prop := fun V => V.ownsRow m 5 1 (.slice a n c) n (l.map (Value.int .u8))
def GivesCy (h : DevH) (d : DevR) (w : World) (e : Ending) (w' : World) : Prop :=
 ∃ h' m0 m1 m2 mB m3 m4, e = .returned (devV h' d) ∧ Below w.heap.size w w' ∧ w.heap.size ≤ m0 ∧ m0 ≤ m1 ∧ m1 ≤ m2 ∧ m2 ≤ mB ∧ mB ≤ m3 ∧ m3 ≤ m4 ∧ h'.gn = h.gn ∧ h'.on = h.on ∧
   Has m0 m1 w' (Own m0 h'.a0 h'.n0 h'.c0 d.s0) ∧ Has m1 m2 w' (Own m1 h'.a1 h'.n1 h'.c1 d.s1) ∧ Has mB m3 w' (fun V => CS V h'.ga h'.gn h'.gc d.got) ∧ Has m3 m4 w' (fun V => OS V h'.oa h'.on h'.oc d.job.ops)
def CyRel (w : World) (L : List (Nat × Array Value × TypeId)) (H : Hlds) (B : Nat) (vo : Value) (l : List ChR) (i : Value) (wr : World) : Prop := ∃ k : Nat, i = .int .i64 k ∧ k ≤ l.length ∧ MH w L H wr ∧ CpU w B vo l k wr ∧ B ≤ wr.heap.size
def CyRelO (w : World) (L : List (Nat × Array Value × TypeId)) (H : Hlds) (B : Nat) (vo : Value) (l : List OpR) (i : Value) (wr : World) : Prop := ∃ k : Nat, i = .int .i64 k ∧ k ≤ l.length ∧ MH w L H wr ∧ OpU w B vo l k wr ∧ B ≤ wr.heap.size
theorem copiedD_any (h : DevH) (d : DevR) (w : World) (HD : DH w h d) (HF : Few d) : Calls Tryz.prog 76 #[devV h d] w (GivesCy h d w) := by
 have hgn : h.gn ≤ 1000 := by rw [← HD.got.len]; exact HF.got
 have hon : h.on ≤ 1000 := by rw [← HD.ops.len]; exact HF.ops
 have HDh := LH HD; have HFw := LH HF; have HLg := LH HD.got.len; have HLo := LH HD.ops.len; have HC0 : Hid (∀ W, Below w.heap.size w W → Calls Tryz.prog 98 #[.slice h.a0 h.n0 h.c0] W (GivesB W d.s0)) := fun W hb => zbV _ _ _ _ W (HDh.out.b0.later hb) (by have := HDh.out.b0.len; have := HFw.out.s0; omega); have HC1 : Hid (∀ W, Below w.heap.size w W → Calls Tryz.prog 98 #[.slice h.a1 h.n1 h.c1] W (GivesB W d.s1)) := fun W hb => zbV _ _ _ _ W (HDh.out.b1.later hb) (by have := HDh.out.b1.len; have := HFw.out.s1; omega); clear HD HF; unfold devV; obtain ⟨P1, hP1⟩ : ∃ P, w.heap.size = P := ⟨_, rfl⟩; have HS := LH (((((MS.start w).alloc (p := P1) (by simp [hP1]) (dvC h d) 37)).alloc (p := (P1 + 1)) (by simp [hP1]) zDev 37)); go_enter Tryz.func76, Tryz.ntmps76; go_upto_region 1 with fail; refine zau HS.out (fun V0 HS1 => ?_); replace HS := LH HS1; clear HS1 hP1; replace HS := LH (MH.of HS.out); refine rTu (S := MS w [((P1 + 1), zDev, 37), (P1, (dvC h d), 37)] [] []) [(0, false), (1, false), (2, false), (4, false), (5, false), (6, false), (3, true), (7, true), (8, false), (9, false), (10, true)] true 10 (by kernel_rfl) (by kernel_rfl) HS.out.ms.drew ?_; simp only [turned, gA, gB, gC]; replace HS := LH HS.out.drew; have uP1_0 : ∀ W, MS w [((P1 + 1), zDev, 37), (P1, (dvC h d), 37)] [] [] W → W.cell? ⟨P1, 0, none⟩ = some (.slice h.a0 h.n0 h.c0) := fun W hW => cAt (hW.get 1 rfl) rfl; have uP1_1 : ∀ W, MS w [((P1 + 1), zDev, 37), (P1, (dvC h d), 37)] [] [] W → W.cell? ⟨P1, 1, none⟩ = some (.slice h.a1 h.n1 h.c1) := fun W hW => cAt (hW.get 1 rfl) rfl
 repeat (first
  | (refine tSt ?_ (by rfl) (fun W9 hW9 => ?_) ?_
     rotate_left
     · (go_simp <;> with_reducible rfl)
     simp only [Act.put, sA, sB, sC])
  | (refine tSk (by rfl) ?_; simp only [Act.put, sA, sB, sC]))
 obtain ⟨m0, hm0⟩ : ∃ m, V0.drew.heap.size = m := ⟨_, rfl⟩; have hwm0 : w.heap.size ≤ m0 := by have := HS.out.below.size; omega
 refine tCa (fun K hK => ?_); go_simp; go_at_call 98; with_reducible refine (HC0.out _ HS.out.below).mono ?_
 rintro e W1 ⟨A0, N0, C0, rfl, ho, hb⟩; obtain ⟨m1, hm1⟩ : ∃ m, W1.heap.size = m := ⟨_, rfl⟩; have hnw : NewR V0.drew.heap.size W1 (Own m0 A0 N0 C0 d.s0) := fun V v1 v2 => za1 (hm0 ▸ ho) (fun q hq => v2 q (oL3 ho hq).1 (oL3 ho hq).2); have hle0 := hb.size; replace HS := LH (HS.out.gain hb hnw); rw [hm0, hm1] at HS; rw [hm0, hm1] at hle0; clear hb ho hnw
 try go_wp2_with fail
 refine hK.out _ _ HS.out.ms ?_; clear hK K
 try simp only [Act.put, sA, sB, sC]
 skip
 repeat (first
  | (refine tSt ?_ (by rfl) (fun W9 hW9 => ?_) ?_
     rotate_left
     · (go_simp <;> with_reducible rfl)
     simp only [Act.put, sA, sB, sC])
  | (refine tSk (by rfl) ?_; simp only [Act.put, sA, sB, sC]))
 refine tCa (fun K hK => ?_); go_simp; go_at_call 98; with_reducible refine (HC1.out _ HS.out.below).mono ?_
 rintro e W2 ⟨A1, N1, C1, rfl, ho, hb⟩; obtain ⟨m2, hm2⟩ : ∃ m, W2.heap.size = m := ⟨_, rfl⟩; have hnw : NewR W1.heap.size W2 (Own m1 A1 N1 C1 d.s1) := fun V v1 v2 => za1 (hm1 ▸ ho) (fun q hq => v2 q (oL3 ho hq).1 (oL3 ho hq).2); have hle1 := hb.size; replace HS := LH (HS.out.gain hb hnw); rw [hm1, hm2] at HS; rw [hm1, hm2] at hle1; clear hb ho hnw
 try go_wp2_with fail
 refine hK.out _ _ HS.out.ms ?_; clear hK K
 try simp only [Act.put, sA, sB, sC]
 repeat (first
  | (refine tSt ?_ (by rfl) (fun W9 hW9 => ?_) ?_
     rotate_left
     · (go_simp <;> with_reducible rfl)
     simp only [Act.put, sA, sB, sC])
  | (refine tSk (by rfl) ?_; simp only [Act.put, sA, sB, sC]))
 have HST := LH (HS.out.cells 1 rfl (put_slots h d A0 N0 C0 A1 N1 C1)); clear uP1_0 uP1_1; refine turn_last (fun K hK => ?_); rw [if_pos (by rfl)]; refine wp_store_mid 23 (.tmp 14) (.tmp 13) rfl P1 0 (za4 (h.slots A0 N0 C0 A1 N1 C1)) rfl rfl (HS.out.ms.there 1 rfl (by show 2 ≤ 37; decide)) (size_slots _) (one_slots _) ?_; refine hK.out _ _ (NoPanic.normal ?_); clear hK K
 try simp only [Act.put]
 replace HS := HST; clear HST; go_upto_region 2 with fail; refine gnH HS.out (fun V2 HS1 => ?_); replace HS := LH HS1; clear HS1; obtain ⟨B, hB⟩ : ∃ B, V2.heap.size = B := ⟨_, rfl⟩; have HCl : Hid (Calls Tryz.prog 49 #[.slice h.ga h.gn h.gc] V2 fun e w' => ∃ a' c', e = .returned (.slice a' h.gn c') ∧ ChSt w V2.heap.size (.slice a' h.gn c') d.got w' ∧ Below V2.heap.size V2 w') := cloneC_from _ _ _ _ w V2 HDh.out.got HS.out.below (by rw [← HLg.out]; exact HFw.out.got); rw [hB] at HCl; have cP1_28 := HS.out.cel 1 28 (v := .slice h.ga h.gn h.gc) rfl rfl; go_wp2_with fail; clear cP1_28; refine HCl.out.mono ?_; rintro e W3 ⟨ga, gc, rfl, hcs, hb⟩; have hPB : P1 + 1 < B := by have := HS.out.ms.lt (q := (P1 + 1, zDev, 37)) (by simp); omega
 have hm2B : m2 ≤ B := by have h9 := (HS.out.has (m1, m2, Own m1 A1 N1 C1 d.s1) (by simp)).1; simp only at h9; omega
 replace HS := LH (HS.out.later (by rw [hB]; exact hb)); have hB3 : B ≤ W3.heap.size := by have := hb.size; omega
 clear hb HCl; have cP1_28 := HS.out.cel 1 28 (v := .slice h.ga h.gn h.gc) rfl rfl; have fP1_28 := HS.out.thw 1 28 rfl; have HS2 : Hid (MH w [(P1 + 1, zDev, 37), (P1, dvC ((h.slots A0 N0 C0 A1 N1 C1).gots ga gc) d, 37)] [(m1, m2, Own m1 A1 N1 C1 d.s1), (m0, m1, Own m0 A0 N0 C0 d.s0)] (W3.setCell ⟨P1, 28, none⟩ (.slice ga h.gn gc))) := HS.out.cell 1 rfl (put_gots (h.slots A0 N0 C0 A1 N1 C1) d ga gc); have HU2 := LH ((CpU.start hcs).keep (W' := W3.setCell ⟨P1, 28, none⟩ (.slice ga h.gn gc)) (by simp) (fun q q1 _ => Below.heap_setCell _ _ _ q (by simp only; omega))); have hB4 : B ≤ (W3.setCell ⟨P1, 28, none⟩ (.slice ga h.gn gc)).heap.size := by simpa using hB3
 clear hcs; go_upto_region 3 with fail; clear cP1_28 fP1_28; generalize W3.setCell ⟨P1, 28, none⟩ (.slice ga h.gn gc) = V3 at HS2 HU2 hB4 ⊢; replace HS := HS2; clear HS2 hB hB3; have cP1_28 := HS.out.cel 1 28 (v := .slice ga h.gn gc) rfl rfl; go_wp2_with fail; clear cP1_28; go_loopw [22] (fun i wr => CyRel w [((P1 + 1), zDev, 37), (P1, (dvC ((h.slots A0 N0 C0 A1 N1 C1).gots ga gc) d), 37)] [(m1, m2, Own m1 A1 N1 C1 d.s1), (m0, m1, Own m0 A0 N0 C0 d.s0)] B (.slice ga h.gn gc) d.got i wr) (fun i _ => h.gn - (intOf i).toNat)
 case atStart => exact ⟨0, rfl, Nat.zero_le _, HS.out, HU2.out, hB4⟩
 case round =>
  obtain ⟨k, rfl, hk, hs, hu, hBw⟩ := hrel; rw [HLg.out] at hk; replace HS := LH hs; have HU := LH hu; clear hs hu HU2; by_cases hlt : k < h.gn
  · skip
    obtain ⟨g, cap, hg⟩ := HU.out.form (by rw [HLg.out]; omega); simp only [Value.slice.injEq] at hg; obtain ⟨rfl, -, rfl⟩ := hg; obtain ⟨va, vm, vc, q4, q5, f4⟩ := HU.out.cell HS.out.below HLg.out hlt
    have hml : (d.got.getD k default).data.length ≤ 1000 := HFw.out.gotD _ (by
     have hkl : k < d.got.length := by rw [HLg.out]; exact hlt
     rw [List.getD_eq_getElem?_getD, List.getElem?_eq_getElem hkl]
     exact List.getElem_mem _)
    have hvl := q5.len; have HBy := LH q5.bytes; have HBC := LH (fun W (hb : Below wr.heap.size wr W) => zbV va vm vc _ W (q5.later hb) (by omega)); have hgB := HU.out.own (g := g) rfl; have HU0 := LH (HU.out.later (Below.refl _ _).drew); have hk0 : (0 : Int) ≤ (k : Int) := by omega
    have hkn : (k : Int) < (h.gn : Int) := by omega
    clear q5; go_wp2_with fail; refine rTu (S := MS w [((P1 + 1), zDev, 37), (P1, (dvC ((h.slots A0 N0 C0 A1 N1 C1).gots (some ⟨g, 0, none⟩) gc) d), 37)] [] []) [(0, false), (1, false), (2, false), (3, false), (4, false), (5, false), (6, false), (7, false), (8, true), (9, true), (10, false), (11, false), (12, true)] false 9999 (by kernel_rfl) (by kernel_rfl) HS.out.ms.drew ?_; simp only [turned, gA, gB, gC]; replace HS := LH HS.out.drew; have uP1_28 : ∀ W, MS w [((P1 + 1), zDev, 37), (P1, (dvC ((h.slots A0 N0 C0 A1 N1 C1).gots (some ⟨g, 0, none⟩) gc) d), 37)] [] [] W → W.cell? ⟨P1, 28, none⟩ = some (.slice (some ⟨g, 0, none⟩) h.gn gc) := fun W hW => cAt (hW.get 1 rfl) rfl; have q4' : wr.drew.cell? ⟨g, k * 5 + 4, none⟩ = some (.slice va vm vc) := q4; clear q4
    repeat (first
     | (refine tSt ?_ (by rfl) (fun W9 hW9 => ?_) ?_
        rotate_left
        · (go_simp <;> with_reducible rfl)
        simp only [Act.put, sA, sB, sC])
     | (refine tSk (by rfl) ?_; simp only [Act.put, sA, sB, sC]))
    refine tCa (fun K hK => ?_); go_simp; refine hK.out _ _ HS.out.ms ?_; clear hK K
    try simp only [Act.put, sA, sB, sC]
    refine tCa (fun K hK => ?_); go_simp; go_at_call 98; with_reducible refine (HBC.out _ (Below.refl _ _).drew).mono ?_
    rintro e W20 ⟨a2, n2, c2, rfl, ho2, hb⟩; have HST := LH (HU0.out.step HLg.out hlt ho2 HBy.out hb); have q5 := cell_later hb q4'
    have f5 : W20.frozen? ⟨g, k * 5 + 4, none⟩ = false := by
     obtain ⟨_, _, _, _, _, hf⟩ := (HU0.out.later hb).cell (HS.out.later hb).below HLg.out hlt; exact hf
    replace HS := LH (HS.out.later hb); have hBw2 := Nat.le_trans hBw hb.size; clear hb ho2
    try go_wp2_with fail
    refine hK.out _ _ HS.out.ms ?_; clear hK K
    try simp only [Act.put, sA, sB, sC]
    repeat (first
     | (refine tSt ?_ (by rfl) (fun W9 hW9 => ?_) ?_
        rotate_left
        · (go_simp <;> with_reducible rfl)
        simp only [Act.put, sA, sB, sC])
     | (refine tSk (by rfl) ?_; simp only [Act.put, sA, sB, sC]))
    have HSO := LH (HS.out.other (g := g) (by have := HS.out.below.size; have := hgB.1; omega) (fun p hp => by simp only [List.mem_cons, List.not_mem_nil, or_false] at hp; rcases hp with rfl | rfl <;> (simp only; omega)) (fun q hq => by simp only [List.mem_cons, List.not_mem_nil, or_false] at hq; rcases hq with rfl | rfl <;> (simp only; omega)) (k * 5 + 4) (.slice a2 n2 c2)); refine tCa (fun K hK => ?_); go_simp; refine hK.out _ _ HSO.out.ms ?_; clear hK K
    try simp only [Act.put]
    clear uP1_28; refine tEn ?_; go_wp2_with fail; go_roundw
    case rel => exact ⟨k + 1, by go_num, by rw [HLg.out]; omega, HSO.out, HST.out, by simpa using hBw2⟩
    case measure => simp [intOf]; omega
  · have HF1 := LH (HU.out.fin (by rw [HLg.out]; omega))
    obtain ⟨m3, hm3⟩ : ∃ m, wr.heap.size = m := ⟨_, rfl⟩; have hHas : Has B m3 wr (fun V => CS V ga h.gn gc d.got) := hm3 ▸ (Has.of_new (CpSt.newR HF1.out)).imp (fun V q => CpSt.cs q HLg.out); replace HS := LH (HS.out.put hHas (by omega) (fun p hp => by simp only [List.mem_cons, List.not_mem_nil, or_false] at hp; rcases hp with rfl | rfl <;> (simp only; omega))); have hBm3 : B ≤ m3 := by omega
    clear hHas HF1 HU; have cP1_35 := HS.out.cel 1 35 (v := .slice h.oa h.on h.oc) rfl rfl; have HCl : Hid (Calls Tryz.prog 139 #[.slice h.oa h.on h.oc] wr fun e w' => ∃ a' c', e = .returned (.slice a' h.on c') ∧ OpSt w wr.heap.size (.slice a' h.on c') d.job.ops w' ∧ Below wr.heap.size wr w') := cloneO_from _ _ _ _ w wr HDh.out.ops HS.out.below (by rw [← HLo.out]; exact HFw.out.ops); rw [hm3] at HCl; go_wp2_with fail; clear cP1_35; refine HCl.out.mono ?_; rintro e W3 ⟨oa, oc, rfl, hcs, hb⟩; have hm34 : m3 ≤ W3.heap.size := by have := hb.size; omega
    replace HS := LH (HS.out.later (by rw [hm3]; exact hb)); clear hb HCl; have cP1_35 := HS.out.cel 1 35 (v := .slice h.oa h.on h.oc) rfl rfl; have fP1_35 := HS.out.thw 1 35 rfl; have HS2 : Hid (MH w [(P1 + 1, zDev, 37), (P1, dvC (((h.slots A0 N0 C0 A1 N1 C1).gots ga gc).jobs oa oc) d, 37)] [(B, m3, fun V => CS V ga h.gn gc d.got), (m1, m2, Own m1 A1 N1 C1 d.s1), (m0, m1, Own m0 A0 N0 C0 d.s0)] (W3.setCell ⟨P1, 35, none⟩ (.slice oa h.on oc))) := HS.out.cell 1 rfl (put_jobs ((h.slots A0 N0 C0 A1 N1 C1).gots ga gc) d oa oc); have HU2 := LH ((OpU.start hcs).keep (W' := W3.setCell ⟨P1, 35, none⟩ (.slice oa h.on oc)) (by simp) (fun q q1 _ => Below.heap_setCell _ _ _ q (by simp only; omega))); have hm35 : m3 ≤ (W3.setCell ⟨P1, 35, none⟩ (.slice oa h.on oc)).heap.size := by simpa using hm34
    clear hcs; go_upto_region 9 with fail; clear cP1_35 fP1_35; generalize W3.setCell ⟨P1, 35, none⟩ (.slice oa h.on oc) = V4 at HS2 HU2 hm35 ⊢; replace HS := HS2; clear HS2 hm3 hm34; have cP1_35 := HS.out.cel 1 35 (v := .slice oa h.on oc) rfl rfl; go_wp2_with fail; clear cP1_35; go_loopw [48] (fun i wr => CyRelO w [((P1 + 1), zDev, 37), (P1, (dvC (((h.slots A0 N0 C0 A1 N1 C1).gots ga gc).jobs oa oc) d), 37)] [(B, m3, fun V => CS V ga h.gn gc d.got), (m1, m2, Own m1 A1 N1 C1 d.s1), (m0, m1, Own m0 A0 N0 C0 d.s0)] m3 (.slice oa h.on oc) d.job.ops i wr) (fun i _ => h.on - (intOf i).toNat)
    case atStart => exact ⟨0, rfl, Nat.zero_le _, HS.out, HU2.out, hm35⟩
    case round =>
     obtain ⟨k, rfl, hk, hs, hu, hBw⟩ := hrel; rw [HLo.out] at hk; replace HS := LH hs; have HU := LH hu; clear hs hu HU2; by_cases hlt : k < h.on
     · skip
       obtain ⟨g, cap, hg⟩ := HU.out.form (by rw [HLo.out]; omega); simp only [Value.slice.injEq] at hg; obtain ⟨rfl, -, rfl⟩ := hg; obtain ⟨va, vm, vc, q4, q5, f4⟩ := HU.out.cell HS.out.below HLo.out hlt
       have hml : (d.job.ops.getD k default).data.length ≤ 1000 := HFw.out.opsD _ (by
        have hkl : k < d.job.ops.length := by rw [HLo.out]; exact hlt
        rw [List.getD_eq_getElem?_getD, List.getElem?_eq_getElem hkl]
        exact List.getElem_mem _)
       have hvl := q5.len; have HBy := LH q5.bytes; have HBC := LH (fun W (hb : Below wr.heap.size wr W) => zbV va vm vc _ W (q5.later hb) (by omega)); have hgB := HU.out.own (g := g) rfl; have HU0 := LH (HU.out.later (Below.refl _ _).drew); have hk0 : (0 : Int) ≤ (k : Int) := by omega
       have hkn : (k : Int) < (h.on : Int) := by omega
       clear q5; go_wp2_with fail; refine rTu (S := MS w [((P1 + 1), zDev, 37), (P1, (dvC (((h.slots A0 N0 C0 A1 N1 C1).gots ga gc).jobs (some ⟨g, 0, none⟩) oc) d), 37)] [] []) [(0, false), (1, false), (2, false), (3, false), (4, false), (5, false), (6, false), (7, false), (8, false), (9, false), (10, true), (11, true), (12, false), (13, false), (14, true)] false 9999 (by kernel_rfl) (by kernel_rfl) HS.out.ms.drew ?_; simp only [turned, gA, gB, gC]; replace HS := LH HS.out.drew; have uP1_35 : ∀ W, MS w [((P1 + 1), zDev, 37), (P1, (dvC (((h.slots A0 N0 C0 A1 N1 C1).gots ga gc).jobs (some ⟨g, 0, none⟩) oc) d), 37)] [] [] W → W.cell? ⟨P1, 35, none⟩ = some (.slice (some ⟨g, 0, none⟩) h.on oc) := fun W hW => cAt (hW.get 1 rfl) rfl; have q4' : wr.drew.cell? ⟨g, k * 3 + 2, none⟩ = some (.slice va vm vc) := q4; clear q4
       repeat (first
        | (refine tSt ?_ (by rfl) (fun W9 hW9 => ?_) ?_
           rotate_left
           · (go_simp <;> with_reducible rfl)
           simp only [Act.put, sA, sB, sC])
        | (refine tSk (by rfl) ?_; simp only [Act.put, sA, sB, sC]))
       refine tCa (fun K hK => ?_); go_simp; refine hK.out _ _ HS.out.ms ?_; clear hK K
       try simp only [Act.put, sA, sB, sC]
       refine tCa (fun K hK => ?_); go_simp; go_at_call 98; with_reducible refine (HBC.out _ (Below.refl _ _).drew).mono ?_
       rintro e W20 ⟨a2, n2, c2, rfl, ho2, hb⟩; have HST := LH (HU0.out.step HLo.out hlt ho2 HBy.out hb); have q5 := cell_later hb q4'
       have f5 : W20.frozen? ⟨g, k * 3 + 2, none⟩ = false := by
        obtain ⟨_, _, _, _, _, hf⟩ := (HU0.out.later hb).cell (HS.out.later hb).below HLo.out hlt; exact hf
       replace HS := LH (HS.out.later hb); have hBw2 := Nat.le_trans hBw hb.size; clear hb ho2
       try go_wp2_with fail
       refine hK.out _ _ HS.out.ms ?_; clear hK K
       try simp only [Act.put, sA, sB, sC]
       repeat (first
        | (refine tSt ?_ (by rfl) (fun W9 hW9 => ?_) ?_
           rotate_left
           · (go_simp <;> with_reducible rfl)
           simp only [Act.put, sA, sB, sC])
        | (refine tSk (by rfl) ?_; simp only [Act.put, sA, sB, sC]))
       have HSO := LH (HS.out.other (g := g) (by have := HS.out.below.size; have := hgB.1; omega) (fun p hp => by simp only [List.mem_cons, List.not_mem_nil, or_false] at hp; rcases hp with rfl | rfl <;> (simp only; omega)) (fun q hq => by simp only [List.mem_cons, List.not_mem_nil, or_false] at hq; rcases hq with rfl | rfl | rfl <;> (simp only; omega)) (k * 3 + 2) (.slice a2 n2 c2)); refine tCa (fun K hK => ?_); go_simp; refine hK.out _ _ HSO.out.ms ?_; clear hK K
       try simp only [Act.put]
       clear uP1_35; refine tEn ?_; go_wp2_with fail; go_roundw
       case rel => exact ⟨k + 1, by go_num, by rw [HLo.out]; omega, HSO.out, HST.out, by simpa using hBw2⟩
       case measure => simp [intOf]; omega
     · have HF1 := LH (HU.out.fin (by rw [HLo.out]; omega))
       obtain ⟨m4, hm4⟩ : ∃ m, wr.heap.size = m := ⟨_, rfl⟩; have hHas : Has m3 m4 wr (fun V => OS V oa h.on oc d.job.ops) := hm4 ▸ (Has.of_new (OpFin.newR HF1.out)).imp (fun V q => OpFin.os q HLo.out); have hm34 : m3 ≤ m4 := by omega
       replace HS := LH (HS.out.put hHas (by omega) (fun p hp => by simp only [List.mem_cons, List.not_mem_nil, or_false] at hp; rcases hp with rfl | rfl <;> (simp only; omega))); clear hHas HF1 HU; have bP1p1 := HS.out.gt 0 rfl; have HG := LH (HS.out.set 0 rfl (dvC (((h.slots A0 N0 C0 A1 N1 C1).gots ga gc).jobs oa oc) d)); have bP1 := HS.out.gt 1 rfl
       go_wp2_with (first
        | (refine wpList_load_row rfl 37 (.tmp 1) rfl P1 rfl 37 (dvC (((h.slots A0 N0 C0 A1 N1 C1).gots ga gc).jobs oa oc) d) (0, 0) _ bP1 U37 rfl (sDv (((h.slots A0 N0 C0 A1 N1 C1).gots ga gc).jobs oa oc) d) ?_)
        | (refine wpList_store_row rfl 37 (.tmp 2) (.tmp 66) rfl (P1 + 1) (dvC (((h.slots A0 N0 C0 A1 N1 C1).gots ga gc).jobs oa oc) d) rfl rfl 37 _ bP1p1 (sDv (((h.slots A0 N0 C0 A1 N1 C1).gots ga gc).jobs oa oc) d) (zat (((h.slots A0 N0 C0 A1 N1 C1).gots ga gc).jobs oa oc) d) (oDv (((h.slots A0 N0 C0 A1 N1 C1).gots ga gc).jobs oa oc) d) ?_))
       clear bP1p1 bP1; refine bodyPost_ret (v := .agg (dvC (((h.slots A0 N0 C0 A1 N1 C1).gots ga gc).jobs oa oc) d)) ?_ rfl ?_
       · exact res_c (fn := Tryz.f76) (p := 2) rfl rfl (HG.out.get 0 rfl) U37 rfl (sDv _ _)
       · exact ⟨(((h.slots A0 N0 C0 A1 N1 C1).gots ga gc).jobs oa oc), m0, m1, m2, B, m3, m4, rfl, HG.out.below, hwm0, hle0, hle1, hm2B, hBm3, hm34, rfl, rfl, HG.out.has (m0, m1, Own m0 A0 N0 C0 d.s0) (List.mem_of_getElem? (i := 3) rfl), HG.out.has (m1, m2, Own m1 A1 N1 C1 d.s1) (List.mem_of_getElem? (i := 2) rfl), HG.out.has (B, m3, fun V => CS V ga h.gn gc d.got) (List.mem_of_getElem? (i := 1) rfl), HG.out.has (m3, m4, fun V => OS V oa h.on oc d.job.ops) (List.mem_of_getElem? (i := 0) rfl)⟩
end Go.Proofs.YtnnmpoknghbdnacGreat
namespace Go.Proofs.YtnnmpoknghbdnacGreat
namespace RecM
theorem writeOf_zero {l : CopsR} {r : RecR} {torn : Bool} (h : copies l = 0) (hz : (writeOf l r torn).2 = 0) :
 check (next l r) = 0 ∧ copies (writeOf l r torn).1 = 0 ∧ cur (writeOf l r torn).1 = if torn then cur l else next l r := by
 by_cases hr : check (next l r) = 0
 · rw [writeOf_ok h hr]
   refine ⟨hr, ?_⟩
   cases torn with
   | true =>
     simp only [if_true]; exact ⟨(put_torn h).1, cur_torn h⟩
   | false =>
     simp only [Bool.false_eq_true, if_false]; exact ⟨(put_whole h hr).1, cur_put (put_whole h hr).2⟩
 · rw [writeOf_bad h hr] at hz
   exact absurd hz hr
end RecM
namespace DevM
open RecM (inf)
theorem Ok.rec_ {d : DevR} (h : Ok d) : RecM.check (rc d) = 0 := RecM.cur_ok h.cops
theorem Ok.act01 {d : DevR} (h : Ok d) : act d = 0 ∨ act d = 1 := (RecM.check_nums h.rec_).2.1
theorem slot_len {d : DevR} (h : Ok d) (k : Int) : (slot d k).length = 64 := by unfold slot; split; exact h.l0; exact h.l1
theorem oth_ne {d : DevR} (h : Ok d) : oth d ≠ act d ∧ (oth d = 0 ∨ oth d = 1) := by
 have := h.act01; unfold act oth at *; omega
theorem set_fields (d : DevR) (k : Int) (b : List Int) : (setSlot d k b).c = d.c ∧ (setSlot d k b).up = d.up ∧ (setSlot d k b).run = d.run ∧ (setSlot d k b).got = d.got ∧ (setSlot d k b).busy = d.busy ∧ (setSlot d k b).job = d.job ∧ (setSlot d k b).done = d.done := by
 unfold setSlot; split <;> exact ⟨rfl, rfl, rfl, rfl, rfl, rfl, rfl⟩
theorem fill_len {b : List Int} (h : b.length ≤ 64) : (fill b).length = 64 := by unfold fill; simp; omega
theorem over_len {s b : List Int} {dn n : Nat} (hs : s.length = 64) (hb : b.length ≤ 64) (h : dn + n ≤ 64) : (over s b dn n).length = 64 := by
 have := fill_len hb; unfold over; simp only [List.length_append, List.length_take, List.length_drop]; omega
theorem done_ok {p : PatR} {old : List Int} (h : (zaz p old).2 = 0) : PatM.check p = 0 ∧ old.length ≤ 64 ∧ (zaz p old).1 = DeltaM.applied old p.ops p.size ∧ ((zaz p old).1.length : Int) = p.size ∧ SumM.addL 1 (zaz p old).1 = p.new ∧ SumM.addL 1 old = p.old := by
 unfold zaz at h ⊢; split at h
 · rename_i q; exact absurd h q
 rename_i h1; split at h
 · omega
 rename_i h2; split at h
 · omega
 rename_i h3; split at h
 · rename_i q; exact absurd h q
 rename_i h4; split at h
 · omega
 rename_i h5; rw [if_neg h1, if_neg h2, if_neg h3, if_neg h4, if_neg h5]; have c4 : DeltaM.check p.ops old.length p.size = 0 := by simpa using h4
 obtain ⟨-, -, -, -, -, hg, ht⟩ := DeltaM.check_zero c4; refine ⟨by simpa using h1, by omega, rfl, ?_, by simpa using h5, by simpa using h3⟩; have : DeltaM.applied old p.ops p.size = DeltaM.makes old p.ops := by unfold DeltaM.applied; rw [if_pos c4]
 simp only [this]; rw [DeltaM.makes_length hg, ht]
theorem size_le {p : PatR} (h : PatM.check p = 0) : 0 ≤ p.size ∧ p.size ≤ 64 := by
 obtain ⟨-, h2⟩ := PatM.check_parts h; obtain ⟨-, -, -, h3, h4, -⟩ := DeltaM.check_zero h2; exact ⟨h3, h4⟩
theorem Busy.size {d : DevR} (h : Busy d) : PatM.check d.job = 0 ∧ (new d).length ≤ 64 ∧ ((new d).length : Int) = d.job.size := by
 obtain ⟨h1, -, -, h2, -⟩ := done_ok h.does; have := size_le h1; have h3 : ((new d).length : Int) = d.job.size := h2; exact ⟨h1, by omega, h3⟩
end DevM
end Go.Proofs.YtnnmpoknghbdnacGreat
namespace Go.Proofs.YtnnmpoknghbdnacGreat.ChunkM
theorem ins_at {c : ChR} : ∀ {l : List ChR} {k : Nat}, k ≤ l.length → (∀ x ∈ l.take k, x.n < c.n) → (k < l.length → c.n < (l.getD k default).n) → ins l c = l.take k ++ c :: l.drop k
 | [], k, hk, _, _ => by
   obtain rfl : k = 0 := by simpa using hk
   rfl
 | x :: t, 0, _, _, h => by
   have h0 : c.n < x.n := by simpa using h (by simp)
   unfold ins
   rw [if_neg (by omega), if_pos h0]
   rfl
 | x :: t, k + 1, hk, hb, h => by
   have hx : x.n < c.n := hb x (by simp)
   unfold ins
   rw [if_neg (by omega), if_neg (by omega), ins_at (k := k) (by simpa using hk) (fun y hy => hb y (by simp [hy])) (fun hlt => by simpa using h (by simpa using hlt))]
   simp
def AtIs (l : List ChR) (N i : Int) : Prop := (i = -1 ∧ ∀ x ∈ l, x.n < N) ∨ ∃ k : Nat, i = k ∧ k < l.length ∧ N ≤ (l.getD k default).n ∧ ∀ x ∈ l.take k, x.n < N
theorem ins_last {l : List ChR} {c : ChR} (h : ∀ x ∈ l, x.n < c.n) : ins l c = l.take l.length ++ c :: l.drop l.length :=
 ins_at (Nat.le_refl _) (fun x hx => h x (List.mem_of_mem_take hx)) (fun h => absurd h (Nat.lt_irrefl _))
theorem getD_memC {l : List ChR} {k : Nat} (h : k < l.length) : l.getD k default ∈ l := by
 rw [List.getD_eq_getElem?_getD, List.getElem?_eq_getElem h]; exact List.getElem_mem _
theorem ins_there {l : List ChR} {c : ChR} {k : Nat} (hu : Up l) (hk : k < l.length) (h : (l.getD k default).n = c.n) : ins l c = l := ins_have hu (getD_memC hk) h
theorem checks_few {l : List ChR} (h : checks l = 0) : l.length ≤ 52 := by
 have h1 := up_len (l := l) (checks_up h) (lo := 0) (hi := 52) (fun y hy => by
  have h1 := checks_all h y hy; have h2 := (check_good h1.1).2.2
  omega) (by omega)
 omega
end Go.Proofs.YtnnmpoknghbdnacGreat.ChunkM
namespace Go.Proofs.YtnnmpoknghbdnacGreat
open Go.RowKit
namespace DevM
theorem few_of {d : DevR} (h : Ok d) : Few d := by
 have hl0 := h.l0; have hl1 := h.l1
 have hu : ChunkM.checks d.got = 0 ∧ (d.job = zap ∨ PatM.check d.job = 0) := by
  cases e : d.up with
  | true =>
    have hU := h.up e; refine ⟨hU.got, ?_⟩
    cases hb : d.busy with
    | true => exact .inr (done_ok (hU.busy hb).does).1
    | false => exact .inl (hU.idle hb).2
  | false =>
    have := h.down e; rw [this]; exact ⟨rfl, .inl rfl⟩
 have hops : d.job.ops.length ≤ 1000 ∧ ∀ x ∈ d.job.ops, x.data.length ≤ 1000 := by
  rcases hu.2 with e | e
  · rw [e]
    exact ⟨by show (0 : Nat) ≤ 1000; omega, fun x hx => by cases hx⟩
  · obtain ⟨h1, -, -, -, -, hg, -⟩ := DeltaM.check_zero (PatM.check_parts e).2
    refine ⟨by omega, fun x hx => ?_⟩; have hf := (hg x hx).1; by_cases h0 : x.len = 0
    · have := (PatM.form_data hf h0).2.2
      omega
    · have : ¬ ((x.data.length : Int) ≠ 0) := fun q => hf (.inr ⟨h0, q⟩)
      omega
 exact ⟨by omega, by omega, by have := ChunkM.checks_few hu.1; omega, fun x hx => by have := ChunkM.checks_data hu.1 x hx; omega, hops.1, hops.2⟩
theorem few_off {d : DevR} (h : Few d) : Few (off d) := ⟨h.s0, h.s1, Nat.zero_le _, (fun x hx => by cases hx), Nat.zero_le _, (fun x hx => by cases hx)⟩
end DevM
def GivesCn (h : DevH) (d : DevR) (w : World) (e : Ending) (w' : World) : Prop :=
 ∃ h', e = .returned (devV h' d) ∧ Below w.heap.size w w' ∧ NewR w.heap.size w' (fun V => DH V h' d) ∧ h'.gn = h.gn ∧ h'.on = h.on
theorem GivesCy.cn {h : DevH} {d : DevR} {w : World} {e : Ending} {w' : World} (HD : DH w h d) (x : GivesCy h d w e w') : GivesCn h d w e w' := by
 obtain ⟨h', m0, m1, m2, mB, m3, m4, h1, h2, h3, h4, h5, h6, h7, h8, h9, h10, h11, h12, h13, h14⟩ := x; refine ⟨h', h1, h2, fun V v1 v2 => ?_, h9, h10⟩; have o0 := h11.new h3 V v1 v2; have o1 := h12.new (by omega) V v1 v2; have o2 := h13.new (by omega) V v1 v2; have o3 := h14.new (by omega) V v1 v2; exact ⟨BS.of_own o0 HD.b0.bytes, BS.of_own o1 HD.b1.bytes, o2, o3, HD.copsW, HD.runI, HD.jobI, HD.doneI⟩
theorem za3 (h : DevH) (d : DevR) (w : World) (HD : DH w h d) (HF : Few d) : Calls Tryz.prog 76 #[devV h d] w (GivesCn h d w) :=
 (copiedD_any h d w HD HF).mono fun _ _ x => x.cn HD
theorem checkCopy_any (c : CopR) (w : World) :
 Calls Tryz.prog 156 #[copV c] w fun e w' => e = .returned (.int .i64 (RecM.copErr c)) ∧ Below w.heap.size w w' := by
 have HC := LH (fun W => checkR_any c.r W); have hn := fun W => rec_neq c.r RecM.noRec W; have HE : Hid (RecM.copErr c = if c.ok = true then RecM.check c.r else if c.r ≠ RecM.noRec then 3 else 0) := rfl; have HZ : Hid (recV RecM.noRec = .agg #[.int .i64 0, .int .i64 0, .bool false, .int .i64 0, .int .i64 0, .int .i64 0, .int .i64 0, .int .i64 0, .int .i64 0, .int .i64 0, .int .i64 0]) := rfl; rw [HZ.out] at hn; obtain ⟨q, hq⟩ : ∃ q, decide (c.r = RecM.noRec) = q := ⟨_, rfl⟩; rw [hq] at hn; have HQ := LH hq; clear hq; obtain ⟨ok, g, a, tr, n, f, ⟨v0, s0, u0⟩, ⟨v1, s1, u1⟩⟩ := c; simp only [recV, copV] at HC hn ⊢; simp only at HQ HE; have HB := LH ((Below.refl w.heap.size w).alloc (Nat.le_refl _) (.cells #[.bool ok, .int .i64 g, .int .i64 a, .bool tr, .int .i64 n, .int .i64 f, .int .i64 v0, .int .i64 s0, .int .i64 u0, .int .i64 v1, .int .i64 s1, .int .i64 u1] 30))
 cases ok
 · cases q
   · clear HC
     go_enter Tryz.func156, Tryz.ntmps156; go_wp2_with fail; go_ret; exact ⟨zaG (by rw [HE.out, if_neg (by simp), if_pos (of_decide_eq_false HQ.out)]), HB.out⟩
   · clear HC
     go_enter Tryz.func156, Tryz.ntmps156; go_wp2_with fail; go_ret; exact ⟨zaG (by rw [HE.out, if_neg (by simp), if_neg (not_not_intro (of_decide_eq_true HQ.out))]), HB.out⟩
 · clear hn
   go_enter Tryz.func156, Tryz.ntmps156; go_wp2_with fail; refine (HC.out _).mono ?_; rintro e W2 ⟨rfl, hb2⟩; have HB3 := LH (bTn HB.out hb2); clear hb2; go_wp2_with fail; go_ret; exact ⟨zaG (by rw [HE.out, if_pos trivial]), HB3.out⟩
def RcopRel (w : World) (l : CopsR) (i : Value) (wr : World) : Prop :=
 ∃ k : Nat, i = .int .i64 k ∧ k ≤ 2 ∧ (0 < k → RecM.copErr l.c0 = 0) ∧ (1 < k → RecM.copErr l.c1 = 0) ∧ wr.heap[w.heap.size]? = some (.cells (cpC l) 31 (0, 0)) ∧ Below w.heap.size w wr
theorem oks_cells {W : World} {B : Nat} {l : CopsR} (h : W.heap[B]? = some (.cells (cpC l) 31 (0, 0))) : W.cell? ⟨B, 0, none⟩ = some (.bool l.c0.ok) ∧ W.cell? ⟨B, 12, none⟩ = some (.bool l.c1.ok) := by
 simp [World.cell?, h, cpC]
theorem copiesR_any (l : CopsR) (w : World) :
 Calls Tryz.prog 99 #[copsV l] w fun e w' => e = .returned (.int .i64 (RecM.copies l)) ∧ Below w.heap.size w w' := by
 have HI0 := LH (fun W => checkCopy_any l.c0 W); have HI1 := LH (fun W => checkCopy_any l.c1 W); have HOn : Hid (RecM.copies l = if RecM.copErr l.c0 ≠ 0 then RecM.copErr l.c0 else if RecM.copErr l.c1 ≠ 0 then RecM.copErr l.c1 else if l.c0.ok = false ∧ l.c1.ok = false then 7 else 0) := rfl
 have HBk0 : Hid ((w.alloc (.cells (cpC l) 31)).heap[w.heap.size]? = some (.cells (cpC l) 31 (0, 0))) := by
  show _ = _; rw [hpA, if_pos rfl]
 have HB := LH ((Below.refl w.heap.size w).alloc (Nat.le_refl _) (.cells (cpC l) 31)); have i0 : ∀ w : World, (Instr.index 31 (.agg (cpC l)) (.int .i64 0)).run Tryz.prog w = .ok (copV l.c0) w := fun _ => by kernel_rfl
 have i1 : ∀ w : World, (Instr.index 31 (.agg (cpC l)) (.int .i64 1)).run Tryz.prog w = .ok (copV l.c1) w := fun _ => by kernel_rfl
 have hi : (Tryz.prog.info? 31).map (·.size) = some (cpC l).size := by kernel_rfl
 unfold copsV; obtain ⟨A, hA⟩ : ∃ A, cpC l = A := ⟨_, rfl⟩; rw [hA] at HBk0 HB i0 i1 hi ⊢; have HA := LH hA; clear hA; obtain ⟨⟨xok, xg, xa, xtr, xn, xf, ⟨xv0, xs0, xu0⟩, ⟨xv1, xs1, xu1⟩⟩, ⟨yok, yg, ya, ytr, yn, yf, ⟨yv0, ys0, yu0⟩, ⟨yv1, ys1, yu1⟩⟩⟩ := l; simp only [copV] at HI0 HI1 i0 i1; simp only at HOn; go_enter Tryz.func99, Tryz.ntmps99; go_wp2_with (refine wpList_load_row rfl 31 (.tmp 1) rfl w.heap.size rfl 31 A (0, 0) _ HBk0.out U31 rfl hi ?_); go_loopw [7] (fun i wr => RcopRel w ⟨⟨xok, xg, xa, xtr, xn, xf, ⟨xv0, xs0, xu0⟩, ⟨xv1, xs1, xu1⟩⟩, ⟨yok, yg, ya, ytr, yn, yf, ⟨yv0, ys0, yu0⟩, ⟨yv1, ys1, yu1⟩⟩⟩ i wr) (fun i _ => 2 - (intOf i).toNat)
 case atStart => exact ⟨0, rfl, by omega, by omega, by omega, by rw [HA.out]; exact HBk0.out, HB.out⟩
 case round =>
  obtain ⟨k, rfl, hk, h0, h1, hblk, hbel⟩ := hrel; have HBk := LH hblk; have HBl := LH hbel; have H0 := LH h0; have H1 := LH h1; clear hblk hbel h0 h1; rcases (by omega : k = 0 ∨ k = 1 ∨ k = 2) with rfl | rfl | rfl
  · have hbl : Below wr.heap.size wr (wr.alloc (.cells #[.bool xok, .int .i64 xg, .int .i64 xa, .bool xtr, .int .i64 xn, .int .i64 xf, .int .i64 xv0, .int .i64 xs0, .int .i64 xu0, .int .i64 xv1, .int .i64 xs1, .int .i64 xu1] 30)) := (Below.refl _ _).alloc (Nat.le_refl _) _
    have HBL := LH hbl; clear hbl; go_wp2_with fail; refine (HI0.out _).mono ?_; rintro e W2 ⟨rfl, hb2⟩; have hb3 := bTn HBL.out hb2; have HB3 := LH (bTn HBl.out hb3); have HBk3 := LH ((hb3.block _ (bLQ HBk.out)).trans HBk.out); clear hb2 hb3; by_cases e0 : RecM.copErr ⟨xok, xg, xa, xtr, xn, xf, ⟨xv0, xs0, xu0⟩, ⟨xv1, xs1, xu1⟩⟩ = 0
    · have HE0 := LH e0
      rw [e0]; clear e0; go_wp2_with fail; go_roundw
      case rel => exact ⟨1, by go_num, by omega, fun _ => HE0.out, fun q => absurd q (by omega), HBk3.out, HB3.out⟩
      case measure => simp [intOf]
    · obtain ⟨E, hE⟩ : ∃ E, RecM.copErr ⟨xok, xg, xa, xtr, xn, xf, ⟨xv0, xs0, xu0⟩, ⟨xv1, xs1, xu1⟩⟩ = E := ⟨_, rfl⟩
      have HE : Hid (RecM.copies ⟨⟨xok, xg, xa, xtr, xn, xf, ⟨xv0, xs0, xu0⟩, ⟨xv1, xs1, xu1⟩⟩, ⟨yok, yg, ya, ytr, yn, yf, ⟨yv0, ys0, yu0⟩, ⟨yv1, ys1, yu1⟩⟩⟩ = E) := by
       show _ = _; rw [HOn.out, if_pos e0, hE]
      rw [hE] at e0 ⊢; have t0 : (E != 0) = true := by simp [e0]
      clear hE; go_wp2_with fail; go_ret; exact ⟨zaG HE.out.symm, HB3.out⟩
  · have hbl : Below wr.heap.size wr (wr.alloc (.cells #[.bool yok, .int .i64 yg, .int .i64 ya, .bool ytr, .int .i64 yn, .int .i64 yf, .int .i64 yv0, .int .i64 ys0, .int .i64 yu0, .int .i64 yv1, .int .i64 ys1, .int .i64 yu1] 30)) := (Below.refl _ _).alloc (Nat.le_refl _) _
    have HBL := LH hbl; clear hbl; go_wp2_with fail; refine (HI1.out _).mono ?_; rintro e W2 ⟨rfl, hb2⟩; have hb3 := bTn HBL.out hb2; have HB3 := LH (bTn HBl.out hb3); have HBk3 := LH ((hb3.block _ (bLQ HBk.out)).trans HBk.out); clear hb2 hb3; by_cases e0 : RecM.copErr ⟨yok, yg, ya, ytr, yn, yf, ⟨yv0, ys0, yu0⟩, ⟨yv1, ys1, yu1⟩⟩ = 0
    · have HE0 := LH e0
      rw [e0]; clear e0; go_wp2_with fail; go_roundw
      case rel => exact ⟨2, by go_num, by omega, fun _ => H0.out (by omega), fun _ => HE0.out, HBk3.out, HB3.out⟩
      case measure => simp [intOf]
    · obtain ⟨E, hE⟩ : ∃ E, RecM.copErr ⟨yok, yg, ya, ytr, yn, yf, ⟨yv0, ys0, yu0⟩, ⟨yv1, ys1, yu1⟩⟩ = E := ⟨_, rfl⟩
      have HE : Hid (RecM.copies ⟨⟨xok, xg, xa, xtr, xn, xf, ⟨xv0, xs0, xu0⟩, ⟨xv1, xs1, xu1⟩⟩, ⟨yok, yg, ya, ytr, yn, yf, ⟨yv0, ys0, yu0⟩, ⟨yv1, ys1, yu1⟩⟩⟩ = E) := by
       show _ = _; rw [HOn.out, if_neg (fun q => q (H0.out (by omega))), if_pos e0, hE]
      rw [hE] at e0 ⊢; have t0 : (E != 0) = true := by simp [e0]
      clear hE; go_wp2_with fail; go_ret; exact ⟨zaG HE.out.symm, HB3.out⟩
  · obtain ⟨q0, q12⟩ := oks_cells HBk.out
    simp only at q0 q12; replace HOn := LH ((HOn.out.trans (if_neg (fun q => q (H0.out (by omega))))).trans (if_neg (fun q => q (H1.out (by omega)))))
    cases xok
    · cases yok
      · go_wp2_with fail
        go_ret; exact ⟨zaG (by rw [HOn.out]; simp), HBl.out⟩
      · go_wp2_with fail
        go_ret; exact ⟨zaG (by rw [HOn.out]; simp), HBl.out⟩
    · go_wp2_with fail
      go_ret; exact ⟨zaG (by rw [HOn.out]; simp), HBl.out⟩
theorem RecM.newest_gen {l : CopsR} (h : RecM.copies l = 0) : RecM.newest l = if l.c0.r.gen < l.c1.r.gen then 1 else 0 := by
 obtain ⟨h0, h1, h2⟩ := RecM.copies_zero.1 h; unfold RecM.newest; rcases Bool.eq_false_or_eq_true l.c0.ok with e0 | e0
 · rcases Bool.eq_false_or_eq_true l.c1.ok with e1 | e1
   · by_cases hg : l.c0.r.gen < l.c1.r.gen
     · rw [if_pos hg, if_neg (by rw [e1]; simp; omega)]
     · rw [if_neg hg, if_pos ⟨e0, .inr (by omega)⟩]
   · have n1 := (RecM.check_nums (RecM.copErr_ok h0 e0)).1
     rw [RecM.copErr_no h1 e1, if_pos ⟨e0, .inl rfl⟩, if_neg]; show ¬ l.c0.r.gen < 0; omega
 · have e1 : l.c1.ok = true := by
    rcases h2 with h2 | h2
    · rw [e0] at h2; cases h2
    · exact h2
   have n1 := (RecM.check_nums (RecM.copErr_ok h1 e1)).1; rw [RecM.copErr_no h0 e0, if_neg (by rintro ⟨q, _⟩; cases q), if_pos]; show (0 : Int) < l.c1.r.gen; omega
theorem cop0_cells {W : World} {B : Nat} {l : CopsR} (h : W.heap[B]? = some (.cells (cpC l) 31 (0, 0))) : W.cell? ⟨B, 1, none⟩ = some (.int .i64 l.c0.r.gen) ∧ W.cell? ⟨B, 2, none⟩ = some (.int .i64 l.c0.r.act) ∧ W.cell? ⟨B, 3, none⟩ = some (.bool l.c0.r.trying) ∧ W.cell? ⟨B, 4, none⟩ = some (.int .i64 l.c0.r.tries) ∧ W.cell? ⟨B, 5, none⟩ = some (.int .i64 l.c0.r.floor) ∧ W.cell? ⟨B, 6, none⟩ = some (.int .i64 l.c0.r.i0.ver) ∧ W.cell? ⟨B, 7, none⟩ = some (.int .i64 l.c0.r.i0.size) ∧ W.cell? ⟨B, 8, none⟩ = some (.int .i64 l.c0.r.i0.sum) ∧ W.cell? ⟨B, 9, none⟩ = some (.int .i64 l.c0.r.i1.ver) ∧ W.cell? ⟨B, 10, none⟩ = some (.int .i64 l.c0.r.i1.size) ∧ W.cell? ⟨B, 11, none⟩ = some (.int .i64 l.c0.r.i1.sum) := by
 simp [World.cell?, h, cpC]
theorem cop1_cells {W : World} {B : Nat} {l : CopsR} (h : W.heap[B]? = some (.cells (cpC l) 31 (0, 0))) : W.cell? ⟨B, 13, none⟩ = some (.int .i64 l.c1.r.gen) ∧ W.cell? ⟨B, 14, none⟩ = some (.int .i64 l.c1.r.act) ∧ W.cell? ⟨B, 15, none⟩ = some (.bool l.c1.r.trying) ∧ W.cell? ⟨B, 16, none⟩ = some (.int .i64 l.c1.r.tries) ∧ W.cell? ⟨B, 17, none⟩ = some (.int .i64 l.c1.r.floor) ∧ W.cell? ⟨B, 18, none⟩ = some (.int .i64 l.c1.r.i0.ver) ∧ W.cell? ⟨B, 19, none⟩ = some (.int .i64 l.c1.r.i0.size) ∧ W.cell? ⟨B, 20, none⟩ = some (.int .i64 l.c1.r.i0.sum) ∧ W.cell? ⟨B, 21, none⟩ = some (.int .i64 l.c1.r.i1.ver) ∧ W.cell? ⟨B, 22, none⟩ = some (.int .i64 l.c1.r.i1.size) ∧ W.cell? ⟨B, 23, none⟩ = some (.int .i64 l.c1.r.i1.sum) := by
 simp [World.cell?, h, cpC]
structure RdSt (w : World) (l : CopsR) (W : World) : Prop where
 c0 : W.heap[w.heap.size]? = some (.cells (cpC l) 31 (0, 0))
 c1 : W.heap[w.heap.size + 1]? = some (.cells #[.int .i64 0, .int .i64 0, .bool false, .int .i64 0, .int .i64 0, .int .i64 0, .int .i64 0, .int .i64 0, .int .i64 0, .int .i64 0, .int .i64 0] 28 (0, 0))
 below : Below w.heap.size w W
theorem RdSt.start (w : World) (l : CopsR) : RdSt w l ((w.alloc (.cells (cpC l) 31)).alloc (.cells #[.int .i64 0, .int .i64 0, .bool false, .int .i64 0, .int .i64 0, .int .i64 0, .int .i64 0, .int .i64 0, .int .i64 0, .int .i64 0, .int .i64 0] 28)) := by
 refine ⟨?_, ?_, ((Below.refl _ _).alloc (Nat.le_refl _) _).alloc (by simp) _⟩
 · rw [hpA, if_neg (by simp), hpA, if_pos rfl]
 · rw [hpA, if_pos (by simp)]
theorem RdSt.later {w : World} {l : CopsR} {W W' : World} (h : RdSt w l W) (hb : Below W.heap.size W W') : RdSt w l W' :=
 ⟨(hb.block _ (bLQ h.c0)).trans h.c0, (hb.block _ (bLQ h.c1)).trans h.c1, bTn h.below hb⟩
theorem rdR (l : CopsR) (w : World) :
 Calls Tryz.prog 32 #[copsV l] w fun e w' => e = .returned (.tuple #[recV (RecM.readOf l).1, .int .i64 (RecM.readOf l).2.1, .int .i64 (RecM.readOf l).2.2]) ∧ Below w.heap.size w w' := by
 have HC := LH (fun W => copiesR_any l W); have HST := LH (RdSt.start w l); have hi : (Tryz.prog.info? 31).map (·.size) = some (cpC l).size := by kernel_rfl
 have HRd : Hid (RecM.readOf l = if RecM.copies l ≠ 0 then (RecM.noRec, 0, RecM.copies l) else (RecM.cur l, RecM.newest l, 0)) := rfl; have HNw := LH (fun h => RecM.newest_gen (l := l) h); have hc0 := HST.out.c0; unfold copsV at HC ⊢; go_enter Tryz.func32, Tryz.ntmps32; go_wp2_with (refine wpList_load_row rfl 31 (.tmp 1) rfl w.heap.size rfl 31 (cpC l) (0, 0) _ hc0 U31 rfl hi ?_); refine (HC.out _).mono ?_; rintro e W2 ⟨rfl, hb2⟩; have HST2 := LH (HST.out.later hb2); clear hb2 HST hc0 HC hi; by_cases e0 : RecM.copies l = 0
 · replace HRd := LH (HRd.out.trans (if_neg (fun q => q e0)))
   replace HNw := LH (HNw.out e0); rw [e0]; clear e0; obtain ⟨g0, -⟩ := cop0_cells HST2.out.c0; obtain ⟨g1, -⟩ := cop1_cells HST2.out.c0; by_cases hg : l.c0.r.gen < l.c1.r.gen
   · replace HNw := LH (HNw.out.trans (if_pos hg))
     obtain ⟨q0, q1, q2, q3, q4, q5, q6, q7, q8, q9, q10⟩ := cop1_cells HST2.out.c0
     have HCu : Hid (RecM.cur l = l.c1.r) := by
      show _ = _; unfold RecM.cur; rw [HNw.out]
      rfl
     have hc1 := HST2.out.c1; have HG := LH (setRow_heap W2 (w.heap.size + 1) _ (rcC l.c1.r) 28 (0, 0) hc1); have HB3 := LH (zaZ HST2.out.below (by omega : w.heap.size ≤ w.heap.size + 1) (rcC l.c1.r)); have hi2 : (Tryz.prog.info? 28).map (·.size) = some (rcC l.c1.r).size := by kernel_rfl
     have ha : (rcC l.c1.r).all (·.oneCell') = true := by kernel_rfl
     go_wp2_with (refine wpList_store_row rfl 28 (.tmp 2) (.tmp 25) rfl (w.heap.size + 1) (rcC l.c1.r) rfl rfl 28 _ hc1 hi2 rfl ha ?_); refine bodyPost_ret (v := .tuple #[.agg (rcC l.c1.r), .int .i64 1, .int .i64 0]) ?_ rfl ?_
     · exact res_ctt (fn := Tryz.f32) (p := 2) (a := 3) (b := 4) rfl rfl rfl rfl HG.out U28 rfl hi2
     · exact ⟨by rw [HRd.out, HNw.out, HCu.out]; rfl, HB3.out⟩
   · have tg : decide (l.c0.r.gen < l.c1.r.gen) = false := by simp; omega
     replace HNw := LH (HNw.out.trans (if_neg hg)); obtain ⟨q0, q1, q2, q3, q4, q5, q6, q7, q8, q9, q10⟩ := cop0_cells HST2.out.c0
     have HCu : Hid (RecM.cur l = l.c0.r) := by
      show _ = _; unfold RecM.cur; rw [HNw.out]
      rfl
     have hc1 := HST2.out.c1; have HG := LH (setRow_heap W2 (w.heap.size + 1) _ (rcC l.c0.r) 28 (0, 0) hc1); have HB3 := LH (zaZ HST2.out.below (by omega : w.heap.size ≤ w.heap.size + 1) (rcC l.c0.r)); have hi2 : (Tryz.prog.info? 28).map (·.size) = some (rcC l.c0.r).size := by kernel_rfl
     have ha : (rcC l.c0.r).all (·.oneCell') = true := by kernel_rfl
     go_wp2_with (refine wpList_store_row rfl 28 (.tmp 2) (.tmp 25) rfl (w.heap.size + 1) (rcC l.c0.r) rfl rfl 28 _ hc1 hi2 rfl ha ?_); refine bodyPost_ret (v := .tuple #[.agg (rcC l.c0.r), .int .i64 0, .int .i64 0]) ?_ rfl ?_
     · exact res_ctt (fn := Tryz.f32) (p := 2) (a := 3) (b := 4) rfl rfl rfl rfl HG.out U28 rfl hi2
     · exact ⟨by rw [HRd.out, HNw.out, HCu.out]; rfl, HB3.out⟩
 · obtain ⟨E, hE⟩ : ∃ E, RecM.copies l = E := ⟨_, rfl⟩
   replace HRd := LH (HRd.out.trans (if_pos e0)); rw [hE] at e0 HRd ⊢; have t0 : (E != 0) = true := by simp [e0]
   clear hE; have hc1 := HST2.out.c1; have HG := LH (setRow_heap W2 (w.heap.size + 1) _ #[.int .i64 0, .int .i64 0, .bool false, .int .i64 0, .int .i64 0, .int .i64 0, .int .i64 0, .int .i64 0, .int .i64 0, .int .i64 0, .int .i64 0] 28 (0, 0) hc1); have HB3 := LH (zaZ HST2.out.below (by omega : w.heap.size ≤ w.heap.size + 1) #[.int .i64 0, .int .i64 0, .bool false, .int .i64 0, .int .i64 0, .int .i64 0, .int .i64 0, .int .i64 0, .int .i64 0, .int .i64 0, .int .i64 0]); have hi2 : (Tryz.prog.info? 28).map (·.size) = some (#[.int .i64 0, .int .i64 0, .bool false, .int .i64 0, .int .i64 0, .int .i64 0, .int .i64 0, .int .i64 0, .int .i64 0, .int .i64 0, .int .i64 0] : Array Value).size := by kernel_rfl
   have ha : (#[.int .i64 0, .int .i64 0, .bool false, .int .i64 0, .int .i64 0, .int .i64 0, .int .i64 0, .int .i64 0, .int .i64 0, .int .i64 0, .int .i64 0] : Array Value).all (·.oneCell') = true := by kernel_rfl
   go_wp2_with (refine wpList_store_row rfl 28 (.tmp 2) (.tmp 11) rfl (w.heap.size + 1) #[.int .i64 0, .int .i64 0, .bool false, .int .i64 0, .int .i64 0, .int .i64 0, .int .i64 0, .int .i64 0, .int .i64 0, .int .i64 0, .int .i64 0] rfl rfl 28 _ hc1 hi2 rfl ha ?_); refine bodyPost_ret (v := .tuple #[.agg #[.int .i64 0, .int .i64 0, .bool false, .int .i64 0, .int .i64 0, .int .i64 0, .int .i64 0, .int .i64 0, .int .i64 0, .int .i64 0, .int .i64 0], .int .i64 0, .int .i64 E]) ?_ rfl ?_
   · exact res_ctt (fn := Tryz.f32) (p := 2) (a := 3) (b := 4) rfl rfl rfl rfl HG.out U28 rfl hi2
   · exact ⟨by rw [HRd.out]; rfl, HB3.out⟩
theorem zbA (l : CopsR) (r : RecR) (torn : Bool) (w : World) :
 Calls Tryz.prog 82 #[copsV l, recV r, .bool torn] w fun e w' => e = .returned (.tuple #[copsV (RecM.writeOf l r torn).1, .int .i64 (RecM.writeOf l r torn).2]) ∧ Below w.heap.size w w' := by
 have HR := LH (fun W => rdR l W); have HCk := LH (fun x W => checkR_any x W); have HST := LH (WSt.start w l r); have hi := sCp l; have HW : Hid (RecM.writeOf l r torn = if RecM.copies l ≠ 0 then (RecM.noCops, RecM.copies l) else if RecM.check (RecM.next l r) ≠ 0 then (RecM.noCops, RecM.check (RecM.next l r)) else (RecM.put l (if torn then RecM.noCop else ⟨true, RecM.next l r⟩), 0)) := rfl; have HRd : Hid (RecM.readOf l = if RecM.copies l ≠ 0 then (RecM.noRec, 0, RecM.copies l) else (RecM.cur l, RecM.newest l, 0)) := rfl; have HV : Hid (∀ x, recV x = .agg (rcC x)) := fun _ => rfl; unfold copsV at HR ⊢; have hc0 := HST.out.c0; rw [HV.out]; go_enter Tryz.func82, Tryz.ntmps82; go_wp2_with (refine wpList_load_row rfl 31 (.tmp 3) rfl w.heap.size rfl 31 (cpC l) (0, 0) _ hc0 U31 rfl hi ?_); refine (HR.out _).mono ?_; rintro e W2 ⟨rfl, hb2⟩; have HST2 := LH (HST.out.later hb2); clear hb2 HST hc0 HR hi; by_cases e0 : RecM.copies l = 0
 · have HE0 := LH e0
   rw [HRd.out, if_neg (fun q => q e0)]; replace HW := LH (HW.out.trans (if_neg (fun q => q e0))); have hcu := RecM.check_nums (RecM.cur_ok e0); have HNw := LH (RecM.newest_or l); have HPut : Hid (∀ c, RecM.put l c = if RecM.newest l = 0 then ⟨l.c0, c⟩ else ⟨c, l.c1⟩) := fun _ => rfl; have HNx : Hid (RecM.next l r = { r with gen := (RecM.cur l).gen + 1 }) := rfl; clear e0 HRd; generalize RecM.cur l = X at hcu HNx ⊢; generalize RecM.newest l = K at HNw HPut ⊢; obtain ⟨G, hG⟩ : ∃ G, X.gen + 1 = G := ⟨_, rfl⟩; have hw : IntKind.i64.wrap G = G := IntWalk.i64_in _ (by omega); rw [hG] at HNx; have hg0 : W2.cell? ⟨w.heap.size + 1, 0, none⟩ = some (.int .i64 r.gen) := (zbu HST2.out.c1).1; have hf0 : W2.frozen? ⟨w.heap.size + 1, 0, none⟩ = false := (rec_thaw HST2.out.c1).1; have hlt := HST2.out.lt; have hne : ¬ (w.heap.size + 1 = W2.heap.size) := by omega
   have hne2 : w.heap.size + 1 < W2.heap.size := by omega
   have HST3 : Hid (WSt w l { r with gen := G } ((W2.setCell ⟨w.heap.size + 1, 0, none⟩ (.int .i64 G)).alloc (.cells #[.int .i64 X.gen, .int .i64 X.act, .bool X.trying, .int .i64 X.tries, .int .i64 X.floor, .int .i64 X.i0.ver, .int .i64 X.i0.size, .int .i64 X.i0.sum, .int .i64 X.i1.ver, .int .i64 X.i1.size, .int .i64 X.i1.sum] 28))) := (HST2.out.set rfl).alloc _; have hc1 := HST3.out.c1; have hi1 := sRc { r with gen := G }; have HNXV : Hid (Value.agg (rcC { r with gen := G }) = recV { r with gen := G }) := rfl; simp only [recV]; go_wp2_with (refine wpList_load_row rfl 28 (.tmp 4) rfl (w.heap.size + 1) rfl 28 (rcC { r with gen := G }) (0, 0) _ hc1 U28 rfl hi1 ?_); refine (HCk.out { r with gen := G } _).mono ?_; rintro e W4 ⟨rfl, hb4⟩; have HST4 := LH (HST3.out.later hb4); clear hb4 HST3 HST2 hg0 hf0 hne hne2 hlt hc1 hi1; rw [HNx.out] at HW; by_cases e1 : RecM.check { r with gen := G } = 0
   · replace HW := LH (HW.out.trans (if_neg (fun q => q e1)))
     rw [e1]; clear e1; obtain ⟨p0, p1, p2, p3, p4, p5, p6, p7, p8, p9, p10⟩ := zbu (show W4.heap[w.heap.size + 1]? = some (.cells #[.int .i64 G, .int .i64 r.act, .bool r.trying, .int .i64 r.tries, .int .i64 r.floor, .int .i64 r.i0.ver, .int .i64 r.i0.size, .int .i64 r.i0.sum, .int .i64 r.i1.ver, .int .i64 r.i1.size, .int .i64 r.i1.sum] 28 (0, 0)) from HST4.out.c1); obtain ⟨D, hD⟩ : ∃ D, W4.heap.size = D := ⟨_, rfl⟩
     cases torn
     · have HST5 := LH (HST4.out.alloc (.cells #[.bool true, .int .i64 G, .int .i64 r.act, .bool r.trying, .int .i64 r.tries, .int .i64 r.floor, .int .i64 r.i0.ver, .int .i64 r.i0.size, .int .i64 r.i0.sum, .int .i64 r.i1.ver, .int .i64 r.i1.size, .int .i64 r.i1.sum] 30))
       have HD5 : Hid ((W4.alloc (.cells #[.bool true, .int .i64 G, .int .i64 r.act, .bool r.trying, .int .i64 r.tries, .int .i64 r.floor, .int .i64 r.i0.ver, .int .i64 r.i0.size, .int .i64 r.i0.sum, .int .i64 r.i1.ver, .int .i64 r.i1.size, .int .i64 r.i1.sum] 30)).heap[D]? = some (.cells (zan ⟨true, { r with gen := G }⟩) 30 (0, 0))) := by
        show _ = _; rw [hpA, if_pos hD.symm]
        rfl
       rcases HNw.out with hk | hk
       · subst hk
         go_wp2_with fail; generalize W4.alloc (.cells #[.bool true, .int .i64 G, .int .i64 r.act, .bool r.trying, .int .i64 r.tries, .int .i64 r.floor, .int .i64 r.i0.ver, .int .i64 r.i0.size, .int .i64 r.i0.sum, .int .i64 r.i1.ver, .int .i64 r.i1.size, .int .i64 r.i1.sum] 30) = W5 at HST5 HD5 ⊢; clear p0 p1 p2 p3 p4 p5 p6 p7 p8 p9 p10 HST4; have HO : Hid (∀ W, Calls Tryz.prog 144 #[.int .i64 0] W fun e w' => e = .returned (.int .i64 1) ∧ W = w') := fun W => by simpa using zbf 0 W (by decide)
         have HST6 := LH HST5.out.drew; have hD6 : W5.drew.heap[D]? = some (.cells (zan ⟨true, { r with gen := G }⟩) 30 (0, 0)) := HD5.out; have HST7 : Hid (WSt w ⟨l.c0, ⟨true, { r with gen := G }⟩⟩ { r with gen := G } (W5.drew.setCells w.heap.size 12 (zan ⟨true, { r with gen := G }⟩).toList)) := HST6.out.put (put_at1 l ⟨true, { r with gen := G }⟩); have hth : W5.drew.there w.heap.size 12 (zan ⟨true, { r with gen := G }⟩).size := HST6.out.there (by omega); have hi3 := zbb ⟨true, { r with gen := G }⟩; have ha3 := one_cop ⟨true, { r with gen := G }⟩; refine wp_region_still_tail 4 (by kernel_rfl) (by kernel_rfl) ?_; simp only [List.take_succ_cons, List.take_zero, List.drop_succ_cons, List.drop_zero]
         change wpStill _ _ W5.drew _ _ _
         still_step
         still_call ((HO.out _).mono fun _ _ ⟨h, e⟩ => ⟨h, e.symm⟩)
         refine zaA rfl 30 (.tmp 12) rfl D rfl 30 (zan ⟨true, { r with gen := G }⟩) (0, 0) _ hD6 U30 rfl hi3 ?_
         still_step
         refine wpStill_nil ?_
         change wpList _ _ _ _ _ W5.drew
         have hc0 := HST7.out.c0; have hc2 := HST7.out.c2; have HG := LH HST7.out.give; have hi := sCp ⟨l.c0, ⟨true, { r with gen := G }⟩⟩; have ha := za5 ⟨l.c0, ⟨true, { r with gen := G }⟩⟩; have hlk := zbt ⟨l.c0, ⟨true, { r with gen := G }⟩⟩; refine wpList_store_mid rfl 30 (.tmp 40) (.tmp 39) rfl w.heap.size 12 (zan ⟨true, { r with gen := G }⟩) rfl rfl hth hi3 ha3 ?_; generalize W5.drew.setCells w.heap.size 12 (zan ⟨true, { r with gen := G }⟩).toList = W7 at HST7 hc0 hc2 HG ⊢
         go_wp2_with (first
          | (refine wpList_load_row rfl 31 (.tmp 3) rfl w.heap.size rfl 31 (cpC ⟨l.c0, ⟨true, { r with gen := G }⟩⟩) (0, 0) _ hc0 U31 rfl hi ?_)
          | (refine wpList_store_row rfl 31 (.tmp 6) (.tmp 41) rfl (w.heap.size + 2) (cpC ⟨l.c0, ⟨true, { r with gen := G }⟩⟩) rfl rfl 31 _ hc2 hi hlk ha ?_))
         refine bodyPost_ret (v := .tuple #[.agg (cpC ⟨l.c0, ⟨true, { r with gen := G }⟩⟩), .int .i64 0]) ?_ rfl ?_
         · exact zam (fn := Tryz.f82) (p := 6) (a := 7) rfl rfl rfl HG.out.1 U31 rfl hi
         · exact ⟨by rw [HW.out, HPut.out]; rfl, HG.out.2⟩
       · subst hk
         go_wp2_with fail; generalize W4.alloc (.cells #[.bool true, .int .i64 G, .int .i64 r.act, .bool r.trying, .int .i64 r.tries, .int .i64 r.floor, .int .i64 r.i0.ver, .int .i64 r.i0.size, .int .i64 r.i0.sum, .int .i64 r.i1.ver, .int .i64 r.i1.size, .int .i64 r.i1.sum] 30) = W5 at HST5 HD5 ⊢; clear p0 p1 p2 p3 p4 p5 p6 p7 p8 p9 p10 HST4; have HO : Hid (∀ W, Calls Tryz.prog 144 #[.int .i64 1] W fun e w' => e = .returned (.int .i64 0) ∧ W = w') := fun W => by simpa using zbf 1 W (by decide)
         have HST6 := LH HST5.out.drew; have hD6 : W5.drew.heap[D]? = some (.cells (zan ⟨true, { r with gen := G }⟩) 30 (0, 0)) := HD5.out; have HST7 : Hid (WSt w ⟨⟨true, { r with gen := G }⟩, l.c1⟩ { r with gen := G } (W5.drew.setCells w.heap.size 0 (zan ⟨true, { r with gen := G }⟩).toList)) := HST6.out.put (put_at0 l ⟨true, { r with gen := G }⟩); have hth : W5.drew.there w.heap.size 0 (zan ⟨true, { r with gen := G }⟩).size := HST6.out.there (by omega); have hi3 := zbb ⟨true, { r with gen := G }⟩; have ha3 := one_cop ⟨true, { r with gen := G }⟩; refine wp_region_still_tail 4 (by kernel_rfl) (by kernel_rfl) ?_; simp only [List.take_succ_cons, List.take_zero, List.drop_succ_cons, List.drop_zero]
         change wpStill _ _ W5.drew _ _ _
         still_step
         still_call ((HO.out _).mono fun _ _ ⟨h, e⟩ => ⟨h, e.symm⟩)
         refine zaA rfl 30 (.tmp 12) rfl D rfl 30 (zan ⟨true, { r with gen := G }⟩) (0, 0) _ hD6 U30 rfl hi3 ?_
         still_step
         refine wpStill_nil ?_
         change wpList _ _ _ _ _ W5.drew
         have hc0 := HST7.out.c0; have hc2 := HST7.out.c2; have HG := LH HST7.out.give; have hi := sCp ⟨⟨true, { r with gen := G }⟩, l.c1⟩; have ha := za5 ⟨⟨true, { r with gen := G }⟩, l.c1⟩; have hlk := zbt ⟨⟨true, { r with gen := G }⟩, l.c1⟩; refine wpList_store_mid rfl 30 (.tmp 40) (.tmp 39) rfl w.heap.size 0 (zan ⟨true, { r with gen := G }⟩) rfl rfl hth hi3 ha3 ?_; generalize W5.drew.setCells w.heap.size 0 (zan ⟨true, { r with gen := G }⟩).toList = W7 at HST7 hc0 hc2 HG ⊢
         go_wp2_with (first
          | (refine wpList_load_row rfl 31 (.tmp 3) rfl w.heap.size rfl 31 (cpC ⟨⟨true, { r with gen := G }⟩, l.c1⟩) (0, 0) _ hc0 U31 rfl hi ?_)
          | (refine wpList_store_row rfl 31 (.tmp 6) (.tmp 41) rfl (w.heap.size + 2) (cpC ⟨⟨true, { r with gen := G }⟩, l.c1⟩) rfl rfl 31 _ hc2 hi hlk ha ?_))
         refine bodyPost_ret (v := .tuple #[.agg (cpC ⟨⟨true, { r with gen := G }⟩, l.c1⟩), .int .i64 0]) ?_ rfl ?_
         · exact zam (fn := Tryz.f82) (p := 6) (a := 7) rfl rfl rfl HG.out.1 U31 rfl hi
         · exact ⟨by rw [HW.out, HPut.out]; rfl, HG.out.2⟩
     · have HST5 := LH (HST4.out.alloc (.cells #[.bool false, .int .i64 0, .int .i64 0, .bool false, .int .i64 0, .int .i64 0, .int .i64 0, .int .i64 0, .int .i64 0, .int .i64 0, .int .i64 0, .int .i64 0] 30))
       have HD5 : Hid ((W4.alloc (.cells #[.bool false, .int .i64 0, .int .i64 0, .bool false, .int .i64 0, .int .i64 0, .int .i64 0, .int .i64 0, .int .i64 0, .int .i64 0, .int .i64 0, .int .i64 0] 30)).heap[D]? = some (.cells (zan RecM.noCop) 30 (0, 0))) := by
        show _ = _; rw [hpA, if_pos hD.symm]
        rfl
       rcases HNw.out with hk | hk
       · subst hk
         go_wp2_with fail; generalize W4.alloc (.cells #[.bool false, .int .i64 0, .int .i64 0, .bool false, .int .i64 0, .int .i64 0, .int .i64 0, .int .i64 0, .int .i64 0, .int .i64 0, .int .i64 0, .int .i64 0] 30) = W5 at HST5 HD5 ⊢; clear p0 p1 p2 p3 p4 p5 p6 p7 p8 p9 p10 HST4; have HO : Hid (∀ W, Calls Tryz.prog 144 #[.int .i64 0] W fun e w' => e = .returned (.int .i64 1) ∧ W = w') := fun W => by simpa using zbf 0 W (by decide)
         have HST6 := LH HST5.out.drew; have hD6 : W5.drew.heap[D]? = some (.cells (zan RecM.noCop) 30 (0, 0)) := HD5.out; have HST7 : Hid (WSt w ⟨l.c0, RecM.noCop⟩ { r with gen := G } (W5.drew.setCells w.heap.size 12 (zan RecM.noCop).toList)) := HST6.out.put (put_at1 l RecM.noCop); have hth : W5.drew.there w.heap.size 12 (zan RecM.noCop).size := HST6.out.there (by omega); have hi3 := zbb RecM.noCop; have ha3 := one_cop RecM.noCop; refine wp_region_still_tail 4 (by kernel_rfl) (by kernel_rfl) ?_; simp only [List.take_succ_cons, List.take_zero, List.drop_succ_cons, List.drop_zero]
         change wpStill _ _ W5.drew _ _ _
         still_step
         still_call ((HO.out _).mono fun _ _ ⟨h, e⟩ => ⟨h, e.symm⟩)
         refine zaA rfl 30 (.tmp 12) rfl D rfl 30 (zan RecM.noCop) (0, 0) _ hD6 U30 rfl hi3 ?_
         still_step
         refine wpStill_nil ?_
         change wpList _ _ _ _ _ W5.drew
         have hc0 := HST7.out.c0; have hc2 := HST7.out.c2; have HG := LH HST7.out.give; have hi := sCp ⟨l.c0, RecM.noCop⟩; have ha := za5 ⟨l.c0, RecM.noCop⟩; have hlk := zbt ⟨l.c0, RecM.noCop⟩; refine wpList_store_mid rfl 30 (.tmp 40) (.tmp 39) rfl w.heap.size 12 (zan RecM.noCop) rfl rfl hth hi3 ha3 ?_; generalize W5.drew.setCells w.heap.size 12 (zan RecM.noCop).toList = W7 at HST7 hc0 hc2 HG ⊢
         go_wp2_with (first
          | (refine wpList_load_row rfl 31 (.tmp 3) rfl w.heap.size rfl 31 (cpC ⟨l.c0, RecM.noCop⟩) (0, 0) _ hc0 U31 rfl hi ?_)
          | (refine wpList_store_row rfl 31 (.tmp 6) (.tmp 41) rfl (w.heap.size + 2) (cpC ⟨l.c0, RecM.noCop⟩) rfl rfl 31 _ hc2 hi hlk ha ?_))
         refine bodyPost_ret (v := .tuple #[.agg (cpC ⟨l.c0, RecM.noCop⟩), .int .i64 0]) ?_ rfl ?_
         · exact zam (fn := Tryz.f82) (p := 6) (a := 7) rfl rfl rfl HG.out.1 U31 rfl hi
         · exact ⟨by rw [HW.out, HPut.out]; rfl, HG.out.2⟩
       · subst hk
         go_wp2_with fail; generalize W4.alloc (.cells #[.bool false, .int .i64 0, .int .i64 0, .bool false, .int .i64 0, .int .i64 0, .int .i64 0, .int .i64 0, .int .i64 0, .int .i64 0, .int .i64 0, .int .i64 0] 30) = W5 at HST5 HD5 ⊢; clear p0 p1 p2 p3 p4 p5 p6 p7 p8 p9 p10 HST4; have HO : Hid (∀ W, Calls Tryz.prog 144 #[.int .i64 1] W fun e w' => e = .returned (.int .i64 0) ∧ W = w') := fun W => by simpa using zbf 1 W (by decide)
         have HST6 := LH HST5.out.drew; have hD6 : W5.drew.heap[D]? = some (.cells (zan RecM.noCop) 30 (0, 0)) := HD5.out; have HST7 : Hid (WSt w ⟨RecM.noCop, l.c1⟩ { r with gen := G } (W5.drew.setCells w.heap.size 0 (zan RecM.noCop).toList)) := HST6.out.put (put_at0 l RecM.noCop); have hth : W5.drew.there w.heap.size 0 (zan RecM.noCop).size := HST6.out.there (by omega); have hi3 := zbb RecM.noCop; have ha3 := one_cop RecM.noCop; refine wp_region_still_tail 4 (by kernel_rfl) (by kernel_rfl) ?_; simp only [List.take_succ_cons, List.take_zero, List.drop_succ_cons, List.drop_zero]
         change wpStill _ _ W5.drew _ _ _
         still_step
         still_call ((HO.out _).mono fun _ _ ⟨h, e⟩ => ⟨h, e.symm⟩)
         refine zaA rfl 30 (.tmp 12) rfl D rfl 30 (zan RecM.noCop) (0, 0) _ hD6 U30 rfl hi3 ?_
         still_step
         refine wpStill_nil ?_
         change wpList _ _ _ _ _ W5.drew
         have hc0 := HST7.out.c0; have hc2 := HST7.out.c2; have HG := LH HST7.out.give; have hi := sCp ⟨RecM.noCop, l.c1⟩; have ha := za5 ⟨RecM.noCop, l.c1⟩; have hlk := zbt ⟨RecM.noCop, l.c1⟩; refine wpList_store_mid rfl 30 (.tmp 40) (.tmp 39) rfl w.heap.size 0 (zan RecM.noCop) rfl rfl hth hi3 ha3 ?_; generalize W5.drew.setCells w.heap.size 0 (zan RecM.noCop).toList = W7 at HST7 hc0 hc2 HG ⊢
         go_wp2_with (first
          | (refine wpList_load_row rfl 31 (.tmp 3) rfl w.heap.size rfl 31 (cpC ⟨RecM.noCop, l.c1⟩) (0, 0) _ hc0 U31 rfl hi ?_)
          | (refine wpList_store_row rfl 31 (.tmp 6) (.tmp 41) rfl (w.heap.size + 2) (cpC ⟨RecM.noCop, l.c1⟩) rfl rfl 31 _ hc2 hi hlk ha ?_))
         refine bodyPost_ret (v := .tuple #[.agg (cpC ⟨RecM.noCop, l.c1⟩), .int .i64 0]) ?_ rfl ?_
         · exact zam (fn := Tryz.f82) (p := 6) (a := 7) rfl rfl rfl HG.out.1 U31 rfl hi
         · exact ⟨by rw [HW.out, HPut.out]; rfl, HG.out.2⟩
   · obtain ⟨E, hE⟩ : ∃ E, RecM.check { r with gen := G } = E := ⟨_, rfl⟩
     replace HW := LH (HW.out.trans (if_pos e1)); rw [hE] at e1 HW ⊢; have t0 : (E != 0) = true := by simp [e1]
     clear hE; have HG := LH HST4.out.nil_; have hc2 := HST4.out.c2; have hi2 := zby; have ha := one_zcops; unfold za2 at hi2 ha hc2; go_wp2_with (refine wpList_store_row rfl 31 (.tmp 6) (.tmp 31) rfl (w.heap.size + 2) #[.bool false, .int .i64 0, .int .i64 0, .bool false, .int .i64 0, .int .i64 0, .int .i64 0, .int .i64 0, .int .i64 0, .int .i64 0, .int .i64 0, .int .i64 0, .bool false, .int .i64 0, .int .i64 0, .bool false, .int .i64 0, .int .i64 0, .int .i64 0, .int .i64 0, .int .i64 0, .int .i64 0, .int .i64 0, .int .i64 0] rfl rfl 31 _ hc2 hi2 rfl ha ?_); refine bodyPost_ret (v := .tuple #[.agg za2, .int .i64 E]) ?_ rfl ?_
     · exact zam (fn := Tryz.f82) (p := 6) (a := 7) rfl rfl rfl HG.out.1 U31 rfl zby
     · exact ⟨by rw [HW.out]; rfl, HG.out.2⟩
 · obtain ⟨E, hE⟩ : ∃ E, RecM.copies l = E := ⟨_, rfl⟩
   rw [HRd.out, if_pos e0]; replace HW := LH (HW.out.trans (if_pos e0)); rw [hE] at e0 HW ⊢; have t0 : (E != 0) = true := by simp [e0]
   clear hE HRd; have HG := LH (HST2.out.alloc (.cells zaL 28)).nil_; replace HST2 := LH (HST2.out.alloc (.cells zaL 28)); unfold zaL at HG HST2; simp only [recV, RecM.noRec, RecM.noInf]; have hc2 := HST2.out.c2; have hi2 := zby; have ha := one_zcops; unfold za2 at hi2 ha hc2; go_wp2_with (refine wpList_store_row rfl 31 (.tmp 6) (.tmp 21) rfl (w.heap.size + 2) #[.bool false, .int .i64 0, .int .i64 0, .bool false, .int .i64 0, .int .i64 0, .int .i64 0, .int .i64 0, .int .i64 0, .int .i64 0, .int .i64 0, .int .i64 0, .bool false, .int .i64 0, .int .i64 0, .bool false, .int .i64 0, .int .i64 0, .int .i64 0, .int .i64 0, .int .i64 0, .int .i64 0, .int .i64 0, .int .i64 0] rfl rfl 31 _ hc2 hi2 rfl ha ?_); refine bodyPost_ret (v := .tuple #[.agg za2, .int .i64 E]) ?_ rfl ?_
   · exact zam (fn := Tryz.f82) (p := 6) (a := 7) rfl rfl rfl HG.out.1 U31 rfl zby
   · exact ⟨by rw [HW.out]; rfl, HG.out.2⟩
theorem zbr (h : DevH) (d : DevR) (l : CopsR) : putAt (dvC h d) 2 (cpC l).toList = dvC h { d with c := l } := by kernel_rfl
theorem zbH (h : DevH) (d : DevR) (b : Bool) : (dvC h d).setIfInBounds 29 (.bool b) = dvC h { d with busy := b } := by kernel_rfl
theorem zbe (h : DevH) (d : DevR) (n : Int) : (dvC h d).setIfInBounds 36 (.int .i64 n) = dvC h { d with done := n } := by kernel_rfl
theorem put_up (h : DevH) (d : DevR) (b : Bool) : (dvC h d).setIfInBounds 26 (.bool b) = dvC h { d with up := b } := by kernel_rfl
theorem put_run (h : DevH) (d : DevR) (n : Int) : (dvC h d).setIfInBounds 27 (.int .i64 n) = dvC h { d with run := n } := by kernel_rfl
theorem put_job (h : DevH) (d : DevR) (oa : Option Addr) (on oc : Nat) (p : PatR) : putAt (dvC h d) 30 (jbC oa on oc p).toList = dvC { h with oa := oa, on := on, oc := oc } { d with job := p } := by kernel_rfl
theorem like_rr (r s : RecR) : (rcC r).size = (rcC s).size := by kernel_rfl
theorem cops_w {l : CopsR} (h : RecM.copies l = 0) : CopsW l := by
 obtain ⟨h0, h1, -⟩ := RecM.copies_zero.1 h
 have one : ∀ c : CopR, RecM.copErr c = 0 → RecW c.r := by
  intro c hc
  cases ho : c.ok with
  | true => exact RecW.of_ok (RecM.copErr_ok hc ho)
  | false =>
    rw [RecM.copErr_no hc ho]; exact noRec_w
 exact ⟨one _ h0, one _ h1⟩
theorem put_inf0 (g a : Int) (tr : Bool) (n f : Int) (i0 i1 i : InfR) : putAt (rcC ⟨g, a, tr, n, f, i0, i1⟩) 5 (#[Value.int .i64 i.ver, .int .i64 i.size, .int .i64 i.sum] : Array Value).toList = rcC ⟨g, a, tr, n, f, i, i1⟩ := by kernel_rfl
theorem size_inf (i : InfR) : (Tryz.prog.info? 25).map (·.size) = some (#[Value.int .i64 i.ver, .int .i64 i.size, .int .i64 i.sum] : Array Value).size := by kernel_rfl
theorem one_inf (i : InfR) : (#[Value.int .i64 i.ver, .int .i64 i.size, .int .i64 i.sum] : Array Value).all (·.oneCell') = true := by kernel_rfl
theorem zbT (l : CopsR) : (cpC l).all (·.oneCell') = true := by kernel_rfl
theorem glH {prog : Program} {ops : Array Oper} {rest : List Oper} {Q : Exit → Act → World → Prop} {a : Act} {W w : World} {L : List (Nat × Array Value × TypeId)} {H : Hlds} (h : MH w L H W) (k : ∀ V, MH w L H V → wpList prog ops Q rest a V) : wpList prog ops Q rest a W := k W h
theorem MS.tail {w W : World} {x : Nat × Array Value × TypeId} {L : List (Nat × Array Value × TypeId)} (h : MS w (x :: L) [] [] W) : MS w L [] [] W :=
 ⟨fun q hq => h.has q (List.mem_cons_of_mem _ hq), (List.pairwise_cons.1 h.srt).2, fun q hq => h.base q (List.mem_cons_of_mem _ hq), h.below, (fun _ q => by cases q), (fun _ q => by cases q)⟩
theorem MS.sub {w W : World} {L L' : List (Nat × Array Value × TypeId)} (h : MS w L [] [] W) (hs : L'.Sublist L) : MS w L' [] [] W :=
 ⟨fun q hq => h.has q (hs.subset hq), h.srt.sublist hs, fun q hq => h.base q (hs.subset hq), h.below, (fun _ q => by cases q), (fun _ q => by cases q)⟩
theorem zaV {P : Program} {ops : Array Oper} {Q : Exit → Act → World → Prop} {S : World → Prop} {fin : Bool} {r : List (Oper × Bool)} {a : Act} {W w : World} {L : List (Nat × Array Value × TypeId)} {H : Hlds} (h : MH w L H W) (k : ∀ V, MH w L H V → zaT P ops Q S fin r a V) : zaT P ops Q S fin r a W := k W h
theorem zaW {P : Program} {o : Oper} {a : Act} {w : World} {K : Act → World → Prop} {Q : Exit → Act → World → Prop} {E : Prop} {ops : Array Oper} (hw : Region.wanted o (yielded ops a.tmps) = true) (ty : TypeId) (x y : Operand) (ho : o.op = .store ty x y) (b k : Nat) (cells : Array Value) (hx : a.eval x = .pointer (some ⟨b, k, none⟩)) (hy : a.eval y = .agg cells)
 (ht : w.there b k cells.size) (hi : (P.info? ty).map (·.size) = some cells.size) (h1 : cells.all (·.oneCell') = true) (h : K (a.put o.dst undef) (w.setCells b k cells.toList)) : if Region.wanted o (yielded ops a.tmps) = true then Oper.wp P o a w K Q else E := by
 rw [if_pos hw]; exact wp_store_mid ty x y ho b k cells hx hy ht hi h1 h
theorem zaH (x lo hi : Int) (w : World) :
 Calls Tryz.prog 61 #[.int .i64 x, .int .i64 lo, .int .i64 hi] w fun e w' => e = .returned (.bool (decide (lo ≤ x ∧ x ≤ hi))) ∧ w = w' := by
 by_cases h : lo ≤ x
 · go_enter Tryz.func61, Tryz.ntmps61
   go_wp2; go_ret; exact ⟨by simp [h], rfl⟩
 · go_enter Tryz.func61, Tryz.ntmps61
   go_wp2; go_ret; exact ⟨by simp; omega, rfl⟩
theorem checkOps_any (a : Option Addr) (n c : Nat) (l : List OpR) (old size : Int) (w : World) (hl : OS w a n c l) :
 Calls Tryz.prog 173 #[.slice a n c, .int .i64 old, .int .i64 size] w fun e w' => e = .returned (.int .i64 (DeltaM.check l old size)) ∧ Below w.heap.size w w' := by
 have hlen : n ≤ 9223372036854775807 := by have := hl.le; have := hl.max; omega
 by_cases h40 : 40 < n
 · have he : DeltaM.check l old size = 1 := by unfold DeltaM.check; rw [if_pos (.inl (by rw [hl.len]; exact h40))]
   rw [he]; clear hl; go_enter Tryz.func173, Tryz.ntmps173; go_wp2_with fail; go_ret; exact ⟨rfl, Below.refl _ _⟩
 · by_cases hold : 0 ≤ old ∧ old ≤ 64
   · by_cases hsz : 0 ≤ size ∧ size ≤ 64
     · have he : DeltaM.check l old size = DeltaM.chk old size l 0 := by unfold DeltaM.check; rw [if_neg (by rw [hl.len]; omega)]
       rw [he]; have HL := LH hl; have HLn := LH hl.len; obtain ⟨o1, o2⟩ := hold; obtain ⟨s1, s2⟩ := hsz; have d1 : decide (0 ≤ old ∧ old ≤ 64) = true := by simp; omega
       have d2 : decide (0 ≤ size ∧ size ≤ 64) = true := by simp; omega
       clear hl he; go_enter Tryz.func173, Tryz.ntmps173; go_wp2_with fail; refine (zaH old 0 64 _).mono ?_; rintro e w' ⟨rfl, rfl⟩; rw [d1]; go_wp2_with fail; refine (zaH size 0 64 _).mono ?_; rintro e w' ⟨rfl, rfl⟩; rw [d2]; go_wp2_with fail; go_loopw [7, 26] (fun made i wr => ChkRel l old size w made i wr) (fun _ i _ => n - (intOf i).toNat)
       case atStart => exact ⟨0, 0, rfl, rfl, Nat.zero_le _, s1, rfl, Below.refl _ _⟩
       case round =>
        obtain ⟨m, k, rfl, rfl, hk, hm, hc, hB⟩ := hrel; rw [HLn.out] at hk; have HC := LH hc; clear hc; by_cases hlt : k < n
        · obtain ⟨b, off, rfl, hcs⟩ := (HL.out.later hB).cells (by omega)
          obtain ⟨va, vn, vc, q0, q1, q2, q3, q4, q5⟩ := hcs k hlt; have HD := LH (drop_op l k (by rw [HLn.out]; exact hlt)); generalize l.getD k default = o at q0 q1 q2 q3 q4 q5 HD; obtain ⟨A, L, D⟩ := o; have HDL := LH q3.len; clear hcs q3; have hB1 := hB.alloc hB.size (.cells #[.int .i64 A, .int .i64 L, .slice va vn vc] 159); simp only at q0 q1 q2 q4 q5; have hA64 := LH q4; have hL64 := LH q5; clear q4 q5; obtain ⟨V, hV⟩ : ∃ V : Int, (vn : Int) = V := ⟨_, rfl⟩; have HV : Hid ((D.length : Int) = vn) := by show (D.length : Int) = vn; have := HDL.out; simp only at this; omega
          have fin : ∀ r : Int, DeltaM.chk old size (⟨A, L, D⟩ :: l.drop (k + 1)) m = r → r = DeltaM.chk old size l 0 := by
           intro r h; rw [← h, ← HC.out, HD.out]
          have HF := LH fin
          have on : ¬ DeltaM.badForm ⟨A, L, D⟩ → ¬ DeltaM.bdR old ⟨A, L, D⟩ → ∀ M : Nat, (m : Int) + (L + vn) = M → (M : Int) ≤ size → ChkRel l old size w (.int .i64 M) (.int .i64 (k + 1 : Nat)) (wr.alloc (.cells #[.int .i64 A, .int .i64 L, .slice va vn vc] 159)) := by
           intro h1 h2 M hM hM2; have e : DeltaM.size ⟨A, L, D⟩ = L + vn := by unfold DeltaM.size; simp only; rw [HV.out]
           have e2 : (m : Int) + DeltaM.size ⟨A, L, D⟩ = M := by rw [e]; exact hM
           refine ⟨M, k + 1, rfl, rfl, by rw [HLn.out]; omega, hM2, ?_, hB1⟩; rw [← HC.out, HD.out, DeltaM.chk_on h1 h2 (by rw [e2]; omega), e2]
          have HON := LH on; have HSZ : Hid (DeltaM.size ⟨A, L, D⟩ = L + vn) := by show DeltaM.size ⟨A, L, D⟩ = L + vn; unfold DeltaM.size; simp only; rw [HV.out]
          clear fin on hV HDL; by_cases hL : L = 0
          · subst hL
            by_cases hA : A = 0
            · subst hA
              by_cases hin : 1 ≤ (vn : Int) ∧ (vn : Int) ≤ 64
              · have HNF : Hid (¬ DeltaM.badForm ⟨0, 0, D⟩) := by show ¬ _; unfold DeltaM.badForm; simp only; rw [HV.out]; omega
                have HNR : Hid (¬ DeltaM.bdR old ⟨0, 0, D⟩) := by show ¬ _; unfold DeltaM.bdR; simp only; omega
                have din : decide (1 ≤ (vn : Int) ∧ (vn : Int) ≤ 64) = true := by simp only [decide_eq_true_eq]; exact hin
                obtain ⟨M, hM⟩ : ∃ M : Nat, (m : Int) + vn = M := ⟨m + vn, by omega⟩; have hno : ¬ old < 0 := by omega
                obtain ⟨hin1, hin2⟩ := hin; by_cases hmany : size < (M : Int)
                · go_wp2_with fail
                  refine (zaH vn 1 64 _).mono ?_; rintro e w' ⟨rfl, rfl⟩; rw [din]; go_wp2_with fail; go_ret; exact ⟨zao (HF.out 1 (DeltaM.chk_many HNF.out HNR.out (by rw [HSZ.out]; omega))), hB1⟩
                · go_wp2_with fail
                  refine (zaH vn 1 64 _).mono ?_; rintro e w' ⟨rfl, rfl⟩; rw [din]; go_wp2_with fail; go_roundw
                  case rel => exact HON.out HNF.out HNR.out M (by omega) (by omega)
                  case measure => simp [intOf]; omega
              · have HBF : Hid (DeltaM.badForm ⟨0, 0, D⟩) := by show DeltaM.badForm _; exact .inl ⟨rfl, .inr (by simp only; rw [HV.out]; exact hin)⟩
                have din : decide (1 ≤ (vn : Int) ∧ (vn : Int) ≤ 64) = false := by simp only [decide_eq_false_iff_not]; exact hin
                clear hin; go_wp2_with fail; refine (zaH vn 1 64 _).mono ?_; rintro e w' ⟨rfl, rfl⟩; rw [din]; go_wp2_with fail; go_ret; exact ⟨zao (HF.out 3 (DeltaM.chk_form HBF.out)), hB1⟩
            · have HBF : Hid (DeltaM.badForm ⟨A, 0, D⟩) := by show DeltaM.badForm _; exact .inl ⟨rfl, .inl hA⟩
              have hAb : (A != 0) = true := by simp [hA]
              go_wp2_with fail; go_ret; exact ⟨zao (HF.out 3 (DeltaM.chk_form HBF.out)), hB1⟩
          · have hLb : (L == 0) = false := by simp [hL]
            have hLn : (L != 0) = true := by simp [hL]
            by_cases hv : vn = 0
            · subst hv
              have HNF : Hid (¬ DeltaM.badForm ⟨A, L, D⟩) := by show ¬ _; unfold DeltaM.badForm; simp only; rw [HV.out]; omega
              by_cases hr1 : L < 0
              · have HBR : Hid (DeltaM.bdR old ⟨A, L, D⟩) := by show DeltaM.bdR _ _; unfold DeltaM.bdR; simp only; omega
                go_wp2_with fail; go_ret; exact ⟨zao (HF.out 2 (DeltaM.chk_range HNF.out HBR.out)), hB1⟩
              · by_cases hr2 : A < 0
                · have HBR : Hid (DeltaM.bdR old ⟨A, L, D⟩) := by show DeltaM.bdR _ _; unfold DeltaM.bdR; simp only; omega
                  go_wp2_with fail; go_ret; exact ⟨zao (HF.out 2 (DeltaM.chk_range HNF.out HBR.out)), hB1⟩
                · by_cases hr3 : 64 < L
                  · have HBR : Hid (DeltaM.bdR old ⟨A, L, D⟩) := by show DeltaM.bdR _ _; unfold DeltaM.bdR; simp only; omega
                    go_wp2_with fail; go_ret; exact ⟨zao (HF.out 2 (DeltaM.chk_range HNF.out HBR.out)), hB1⟩
                  · by_cases hr4 : 64 < A
                    · have HBR : Hid (DeltaM.bdR old ⟨A, L, D⟩) := by show DeltaM.bdR _ _; unfold DeltaM.bdR; simp only; omega
                      go_wp2_with fail; go_ret; exact ⟨zao (HF.out 2 (DeltaM.chk_range HNF.out HBR.out)), hB1⟩
                    · obtain ⟨S, hS⟩ : ∃ S : Int, A + L = S := ⟨_, rfl⟩
                      by_cases hr5 : old < S
                      · have HBR : Hid (DeltaM.bdR old ⟨A, L, D⟩) := by show DeltaM.bdR _ _; unfold DeltaM.bdR; simp only; omega
                        go_wp2_with fail; go_ret; exact ⟨zao (HF.out 2 (DeltaM.chk_range HNF.out HBR.out)), hB1⟩
                      · have HNR : Hid (¬ DeltaM.bdR old ⟨A, L, D⟩) := by show ¬ _; unfold DeltaM.bdR; simp only; omega
                        obtain ⟨M, hM⟩ : ∃ M : Nat, (m : Int) + L = M := ⟨m + L.toNat, by omega⟩; by_cases hmany : size < (M : Int)
                        · go_wp2_with fail
                          go_ret; exact ⟨zao (HF.out 1 (DeltaM.chk_many HNF.out HNR.out (by rw [HSZ.out]; omega))), hB1⟩
                        · go_wp2_with fail
                          go_roundw
                          case rel => exact HON.out HNF.out HNR.out M (by omega) (by omega)
                          case measure => simp [intOf]; omega
            · have HBF : Hid (DeltaM.badForm ⟨A, L, D⟩) := by show DeltaM.badForm _; unfold DeltaM.badForm; simp only; rw [HV.out]; omega
              have hvb : ((vn : Int) != 0) = true := by simp; omega
              go_wp2_with fail; go_ret; exact ⟨zao (HF.out 3 (DeltaM.chk_form HBF.out)), hB1⟩
        · have hkl : l.drop k = [] := List.drop_eq_nil_of_le (by rw [HLn.out]; omega)
          have HE := LH hkl; clear hkl; by_cases hf : (m : Int) < size
          · go_wp2_with fail
            go_ret; exact ⟨zao (by rw [← HC.out, HE.out]; simp [DeltaM.chk, hf]), hB⟩
          · go_wp2_with fail
            go_ret; exact ⟨zao (by rw [← HC.out, HE.out]; simp [DeltaM.chk, hf]), hB⟩
     · have he : DeltaM.check l old size = 1 := by unfold DeltaM.check; rw [if_pos (.inr (.inr hsz))]
       rw [he]; have d1 : decide (0 ≤ old ∧ old ≤ 64) = true := by simp only [decide_eq_true_eq]; exact hold
       have d2 : decide (0 ≤ size ∧ size ≤ 64) = false := by simp only [decide_eq_false_iff_not]; exact hsz
       clear hl he hold hsz; go_enter Tryz.func173, Tryz.ntmps173; go_wp2_with fail; refine (zaH old 0 64 _).mono ?_; rintro e w' ⟨rfl, rfl⟩; rw [d1]; go_wp2_with fail; refine (zaH size 0 64 _).mono ?_; rintro e w' ⟨rfl, rfl⟩; rw [d2]; go_wp2_with fail; go_ret; exact ⟨rfl, Below.refl _ _⟩
   · have he : DeltaM.check l old size = 1 := by unfold DeltaM.check; rw [if_pos (.inr (.inl hold))]
     rw [he]; have d1 : decide (0 ≤ old ∧ old ≤ 64) = false := by simp only [decide_eq_false_iff_not]; exact hold
     clear hl he hold; go_enter Tryz.func173, Tryz.ntmps173; go_wp2_with fail; refine (zaH old 0 64 _).mono ?_; rintro e w' ⟨rfl, rfl⟩; rw [d1]; go_wp2_with fail; go_ret; exact ⟨rfl, Below.refl _ _⟩
theorem BS.string {w : World} {a : Option Addr} {n c : Nat} {l : List Int} (h : BS w a n c l) : (convert 22 9 (.slice a n c)).run Tryz.prog w = .ok (.string (strOfNums l)) w := by
 rcases Nat.eq_zero_or_pos n with hn | hn
 · subst hn
   obtain rfl : l = [] := List.eq_nil_of_length_eq_zero h.len; exact run_convert_bytes_zero w 22 5 U22 U5 a c 9 U9
 · obtain ⟨b, o, rfl, hc⟩ := h.cells hn
   exact run_convert_bytes_arg (P := Tryz.prog) w 22 5 U22 U5 b o n c l h.len (fun i hi => by simpa using hc i (by have := h.len; omega)) 9 U9
end Go.Proofs.YtnnmpoknghbdnacGreat
namespace Go.Proofs
open Go.Shelf
shelf_lay Lays.nb115 Nm 115 at Tryz as Tryz.laysEq
end Go.Proofs
namespace Go.Proofs.YtnnmpoknghbdnacGreat
open Go.RowKit
theorem bytesOf_inj {x y : List Int} (hx : ∀ v ∈ x, 0 ≤ v ∧ v ≤ 255) (hy : ∀ v ∈ y, 0 ≤ v ∧ v ≤ 255) (h : Lib.bytesOf x = Lib.bytesOf y) : x = y := by
 have h1 := (MatchM.bytesOf_prefix x y hx hy).1 (by rw [h]; exact List.prefix_rfl); have h2 := congrArg List.length h; rw [MatchM.bytesOf_length, MatchM.bytesOf_length] at h2; exact h1.eq_of_length h2
theorem ren_equal : Tryz.laysEq_ren.f 115 = 31 := rfl
theorem BS.bytesIn {w : World} {a : Option Addr} {n c : Nat} {l : List Int} (h : BS w a n c l) : Lib.BytesIn w a n l := by
 cases a with
 | none =>
   have h1 := h.none_ rfl; have h2 := h.le; obtain rfl : n = 0 := by omega
   exact Lib.BytesIn.nil w _ _
 | some x => exact Lib.BytesIn.of_cells h.cellsAt
theorem eqB (a a' : Option Addr) (n c n' c' : Nat) (x y : List Int) (w : World) (h1 : BS w a n c x) (h2 : BS w a' n' c' y) :
 Calls Tryz.prog 31 #[.slice a n c, .slice a' n' c'] w fun e w' => e = .returned (.bool (decide (x = y))) ∧ w = w' := by
 rw [← ren_equal]; refine (Any.bytes_Equal_all { Tryz.laysEq with } a a' n c n' c' x y w h1.len h2.len h1.bytesIn h2.bytesIn).mono ?_; rintro e w' ⟨rfl, rfl⟩; refine ⟨?_, rfl⟩; by_cases hxy : x = y
 · subst hxy
   simp
 · have : (Lib.bytesOf x == Lib.bytesOf y) = false := by
    rw [beq_eq_false_iff_ne]; exact fun h => hxy (bytesOf_inj h1.bytes h2.bytes h)
   rw [this, decide_eq_false hxy]
theorem sameOps_any (a a' : Option Addr) (n c n' c' : Nat) (x y : List OpR) (w : World) (hx : OS w a n c x) (hy : OS w a' n' c' y) :
 Calls Tryz.prog 121 #[.slice a n c, .slice a' n' c'] w fun e w' => e = .returned (.bool (decide (x = y))) ∧ Below w.heap.size w w' := by
 have hlen : n ≤ 9223372036854775807 := by have := hx.le; have := hx.max; omega
 have hlen' : n' ≤ 9223372036854775807 := by have := hy.le; have := hy.max; omega
 have HX := LH hx; have HY := LH hy; have HLX := LH hx.len; have HLY := LH hy.len; clear hx hy; by_cases hnn : n = n'
 · subst hnn
   have hb : ((n : Int) != n) = false := by simp
   go_enter Tryz.func121, Tryz.ntmps121; go_wp2_with fail; go_loopw [14] (fun i wr => SameRel x y w i wr) (fun i _ => n - (intOf i).toNat)
   case atStart => exact ⟨0, rfl, Nat.zero_le _, rfl, Below.refl _ _⟩
   case round =>
    obtain ⟨k, rfl, hk, ht, hB⟩ := hrel; rw [HLX.out] at hk; have HT := LH ht; clear ht; by_cases hlt : k < n
    · obtain ⟨b, off, rfl, hcs⟩ := (HX.out.later hB).cells (by omega)
      obtain ⟨b', off', rfl, hcs'⟩ := (HY.out.later hB).cells (by omega); obtain ⟨va, vn, vc, q0, q1, q2, q3, -, -⟩ := hcs k hlt; have hB1 := hB.alloc hB.size (.cells #[.int .i64 (x.getD k default).at_, .int .i64 (x.getD k default).len, .slice va vn vc] 159); have hbx : Below wr.heap.size wr (wr.alloc (.cells #[.int .i64 (x.getD k default).at_, .int .i64 (x.getD k default).len, .slice va vn vc] 159)) := (Below.refl _ _).alloc (Nat.le_refl _) _; obtain ⟨va', vn', vc', p0, p1, p2, p3, -, -⟩ := (hcs' k hlt).keep (fun _ _ hc => cell_later hbx hc); replace q3 := q3.later hbx; have HN := LH (fun h => ne_of_at (x := x) (y := y) (k := k) h)
      have HM : Hid (x.getD k default = y.getD k default → x.take (k + 1) = y.take (k + 1)) := by
       show _ → _; exact take_more HT.out (by rw [HLX.out]; exact hlt) (by rw [HLY.out]; exact hlt)
      clear hcs hcs' hbx; generalize x.getD k default = o at *; generalize y.getD k default = o' at *; obtain ⟨A, L, D⟩ := o; obtain ⟨A', L', D'⟩ := o'; simp only at q0 q1 q2 q3 p0 p1 p2 p3 hB1; by_cases hA : A = A'
      · subst hA
        by_cases hL : L = L'
        · subst hL
          have heq := eqB va va' vn vc vn' vc' D D'; have HEQ := LH heq; have HQ := LH q3; have HP := LH p3; clear heq q3 p3; have ba : (A != A) = false := by simp
          have bl : (L != L) = false := by simp
          by_cases hD : D = D'
          · have dd : decide (D = D') = true := by rw [decide_eq_true_eq]; exact hD
            rw [dd] at HEQ; go_wp2; go_quiet (exact zba (HEQ.out _ (HQ.out.drewN _) (HP.out.drewN _))); go_wp2; go_roundw
            case rel => exact ⟨k + 1, by go_num, by rw [HLX.out]; omega, HM.out (by rw [hD]), below_drewN hB1 _⟩
            case measure => simp [intOf]; omega
          · have dd : decide (D = D') = false := by rw [decide_eq_false_iff_not]; exact hD
            rw [dd] at HEQ; go_wp2; go_quiet (exact zba (HEQ.out _ (HQ.out.drewN _) (HP.out.drewN _))); go_wp2; go_ret; exact ⟨zaB (HN.out (by simp [hD])).symm, below_drewN hB1 _⟩
        · have ba : (A != A) = false := by simp
          have bl : (L != L') = true := by simp [hL]
          go_wp2; go_quiet (fail); go_wp2; go_ret; exact ⟨zaB (HN.out (by simp [hL])).symm, below_drewN hB1 _⟩
      · have ba : (A != A') = true := by simp [hA]
        go_wp2; go_quiet (fail); go_wp2; go_ret; exact ⟨zaB (HN.out (by simp [hA])).symm, below_drewN hB1 _⟩
    · have hkn : k = n := by omega
      go_wp2; go_ret; have e1 : x.take k = x := List.take_of_length_le (by rw [HLX.out]; omega); have e2 : y.take k = y := List.take_of_length_le (by rw [HLY.out]; omega); have e3 := HT.out; rw [e1, e2] at e3; exact ⟨zaB (by rw [e3]; simp), hB⟩
 · have he : decide (x = y) = false := by
    rw [decide_eq_false]; rintro rfl; exact hnn (HLX.out.symm.trans HLY.out)
   have hb : ((n : Int) != n') = true := by simp; omega
   rw [he]; go_enter Tryz.func121, Tryz.ntmps121; go_wp2_with fail; go_ret; exact ⟨rfl, Below.refl _ _⟩
theorem zbI (v : Value) (p : PatR) (w : World) (hp : PV w v p) :
 Calls Tryz.prog 123 #[v] w fun e w' => e = .returned (.int .i64 (PatM.check p)) ∧ Below w.heap.size w w' := by
 obtain ⟨a, n, c, rfl, ho, -⟩ := hp; obtain ⟨f, t, o, nw, s, ops⟩ := p; simp only at ho ⊢; have hb : Below w.heap.size w (w.alloc (.cells #[.int .i64 f, .int .i64 t, .int .i64 o, .int .i64 nw, .int .i64 s, .slice a n c] 35)) := (Below.refl _ _).alloc (Nat.le_refl _) _; by_cases h1 : 1 ≤ f ∧ f ≤ 30
 · have d1 : decide (1 ≤ f ∧ f ≤ 30) = true := decide_eq_true h1
   by_cases h2 : 1 ≤ t ∧ t ≤ 30
   · have d2 : decide (1 ≤ t ∧ t ≤ 30) = true := decide_eq_true h2
     by_cases h3 : 0 ≤ o ∧ o ≤ 65535
     · have d3 : decide (0 ≤ o ∧ o ≤ 65535) = true := decide_eq_true h3
       by_cases h4 : 0 ≤ nw ∧ nw ≤ 65535
       · have d4 : decide (0 ≤ nw ∧ nw ≤ 65535) = true := decide_eq_true h4
         have HE : Hid (PatM.check ⟨f, t, o, nw, s, ops⟩ = DeltaM.check ops 64 s) := by
          show _ = _; unfold PatM.check; rw [if_neg (by unfold PatM.badHead; simp only; omega)]
         have HO := LH (ho.later hb); have HB := LH hb; clear h1 h2 h3 h4 ho hb; go_enter Tryz.func123, Tryz.ntmps123; go_wp2_with fail; refine (zaH f 1 30 _).mono ?_; rintro e w' ⟨rfl, rfl⟩; rw [d1]; go_wp2_with fail; refine (zaH t 1 30 _).mono ?_; rintro e w' ⟨rfl, rfl⟩; rw [d2]; go_wp2_with fail; refine (zaH o 0 65535 _).mono ?_; rintro e w' ⟨rfl, rfl⟩; rw [d3]; go_wp2_with fail; refine (zaH nw 0 65535 _).mono ?_; rintro e w' ⟨rfl, rfl⟩; rw [d4]; go_wp2_with fail; refine (checkOps_any a n c ops 64 s _ HO.out).mono ?_; rintro e w' ⟨rfl, hb2⟩; have hb3 := bTh HB.out hb2; go_wp2_with fail; go_ret; exact ⟨zao HE.out.symm, hb3⟩
       · have d4 : decide (0 ≤ nw ∧ nw ≤ 65535) = false := decide_eq_false h4
         have HE : Hid (PatM.check ⟨f, t, o, nw, s, ops⟩ = 2) := by
          show _ = _; unfold PatM.check; rw [if_pos (by unfold PatM.badHead; simp only; omega)]
         clear h1 h2 h3 h4 ho; go_enter Tryz.func123, Tryz.ntmps123; go_wp2_with fail; refine (zaH f 1 30 _).mono ?_; rintro e w' ⟨rfl, rfl⟩; rw [d1]; go_wp2_with fail; refine (zaH t 1 30 _).mono ?_; rintro e w' ⟨rfl, rfl⟩; rw [d2]; go_wp2_with fail; refine (zaH o 0 65535 _).mono ?_; rintro e w' ⟨rfl, rfl⟩; rw [d3]; go_wp2_with fail; refine (zaH nw 0 65535 _).mono ?_; rintro e w' ⟨rfl, rfl⟩; rw [d4]; go_wp2_with fail; go_ret; exact ⟨zao HE.out.symm, hb⟩
     · have d3 : decide (0 ≤ o ∧ o ≤ 65535) = false := decide_eq_false h3
       have HE : Hid (PatM.check ⟨f, t, o, nw, s, ops⟩ = 2) := by
        show _ = _; unfold PatM.check; rw [if_pos (by unfold PatM.badHead; simp only; omega)]
       clear h1 h2 h3 ho; go_enter Tryz.func123, Tryz.ntmps123; go_wp2_with fail; refine (zaH f 1 30 _).mono ?_; rintro e w' ⟨rfl, rfl⟩; rw [d1]; go_wp2_with fail; refine (zaH t 1 30 _).mono ?_; rintro e w' ⟨rfl, rfl⟩; rw [d2]; go_wp2_with fail; refine (zaH o 0 65535 _).mono ?_; rintro e w' ⟨rfl, rfl⟩; rw [d3]; go_wp2_with fail; go_ret; exact ⟨zao HE.out.symm, hb⟩
   · have d2 : decide (1 ≤ t ∧ t ≤ 30) = false := decide_eq_false h2
     have HE : Hid (PatM.check ⟨f, t, o, nw, s, ops⟩ = 2) := by
      show _ = _; unfold PatM.check; rw [if_pos (by unfold PatM.badHead; simp only; omega)]
     clear h1 h2 ho; go_enter Tryz.func123, Tryz.ntmps123; go_wp2_with fail; refine (zaH f 1 30 _).mono ?_; rintro e w' ⟨rfl, rfl⟩; rw [d1]; go_wp2_with fail; refine (zaH t 1 30 _).mono ?_; rintro e w' ⟨rfl, rfl⟩; rw [d2]; go_wp2_with fail; go_ret; exact ⟨zao HE.out.symm, hb⟩
 · have d1 : decide (1 ≤ f ∧ f ≤ 30) = false := decide_eq_false h1
   have HE : Hid (PatM.check ⟨f, t, o, nw, s, ops⟩ = 2) := by
    show _ = _; unfold PatM.check; rw [if_pos (by unfold PatM.badHead; simp only; omega)]
   clear h1 ho; go_enter Tryz.func123, Tryz.ntmps123; go_wp2_with fail; refine (zaH f 1 30 _).mono ?_; rintro e w' ⟨rfl, rfl⟩; rw [d1]; go_wp2_with fail; go_ret; exact ⟨zao HE.out.symm, hb⟩
theorem ret_dec {a b : PatR} (h : a ≠ b) : Ending.returned (.bool false) = .returned (.bool (decide (a = b))) := by rw [decide_eq_false h]
theorem samePat_any (v v' : Value) (p q : PatR) (w : World) (hp : PV w v p) (hq : PV w v' q) :
 Calls Tryz.prog 59 #[v, v'] w fun e w' => e = .returned (.bool (decide (p = q))) ∧ Below w.heap.size w w' := by
 obtain ⟨a, n, c, rfl, ho, -⟩ := hp; obtain ⟨a', n', c', rfl, ho', -⟩ := hq; obtain ⟨f, t, o, nw, s, ops⟩ := p; obtain ⟨f', t', o', nw', s', ops'⟩ := q; simp only at ho ho' ⊢; have hb1 : Below w.heap.size w (w.alloc (.cells #[.int .i64 f, .int .i64 t, .int .i64 o, .int .i64 nw, .int .i64 s, .slice a n c] 35)) := (Below.refl _ _).alloc (Nat.le_refl _) _; have hb := hb1.alloc hb1.size (.cells #[.int .i64 f', .int .i64 t', .int .i64 o', .int .i64 nw', .int .i64 s', .slice a' n' c'] 35); have HO := LH (ho.later hb); have HO' := LH (ho'.later hb); clear ho ho' hb1; by_cases h1 : f = f'
 · subst h1
   have b1 : (f == f) = true := by simp
   by_cases h2 : t = t'
   · subst h2
     have b2 : (t == t) = true := by simp
     by_cases h3 : o = o'
     · subst h3
       have b3 : (o == o) = true := by simp
       by_cases h4 : nw = nw'
       · subst h4
         have b4 : (nw == nw) = true := by simp
         by_cases h5 : s = s'
         · subst h5
           have b5 : (s == s) = true := by simp
           have HB := LH hb; clear hb; rw [show decide ((⟨f, t, o, nw, s, ops⟩ : PatR) = ⟨f, t, o, nw, s, ops'⟩) = decide (ops = ops') by simp]; go_enter Tryz.func59, Tryz.ntmps59; go_wp2_with fail; refine (sameOps_any a a' n c n' c' ops ops' _ HO.out HO'.out).mono ?_; rintro e w' ⟨rfl, hb2⟩; have hb3 := bTh HB.out hb2; go_wp2_with fail; go_ret; exact ⟨by simp, hb3⟩
         · have b5 : (s == s') = false := by simp [h5]
           go_enter Tryz.func59, Tryz.ntmps59; go_wp2_with fail; go_ret; exact ⟨ret_dec (by simp [h5]), hb⟩
       · have b4 : (nw == nw') = false := by simp [h4]
         go_enter Tryz.func59, Tryz.ntmps59; go_wp2_with fail; go_ret; exact ⟨ret_dec (by simp [h4]), hb⟩
     · have b3 : (o == o') = false := by simp [h3]
       go_enter Tryz.func59, Tryz.ntmps59; go_wp2_with fail; go_ret; exact ⟨ret_dec (by simp [h3]), hb⟩
   · have b2 : (t == t') = false := by simp [h2]
     go_enter Tryz.func59, Tryz.ntmps59; go_wp2_with fail; go_ret; exact ⟨ret_dec (by simp [h2]), hb⟩
 · have b1 : (f == f') = false := by simp [h1]
   go_enter Tryz.func59, Tryz.ntmps59; go_wp2_with fail; go_ret; exact ⟨ret_dec (by simp [h1]), hb⟩
end Go.Proofs.YtnnmpoknghbdnacGreat
namespace Go.Proofs.YtnnmpoknghbdnacGreat
open Go.RowKit
open SumM
theorem drop_cons (l : List Int) (k : Nat) (h : k < l.length) : l.drop k = l[k]?.getD 0 :: l.drop (k + 1) := by
 rw [List.drop_eq_getElem_cons h]; simp [List.getElem?_eq_getElem h]
theorem sumOn_any (s : Int) (a : Option Addr) (n c : Nat) (l : List Int) (w : World) (hs0 : 0 ≤ s) (hs1 : s ≤ 65520) (hr : BS w a n c l) :
 Calls Tryz.prog 134 #[.int .i64 s, .slice a n c] w fun e w' => e = .returned (.int .i64 (addL s l)) ∧ w = w' := by
 have hlen : n ≤ 9223372036854775807 := by have := hr.le; have := hr.max; omega
 have hl := LH hr.len; have hbyte := hr.byte; have hcells := hr.cells; have hpw := LH (addL_pw l s hs0 hs1); clear hr; go_enter Tryz.func134, Tryz.ntmps134; go_wp2; go_loop [5, 6, 7] (fun p m i => ∃ k : Nat, k ≤ n ∧ i = .int .i64 (k - 1) ∧ p = .int .i64 (pw (l.drop k)) ∧ m = .int .i64 (nn (l.drop k))) (fun _ _ i => (intOf i + 1).toNat)
 case atStart => exact ⟨n, Nat.le_refl _, rfl, by rw [← hl.out]; simp [pw], by rw [← hl.out]; simp [nn]⟩
 case round =>
  obtain ⟨k, hk, rfl, rfl, rfl⟩ := hrel; have hb1 := pw_bd (l.drop k); have hb2 := nn_bd (l.drop k)
  cases k with
  | succ k =>
    obtain ⟨b, off, rfl, hc⟩ := hcells (by omega); have hck := hc k (by omega); have hby := hbyte k; have hsn := LH (drop_cons l k (by rw [hl.out]; omega)); have hm1 : 0 ≤ l[k]?.getD 0 * pw (l.drop (k + 1)) := Int.mul_nonneg hby.1 hb1.1; have hm2 : l[k]?.getD 0 * pw (l.drop (k + 1)) ≤ 255 * 65520 := Int.mul_le_mul hby.2 hb1.2 hb1.1 (by omega); clear hc hbyte hcells; go_wp2; go_round
    case rel => exact ⟨k, by omega, by go_num, by rw [hsn.out]; rfl, by rw [hsn.out]; rfl⟩
    case measure => simp [intOf]
  | zero =>
    rw [List.drop_zero] at hb1 hb2; have hm1 : 0 ≤ s * pw l := Int.mul_nonneg hs0 hb1.1; have hm2 : s * pw l ≤ 65520 * 65520 := Int.mul_le_mul hs1 hb1.2 hb1.1 (by omega); clear hbyte hcells; go_wp2; go_ret; exact ⟨ret_int (by rw [hpw.out]), rfl⟩
theorem sumOf_any (a : Option Addr) (n c : Nat) (l : List Int) (w : World) (hr : BS w a n c l) :
 Calls Tryz.prog 73 #[.slice a n c] w fun e w' => e = .returned (.int .i64 (addL 1 l)) ∧ w = w' := by
 go_enter Tryz.func73, Tryz.ntmps73; go_wp2_with (go_at_call 134; refine (sumOn_any 1 a n c l _ (by omega) (by omega) hr).mono ?_; rintro e w' ⟨rfl, rfl⟩); go_ret; exact ⟨rfl, rfl⟩
end Go.Proofs.YtnnmpoknghbdnacGreat
namespace Go.Proofs
open Go.Shelf
shelf_lay LaysM.n185 Nm 185 at Tryz as Tryz.laysM185
end Go.Proofs
namespace Go.Proofs.YtnnmpoknghbdnacGreat
open Go.RowKit Go.Shelf
def MaxCell (w : World) : Prop := ∃ m, w.cell? ⟨Tryz.laysM185_ren.g 1, 0, none⟩ = some (.int .i64 m)
theorem MaxCell.of_shaped {w : World} (h : w.ShapedOpen Tryz.prog) : MaxCell w := Tryz.laysM185.s1_3 w h
theorem MaxCell.later {w w' : World} (h : MaxCell w) (hb : Below w.heap.size w w') : MaxCell w' := by
 obtain ⟨m, hm⟩ := h; exact ⟨m, cell_later hb hm⟩
theorem ren_index : Tryz.laysM185_ren.f 185 = 207 := rfl
theorem index_any (a a' : Option Addr) (n c n' c' : Nat) (x y : List Int) (w : World) (hx : BS w a n c x) (hy : BS w a' n' c' y) (hn : n ≤ 64) (hm : MaxCell w) :
 Calls Tryz.prog 207 #[.slice a n c, .slice a' n' c'] w fun e w' => e = .returned (.int .i64 (Lib.index (Lib.bytesOf x) (Lib.bytesOf y))) ∧ zbD w w' := by
 rw [← ren_index]; obtain ⟨m, hm⟩ := hm; have hk : n' ≤ 9223372036854775807 := by have := hy.le; have := hy.max; omega
 rcases Nat.eq_zero_or_pos n' with h0 | h0
 · subst h0
   obtain rfl : y = [] := List.eq_nil_of_length_eq_zero hy.len; refine (Any.bytes_Index_none { Tryz.laysM185 with } a a' n c c' w).mono ?_; rintro e w' ⟨rfl, rfl⟩; exact ⟨by rw [show Lib.index (Lib.bytesOf x) (Lib.bytesOf []) = 0 from Lib.index_empty _], 0, rfl⟩
 · obtain ⟨b2, o2, rfl, hc2⟩ := hy.cells h0
   cases a with
   | none =>
     have hc := hx.none_ rfl; have hle := hx.le; obtain rfl : c = 0 := hc; obtain rfl : n = 0 := by omega
     obtain rfl : x = [] := List.eq_nil_of_length_eq_zero hx.len; refine (Any.bytes_Index_nil { Tryz.laysM185 with } (some ⟨b2, o2, none⟩) n' c' w hk (fun _ => ⟨b2, o2, _, rfl, by simpa using hc2 0 h0⟩)).mono ?_; rintro e w' ⟨rfl, rfl⟩; refine ⟨?_, 0, rfl⟩; rw [if_neg (by omega)]
     cases y with
     | nil => have := hy.len; simp at this; omega
     | cons v t => rfl
   | some a1 =>
     exact Any.bytes_Index_at { Tryz.laysM185 with } a1 _ n c n' c' x y m w hx.len hy.len hx.lt256 hy.lt256 hx.cellsAt hy.cellsAt hx.le (by omega) hk hm
end Go.Proofs.YtnnmpoknghbdnacGreat
namespace Go.Proofs.YtnnmpoknghbdnacGreat
open Go.RowKit
def GivesL (old s : List Int) (w : World) (e : Ending) (w' : World) : Prop :=
 ∃ i n : Nat, MatchM.Best old s i n ∧ e = .returned (.tuple #[.int .i64 i, .int .i64 n]) ∧ zbD w w'
def DownRel (old s : List Int) (w : World) (n : Value) (wr : World) : Prop :=
 ∃ m : Nat, n = .int .i64 m ∧ m ≤ 64 ∧ m ≤ s.length ∧ (∀ j, MatchM.ag (old.drop j) s ≤ m) ∧ zbD w wr
theorem zbD.trans {w w1 w2 : World} (h : zbD w w1) (h2 : zbD w1 w2) : zbD w w2 := by
 obtain ⟨a, rfl⟩ := h; obtain ⟨b, rfl⟩ := h2; exact zbD.more _ _ _
theorem longestOf_any (a a' : Option Addr) (n c n' c' : Nat) (x y : List Int) (at_ : Nat) (w : World) (hx : BS w a n c x) (hy : BS w a' n' c' y) (hn : n ≤ 64) (hn' : n' ≤ 64) (hat : at_ ≤ n') (hM : MaxCell w) :
 Calls Tryz.prog 175 #[.slice a n c, .slice a' n' c', .int .i64 at_] w (GivesL x (y.drop at_) w) := by
 have HX := LH hx; have HY := LH hy; have HM := LH hM; have hle' := hy.le; obtain ⟨T, hT⟩ : ∃ T : Nat, (n' : Int) - at_ = T := ⟨n' - at_, by omega⟩; have HS : Hid ((y.drop at_).length = T) := by show (y.drop at_).length = T; rw [List.length_drop, hy.len]; omega
 obtain ⟨M, hMM⟩ : ∃ M : Nat, min (n : Int) T = M := ⟨min n T, by omega⟩
 have HTop : Hid (∀ j, MatchM.ag (x.drop j) (y.drop at_) ≤ M) := by
  show ∀ j, _; intro j; have := MatchM.all_top x (y.drop at_) j; rw [HS.out, hx.len] at this; omega
 have hM1 : M ≤ 64 := by omega
 have hM2 : M ≤ T := by omega
 clear hx hy hM; go_enter Tryz.func175, Tryz.ntmps175; go_wp2; go_loopw [8] (fun i wr => DownRel x (y.drop at_) w i wr) (fun i _ => (intOf i).toNat)
 case atStart => exact ⟨M, rfl, hM1, by rw [HS.out]; exact hM2, HTop.out, 0, rfl⟩
 case round =>
  clear HTop hM1 hM2 hMM; obtain ⟨m, rfl, hm, hms, hall, hd⟩ := hrel; rw [HS.out] at hms; have HA := LH hall; have HD := LH hd; have HX1 := LH (HX.out.later hd.below); have HY1 := LH (HY.out.later hd.below); have HM1 := LH (HM.out.later hd.below); clear hall hd; by_cases hpos : 0 < m
  · obtain ⟨K, hK⟩ : ∃ K : Nat, (at_ : Int) + m = K := ⟨at_ + m, by omega⟩
    have hcut : ∀ W, (Instr.slice 22 (.slice a' n' c') (some (.int .i64 at_)) (some (.int .i64 K)) none).run Tryz.prog W = .ok (.slice (cutA a' c' at_) (K - at_) (c' - at_)) W := fun W => za6 a' n' c' W at_ K (by omega) (by omega); have hmid := HY1.out.mid at_ K (by omega) (by omega); have hKm : K - at_ = m := by omega
    rw [hKm] at hmid; simp only [hKm] at hcut; have hidx := index_any a (cutA a' c' at_) n c m (c' - at_) x ((y.drop at_).take m) wr HX1.out hmid hn HM1.out; have hb1 := HX.out.bytes; have hb2 : ∀ v ∈ y.drop at_, 0 ≤ v ∧ v ≤ 255 := fun v hv => HY.out.bytes v (List.mem_of_mem_drop hv); have hdown := fun (k : Nat) (hk : k + 1 = m) => MatchM.all_down (n := k) hb1 hb2 (by rw [HS.out]; omega); have hbest := fun (i : Nat) => MatchM.Best.of_index (i := i) (n := m) hb1 hb2 (by rw [HS.out]; exact hms) HA.out; have hge := Lib.index_ge (Lib.bytesOf x) (Lib.bytesOf ((y.drop at_).take m))
    have HDN : Hid (∀ k, k + 1 = m → Lib.index (Lib.bytesOf x) (Lib.bytesOf ((y.drop at_).take m)) = -1 → ∀ j, MatchM.ag (x.drop j) (y.drop at_) ≤ k) := by
     show ∀ k, _; intro k hk h; exact hdown k hk (by rw [hk]; exact h)
    have HBE := LH hbest; have HID := LH hidx; clear hdown hbest hb1 hb2 hmid hidx; generalize Lib.index (Lib.bytesOf x) (Lib.bytesOf ((y.drop at_).take m)) = V at hge HDN HBE HID; generalize cutA a' c' at_ = A' at hcut HID; go_wp2_with fail; refine HID.out.mono ?_; rintro e W ⟨rfl, hd2⟩; have HD2 := LH (HD.out.trans hd2); clear hd2 HID
    rcases (show V = -1 ∨ ∃ i : Nat, V = i from by
     rcases Int.lt_or_le V 0 with h | h
     · exact .inl (by omega)
     · exact .inr ⟨V.toNat, by omega⟩) with rfl | ⟨i, rfl⟩
    · go_wp2
      go_roundw
      case rel => exact ⟨m - 1, by go_num, by omega, by rw [HS.out]; omega, HDN.out (m - 1) (by omega) (by trivial), HD2.out⟩
      case measure => simp [intOf]; omega
    · go_wp2
      go_ret2; exact ⟨i, m, HBE.out i rfl, rfl, HD2.out⟩
  · have hm0 : m = 0 := by omega
    subst hm0; go_wp2; go_ret2; exact ⟨0, 0, MatchM.Best.of_zero HA.out, rfl, HD.out⟩
theorem step_append_run {P : Program} {ops : Array Oper} {o : Oper} {a : Act} {w : World} {K : Act → World → Prop} {Q : Exit → Act → World → Prop} {E : Prop} (hgd : o.guard = none) (s x : Operand) (t tn : TypeId)
 (ho : o.op = .call { callee := .builtin .append, args := #[s, x], argTypes := #[t, tn] }) (vs vx : Value) (hs : a.eval s = vs) (hx : a.eval x = vx)
 (v' : Value) (w' : World) (hr : (Builtin.append_ #[t, tn] o.type #[vs, vx]).run P w = .ok v' w') (h : K (a.put o.dst v') w') :
 if Region.wanted o (yielded ops a.tmps) = true then Oper.wp P o a w K Q else E := by
 have hw : Region.wanted o (yielded ops a.tmps) = true := by simp [Region.wanted, hgd]
 rw [if_pos hw]; exact Lib.wp_append_run w s x t tn ho vs vx hs hx v' w' hr h
def FlushD (w0 : World) (B0 B1 : Nat) (out : List OpR) (pl : List Int) (e : Ending) (W' : World) : Prop :=
 e = .returned (.tuple #[]) ∧ ∃ vo', DSt w0 B0 B1 vo' (.slice none 0 0) (out ++ DeltaM.flushL pl) [] W'
theorem flushD_any {w0 : World} {B0 B1 : Nat} {vo vp : Value} {out : List OpR} {pl : List Int} {W : World} (h : DSt w0 B0 B1 vo vp out pl W) (hb : ∀ x ∈ pl, 0 ≤ x ∧ x ≤ 255) (hk : out.length ≤ 1000) (hpl : pl.length ≤ 1000) :
 Calls Tryz.prog 174 #[.pointer (some ⟨B1, 0, none⟩), .pointer (some ⟨B0, 0, none⟩)] W (FlushD w0 B0 B1 out pl) := by
 obtain ⟨a, c, rfl⟩ : ∃ a c, vp = .slice a pl.length c := by
  rcases h.p.2 with ⟨q1, q2⟩ | ⟨g, cap, cur, q1, _⟩
  · exact ⟨none, 0, by rw [q1, q2]⟩
  · exact ⟨_, _, q1⟩
 have k0 := za0 h.c0; have k1 := za0 h.c1; have f1 := zbN h.c1; have HH := LH h; by_cases hp : pl = []
 · subst hp
   clear h; go_enter Tryz.func174, Tryz.ntmps174; go_wp2; go_end0; exact ⟨rfl, vo, by rw [show out ++ DeltaM.flushL [] = out by simp [DeltaM.flushL]]; exact HH.out.clear_⟩
 · obtain ⟨g, cap, W5, hrun, k5, f5, k6, f6, HS⟩ := h.flush hb hk
   have hpos : 0 < pl.length := by cases pl with
    | nil => exact absurd rfl hp
    | cons x t => simp
   have HF : Hid (DeltaM.flushL pl = [⟨0, 0, pl⟩]) := by show DeltaM.flushL pl = _; unfold DeltaM.flushL; rw [if_neg hp]
   obtain ⟨N, hN⟩ : ∃ N, pl.length = N := ⟨_, rfl⟩; obtain ⟨M, hM⟩ : ∃ M, out.length = M := ⟨_, rfl⟩; rw [hN] at hpos k1 hrun k6; rw [hM] at hrun k6 f6 HS; clear h; go_enter Tryz.func174, Tryz.ntmps174; go_wp2_with (at_builtin; refine Lib.wpList_append_run _ rfl _ _ _ _ rfl _ _ rfl rfl _ _ hrun ?_); go_end0; exact ⟨rfl, _, by rw [HF.out]; exact HS.out⟩
def DiffRel (old b : List Int) (w : World) (B0 B1 : Nat) (i : Value) (wr : World) : Prop :=
 ∃ (j : Nat) (vo vp : Value) (out : List OpR) (pl : List Int), i = .int .i64 j ∧ j ≤ b.length ∧ DSt w B0 B1 vo vp out pl wr ∧ (∀ o, DeltaM.Dif old (b.drop j) pl o → DeltaM.Dif old b [] (out ++ o)) ∧
   out.length ≤ 2 * j ∧ pl.length ≤ j ∧ ∀ x ∈ pl, 0 ≤ x ∧ x ≤ 255
theorem one_byte (W : World) (x : Int) (hx : 0 ≤ x ∧ x ≤ 255) : BS (W.alloc (.cells #[.int .u8 x] 5)) (some ⟨W.heap.size, 0, none⟩) 1 1 [x] := by
 refine ⟨rfl, Nat.le_refl _, by omega, by simpa using hx, fun _ => ⟨W.heap.size, 0, rfl, fun i hi => ?_⟩, fun h => by cases h⟩; obtain rfl : i = 0 := by omega
 simp only [World.cell?, Nat.add_zero, hpA, if_pos]; simp
theorem diffed_any (a a' : Option Addr) (n c n' c' : Nat) (x y : List Int) (w : World) (hx : BS w a n c x) (hy : BS w a' n' c' y) (hn : n ≤ 64) (hn' : n' ≤ 64) (hM : MaxCell w) :
 Calls Tryz.prog 125 #[.slice a n c, .slice a' n' c'] w (GivesD x y w) := by
 have HX := LH hx; have HY := LH hy; have HM := LH hM; have HL := LH hy.len; obtain ⟨B0, hB0⟩ : ∃ B0, w.heap.size = B0 := ⟨_, rfl⟩
 have hst : Hid (DSt w B0 (B0 + 1) (.slice none 0 0) (.slice none 0 0) [] [] ((w.alloc (.cells #[.slice none 0 0] 33)).alloc (.cells #[.slice none 0 0] 22))) := by
  subst hB0; have e : (w.alloc (.cells #[.slice none 0 0] 33)).heap.size = w.heap.size + 1 := by simp
  refine ⟨?_, ?_, zbm.start _ _ _ (fun g hg => by cases hg), World.ownsRow_nil _ _ _ _, ((Below.refl _ _).alloc (Nat.le_refl _) _).alloc (by rw [e]; omega) _, Nat.le_refl _, by omega⟩
  · rw [hpA, if_neg (by rw [e]; omega), hpA, if_pos rfl]
  · rw [hpA, if_pos e.symm]
 clear hx hy hM; go_enter Tryz.func125, Tryz.ntmps125; go_wp2_with fail; generalize (w.alloc (.cells #[.slice none 0 0] 33)).alloc (.cells #[.slice none 0 0] 22) = W0 at hst ⊢; go_loopw [9] (fun i wr => DiffRel x y w B0 (B0 + 1) i wr) (fun i _ => n' - (intOf i).toNat)
 case atStart => exact ⟨0, _, _, [], [], rfl, Nat.zero_le _, hst.out, fun o h => h, by simp, by simp, by simp⟩
 case round =>
  obtain ⟨j, vo, vp, out, pl, rfl, hj, hs, hu, hbd, hpl, hby⟩ := hrel; rw [HL.out] at hj; have HS := LH hs; have HU := LH hu; have HB := LH hby; clear hs hu hby; by_cases hlt : j < n'
  · go_wp2_with fail
    refine (longestOf_any a a' n c n' c' x y j _ (HX.out.later HS.out.below) (HY.out.later HS.out.below) hn hn' (by omega) (HM.out.later HS.out.below)).mono ?_; rintro e W1 ⟨i, m, hbest, rfl, hd⟩; have HS1 := LH (HS.out.later hd.below); have hrm := hbest.room; rw [HX.out.len, List.length_drop, HL.out] at hrm; have HBest := LH hbest; clear hbest hd HS; by_cases h3 : 3 < m
    · go_wp2_with fail
      refine (flushD_any HS1.out HB.out (by omega) (by omega)).mono ?_; rintro e W2 ⟨rfl, vo2, hs2⟩; have hfl := flushL_len pl; have hol : (out ++ DeltaM.flushL pl).length ≤ 2 * j + 1 := by rw [List.length_append]; omega
      have HU2 : Hid (∀ o, DeltaM.Dif x ((y.drop j).drop m) [] o → DeltaM.Dif x y [] ((out ++ DeltaM.flushL pl) ++ ⟨i, m, []⟩ :: o)) := by
       show ∀ o, _ → _; intro o ho; have := HU.out _ (.copy (y.drop j) pl i m o HBest.out h3 ho)
       rwa [List.append_assoc]
      generalize out ++ DeltaM.flushL pl = out2 at hs2 hol HU2; obtain ⟨g, cap, W5, hrun, k5, f5, HS5⟩ := hs2.copy i m (by unfold I64; omega) (by unfold I64; omega) (by omega); have k0 := za0 hs2.c0; obtain ⟨J, hJ⟩ : ∃ J : Nat, (j : Int) + m = J := ⟨j + m, by omega⟩; have HJ : Hid (j + m = J) := by show j + m = J; omega
      have hJn : J ≤ n' := by omega
      clear hs2 HS1; go_wp2_with (at_builtin; refine Lib.wpList_append_run _ rfl _ _ _ _ rfl _ _ rfl rfl _ _ hrun ?_); go_roundw
      case rel =>
       refine ⟨J, _, _, out2 ++ [⟨i, m, []⟩], [], rfl, by rw [HL.out]; exact hJn, HS5.out, ?_, ?_, by simp, by simp⟩
       · intro o ho
         have := HU2.out o (by rw [List.drop_drop, HJ.out]; exact ho)
         simpa using this
       · simp only [List.length_append, List.length_cons, List.length_nil]
         omega
      case measure => simp [intOf]; omega
    · obtain ⟨blk, off, rfl, hc⟩ := (HY.out.later HS1.out.below).cells (by omega)
      have hcj := hc j hlt; have hxv := HY.out.byte j; have HD := LH (drop_byte y j (by rw [HL.out]; exact hlt)); generalize y[j]?.getD 0 = xv at hcj hxv HD; clear hc; have k1 := za0 HS1.out.c1; have z1 := zax HS1.out.c1; have hBa : Below W1.heap.size W1 (W1.alloc (.cells #[.int .u8 xv] 5)) := (Below.refl _ _).alloc (Nat.le_refl _) _; obtain ⟨g, cap, W5, hrun, k5, f5, HS5⟩ := (HS1.out.later hBa).drew.plain ((one_byte W1 xv hxv).later (Below.refl _ _).drew) (by omega); obtain ⟨J, hJ⟩ : ∃ J : Nat, (j : Int) + 1 = J := ⟨j + 1, by omega⟩; have HJ : Hid (j + 1 = J) := by show j + 1 = J; omega
      have hJn : J ≤ n' := by omega
      have HU2 : Hid (∀ o, DeltaM.Dif x (y.drop J) (pl ++ [xv]) o → DeltaM.Dif x y [] (out ++ o)) := by
       show ∀ o, _ → _; intro o ho; refine HU.out o ?_; have hb := HBest.out; rw [HD.out] at hb ⊢; rw [HJ.out] at hb ⊢; exact .lit xv _ pl i m o hb (by omega) ho
      have HBy : Hid (∀ v ∈ pl ++ [xv], 0 ≤ v ∧ v ≤ 255) := by
       show ∀ v ∈ pl ++ [xv], _; intro v hv; rcases List.mem_append.1 hv with h | h
       · exact HB.out v h
       · simp at h; subst h; exact hxv
      obtain ⟨P, hP⟩ : ∃ P, pl.length = P := ⟨_, rfl⟩; have HP := LH hP; rw [hP] at hrun HS5 hpl; clear hP hBa HS1; go_wp2_with fail; go_region_law (refine step_append_run rfl (.tmp 45) (.tmp 50) 22 22 rfl vp (.slice (some ⟨W1.heap.size, 0, none⟩) 1 1) (by simp [Act.eval]) (by simp [Act.eval]) _ _ hrun ?_)
      all_goals
       generalize W5.setCell ⟨B0 + 1, 0, none⟩ (.slice (some ⟨g, 0, none⟩) (P + 1) cap) = W8 at HS5 ⊢; clear k5 f5 hrun W5 k1 hcj z1; go_wp2_with fail; go_roundw
       case rel => exact ⟨J, _, _, out, pl ++ [xv], rfl, by rw [HL.out]; exact hJn, HS5.out, HU2.out, by omega, by rw [List.length_append, HP.out]; simp only [List.length_cons, List.length_nil]; omega, HBy.out⟩
       case measure => simp [intOf]; omega
  · obtain rfl : j = n' := by omega
    go_wp2_with fail; refine (flushD_any HS.out HB.out (by omega) (by omega)).mono ?_; rintro e W2 ⟨rfl, vo2, hs2⟩; have hfl := flushL_len pl; have k0 := za0 hs2.c0; obtain ⟨ar, cr, rfl, hos⟩ := hs2.o.os; have HOS := LH hos; have HON := LH (hs2.o.osn.mono (lo' := w.heap.size) (by have := hs2.le0; have := hs2.le1; omega)); have HBL := LH hs2.below; have hdif := HU.out (DeltaM.flushL pl) (by rw [List.drop_eq_nil_of_le (by rw [HL.out]; omega)]; exact .done pl); have HDif := LH hdif; have HLen : Hid ((out ++ DeltaM.flushL pl).length ≤ 200) := by show _ ≤ 200; rw [List.length_append]; omega
    clear hs2 hos hdif; generalize out ++ DeltaM.flushL pl = out2 at *; go_wp2_with fail; go_ret2; exact ⟨out2, ar, _, cr, HDif.out, rfl, HOS.out, ⟨HLen.out, HON.out⟩, HBL.out⟩
theorem app_lies {w : World} {base : Nat} {v : Value} {n : Nat} {l : List Int} (hown : w.ownsRow base 5 1 v n (l.map (Value.int .u8)))
 {a : Option Addr} {m c : Nat} {l' : List Int} (hs : BS w a m c l') (hb : n + m ≤ 140737488355328) (hbase : base ≤ w.heap.size) :
 ∃ a' c' w', (Builtin.append_ #[22, 22] 22 #[v, .slice a m c]).run Tryz.prog w = .ok (.slice a' (n + m) c') w' ∧
   w'.ownsRow base 5 1 (.slice a' (n + m) c') (n + m) ((l ++ l').map (Value.int .u8)) ∧ w.grownBy w' v.ownBlock ∧ ((Value.slice a' (n + m) c').ownBlock = v.ownBlock ∨ (Value.slice a' (n + m) c').ownBlock = some w.heap.size) := by
 obtain ⟨i0, hi, hz0, hz1, hz2⟩ := info_parts Tryz.info_u8
 suffices h : ∃ v' w', (Builtin.append_ #[22, 22] 22 #[v, .slice a m c]).run Tryz.prog w = .ok v' w' ∧
  w'.ownsRow base 5 1 v' (n + m) ((l ++ l').map (Value.int .u8)) ∧ w.grownBy w' v.ownBlock ∧ (v'.ownBlock = v.ownBlock ∨ v'.ownBlock = some w.heap.size) by
  obtain ⟨v', w', hr, ho, hg, hl⟩ := h
  obtain ⟨a', c', rfl⟩ : ∃ a' c', v' = .slice a' (n + m) c' := by
   rcases ho.2 with ⟨h1, h2⟩ | ⟨g, cap, cur, h1, _⟩
   · exact ⟨none, 0, by rw [h1, h2]⟩
   · exact ⟨_, _, h1⟩
  exact ⟨a', c', w', hr, ho, hg, hl⟩
 cases a with
 | none =>
   have hc := hs.none_ rfl; subst hc; obtain rfl : m = 0 := by have := hs.le; omega
   obtain rfl : l' = [] := List.eq_nil_of_length_eq_zero hs.len; exact ⟨v, w, run_append_owned_none w base 22 _ 5 i0 1 U22 hi v n _ hown, by simpa using hown, World.grownBy.refl w _, .inl rfl⟩
 | some ad =>
   obtain ⟨v', w', hr, ho, hg, _, hl⟩ := run_append_own_at (P := Tryz.prog) w base 22 22 5 i0 _ 1 1 U22 hi hz0 hz1 hz2 rfl (by decide) v n _ hown ad m c (l'.map (Value.int .u8))
    (by simpa using hs.len) hs.news (zbz _) (by unfold maxLen; omega) (by omega) hbase
   exact ⟨v', w', hr, by simpa using ho, hg, hl⟩
structure ASt (w : World) (B : Nat) (cs : Array Value) (vo : Value) (outl : List Int) (W : World) : Prop where
 cb : W.heap[B]? = some (.cells cs 159 (0, 0))
 own : W.ownsRow w.heap.size 5 1 vo outl.length (outl.map (Value.int .u8))
 ne : vo.ownBlock ≠ some B
 below : Below w.heap.size w W
 le : w.heap.size ≤ B
section
variable {w : World} {B : Nat} {cs : Array Value} {vo : Value} {outl : List Int} {W W' : World}
theorem ASt.later (h : ASt w B cs vo outl W) (hb : Below W.heap.size W W') : ASt w B cs vo outl W' :=
 ⟨(hb.block _ (zax h.cb)).trans h.cb, zaQ h.own hb, h.ne, bTh h.below hb, h.le⟩
theorem ASt.app (h : ASt w B cs vo outl W) {a : Option Addr} {m c : Nat} {l' : List Int} (hs : BS W a m c l') (hm : m ≤ 1000) (hk : outl.length ≤ 1000) :
 ∃ a5 c5 W5, (Builtin.append_ #[22, 22] 22 #[vo, .slice a m c]).run Tryz.prog W = .ok (.slice a5 (outl.length + m) c5) W5 ∧ Hid (ASt w B cs (.slice a5 (outl.length + m) c5) (outl ++ l') W5) := by
 obtain ⟨a5, c5, W5, hr, ho, hg, hl⟩ := app_lies h.own hs (by omega) h.below.size; have hlt := zax h.cb; refine ⟨a5, c5, W5, hr, (hg.block B hlt (fun e => h.ne e.symm)).trans h.cb, ?_, ?_, h.below.grown hg h.below.size (fun g hg' => (oL3 h.own hg').1), h.le⟩
 · rw [List.length_append, hs.len]
   exact ho
 · intro e
   rcases hl with hl | hl
   · exact h.ne (hl.symm.trans e)
   · rw [hl] at e
     injection e with e; omega
end
theorem cells_blk {W : World} {B : Nat} {v0 v1 v2 : Value} (h : W.heap[B]? = some (.cells #[v0, v1, v2] 159 (0, 0))) : W.cell? ⟨B, 0, none⟩ = some v0 ∧ W.cell? ⟨B, 1, none⟩ = some v1 ∧ W.cell? ⟨B, 2, none⟩ = some v2 := by
 simp [World.cell?, h]
theorem one_lit (W : World) (x : Int) (hx : 0 ≤ x ∧ x ≤ 255) : BS (W.alloc (.cells #[.int .u8 x] 5)) (some ⟨W.heap.size, 0, none⟩) 1 1 [x] := by
 refine ⟨rfl, Nat.le_refl _, by omega, by simpa using hx, fun _ => ⟨W.heap.size, 0, rfl, fun i hi => ?_⟩, fun h => by cases h⟩; obtain rfl : i = 0 := by omega
 simp only [World.cell?, Nat.add_zero, hpA, if_pos]; simp
def AppRel (old : List Int) (l : List OpR) (w : World) (out i : Value) (wr : World) : Prop :=
 ∃ (k : Nat) (a : Option Addr) (n c : Nat) (outl : List Int), i = .int .i64 k ∧ out = .slice a n c ∧ outl.length = n ∧ k ≤ l.length ∧ wr.ownsRow w.heap.size 5 1 (.slice a n c) outl.length (outl.map (Value.int .u8)) ∧
   outl ++ DeltaM.makes old (l.drop k) = DeltaM.makes old l ∧ Below w.heap.size w wr
def InRel (old : List Int) (w : World) (B N M : Nat) (cs : Array Value) (out0 : List Int) (out i : Value) (wr : World) : Prop :=
 ∃ (q : Nat) (a : Option Addr) (n c : Nat) (outl : List Int), i = .int .i64 q ∧ out = .slice a n c ∧ outl.length = n ∧ q ≤ M ∧ outl = out0 ++ (old.drop N).take q ∧ ASt w B cs (.slice a n c) outl wr
theorem applied_any (a : Option Addr) (n c : Nat) (old : List Int) (a' : Option Addr) (n' c' : Nat) (l : List OpR) (s : Int) (w : World) (hx : BS w a n c old) (hl : OS w a' n' c' l) :
 Calls Tryz.prog 124 #[.slice a n c, .slice a' n' c', .int .i64 s] w (GivesA old l s w) := by
 have HX := LH hx; have HL := LH hl; have HLn := LH hl.len; have HXn := LH hx.len; have hlen : n' ≤ 9223372036854775807 := by have := hl.le; have := hl.max; omega
 obtain ⟨E, hE⟩ : ∃ E, DeltaM.check l n s = E := ⟨_, rfl⟩; have HE : Hid (DeltaM.check l old.length s = E) := by show DeltaM.check l old.length s = E; rw [hx.len]; exact hE
 have hck := checkOps_any a' n' c' l n s; rw [hE] at hck; have HCK := LH hck; clear hck hx hl; by_cases h0 : E = 0
 · subst h0
   obtain ⟨h40, o1, o2, s1, s2, hgood, htot⟩ := DeltaM.check_zero hE; have HG : Hid (DeltaM.Good old.length l) := by show DeltaM.Good old.length l; rw [HXn.out]; exact hgood
   have hml := DeltaM.makes_length (old := old) HG.out; rw [htot] at hml; have HML : Hid ((DeltaM.makes old l).length ≤ 64) := by show _ ≤ 64; omega
   have HAP : Hid (DeltaM.applied old l s = DeltaM.makes old l) := by show DeltaM.applied old l s = _; unfold DeltaM.applied; rw [if_pos HE.out]
   clear hgood htot hml hE h40; go_enter Tryz.func124, Tryz.ntmps124; go_wp2_with fail; refine (HCK.out _ HL.out).mono ?_; rintro e W0 ⟨rfl, b0⟩; have HB0 := LH b0; clear b0 HCK; go_wp2_with fail; go_loopw [9, 23] (fun out i wr => AppRel old l w out i wr) (fun _ i _ => n' - (intOf i).toNat)
   case atStart => exact ⟨0, none, 0, 0, [], rfl, rfl, rfl, Nat.zero_le _, World.ownsRow_nil _ _ _ _, rfl, HB0.out⟩
   case round =>
    clear HB0; obtain ⟨k, a2, n2, c2, outl, rfl, rfl, hol, hk, ho, hu, hB⟩ := hrel; rw [HLn.out] at hk; have HO := LH ho; have HU := LH hu; have HOL := LH hol; clear ho hu hol; by_cases hlt : k < n'
    · obtain ⟨b, off, rfl, hcs⟩ := (HL.out.later hB).cells (by omega)
      obtain ⟨va, vn, vc, q0, q1, q2, q3, -, -⟩ := hcs k hlt; have HD := LH (drop_op l k (by rw [HLn.out]; exact hlt))
      have hg := HG.out (l.getD k default) (by have : l.getD k default ∈ l.drop k := by rw [HD.out]; simp
                                               exact List.mem_of_mem_drop this)
      generalize l.getD k default = o at q0 q1 q2 q3 HD hg; obtain ⟨A, L, D⟩ := o; simp only at q0 q1 q2 q3; obtain ⟨r1, r2, r3⟩ := DeltaM.good_len hg.2; simp only at r1 r2 r3; obtain ⟨N, rfl⟩ : ∃ N : Nat, A = N := ⟨A.toNat, by omega⟩; obtain ⟨M, rfl⟩ : ∃ M : Nat, L = M := ⟨L.toNat, by omega⟩; have hNM : N + M ≤ old.length := by omega
      have HP : Hid (DeltaM.makes old (l.drop k) = D ++ ((old.drop N).take M ++ DeltaM.makes old (l.drop (k + 1)))) := by
       show _ = _; rw [HD.out]; simp [DeltaM.makes, DeltaM.part]
      have HLE : Hid (outl.length + D.length + M + (DeltaM.makes old (l.drop (k + 1))).length ≤ 64) := by
       show _ ≤ 64; have h1 := congrArg List.length HU.out; rw [HP.out] at h1; simp only [List.length_append, List.length_take, List.length_drop] at h1; have := HML.out; omega
      clear hg hcs r1 r2 r3; obtain ⟨B, hBB⟩ : ∃ B, wr.heap.size = B := ⟨_, rfl⟩; have hbl : Below wr.heap.size wr (wr.alloc (.cells #[.int .i64 (N : Int), .int .i64 (M : Int), .slice va vn vc] 159)) := (Below.refl _ _).alloc (Nat.le_refl _) _
      have hst : ASt w B #[.int .i64 (N : Int), .int .i64 (M : Int), .slice va vn vc] (.slice a2 n2 c2) outl (wr.alloc (.cells #[.int .i64 (N : Int), .int .i64 (M : Int), .slice va vn vc] 159)) := by
       refine ⟨by rw [hpA, if_pos hBB.symm], zaQ HO.out hbl, fun e => ?_, bTh hB hbl, by rw [← hBB]; exact hB.size⟩; have := (oL3 HO.out e).2; omega
      have hDn := q3.len; obtain ⟨a5, c5, W5, hrun, HS5⟩ := hst.app (q3.later hbl) (by have := HLE.out; omega) (by have := HLE.out; omega); rw [HOL.out] at hrun HS5; clear hst hbl q3; have c5' := cells_blk HS5.out.cb; obtain ⟨d0, d1, -⟩ := c5'; go_wp2_with (at_builtin; refine Lib.wpList_append_run _ rfl _ _ _ _ rfl _ _ rfl rfl _ _ hrun ?_); clear hrun q0 q1 q2 d0 d1; have hkn := hlt; go_loopw [9, 33] (fun out i wr => InRel old w B N M #[.int .i64 (N : Int), .int .i64 (M : Int), .slice va vn vc] (outl ++ D) out i wr) (fun _ i _ => M - (intOf i).toNat)
      case atStart => exact ⟨0, _, _, _, _, rfl, rfl, by rw [List.length_append, HOL.out, hDn], Nat.zero_le _, by simp, HS5.out⟩
      case round =>
       clear HS5 W5 hB hBB; obtain ⟨q, a6, n6, c6, out6, rfl, rfl, h6, hq, he6, hs6⟩ := hrel; have HS6 := LH hs6; have HE6 := LH he6; have H6 := LH h6; clear hs6 he6 h6; by_cases hqM : q < M
       · obtain ⟨blk, of1, rfl, hc⟩ := (HX.out.later HS6.out.below).cells (by have := HXn.out; omega)
         obtain ⟨K, hK⟩ : ∃ K : Nat, (N : Int) + q = K := ⟨N + q, by omega⟩; have hKn : K < n := by have := HXn.out; omega
         have hcK := hc K hKn; have hxv := HX.out.byte K
         have HT : Hid ((old.drop N).take (q + 1) = (old.drop N).take q ++ [old[K]?.getD 0]) := by
          show _ = _; have hKl : N + q = K := by omega
          have : N + q < old.length := by omega
          rw [List.take_add_one, List.getElem?_drop, hKl, List.getElem?_eq_getElem (by omega)]; simp
         generalize old[K]?.getD 0 = xv at hcK hxv HT; clear hc; obtain ⟨d0, d1, -⟩ := cells_blk HS6.out.cb; have hbl : Below wr.heap.size wr (wr.alloc (.cells #[.int .u8 xv] 5)) := (Below.refl _ _).alloc (Nat.le_refl _) _
         have hl6 : out6.length ≤ 64 := by
          rw [HE6.out]; have := HLE.out; simp only [List.length_append, List.length_take, List.length_drop]; omega
         obtain ⟨a7, c7, W7, hrun, HS7⟩ := (HS6.out.later hbl).app (one_lit wr xv hxv) (by omega) (by omega); rw [H6.out] at hrun HS7; have hB1 := zax HS6.out.cb; clear hbl hl6; go_wp2_with (at_builtin; refine Lib.wpList_append_run _ rfl _ _ _ _ rfl _ _ rfl rfl _ _ hrun ?_); go_roundw
         case rel => exact ⟨q + 1, a7, _, c7, out6 ++ [xv], by go_num, rfl, by rw [List.length_append, H6.out]; rfl, by omega, by rw [HT.out, HE6.out]; simp, HS7.out⟩
         case measure => simp [intOf]; omega
       · obtain rfl : q = M := by omega
         obtain ⟨d0, d1, -⟩ := cells_blk HS6.out.cb; go_wp2_with fail; go_roundw
         case rel =>
          refine ⟨k + 1, a6, n6, c6, out6, by go_num, rfl, H6.out, by rw [HLn.out]; omega, HS6.out.own, ?_, HS6.out.below⟩; rw [HE6.out, ← HU.out, HP.out]; simp
         case measure => simp [intOf]; omega
    · go_wp2_with fail
      go_ret2; have hdr : l.drop k = [] := List.drop_eq_nil_of_le (by rw [HLn.out]; omega); have hu := HU.out; rw [hdr] at hu; simp only [DeltaM.makes, List.append_nil] at hu; refine ⟨a2, n2, c2, zbd HE.out.symm, ?_, hB⟩; rw [HAP.out, ← hu]; have ho := HO.out; rw [HOL.out] at ho; exact BS.of_own ho (by rw [hu]; exact DeltaM.makes_bytes HX.out.bytes (OS.bytes HL.out))
 · have HAP : Hid (DeltaM.applied old l s = []) := by show DeltaM.applied old l s = _; unfold DeltaM.applied; rw [if_neg (by rw [HE.out]; exact h0)]
   have hne : (E != 0) = true := by simp [h0]
   clear hE; go_enter Tryz.func124, Tryz.ntmps124; go_wp2_with fail; refine (HCK.out _ HL.out).mono ?_; rintro e W0 ⟨rfl, b0⟩; go_wp2_with fail; go_ret2; exact ⟨none, 0, 0, zbd HE.out.symm, by rw [HAP.out]; exact BS.nil_ _, b0⟩
theorem made_n (fr to : Int) (a a' : Option Addr) (n c n' c' : Nat) (x y : List Int) (w : World) (hx : BS w a n c x) (hy : BS w a' n' c' y) (hn : n ≤ 64) (hn' : n' ≤ 64) (hM : MaxCell w) (hf : I64 fr) (ht : I64 to) :
 Calls Tryz.prog 67 #[.int .i64 fr, .int .i64 to, .slice a n c, .slice a' n' c'] w fun e w' => ∃ ops, DeltaM.Dif x y [] ops ∧ GivesPN (fun _ => True) (madeOf fr to x y ops 0) w e w' := by
 have hb0 : Below w.heap.size w (w.alloc (.cells #[.int .i64 0, .int .i64 0, .int .i64 0, .int .i64 0, .int .i64 0, .slice none 0 0] 35)) := (Below.refl _ _).alloc (Nat.le_refl _) _; have e0 : (w.alloc (.cells #[.int .i64 0, .int .i64 0, .int .i64 0, .int .i64 0, .int .i64 0, .slice none 0 0] 35)).heap.size = w.heap.size + 1 := by simp
 have hB0 : (w.alloc (.cells #[.int .i64 0, .int .i64 0, .int .i64 0, .int .i64 0, .int .i64 0, .slice none 0 0] 35)).heap[w.heap.size]? = some (.cells #[.int .i64 0, .int .i64 0, .int .i64 0, .int .i64 0, .int .i64 0, .slice none 0 0] 35 (0, 0)) := by rw [hpA, if_pos rfl]
 obtain ⟨B, hBw⟩ : ∃ B, w.heap.size = B := ⟨_, rfl⟩; have HBW := LH hBw; rw [hBw] at hB0 e0; have hx0 := hx.later hb0; have hy0 := hy.later hb0; have hM0 := hM.later hb0; have HX := LH hx; have HY := LH hy; have HLY := LH hy.len; have HF : Hid (I64 fr ∧ I64 to) := ⟨hf, ht⟩; clear hx hy hM hf ht; have HS := LH (SumM.addL_bd x 1 (by omega) (by omega)); have HS' := LH (SumM.addL_bd y 1 (by omega) (by omega)); go_enter Tryz.func67, Tryz.ntmps67; go_wp2_with fail; generalize w.alloc (.cells #[.int .i64 0, .int .i64 0, .int .i64 0, .int .i64 0, .int .i64 0, .slice none 0 0] 35) = W0 at hb0 hB0 hx0 hy0 hM0 e0 ⊢; refine (diffed_any a a' n c n' c' x y _ hx0 hy0 hn hn' hM0).mono ?_; rintro e W1 ⟨ops, ad, nd, cd, hdif, rfl, od, ⟨-, odn⟩, b1⟩; have hW0 : B + 1 ≤ W0.heap.size := by omega
 replace odn := odn.mono hW0; clear hW0; have HD := LH hdif; have hB1 := (b1.block B (by omega)).trans hB0; have b1' := bTh hb0 b1; have hx1 := HX.out.later b1'; have hy1 := HY.out.later b1'; have hz1 : B < W1.heap.size := by have := b1.size; omega
 clear hdif b1 hb0 hB0 hx0 hy0 hM0 e0 hBw W0; go_wp2_with fail; refine (sumOf_any a n c x _ hx1).mono ?_; rintro e w' ⟨rfl, rfl⟩; go_wp2_with fail; refine (sumOf_any a' n' c' y _ hy1).mono ?_; rintro e w' ⟨rfl, rfl⟩; obtain ⟨s1, hs1⟩ : ∃ s, SumM.addL 1 x = s := ⟨_, rfl⟩; obtain ⟨s2, hs2⟩ : ∃ s, SumM.addL 1 y = s := ⟨_, rfl⟩; have HE1 := LH hs1; have HE2 := LH hs2; rw [hs1, hs2]; rw [hs1] at HS; rw [hs2] at HS'; clear hs1 hs2 hx1 hy1; have hb2 : Below W1.heap.size W1 (W1.alloc (.cells #[.int .i64 fr, .int .i64 to, .int .i64 s1, .int .i64 s2, .int .i64 (n' : Int), .slice ad nd cd] 35)) := (Below.refl _ _).alloc (Nat.le_refl _) _
 have hpv : PV (W1.alloc (.cells #[.int .i64 fr, .int .i64 to, .int .i64 s1, .int .i64 s2, .int .i64 (n' : Int), .slice ad nd cd] 35)) (.agg #[.int .i64 fr, .int .i64 to, .int .i64 s1, .int .i64 s2, .int .i64 (n' : Int), .slice ad nd cd]) ⟨fr, to, s1, s2, n', ops⟩ :=
  ⟨ad, nd, cd, rfl, od.later hb2, HF.out.1, HF.out.2, by have := HS.out; unfold I64; simp only; omega, by have := HS'.out; unfold I64; simp only; omega, by unfold I64; simp only; omega⟩
 obtain ⟨B2, hB2w⟩ : ∃ B2, W1.heap.size = B2 := ⟨_, rfl⟩; have hB2 : (W1.alloc (.cells #[.int .i64 fr, .int .i64 to, .int .i64 s1, .int .i64 s2, .int .i64 (n' : Int), .slice ad nd cd] 35)).heap[B2]? = some (.cells #[.int .i64 fr, .int .i64 to, .int .i64 s1, .int .i64 s2, .int .i64 (n' : Int), .slice ad nd cd] 35 (0, 0)) := by rw [hpA, if_pos hB2w.symm]
 have e2 : (W1.alloc (.cells #[.int .i64 fr, .int .i64 to, .int .i64 s1, .int .i64 s2, .int .i64 (n' : Int), .slice ad nd cd] 35)).heap.size = B2 + 1 := by simp [hB2w]
 have hB1' := (hb2.block B hz1).trans hB1; have b2 := bTh b1' hb2; clear b1' od; go_wp2_with fail; generalize W1.alloc (.cells #[.int .i64 fr, .int .i64 to, .int .i64 s1, .int .i64 s2, .int .i64 (n' : Int), .slice ad nd cd] 35) = W2 at hpv hB2 e2 hB1' b2 hb2 ⊢; refine (zbI _ _ _ hpv).mono ?_; rintro e W3 ⟨rfl, b3⟩; have HON := LH ((odn.later hb2).later b3); have hBr := (b3.block B (by omega)).trans hB1'; have hBp := (b3.block B2 (by omega)).trans hB2; have b4 := bTh b2 b3; obtain ⟨E, hE⟩ : ∃ E, PatM.check ⟨fr, to, s1, s2, n', ops⟩ = E := ⟨_, rfl⟩; have HE : Hid (PatM.check ⟨fr, to, SumM.addL 1 x, SumM.addL 1 y, y.length, ops⟩ = E) := by show _ = E; rw [HE1.out, HE2.out, HLY.out]; exact hE
 rw [hE]; obtain ⟨r0, r1, r2, r3, r4, r5, f0, f1, f2, f3, f4, f5⟩ := zak hBr; obtain ⟨p0, p1, p2, p3, p4, p5, -⟩ := zak hBp; have hne : B ≠ B2 := by omega
 have HBL : Hid (w.heap.size ≤ B) := by show w.heap.size ≤ B; rw [HBW.out]; exact Nat.le_refl _
 have g0 : ∀ v, (W3.setCell ⟨B, 0, none⟩ v).cell? ⟨B, 0, none⟩ = some v := fun v => World.cell?_setCell_same _ _ _ r0; clear hpv hB1' hB2 b3 b2 e2 hE hB2w hBp hz1 hB1 odn hb2; by_cases h0 : E = 0
 · subst h0
   have HK : Hid (madeOf fr to x y ops 0 = (⟨fr, to, s1, s2, n', ops⟩, 0)) := by
    show _ = _; unfold madeOf; rw [if_neg (by simp), if_neg (by rw [HE.out]; simp), HE1.out, HE2.out, HLY.out]
   obtain ⟨W6, hW6, q0, q1, q2, q3, q4, q5, hoth, hsz⟩ := zbh hBr (.int .i64 fr) (.int .i64 to) (.int .i64 s1) (.int .i64 s2) (.int .i64 (n' : Int)) (.slice ad nd cd)
   have HB6 : Hid (Below w.heap.size w W6) := by
    show Below _ _ _; rw [← hW6]; exact (((((b4.setCell HBL.out _).setCell HBL.out _).setCell HBL.out _).setCell HBL.out _).setCell HBL.out _).setCell HBL.out _
   have HP6 : Hid (∀ W' : World, W6.heap.size ≤ W'.heap.size → (∀ k, w.heap.size ≤ k → k < W6.heap.size → W'.heap[k]? = W6.heap[k]?) → PV W' (.agg #[.int .i64 fr, .int .i64 to, .int .i64 s1, .int .i64 s2, .int .i64 (n' : Int), .slice ad nd cd]) ⟨fr, to, s1, s2, n', ops⟩) := by
    show ∀ W' : World, _; intro W' z1 z2; exact ⟨ad, nd, cd, rfl, HON.out W' (by rw [← hsz]; exact z1) (fun k k1 k2 => (z2 k (by have := HBL.out; omega) (by rw [hsz]; exact k2)).trans (hoth k (by omega))), HF.out.1, HF.out.2, by have := HS.out; unfold I64; simp only; omega, by have := HS'.out; unfold I64; simp only; omega, by unfold I64; simp only; omega⟩
   clear hoth hsz b4 HON; go_wp2_with fail
   try simp only [Exit.inBlock, Exit.then]
   refine bodyPost_ret (by simp [results, Tryz.results67, go_sem, q0, q1, q2, q3, q4, q5]; try rfl) rfl ?_; exact ⟨ops, HD.out, _, by rw [HK.out], HB6.out, fun W' z1 z2 _ => by rw [HK.out]; exact HP6.out W' z1 z2⟩
 · have hnb : (E != 0) = true := by simp [h0]
   have HK : Hid (madeOf fr to x y ops 0 = (zap, E)) := by
    show _ = _; unfold madeOf; rw [if_neg (by simp), if_pos (by rw [HE.out]; exact h0), HE.out]
   obtain ⟨W6, hW6, q0, q1, q2, q3, q4, q5, hoth, hsz⟩ := zbh hBr (.int .i64 0) (.int .i64 0) (.int .i64 0) (.int .i64 0) (.int .i64 0) (.slice none 0 0)
   have HB6 : Hid (Below w.heap.size w W6) := by
    show Below _ _ _; rw [← hW6]; exact (((((b4.setCell HBL.out _).setCell HBL.out _).setCell HBL.out _).setCell HBL.out _).setCell HBL.out _).setCell HBL.out _
   clear hoth hsz b4 HON; go_wp2_with fail
   try simp only [Exit.inBlock, Exit.then]
   refine bodyPost_ret (by simp [results, Tryz.results67, go_sem, q0, q1, q2, q3, q4, q5]; try rfl) rfl ?_; exact ⟨ops, HD.out, _, by rw [HK.out], HB6.out, fun _ _ _ _ => by rw [HK.out]; exact zaD _⟩
theorem lit_bs_marked (w : World) (zs : List Int) (n : Nat) (fz : Nat × Nat) (hn : zs.length = n) (hm : n ≤ 1000) (hz : ∀ x ∈ zs, 0 ≤ x ∧ x ≤ 255) :
 BS (w.alloc (.cells (zs.map (Value.int .u8)).toArray 5 fz)) (some ⟨w.heap.size, 0, none⟩) n n zs := by
 refine ⟨hn, Nat.le_refl _, by omega, hz, fun _ => ⟨w.heap.size, 0, rfl, fun i hi => ?_⟩, fun h => by cases h⟩; have hi' : i < zs.length := by omega
 rw [Nat.zero_add]; simp only [World.cell?, hpA, if_pos]; simp [List.getElem?_eq_getElem hi']
def stepsL : List OpR := [⟨0, 0, [120]⟩, ⟨4, 4, []⟩, ⟨0, 4, []⟩]
theorem dif_three : DeltaM.Dif [97, 98, 99, 100, 101, 102, 103, 104] [120, 101, 102, 103, 104, 97, 98, 99, 100] [] stepsL := by
 have h1 : MatchM.Best [97, 98, 99, 100, 101, 102, 103, 104] [120, 101, 102, 103, 104, 97, 98, 99, 100] 0 0 := (show MatchM.Upto _ _ 8 0 0 from ⟨by decide, by decide, by decide, by decide⟩).best; have h2 : MatchM.Best [97, 98, 99, 100, 101, 102, 103, 104] [101, 102, 103, 104, 97, 98, 99, 100] 4 4 := (show MatchM.Upto _ _ 8 4 4 from ⟨by decide, by decide, by decide, by decide⟩).best; have h3 : MatchM.Best [97, 98, 99, 100, 101, 102, 103, 104] [97, 98, 99, 100] 0 4 := (show MatchM.Upto _ _ 8 0 4 from ⟨by decide, by decide, by decide, by decide⟩).best; have e3 := DeltaM.Dif.copy _ [] 0 4 _ h3 (by decide) (.done []); have e2 := DeltaM.Dif.copy _ [120] 4 4 _ h2 (by decide) e3; exact .lit 120 _ [] 0 0 _ h1 (by decide) e2
end Go.Proofs.YtnnmpoknghbdnacGreat
