/-
  Texts put into one: Row, Bytes, CutB, Num64, Ops, ChR, ChunkV, ChunkMath, Pat, DeltaMath, ApplyMath, PatMath, OpsOwn, MatchMath, DiffSt, DeltaRes, SumMath, PatRes, PutMath, PackMath, ChunkMath2, JoinMath, AddMathC, Lit, StepsL, DifThree, PatL, Step, AppSt, ChL, ChSt, PackRes, CopySt, InsMathC, InsSt, NewR, OtherMath, AnyMath, AnyMath2, AnyMath3, Ints, CutN, OpenN.
-/
import Derived.Test.YtmpmaljkmfgagabRows
import Derived.WalkKit
import Derived.ProofKit
import Derived.OpenShut
import Derived.ChangeOld
import Derived.Below
import Derived.Lib.Hide
import Derived.WalkLawsBesides
import Derived.WalkSpells
import Derived.Laws.OwnMore
import Derived.OwnWalk
import Derived.Deep.DeepAppendRoom
import Derived.Lib.AppendZerosOnto
import Derived.Deep.QuietTactic
import Derived.BigQuiet
import Derived.Deep.RegionWith
import Derived.Laws.Slices
import Derived.Deep.Strs
import Derived.Deep.Slices
import Derived.WideShapes
import Derived.Deep.AppendLies
import Derived.Lib.Bytes
import Derived.Lib.IndexMore
import Derived.Deep.RegionLaw
import Derived.Lib.SlBytesConst
import Derived.Maps.AppendAt
import Derived.Laws.CopyOwn
import Derived.Lib.Overlaps
/-
  What a walk is told of a slice of integers, and small facts on it.
-/
namespace Go.Proofs.Ytmpmaljkmfgagab
open Go.RowKit

/-- a slice of integers that came in: nil, or a row of 'cap' cells, the numbers 'zs', the first 'len' its elements -/
def IsRow (k : IntKind) (w : World) (a : Option Addr) (len cap : Nat) (zs : List Int) : Prop :=
  (a = none ∧ len = 0 ∧ cap = 0 ∧ zs = []) ∨
  ∃ x, a = some x ∧ len ≤ cap ∧ cap ≤ maxLen ∧ zs.length = cap ∧ (∀ i, i < zs.length → w.cell? (x.add i) = some (.int k (zs.getD i 0))) ∧ ∀ n ∈ zs, (Lit.int k n).wf = true

theorem IsRow.len_le {k w a len cap zs} (h : IsRow k w a len cap zs) : len ≤ zs.length ∧ zs.length = cap ∧ cap ≤ 9223372036854775807 := by
  rcases h with ⟨_, rfl, rfl, rfl⟩ | ⟨x, _, hl, hm, hz, _, _⟩
  · simp
  · unfold maxLen at hm; omega
theorem IsRow.cells {k w a len cap zs} (h : IsRow k w a len cap zs) (hp : 0 < len) : ∃ b off, a = some ⟨b, off, none⟩ ∧ ∀ i, i < zs.length → w.cell? ⟨b, off + i, none⟩ = some (.int k (zs[i]?.getD 0)) := by
  rcases h with ⟨_, rfl, rfl, rfl⟩ | ⟨x, rfl, hl, hm, hz, hc, _⟩
  · omega
  · obtain ⟨b, off, spot⟩ := x
    have h0 := hc 0 (by omega)
    have hspot : spot = none := by simpa [Addr.add] using World.cell?_spot h0
    subst hspot
    refine ⟨b, off, rfl, fun i hi => ?_⟩
    have h := hc i hi
    by_cases e : i = 0
    · subst e; simpa [Addr.add] using h
    · simpa [Addr.add, e] using h
theorem IsRow.byte {w a len cap zs} (h : IsRow .u8 w a len cap zs) (i : Nat) : 0 ≤ zs[i]?.getD 0 ∧ zs[i]?.getD 0 ≤ 255 := by
  rcases h with ⟨_, rfl, rfl, rfl⟩ | ⟨x, rfl, hl, hm, hz, hc, hw⟩
  · simp
  · exact range_u8 hw i
theorem IsRow.later {k w w' a len cap zs} (h : IsRow k w a len cap zs) (hb : Below w.heap.size w w') : IsRow k w' a len cap zs := by
  rcases h with h | ⟨x, rfl, hl, hm, hz, hc, hw⟩
  · exact .inl h
  · exact .inr ⟨x, rfl, hl, hm, hz, fun i hi => cell_later hb (hc i hi), hw⟩
theorem heap_at (w : World) (o : Obj) (k : Nat) : (w.alloc o).heap[k]? = if k = w.heap.size then some o else w.heap[k]? := by
  show (w.heap.push o)[k]? = _
  rw [Array.getElem?_push]
/-- a block known whole is a row -/
theorem lit_row (k : IntKind) (w : World) (b t : Nat) (cs : Array Value) (fz : Nat × Nat) (zs : List Int) (n : Nat) (h : w.heap[b]? = some (.cells cs t fz)) (hcs : cs = (zs.map (Value.int k)).toArray) (hn : zs.length = n) (hm : n ≤ maxLen) (hw : ∀ n ∈ zs, (Lit.int k n).wf = true) :
    IsRow k w (some ⟨b, 0, none⟩) n n zs := by
  refine .inr ⟨_, rfl, Nat.le_refl _, hm, hn, ?_, hw⟩
  intro i hi
  subst hcs
  have e : (Addr.add ⟨b, 0, none⟩ i) = ⟨b, i, none⟩ := by
    by_cases e : i = 0
    · subst e; simp [Addr.add]
    · simp [Addr.add, e]
  rw [e]
  simp [World.cell?, h, List.getElem?_eq_getElem hi]

/-- a slice of bytes that reads as a list: nil or not, wherever it lies -/
structure BS (w : World) (a : Option Addr) (n c : Nat) (l : List Int) : Prop where
  len : l.length = n
  le : n ≤ c
  max : c ≤ 9223372036854775807
  bytes : ∀ x ∈ l, 0 ≤ x ∧ x ≤ 255
  cells : 0 < n → ∃ b off, a = some ⟨b, off, none⟩ ∧ ∀ i, i < n → w.cell? ⟨b, off + i, none⟩ = some (.int .u8 (l[i]?.getD 0))
  none_ : a = none → c = 0

theorem IsRow.bs {w a len cap zs} (h : IsRow .u8 w a len cap zs) : BS w a len cap (zs.take len) := by
  have hl := h.len_le
  refine ⟨by simp; omega, by omega, by omega, ?_, ?_, ?_⟩
  · intro x hx
    obtain ⟨i, hi, rfl⟩ := List.mem_iff_getElem.1 (List.mem_of_mem_take hx)
    have := h.byte i
    simpa [List.getElem?_eq_getElem hi] using this
  · intro hp
    obtain ⟨b, off, rfl, hc⟩ := h.cells hp
    refine ⟨b, off, rfl, fun i hi => ?_⟩
    rw [hc i (by omega), List.getElem?_take_of_lt hi]
  · rintro rfl
    rcases h with ⟨_, _, hc, _⟩ | ⟨x, hx, _⟩
    · exact hc
    · cases hx
section
variable {w w' : World} {a : Option Addr} {n c : Nat} {l : List Int}
theorem BS.byte (h : BS w a n c l) (i : Nat) : 0 ≤ l[i]?.getD 0 ∧ l[i]?.getD 0 ≤ 255 := by
  by_cases hi : i < l.length
  · simpa [List.getElem?_eq_getElem hi] using h.bytes _ (List.getElem_mem hi)
  · simp [List.getElem?_eq_none (Nat.le_of_not_lt hi)]
theorem BS.later (h : BS w a n c l) (hb : Below w.heap.size w w') : BS w' a n c l :=
  ⟨h.len, h.le, h.max, h.bytes, fun hp => by
    obtain ⟨b, off, e, hc⟩ := h.cells hp
    exact ⟨b, off, e, fun i hi => cell_later hb (hc i hi)⟩, h.none_⟩
theorem BS.keep (h : BS w a n c l) (hk : ∀ p v, w.cell? p = some v → w'.cell? p = some v) : BS w' a n c l :=
  ⟨h.len, h.le, h.max, h.bytes, fun hp => by
    obtain ⟨b, off, e, hc⟩ := h.cells hp
    exact ⟨b, off, e, fun i hi => hk _ _ (hc i hi)⟩, h.none_⟩
theorem BS.drewN (h : BS w a n c l) (m : Nat) : BS (w.drewN m) a n c l := h.keep (fun _ _ h => h)
theorem BS.nil_ (w : World) : BS w none 0 0 [] := ⟨rfl, by omega, by omega, by simp, fun h => absurd h (by omega), fun _ => rfl⟩
theorem BS.of_own {B e : Nat} (h : w.ownsRow B e 1 (.slice a n c) n (l.map (Value.int .u8))) (hl : ∀ x ∈ l, 0 ≤ x ∧ x ≤ 255) : BS w a n c l := by
  have h1 := h.1
  simp at h1
  rcases h.2 with ⟨hv, hn⟩ | ⟨g, cap, cur, hv, _, _, hnc, hcm, _, _⟩
  · simp at hv
    obtain ⟨rfl, rfl, rfl⟩ := hv
    exact ⟨h1, by omega, by omega, hl, fun h => absurd h (by omega), fun _ => rfl⟩
  · simp at hv
    obtain ⟨rfl, rfl⟩ := hv
    refine ⟨h1, hnc, by unfold maxLen at hcm; omega, hl, fun hp => ⟨g, 0, rfl, fun i hi => ?_⟩, fun h => by cases h⟩
    have := h.cellAt i (by omega)
    simp [List.getElem?_eq_getElem (show i < l.length by omega)] at this
    simpa [List.getElem?_eq_getElem (show i < l.length by omega)] using this
end
/-- a callee that only reads, in a region that draws its order -/
theorem quiet_eq {P : Program} {f : FuncId} {args : Array Value} {w : World} {n : Nat} {v : Value} (h : Calls P f args (w.drewN n) fun e w' => e = .returned v ∧ w.drewN n = w') :
    Calls P f args (w.drewN n) fun e w'' => e = .returned v ∧ ∃ m, w'' = w.drewN m := h.mono fun _ _ ⟨he, hm⟩ => ⟨he, n, hm.symm⟩
/-- a call that returns new bytes -/
def GivesB (w : World) (l : List Int) (e : Ending) (w' : World) : Prop :=
  ∃ a n c, e = .returned (.slice a n c) ∧ w'.ownsRow w.heap.size 5 1 (.slice a n c) n (l.map (Value.int .u8)) ∧ Below w.heap.size w w'
/-- a call that returns bytes that it has made -/
def GivesS (w : World) (l : List Int) (e : Ending) (w' : World) : Prop :=
  ∃ a n c, e = .returned (.slice a n c) ∧ BS w' a n c l ∧ Below w.heap.size w w'
/-- a call that has drawn from the tape alone -/
def DrewN (w w' : World) : Prop := ∃ n, w' = w.drewN n
theorem DrewN.more (w : World) (a b : Nat) : DrewN w ((w.drewN a).drewN b) := ⟨a + b, World.drewN_drewN _ _ _⟩
theorem DrewN.below {w w' : World} (h : DrewN w w') : Below w.heap.size w w' := by
  obtain ⟨n, rfl⟩ := h
  exact below_drewN (Below.refl _ _) n
theorem oneCell_u8 (l : List Int) : ∀ u ∈ l.map (Value.int .u8), u.oneCell' = true := by
  intro u hu
  obtain ⟨x, _, rfl⟩ := List.mem_map.1 hu
  rfl
theorem ret_int {k : IntKind} {a b : Int} (h : a = b) : Ending.returned (.int k a) = .returned (.int k b) := by rw [h]
end Go.Proofs.Ytmpmaljkmfgagab
/-
  Bytes that a call makes: append onto a row of the call's own, slices.Grow, Concat, Clone.
-/
namespace Go.Proofs.Ytmpmaljkmfgagab
open Go.RowKit

theorem Try.info_u8 : (Try.prog.info? 5).map (fun i => (i.zero, i.size, i.bytes)) = some (some (.int .u8 0), 1, 1) := by kernel_rfl

theorem addr_add (b off i : Nat) : (Addr.add ⟨b, off, none⟩ i) = ⟨b, off + i, none⟩ := by
  by_cases e : i = 0
  · subst e; simp [Addr.add]
  · simp [Addr.add, e]

theorem BS.news {w : World} {ad : Addr} {m c : Nat} {l : List Int} (h : BS w (some ad) m c l) : ∀ j u, (l.map (Value.int .u8))[j]? = some u → w.cell? (ad.add j) = some u := by
  intro j u hu
  have hj : j < l.length := by
    rcases Nat.lt_or_ge j l.length with h1 | h1
    · exact h1
    · rw [List.getElem?_eq_none (by simpa using h1)] at hu; cases hu
  obtain ⟨b, off, e, hc⟩ := h.cells (by have := h.len; omega)
  injection e with e
  subst e
  rw [addr_add, hc j (by have := h.len; omega)]
  simp [List.getElem?_eq_getElem hj] at hu ⊢
  exact hu

/-- append(v, s...), v a row of the call's own, or nil: it may grow -/
theorem app_run {w : World} {base : Nat} {v : Value} {n : Nat} {l : List Int} (hown : w.ownsRow base 5 1 v n (l.map (Value.int .u8)))
    {a : Option Addr} {m c : Nat} {l' : List Int} (hs : BS w a m c l') (hb : n + m ≤ 140737488355328) (hbase : base ≤ w.heap.size) :
    ∃ a' c' w', (Builtin.append_ #[22, 22] 22 #[v, .slice a m c]).run Try.prog w = .ok (.slice a' (n + m) c') w' ∧
      w'.ownsRow base 5 1 (.slice a' (n + m) c') (n + m) ((l ++ l').map (Value.int .u8)) ∧ w.grownBy w' v.ownBlock := by
  obtain ⟨i0, hi, hz0, hz1, hz2⟩ := info_parts Try.info_u8
  suffices h : ∃ v' w', (Builtin.append_ #[22, 22] 22 #[v, .slice a m c]).run Try.prog w = .ok v' w' ∧
      w'.ownsRow base 5 1 v' (n + m) ((l ++ l').map (Value.int .u8)) ∧ w.grownBy w' v.ownBlock by
    obtain ⟨v', w', hr, ho, hg⟩ := h
    obtain ⟨a', c', rfl⟩ : ∃ a' c', v' = .slice a' (n + m) c' := by
      rcases ho.2 with ⟨h1, h2⟩ | ⟨g, cap, cur, h1, _⟩
      · exact ⟨none, 0, by rw [h1, h2]⟩
      · exact ⟨_, _, h1⟩
    exact ⟨a', c', w', hr, ho, hg⟩
  cases a with
  | none =>
    have hc := hs.none_ rfl
    subst hc
    obtain rfl : m = 0 := by have := hs.le; omega
    obtain rfl : l' = [] := List.eq_nil_of_length_eq_zero hs.len
    exact ⟨v, w, run_append_owned_none w base 22 _ 5 i0 1 Try.underlying22 hi v n _ hown, by simpa using hown, World.grownBy.refl w _⟩
  | some ad =>
    obtain ⟨v', w', hr, ho, hg, _⟩ := run_append_own (P := Try.prog) w base 22 22 5 i0 _ 1 1 Try.underlying22 hi hz0 hz1 hz2 rfl (by decide) v n _ hown ad m c (l'.map (Value.int .u8))
      (by simpa using hs.len) hs.news (oneCell_u8 _) (by unfold maxLen; omega) (by omega) hbase
    exact ⟨v', w', hr, by simpa using ho, hg⟩

/-- append(v, s...), v a row of the call's own with room -/
theorem app_spare {w : World} {base : Nat} {a0 : Option Addr} {n cap : Nat} {l : List Int} (hown : w.ownsRow base 5 1 (.slice a0 n cap) n (l.map (Value.int .u8)))
    {a : Option Addr} {m c : Nat} {l' : List Int} (hs : BS w a m c l') (hb : n + m ≤ cap) :
    ∃ w', (Builtin.append_ #[22, 22] 22 #[.slice a0 n cap, .slice a m c]).run Try.prog w = .ok (.slice a0 (n + m) cap) w' ∧
      w'.ownsRow base 5 1 (.slice a0 (n + m) cap) (n + m) ((l ++ l').map (Value.int .u8)) ∧ w.grownBy w' (Value.slice a0 n cap).ownBlock := by
  obtain ⟨i0, hi, hz0, hz1, hz2⟩ := info_parts Try.info_u8
  cases a with
  | none =>
    have hc := hs.none_ rfl
    subst hc
    obtain rfl : m = 0 := by have := hs.le; omega
    obtain rfl : l' = [] := List.eq_nil_of_length_eq_zero hs.len
    exact ⟨w, run_append_owned_none w base 22 _ 5 i0 1 Try.underlying22 hi _ n _ hown, by simpa using hown, World.grownBy.refl w _⟩
  | some ad =>
    have hl : (l'.map (Value.int .u8)).length = m * 1 := by simpa using hs.len
    rcases hown.2 with ⟨hv, hn⟩ | ⟨g, cap', cur, hv, _⟩
    · simp at hv
      obtain ⟨rfl, rfl, rfl⟩ := hv
      obtain rfl : m = 0 := by omega
      obtain rfl : l' = [] := List.eq_nil_of_length_eq_zero hs.len
      refine ⟨w, ?_, by simpa using hown, World.grownBy.refl w _⟩
      have hf := run_firstCells_some (P := Try.prog) w i0.size 0 ad 0 c [] (by simp) (by simp)
      simp [Builtin.append_, run_underlying Try.underlying22, sizeOf, typeInfo, hi, Builtin.lenOf, hf]
    · simp at hv
      obtain ⟨rfl, rfl⟩ := hv
      obtain ⟨w', hr, ho, hg⟩ := run_append_own_spare (P := Try.prog) w base 22 22 5 i0 1 Try.underlying22 hi hz1 g n cap _ hown ad m c (l'.map (Value.int .u8)) hl hs.news (oneCell_u8 _) hb
      exact ⟨w', hr, by simpa using ho, hg⟩
end Go.Proofs.Ytmpmaljkmfgagab
/-
  Cuts of slices of bytes, each as one equation for the walk; what a cut reads as. A row of the call's own over calls that make memory.
-/
namespace Go.Proofs.Ytmpmaljkmfgagab
open Go.RowKit

/-- where a slice lies that was cut at k -/
def cutA (a : Option Addr) (c k : Nat) : Option Addr := if c = k then a else a.map (·.add k)

theorem size_run_u8 (w : World) : (Go.sizeOf 5).run Try.prog w = .ok 1 w := by
  obtain ⟨i0, hi, hz0, hz1, hz2⟩ := info_parts Try.info_u8
  simp [Go.sizeOf, typeInfo, hi, hz1]

section
variable (a : Option Addr) (n c : Nat) (W : World)
theorem run_cut_l (k : Nat) (hk : k ≤ n) : (Instr.slice 22 (.slice a n c) (some (.int .i64 (k : Int))) none none).run Try.prog W = .ok (.slice (cutA a c k) (n - k) (c - k)) W := by
  have ht : Try.prog.underlying 22 = some (.slice (Try.prog.elem 22)) := by simp [Program.elem, Try.underlying22]
  have he : Try.prog.elem 22 = 5 := by simp [Program.elem, Try.underlying22]
  rw [run_slice_l W 22 _ _ _ ht .i64 _ (by omega) (by omega), he, size_run_u8]
  simp [Result.andThen, sliced, cutA]
theorem run_cut_lh (k h : Nat) (hk : k ≤ h) (hh : h ≤ c) : (Instr.slice 22 (.slice a n c) (some (.int .i64 (k : Int))) (some (.int .i64 (h : Int))) none).run Try.prog W = .ok (.slice (cutA a c k) (h - k) (c - k)) W := by
  have ht : Try.prog.underlying 22 = some (.slice (Try.prog.elem 22)) := by simp [Program.elem, Try.underlying22]
  have he : Try.prog.elem 22 = 5 := by simp [Program.elem, Try.underlying22]
  rw [run_slice_lh W 22 _ _ _ ht .i64 .i64 _ _ (by omega) (by omega) (by omega), he, size_run_u8]
  simp [Result.andThen, sliced, cutA]
theorem run_cut_h (h : Nat) (hh : h ≤ c) : (Instr.slice 22 (.slice a n c) none (some (.int .i64 (h : Int))) none).run Try.prog W = .ok (.slice a h c) W := by
  have ht : Try.prog.underlying 22 = some (.slice (Try.prog.elem 22)) := by simp [Program.elem, Try.underlying22]
  have he : Try.prog.elem 22 = 5 := by simp [Program.elem, Try.underlying22]
  rw [run_slice_h W 22 _ _ _ ht .i64 _ (by omega) (by omega), he, size_run_u8]
  cases a <;> simp [Result.andThen, sliced, Addr.add]
end

section
variable {w : World} {a : Option Addr} {n c : Nat} {l : List Int}
theorem BS.cut (h : BS w a n c l) (k : Nat) (hk : k ≤ n) : BS w (cutA a c k) (n - k) (c - k) (l.drop k) := by
  have h1 := h.len
  have h2 := h.le
  have h3 := h.max
  refine ⟨by simp; omega, by omega, by omega, fun x hx => h.bytes x (List.mem_of_mem_drop hx), fun hp => ?_, ?_⟩
  · obtain ⟨b, off, rfl, hc⟩ := h.cells (by omega)
    refine ⟨b, off + k, by unfold cutA; rw [if_neg (by omega), Option.map_some, addr_add], fun i hi => ?_⟩
    rw [Nat.add_assoc, hc (k + i) (by omega), List.getElem?_drop]
  · intro he
    have : a = none := by
      unfold cutA at he
      split at he
      · exact he
      · simpa using he
    have := h.none_ this
    omega
theorem BS.head (h : BS w a n c l) (k : Nat) (hk : k ≤ n) : BS w a k c (l.take k) := by
  have h1 := h.len
  have h2 := h.le
  refine ⟨by simp; omega, by omega, h.max, fun x hx => h.bytes x (List.mem_of_mem_take hx), fun hp => ?_, h.none_⟩
  obtain ⟨b, off, rfl, hc⟩ := h.cells (by omega)
  exact ⟨b, off, rfl, fun i hi => by rw [hc i (by omega), List.getElem?_take_of_lt hi]⟩
theorem BS.mid (h : BS w a n c l) (k m : Nat) (hk : k ≤ m) (hm : m ≤ n) : BS w (cutA a c k) (m - k) (c - k) ((l.drop k).take (m - k)) :=
  (h.cut k (by omega)).head (m - k) (by omega)
end

/-- a row of the call's own stays over a call that makes memory -/
theorem own_later {w w' : World} {base e n : Nat} {v : Value} {xs : List Value} (h : w.ownsRow base e 1 v n xs) (hb : Below w.heap.size w w') : w'.ownsRow base e 1 v n xs := by
  refine ⟨h.1, ?_⟩
  rcases h.2 with h2 | ⟨g, cap, cur, h2, h3, h4, h5⟩
  · exact .inl h2
  · refine .inr ⟨g, cap, cur, h2, h3, ?_, h5⟩
    rw [hb.block g ?_]
    · exact h4
    · rcases Nat.lt_or_ge g w.heap.size with hlt | hge
      · exact hlt
      · rw [Array.getElem?_eq_none hge] at h4; cases h4
theorem own_slice {w : World} {base e n : Nat} {v : Value} {xs : List Value} (h : w.ownsRow base e 1 v n xs) : ∃ a c, v = .slice a n c := by
  rcases h.2 with ⟨h1, h2⟩ | ⟨g, cap, cur, h1, _⟩
  · exact ⟨none, 0, by rw [h1, h2]⟩
  · exact ⟨_, _, h1⟩
/-- a call that only makes memory, behind one that has turned nothing old -/
theorem below_then {w w1 w2 : World} (h : Below w.heap.size w w1) (h2 : Below w1.heap.size w1 w2) : Below w.heap.size w w2 := h.trans (h2.mono h.size)
theorem BS.cellsAt {w : World} {x : Addr} {n c : Nat} {l : List Int} (h : BS w (some x) n c l) : ∀ i, i < n → w.cell? (x.add i) = some (.int .u8 (l.getD i 0)) := by
  intro i hi
  obtain ⟨b, off, e, hc⟩ := h.cells (by omega)
  cases e
  rw [addr_add, hc i hi, List.getD_eq_getElem?_getD]
theorem BS.lt256 {w : World} {a : Option Addr} {n c : Nat} {l : List Int} (h : BS w a n c l) : ∀ x ∈ l, 0 ≤ x ∧ x < 256 := fun x hx => by
  have := h.bytes x hx
  omega
end Go.Proofs.Ytmpmaljkmfgagab
/-
  Numbers that an int can be.
-/
namespace Go.Proofs.Ytmpmaljkmfgagab
open Go.RowKit

/-- numbers that an int can be -/
def I64 (x : Int) : Prop := -9223372036854775808 ≤ x ∧ x ≤ 9223372036854775807
theorem I64.of_wf {x : Int} (h : (Lit.int .i64 x).wf = true) : I64 x := by
  have h1 : IntKind.i64.min = -9223372036854775808 := rfl
  have h2 : IntKind.i64.max = 9223372036854775807 := rfl
  simp only [Lit.wf, Bool.and_eq_true, decide_eq_true_eq] at h
  unfold I64
  omega
end Go.Proofs.Ytmpmaljkmfgagab
/-
  A slice of steps that reads as a list of them: nil or not, wherever it lies; how an argument is opened to it.
-/
namespace Go.Proofs.Ytmpmaljkmfgagab
open Go.RowKit

/-- a step: Len bytes of the old image from At on, or Data -/
structure OpR where
  at_ : Int
  len : Int
  data : List Int
instance : Inhabited OpR := ⟨⟨0, 0, []⟩⟩
theorem OpR.eq_iff (a b : OpR) : a = b ↔ a.at_ = b.at_ ∧ a.len = b.len ∧ a.data = b.data := by
  obtain ⟨a1, a2, a3⟩ := a
  obtain ⟨b1, b2, b3⟩ := b
  simp
instance : DecidableEq OpR := fun a b => decidable_of_iff _ (OpR.eq_iff a b).symm

/-- the three cells of a step -/
def OpAt (w : World) (b o : Nat) (r : OpR) : Prop :=
  ∃ a n c, w.cell? ⟨b, o, none⟩ = some (.int .i64 r.at_) ∧ w.cell? ⟨b, o + 1, none⟩ = some (.int .i64 r.len) ∧ w.cell? ⟨b, o + 2, none⟩ = some (.slice a n c) ∧ BS w a n c r.data ∧ I64 r.at_ ∧ I64 r.len
theorem OpAt.keep {w w' : World} {b o : Nat} {r : OpR} (h : OpAt w b o r) (hk : ∀ p v, w.cell? p = some v → w'.cell? p = some v) : OpAt w' b o r := by
  obtain ⟨a, n, c, h1, h2, h3, h4, h5⟩ := h
  exact ⟨a, n, c, hk _ _ h1, hk _ _ h2, hk _ _ h3, h4.keep hk, h5⟩
/-- a slice of steps that reads as a list -/
structure OS (w : World) (a : Option Addr) (n c : Nat) (l : List OpR) : Prop where
  len : l.length = n
  le : n ≤ c
  max : c ≤ 9223372036854775807
  cells : 0 < n → ∃ b off, a = some ⟨b, off, none⟩ ∧ ∀ i, i < n → OpAt w b (off + i * 3) (l.getD i default)
  none_ : a = none → c = 0
section
variable {w w' : World} {a : Option Addr} {n c : Nat} {l : List OpR}
theorem OS.keep (h : OS w a n c l) (hk : ∀ p v, w.cell? p = some v → w'.cell? p = some v) : OS w' a n c l :=
  ⟨h.len, h.le, h.max, fun hp => by
    obtain ⟨b, off, e, hc⟩ := h.cells hp
    exact ⟨b, off, e, fun i hi => (hc i hi).keep hk⟩, h.none_⟩
theorem OS.later (h : OS w a n c l) (hb : Below w.heap.size w w') : OS w' a n c l := h.keep (fun _ _ hc => cell_later hb hc)
theorem OS.drewN (h : OS w a n c l) (m : Nat) : OS (w.drewN m) a n c l := h.keep (fun _ _ h => h)
theorem OS.nil_ (w : World) : OS w none 0 0 [] := ⟨rfl, by omega, by omega, fun h => absurd h (by omega), fun _ => rfl⟩
end

theorem list_of {α : Type} (d : α) (p : Nat → α → Prop) : ∀ n, (∀ i, i < n → ∃ r, p i r) → ∃ l : List α, l.length = n ∧ ∀ i, i < n → p i (l.getD i d)
  | 0, _ => ⟨[], rfl, fun i hi => absurd hi (by omega)⟩
  | n + 1, h => by
    obtain ⟨l, hl, hp⟩ := list_of d p n (fun i hi => h i (by omega))
    obtain ⟨r, hr⟩ := h n (by omega)
    refine ⟨l ++ [r], by simp [hl], fun i hi => ?_⟩
    rcases Nat.lt_or_ge i n with hlt | hge
    · have := hp i hlt
      simpa [List.getD_eq_getElem?_getD, List.getElem?_append_left (show i < l.length by omega)] using this
    · obtain rfl : i = n := by omega
      simpa [List.getD_eq_getElem?_getD, ← hl] using hr

section
variable {H : Type} {enc : TypeId × Value → H} {w : World} {sp : Nat → Bool} {held : Bool}
/-- an argument of bytes, opened -/
theorem open_bs {fuel : Nat} {v : Value} {x : DataW H × List MemPlace} (h : DataW.trod enc Try.prog w 0 sp held fuel 22 [v] = some x) :
    ∃ a n c l, v = .slice a n c ∧ BS w a n c l := by
  rcases Go.ChangeShapes.open_ints Try.underlying22 Try.underlying5 (by kernel_rfl) h with ⟨hcs, _⟩ | ⟨a, len, cap, zs, hcs, _, hl, hm, hz, _, hcell, hwz⟩
  · simp at hcs
    subst hcs
    exact ⟨none, 0, 0, [], rfl, BS.nil_ w⟩
  · simp at hcs
    subst hcs
    have hlz : len ≤ zs.length := by rw [hz]; split <;> omega
    refine ⟨some a, len, cap, zs.take len, rfl, ?_, hl, by unfold maxLen at hm; omega, ?_, ?_, fun h => by cases h⟩
    · simp; omega
    · intro y hy
      have := hwz y (List.mem_of_mem_take hy)
      have h1 : IntKind.u8.min = 0 := rfl
      have h2 : IntKind.u8.max = 255 := rfl
      simp only [Lit.wf, Bool.and_eq_true, decide_eq_true_eq] at this
      omega
    · intro hp
      obtain ⟨b, off, spot⟩ := a
      have h0 := hcell 0 (by omega)
      have hs : spot = none := by simpa [Addr.add] using World.cell?_spot h0
      subst hs
      refine ⟨b, off, rfl, fun i hi => ?_⟩
      have := hcell i (by omega)
      rw [addr_add] at this
      rw [this, List.getElem?_take_of_lt hi, List.getD_eq_getElem?_getD]
set_option maxRecDepth 100000 in
/-- an argument of steps, opened -/
theorem open_os {fuel : Nat} {v : Value} {x : DataW H × List MemPlace} (h : DataW.trod enc Try.prog w 0 sp held fuel 23 [v] = some x) :
    ∃ a n c l, v = .slice a n c ∧ OS w a n c l := by
  have hC : Try.prog.cellsOf 36 = 3 := by kernel_rfl
  have c3 : Try.prog.cellsOf 3 = 1 := by kernel_rfl
  have cb : Try.prog.cellsOf 22 = 1 := by kernel_rfl
  rcases Deep.open_slice Try.underlying23 h with ⟨hcs, _⟩ | ⟨a, len, cap, m, k, D, Pl, hcs, _, hl, hm, hmm, _, hi⟩
  · simp at hcs
    subst hcs
    exact ⟨none, 0, 0, [], rfl, OS.nil_ w⟩
  · simp at hcs
    subst hcs
    have hlm : len ≤ m := by rw [hmm]; split <;> omega
    rw [hC] at hi
    have each : ∀ i, i < len → ∃ r : OpR, ∃ va vn vc, w.cell? (a.add (i * 3)) = some (.int .i64 r.at_) ∧ w.cell? (a.add (i * 3 + 1)) = some (.int .i64 r.len) ∧ w.cell? (a.add (i * 3 + 2)) = some (.slice va vn vc) ∧ BS w va vn vc r.data ∧ I64 r.at_ ∧ I64 r.len := by
      intro i hlt
      obtain ⟨cs, hcs, htr⟩ := hi i (by omega)
      obtain ⟨_, hcl, hat⟩ := World.cells?_some hcs
      obtain ⟨y0, y1, y2, q, _, _, t0, t1, t2⟩ := Deep.trod_struct3 Try.underlying36 htr
      match cs, hcl with
      | [u0, u1, u2], _ =>
        simp only [c3, cb, List.drop_zero, List.drop_succ_cons, List.take_succ_cons, List.take_zero] at t0 t1 t2
        obtain ⟨n0, e0, _, w0⟩ := DataW.trod_int Try.underlying3 t0
        obtain ⟨n1, e1, _, w1⟩ := DataW.trod_int Try.underlying3 t1
        simp at e0 e1
        subst e0 e1
        obtain ⟨va, vn, vc, dl, rfl, hbs⟩ := open_bs t2
        have g0 := hat 0 (by omega)
        have g1 := hat 1 (by omega)
        have g2 := hat 2 (by omega)
        rw [Deep.add_add] at g0 g1 g2
        exact ⟨⟨n0, n1, dl⟩, va, vn, vc, g0, g1, g2, hbs, I64.of_wf w0, I64.of_wf w1⟩
    obtain ⟨l, hll, hp⟩ := list_of default _ len each
    refine ⟨some a, len, cap, l, rfl, hll, hl, by unfold maxLen at hm; omega, ?_, fun h => by cases h⟩
    intro hpos
    obtain ⟨b, off, spot⟩ := a
    obtain ⟨_, _, _, h0, _⟩ := hp 0 hpos
    have hs : spot = none := by simpa [Addr.add] using World.cell?_spot h0
    subst hs
    refine ⟨b, off, rfl, fun i hi => ?_⟩
    obtain ⟨va, vn, vc, q0, q1, q2, q3⟩ := hp i hi
    rw [addr_add] at q0 q1 q2
    exact ⟨va, vn, vc, q0, q1, q2, q3⟩
end
end Go.Proofs.Ytmpmaljkmfgagab
/-
  A chunk, as plain data.
-/
namespace Go.Proofs.Ytmpmaljkmfgagab

/-- a chunk -/
structure ChR where
  fr : Int
  to_ : Int
  n : Int
  of_ : Int
  data : List Int
instance : Inhabited ChR := ⟨⟨0, 0, 0, 0, []⟩⟩
theorem ChR.eq_iff (a b : ChR) : a = b ↔ a.fr = b.fr ∧ a.to_ = b.to_ ∧ a.n = b.n ∧ a.of_ = b.of_ ∧ a.data = b.data := by
  obtain ⟨a1, a2, a3, a4, a5⟩ := a
  obtain ⟨b1, b2, b3, b4, b5⟩ := b
  simp
instance : DecidableEq ChR := fun a b => decidable_of_iff _ (ChR.eq_iff a b).symm
/-- its numbers are ints -/
def ChR.I (r : ChR) : Prop := I64 r.fr ∧ I64 r.to_ ∧ I64 r.n ∧ I64 r.of_
end Go.Proofs.Ytmpmaljkmfgagab
/-
  Chunks: one as a value, a slice of them that reads as a list; how arguments are opened to them.
-/
namespace Go.Proofs.Ytmpmaljkmfgagab
open Go.RowKit

/-- the five cells of a chunk -/
def ChAt (w : World) (b o : Nat) (r : ChR) : Prop :=
  ∃ a m c, w.cell? ⟨b, o, none⟩ = some (.int .i64 r.fr) ∧ w.cell? ⟨b, o + 1, none⟩ = some (.int .i64 r.to_) ∧ w.cell? ⟨b, o + 2, none⟩ = some (.int .i64 r.n) ∧ w.cell? ⟨b, o + 3, none⟩ = some (.int .i64 r.of_) ∧ w.cell? ⟨b, o + 4, none⟩ = some (.slice a m c) ∧ BS w a m c r.data ∧ r.I
theorem ChAt.keep {w w' : World} {b o : Nat} {r : ChR} (h : ChAt w b o r) (hk : ∀ p v, w.cell? p = some v → w'.cell? p = some v) : ChAt w' b o r := by
  obtain ⟨a, m, c, h1, h2, h3, h4, h5, h6, h7⟩ := h
  exact ⟨a, m, c, hk _ _ h1, hk _ _ h2, hk _ _ h3, hk _ _ h4, hk _ _ h5, h6.keep hk, h7⟩
/-- a slice of chunks that reads as a list -/
structure CS (w : World) (a : Option Addr) (n c : Nat) (l : List ChR) : Prop where
  len : l.length = n
  le : n ≤ c
  max : c ≤ 9223372036854775807
  cells : 0 < n → ∃ b off, a = some ⟨b, off, none⟩ ∧ ∀ i, i < n → ChAt w b (off + i * 5) (l.getD i default)
  none_ : a = none → c = 0
section
variable {w w' : World} {a : Option Addr} {n c : Nat} {l : List ChR}
theorem CS.keep (h : CS w a n c l) (hk : ∀ p v, w.cell? p = some v → w'.cell? p = some v) : CS w' a n c l :=
  ⟨h.len, h.le, h.max, fun hp => by
    obtain ⟨b, off, e, hc⟩ := h.cells hp
    exact ⟨b, off, e, fun i hi => (hc i hi).keep hk⟩, h.none_⟩
theorem CS.later (h : CS w a n c l) (hb : Below w.heap.size w w') : CS w' a n c l := h.keep (fun _ _ hc => cell_later hb hc)
theorem CS.drewN (h : CS w a n c l) (m : Nat) : CS (w.drewN m) a n c l := h.keep (fun _ _ h => h)
theorem CS.nil_ (w : World) : CS w none 0 0 [] := ⟨rfl, by omega, by omega, fun h => absurd h (by omega), fun _ => rfl⟩
end
/-- a value that reads as a chunk -/
def CV (w : World) (v : Value) (r : ChR) : Prop :=
  ∃ a m c, v = .agg #[.int .i64 r.fr, .int .i64 r.to_, .int .i64 r.n, .int .i64 r.of_, .slice a m c] ∧ BS w a m c r.data ∧ r.I
theorem CV.later {w w' : World} {v : Value} {r : ChR} (h : CV w v r) (hb : Below w.heap.size w w') : CV w' v r := by
  obtain ⟨a, m, c, h1, h2, h3⟩ := h
  exact ⟨a, m, c, h1, h2.later hb, h3⟩

section
variable {H : Type} {enc : TypeId × Value → H} {w : World} {sp : Nat → Bool} {held : Bool}
set_option maxRecDepth 100000 in
/-- the cells of a chunk, opened -/
theorem open_ch {fuel : Nat} {cs : List Value} {x : DataW H × List MemPlace} (hl : cs.length = 5) (h : DataW.trod enc Try.prog w 0 sp held fuel 69 cs = some x) :
    ∃ r a m c, cs = [.int .i64 r.fr, .int .i64 r.to_, .int .i64 r.n, .int .i64 r.of_, .slice a m c] ∧ BS w a m c r.data ∧ ChR.I r := by
  have c3 : Try.prog.cellsOf 3 = 1 := by kernel_rfl
  have cb : Try.prog.cellsOf 22 = 1 := by kernel_rfl
  obtain ⟨xs, n, _, _, _, hlen, hg⟩ := DataW.trod_struct Try.underlying69 h
  match cs, hl with
  | [u0, u1, u2, u3, u4], _ =>
    match xs, hlen with
    | [y0, y1, y2, y3, y4], _ =>
      have t0 : DataW.trod enc Try.prog w 0 sp held n 3 (([u0, u1, u2, u3, u4].drop 0).take (Try.prog.cellsOf 3)) = some y0 := hg 0 _ rfl
      have t1 : DataW.trod enc Try.prog w 0 sp held n 3 (([u0, u1, u2, u3, u4].drop 1).take (Try.prog.cellsOf 3)) = some y1 := hg 1 _ rfl
      have t2 : DataW.trod enc Try.prog w 0 sp held n 3 (([u0, u1, u2, u3, u4].drop 2).take (Try.prog.cellsOf 3)) = some y2 := hg 2 _ rfl
      have t3 : DataW.trod enc Try.prog w 0 sp held n 3 (([u0, u1, u2, u3, u4].drop 3).take (Try.prog.cellsOf 3)) = some y3 := hg 3 _ rfl
      have t4 : DataW.trod enc Try.prog w 0 sp held n 22 (([u0, u1, u2, u3, u4].drop 4).take (Try.prog.cellsOf 22)) = some y4 := hg 4 _ rfl
      rw [c3] at t0 t1 t2 t3
      rw [cb] at t4
      simp only [List.drop_zero, List.drop_succ_cons, List.take_succ_cons, List.take_zero] at t0 t1 t2 t3 t4
      obtain ⟨n0, e0, _, w0⟩ := DataW.trod_int Try.underlying3 t0
      obtain ⟨n1, e1, _, w1⟩ := DataW.trod_int Try.underlying3 t1
      obtain ⟨n2, e2, _, w2⟩ := DataW.trod_int Try.underlying3 t2
      obtain ⟨n3, e3, _, w3⟩ := DataW.trod_int Try.underlying3 t3
      simp only [List.cons.injEq, and_true] at e0 e1 e2 e3
      subst e0 e1 e2 e3
      obtain ⟨a, m, c, dl, rfl, ho⟩ := open_bs t4
      exact ⟨⟨n0, n1, n2, n3, dl⟩, a, m, c, rfl, ho, I64.of_wf w0, I64.of_wf w1, I64.of_wf w2, I64.of_wf w3⟩
set_option maxRecDepth 100000 in
/-- a chunk that is an argument, opened -/
theorem open_cv {r : Reach} {b0 : Nat} {v : Value} {d : DataW H} {ps : List MemPlace} (hv : Value.okWide Try.prog w r b0 69 v) (h : DataW.Trod enc Try.prog w 0 sp held 69 v d ps) : ∃ p, CV w v p := by
  have hC : Try.prog.cellsOf 69 = 5 := by kernel_rfl
  obtain ⟨⟨l⟩, rfl, hsz⟩ := WideShapes.okWide_struct Try.underlying69 hv
  obtain ⟨fuel, hf⟩ := h
  obtain ⟨p, a, m, c, hl, ho, hi⟩ := open_ch (hsz.trans hC) hf
  exact ⟨p, a, m, c, by rw [show l = _ from hl], ho, hi⟩
set_option maxRecDepth 100000 in
/-- an argument of chunks, opened -/
theorem open_cs {fuel : Nat} {v : Value} {x : DataW H × List MemPlace} (h : DataW.trod enc Try.prog w 0 sp held fuel 67 [v] = some x) :
    ∃ a n c l, v = .slice a n c ∧ CS w a n c l := by
  have hC : Try.prog.cellsOf 69 = 5 := by kernel_rfl
  rcases Deep.open_slice Try.underlying67 h with ⟨hcs, _⟩ | ⟨a, len, cap, m, k, D, Pl, hcs, _, hl, hm, hmm, _, hi⟩
  · simp at hcs
    subst hcs
    exact ⟨none, 0, 0, [], rfl, CS.nil_ w⟩
  · simp at hcs
    subst hcs
    have hlm : len ≤ m := by rw [hmm]; split <;> omega
    rw [hC] at hi
    have each : ∀ i, i < len → ∃ r : ChR, ∃ va vn vc, w.cell? (a.add (i * 5)) = some (.int .i64 r.fr) ∧ w.cell? (a.add (i * 5 + 1)) = some (.int .i64 r.to_) ∧ w.cell? (a.add (i * 5 + 2)) = some (.int .i64 r.n) ∧ w.cell? (a.add (i * 5 + 3)) = some (.int .i64 r.of_) ∧ w.cell? (a.add (i * 5 + 4)) = some (.slice va vn vc) ∧ BS w va vn vc r.data ∧ r.I := by
      intro i hlt
      obtain ⟨cs, hcs, htr⟩ := hi i (by omega)
      obtain ⟨_, hcl, hat⟩ := World.cells?_some hcs
      obtain ⟨r, va, vn, vc, rfl, hbs, hI⟩ := open_ch hcl htr
      have g0 := hat 0 (by simp)
      have g1 := hat 1 (by simp)
      have g2 := hat 2 (by simp)
      have g3 := hat 3 (by simp)
      have g4 := hat 4 (by simp)
      rw [Deep.add_add] at g0 g1 g2 g3 g4
      exact ⟨r, va, vn, vc, g0, g1, g2, g3, g4, hbs, hI⟩
    obtain ⟨l, hll, hp⟩ := list_of default _ len each
    refine ⟨some a, len, cap, l, rfl, hll, hl, by unfold maxLen at hm; omega, ?_, fun h => by cases h⟩
    intro hpos
    obtain ⟨b, off, spot⟩ := a
    obtain ⟨_, _, _, h0, _⟩ := hp 0 hpos
    have hs : spot = none := by simpa [Addr.add] using World.cell?_spot h0
    subst hs
    refine ⟨b, off, rfl, fun i hi => ?_⟩
    obtain ⟨va, vn, vc, q0, q1, q2, q3, q4, q5⟩ := hp i hi
    rw [addr_add] at q0 q1 q2 q3 q4
    exact ⟨va, vn, vc, q0, q1, q2, q3, q4, q5⟩
end
end Go.Proofs.Ytmpmaljkmfgagab
/-
  Plain data: what chunks must be.
-/
namespace Go.Proofs.Ytmpmaljkmfgagab.ChunkM

/-- numbers that may not be -/
def badNums (c : ChR) : Prop := ¬ (1 ≤ c.fr ∧ c.fr ≤ 30) ∨ ¬ (1 ≤ c.to_ ∧ c.to_ ≤ 30) ∨ ¬ (1 ≤ c.of_ ∧ c.of_ ≤ 52) ∨ c.n < 0 ∨ c.of_ ≤ c.n
instance (c : ChR) : Decidable (badNums c) := by unfold badNums; infer_instance
/-- how many bytes there must be -/
def least (c : ChR) : Int := if c.n = c.of_ - 1 then 1 else 16
/-- the document's Check -/
def check (c : ChR) : Int := if badNums c then 2 else if ¬ (least c ≤ (c.data.length : Int) ∧ (c.data.length : Int) ≤ 16) then 3 else 0
/-- of the same patch -/
def kin (a b : ChR) : Prop := a.fr = b.fr ∧ a.to_ = b.to_ ∧ a.of_ = b.of_
instance (a b : ChR) : Decidable (kin a b) := by unfold kin; infer_instance
/-- the document's List, from a chunk on: the first one of all, the number ahead -/
def chks (z : ChR) : List ChR → Int → Int
  | [], _ => 0
  | c :: t, last => if check c ≠ 0 then check c else if ¬ kin c z ∨ c.n ≤ last then 3 else chks z t c.n
/-- the document's List -/
def checks : List ChR → Int
  | [] => 0
  | c :: t => chks c (c :: t) (-1)
theorem chks_bad {z c : ChR} {t : List ChR} {last : Int} (h : check c ≠ 0) : chks z (c :: t) last = check c := by simp [chks, h]
theorem chks_form {z c : ChR} {t : List ChR} {last : Int} (h : check c = 0) (h2 : ¬ kin c z ∨ c.n ≤ last) : chks z (c :: t) last = 3 := by simp [chks, h, h2]
theorem chks_on {z c : ChR} {t : List ChR} {last : Int} (h : check c = 0) (h2 : kin c z) (h3 : ¬ c.n ≤ last) : chks z (c :: t) last = chks z t c.n := by simp [chks, h, h2, h3]
theorem check_last {c : ChR} (h : ¬ badNums c) (h2 : c.n = c.of_ - 1) : check c = if ¬ (1 ≤ (c.data.length : Int) ∧ (c.data.length : Int) ≤ 16) then 3 else 0 := by
  unfold check
  rw [if_neg h, show least c = 1 by unfold least; rw [if_pos h2]]
theorem check_mid {c : ChR} (h : ¬ badNums c) (h2 : ¬ c.n = c.of_ - 1) : check c = if ¬ (16 ≤ (c.data.length : Int) ∧ (c.data.length : Int) ≤ 16) then 3 else 0 := by
  unfold check
  rw [if_neg h, show least c = 16 by unfold least; rw [if_neg h2]]
theorem check_good {c : ChR} (h : check c = 0) : (1 ≤ c.fr ∧ c.fr ≤ 30) ∧ (1 ≤ c.to_ ∧ c.to_ ≤ 30) ∧ (1 ≤ c.of_ ∧ c.of_ ≤ 52) ∧ (0 ≤ c.n ∧ c.n < c.of_) ∧ 1 ≤ c.data.length ∧ c.data.length ≤ 16 ∧ (c.n ≠ c.of_ - 1 → c.data.length = 16) := by
  unfold check at h
  by_cases h1 : badNums c
  · rw [if_pos h1] at h; omega
  · rw [if_neg h1] at h
    by_cases h2 : ¬ (least c ≤ (c.data.length : Int) ∧ (c.data.length : Int) ≤ 16)
    · rw [if_pos h2] at h; omega
    · unfold badNums at h1
      unfold least at h2
      by_cases h3 : c.n = c.of_ - 1
      · rw [if_pos h3] at h2; omega
      · rw [if_neg h3] at h2; omega
end Go.Proofs.Ytmpmaljkmfgagab.ChunkM
/-
  A patch that is handed over as a value; how an argument is opened to it.
-/
namespace Go.Proofs.Ytmpmaljkmfgagab
open Go.RowKit

/-- a patch -/
structure PatR where
  from_ : Int
  to_ : Int
  old : Int
  new : Int
  size : Int
  ops : List OpR
instance : Inhabited PatR := ⟨⟨0, 0, 0, 0, 0, []⟩⟩
/-- a value that reads as a patch -/
def PV (w : World) (v : Value) (p : PatR) : Prop :=
  ∃ a n c, v = .agg #[.int .i64 p.from_, .int .i64 p.to_, .int .i64 p.old, .int .i64 p.new, .int .i64 p.size, .slice a n c] ∧ OS w a n c p.ops ∧ I64 p.from_ ∧ I64 p.to_ ∧ I64 p.old ∧ I64 p.new ∧ I64 p.size
theorem PV.later {w w' : World} {v : Value} {p : PatR} (h : PV w v p) (hb : Below w.heap.size w w') : PV w' v p := by
  obtain ⟨a, n, c, h1, h2, h3⟩ := h
  exact ⟨a, n, c, h1, h2.later hb, h3⟩
/-- the patch that is none -/
def noPat : PatR := ⟨0, 0, 0, 0, 0, []⟩

section
variable {H : Type} {enc : TypeId × Value → H} {w : World} {sp : Nat → Bool} {held : Bool}
set_option maxRecDepth 100000 in
theorem open_pv {r : Reach} {b0 : Nat} {v : Value} {d : DataW H} {ps : List MemPlace} (hv : Value.okWide Try.prog w r b0 41 v) (h : DataW.Trod enc Try.prog w 0 sp held 41 v d ps) : ∃ p, PV w v p := by
  have hC : Try.prog.cellsOf 41 = 6 := by kernel_rfl
  have c3 : Try.prog.cellsOf 3 = 1 := by kernel_rfl
  have cs : Try.prog.cellsOf 23 = 1 := by kernel_rfl
  obtain ⟨⟨l⟩, rfl, hsz⟩ := WideShapes.okWide_struct Try.underlying41 hv
  obtain ⟨fuel, hf⟩ := h
  obtain ⟨xs, n, _, _, _, hlen, hg⟩ := DataW.trod_struct Try.underlying41 hf
  match l, hsz.trans hC with
  | [u0, u1, u2, u3, u4, u5], _ =>
    match xs, hlen with
    | [y0, y1, y2, y3, y4, y5], _ =>
      have t0 : DataW.trod enc Try.prog w 0 sp held n 3 (([u0, u1, u2, u3, u4, u5].drop 0).take (Try.prog.cellsOf 3)) = some y0 := hg 0 _ rfl
      have t1 : DataW.trod enc Try.prog w 0 sp held n 3 (([u0, u1, u2, u3, u4, u5].drop 1).take (Try.prog.cellsOf 3)) = some y1 := hg 1 _ rfl
      have t2 : DataW.trod enc Try.prog w 0 sp held n 3 (([u0, u1, u2, u3, u4, u5].drop 2).take (Try.prog.cellsOf 3)) = some y2 := hg 2 _ rfl
      have t3 : DataW.trod enc Try.prog w 0 sp held n 3 (([u0, u1, u2, u3, u4, u5].drop 3).take (Try.prog.cellsOf 3)) = some y3 := hg 3 _ rfl
      have t4 : DataW.trod enc Try.prog w 0 sp held n 3 (([u0, u1, u2, u3, u4, u5].drop 4).take (Try.prog.cellsOf 3)) = some y4 := hg 4 _ rfl
      have t5 : DataW.trod enc Try.prog w 0 sp held n 23 (([u0, u1, u2, u3, u4, u5].drop 5).take (Try.prog.cellsOf 23)) = some y5 := hg 5 _ rfl
      rw [c3] at t0 t1 t2 t3 t4
      rw [cs] at t5
      simp only [List.drop_zero, List.drop_succ_cons, List.take_succ_cons, List.take_zero] at t0 t1 t2 t3 t4 t5
      obtain ⟨n0, e0, _, w0⟩ := DataW.trod_int Try.underlying3 t0
      obtain ⟨n1, e1, _, w1⟩ := DataW.trod_int Try.underlying3 t1
      obtain ⟨n2, e2, _, w2⟩ := DataW.trod_int Try.underlying3 t2
      obtain ⟨n3, e3, _, w3⟩ := DataW.trod_int Try.underlying3 t3
      obtain ⟨n4, e4, _, w4⟩ := DataW.trod_int Try.underlying3 t4
      simp only [List.cons.injEq, and_true] at e0 e1 e2 e3 e4
      subst e0 e1 e2 e3 e4
      obtain ⟨a, m, c, ops, rfl, ho⟩ := open_os t5
      exact ⟨⟨n0, n1, n2, n3, n4, ops⟩, a, m, c, rfl, ho, I64.of_wf w0, I64.of_wf w1, I64.of_wf w2, I64.of_wf w3, I64.of_wf w4⟩
end
end Go.Proofs.Ytmpmaljkmfgagab
/-
  Plain lists: what a list of steps must be, and what it makes.
-/
namespace Go.Proofs.Ytmpmaljkmfgagab.DeltaM

/-- how many bytes a step makes -/
def size (o : OpR) : Int := o.len + o.data.length
/-- a step that is not in its form -/
def badForm (o : OpR) : Prop := (o.len = 0 ∧ (o.at_ ≠ 0 ∨ ¬ (1 ≤ (o.data.length : Int) ∧ (o.data.length : Int) ≤ 64))) ∨ (o.len ≠ 0 ∧ (o.data.length : Int) ≠ 0)
/-- a step that takes what is not there -/
def badRange (old : Int) (o : OpR) : Prop := o.len < 0 ∨ o.at_ < 0 ∨ old < o.at_ + o.len
instance (o : OpR) : Decidable (badForm o) := by unfold badForm; infer_instance
instance (old : Int) (o : OpR) : Decidable (badRange old o) := by unfold badRange; infer_instance
/-- the check from a step on, so many bytes made -/
def chk (old size_ : Int) : List OpR → Int → Int
  | [], made => if made < size_ then 3 else 0
  | o :: t, made => if badForm o then 3 else if badRange old o then 2 else if size_ < made + size o then 1 else chk old size_ t (made + size o)
/-- the document's Check -/
def check (l : List OpR) (old size_ : Int) : Int :=
  if 40 < l.length ∨ ¬ (0 ≤ old ∧ old ≤ 64) ∨ ¬ (0 ≤ size_ ∧ size_ ≤ 64) then 1 else chk old size_ l 0

theorem chk_form {old s made : Int} {o : OpR} {t : List OpR} (h : badForm o) : chk old s (o :: t) made = 3 := by simp [chk, h]
theorem chk_range {old s made : Int} {o : OpR} {t : List OpR} (h : ¬ badForm o) (h2 : badRange old o) : chk old s (o :: t) made = 2 := by simp [chk, h, h2]
theorem chk_many {old s made : Int} {o : OpR} {t : List OpR} (h : ¬ badForm o) (h2 : ¬ badRange old o) (h3 : s < made + size o) : chk old s (o :: t) made = 1 := by simp [chk, h, h2, h3]
theorem chk_on {old s made : Int} {o : OpR} {t : List OpR} (h : ¬ badForm o) (h2 : ¬ badRange old o) (h3 : ¬ s < made + size o) : chk old s (o :: t) made = chk old s t (made + size o) := by simp [chk, h, h2, h3]
end Go.Proofs.Ytmpmaljkmfgagab.DeltaM
/-
  Plain lists: what a list of steps that passes the check makes.
-/
namespace Go.Proofs.Ytmpmaljkmfgagab.DeltaM

/-- the bytes that a step takes of the old image -/
def part (old : List Int) (o : OpR) : List Int := (old.drop o.at_.toNat).take o.len.toNat
/-- what the steps make -/
def makes (old : List Int) : List OpR → List Int
  | [] => []
  | o :: t => o.data ++ (part old o ++ makes old t)
theorem makes_append (old : List Int) : ∀ x y, makes old (x ++ y) = makes old x ++ makes old y
  | [], _ => rfl
  | o :: t, y => by simp [makes, makes_append old t y]
/-- all steps are in their form and within the old image -/
def Good (old : Int) (l : List OpR) : Prop := ∀ o ∈ l, ¬ badForm o ∧ ¬ badRange old o
def total : List OpR → Int
  | [] => 0
  | o :: t => size o + total t
theorem chk_zero {old s : Int} : ∀ {l : List OpR} {made : Int}, chk old s l made = 0 → made ≤ s → Good old l ∧ made + total l = s
  | [], made, h, hm => by
    unfold chk at h
    split at h
    · omega
    · exact ⟨fun o ho => by simp at ho, by unfold total; omega⟩
  | o :: t, made, h, hm => by
    by_cases h1 : badForm o
    · rw [chk_form h1] at h; omega
    · by_cases h2 : badRange old o
      · rw [chk_range h1 h2] at h; omega
      · by_cases h3 : s < made + size o
        · rw [chk_many h1 h2 h3] at h; omega
        · rw [chk_on h1 h2 h3] at h
          obtain ⟨g, e⟩ := chk_zero h (by omega)
          refine ⟨fun o' ho => ?_, by unfold total; omega⟩
          rcases List.mem_cons.1 ho with rfl | ho
          · exact ⟨h1, h2⟩
          · exact g o' ho
theorem good_len {old : Int} {o : OpR} (h : ¬ badRange old o) : 0 ≤ o.len ∧ 0 ≤ o.at_ ∧ o.at_ + o.len ≤ old := by unfold badRange at h; omega
theorem total_nonneg {old : Int} : ∀ {l : List OpR}, Good old l → 0 ≤ total l
  | [], _ => Int.le_refl _
  | o :: t, h => by
    have h1 := good_len (h o (by simp)).2
    have h2 := total_nonneg (l := t) (fun o' ho => h o' (by simp [ho]))
    unfold total size
    omega
/-- the other way: what is good and makes so many passes -/
theorem chk_pass {old s : Int} : ∀ {l : List OpR} {made : Int}, Good old l → made + total l = s → chk old s l made = 0
  | [], made, h, hm => by unfold total at hm; unfold chk; rw [if_neg (by omega)]
  | o :: t, made, h, hm => by
    have h1 := h o (by simp)
    have ht : Good old t := fun o' ho => h o' (by simp [ho])
    have h2 := total_nonneg ht
    unfold total at hm
    rw [chk_on h1.1 h1.2 (by omega)]
    exact chk_pass ht (by omega)
theorem check_zero {l : List OpR} {old s : Int} (h : check l old s = 0) : l.length ≤ 40 ∧ 0 ≤ old ∧ old ≤ 64 ∧ 0 ≤ s ∧ s ≤ 64 ∧ Good old l ∧ total l = s := by
  unfold check at h
  split at h
  · omega
  · obtain ⟨g, e⟩ := chk_zero h (by omega)
    refine ⟨by omega, by omega, by omega, by omega, by omega, g, by omega⟩
theorem check_pass {l : List OpR} {old s : Int} (h40 : l.length ≤ 40) (h1 : 0 ≤ old ∧ old ≤ 64) (h2 : s ≤ 64) (hg : Good old l) (ht : total l = s) : check l old s = 0 := by
  have := total_nonneg hg
  unfold check
  rw [if_neg (by omega)]
  exact chk_pass hg (by omega)
theorem part_length {old : List Int} {o : OpR} (h : ¬ badRange old.length o) : ((part old o).length : Int) = o.len := by
  have := good_len h
  unfold part
  rw [List.length_take, List.length_drop]
  omega
theorem makes_length {old : List Int} : ∀ {l : List OpR}, Good old.length l → ((makes old l).length : Int) = total l
  | [], _ => rfl
  | o :: t, h => by
    have h1 := part_length (h o (by simp)).2
    have h2 := makes_length (old := old) (l := t) (fun o' ho => h o' (by simp [ho]))
    unfold makes total size
    simp only [List.length_append]
    omega
/-- the document's Apply -/
def applied (old : List Int) (l : List OpR) (s : Int) : List Int := if check l old.length s = 0 then makes old l else []
theorem makes_bytes {old : List Int} (ho : ∀ v ∈ old, 0 ≤ v ∧ v ≤ 255) : ∀ {l : List OpR}, (∀ o ∈ l, ∀ v ∈ o.data, 0 ≤ v ∧ v ≤ 255) → ∀ v ∈ makes old l, 0 ≤ v ∧ v ≤ 255
  | [], _, v, hv => by simp [makes] at hv
  | o :: t, h, v, hv => by
    unfold makes at hv
    rcases List.mem_append.1 hv with hv | hv
    · exact h o (by simp) v hv
    · rcases List.mem_append.1 hv with hv | hv
      · exact ho v (List.mem_of_mem_drop (List.mem_of_mem_take hv))
      · exact makes_bytes ho (fun o' ho' => h o' (by simp [ho'])) v hv
end Go.Proofs.Ytmpmaljkmfgagab.DeltaM
/-
  Plain data: what a patch must be.
-/
namespace Go.Proofs.Ytmpmaljkmfgagab
open Go.RowKit

namespace PatM
/-- versions and sums that may not be -/
def badHead (p : PatR) : Prop := ¬ (1 ≤ p.from_ ∧ p.from_ ≤ 30) ∨ ¬ (1 ≤ p.to_ ∧ p.to_ ≤ 30) ∨ ¬ (0 ≤ p.old ∧ p.old ≤ 65535) ∨ ¬ (0 ≤ p.new ∧ p.new ≤ 65535)
instance (p : PatR) : Decidable (badHead p) := by unfold badHead; infer_instance
/-- the document's Check of a patch -/
def check (p : PatR) : Int := if badHead p then 2 else DeltaM.check p.ops 64 p.size
theorem eq_iff (a b : PatR) : a = b ↔ a.from_ = b.from_ ∧ a.to_ = b.to_ ∧ a.old = b.old ∧ a.new = b.new ∧ a.size = b.size ∧ a.ops = b.ops := by
  obtain ⟨a1, a2, a3, a4, a5, a6⟩ := a
  obtain ⟨b1, b2, b3, b4, b5, b6⟩ := b
  simp
instance : DecidableEq PatR := fun a b => decidable_of_iff _ (eq_iff a b).symm
end PatM
end Go.Proofs.Ytmpmaljkmfgagab
/-
  A list of steps that a call makes: a row of the call's own, each step's data in a row that nobody writes to any more; one more step appended.
-/
namespace Go.Proofs.Ytmpmaljkmfgagab
open Go.RowKit

set_option maxRecDepth 100000 in
theorem Try.info_op : (Try.prog.info? 36).map (fun i => (i.zero, i.size, i.bytes)) = some (some (.agg #[.int .i64 0, .int .i64 0, .slice none 0 0]), 3, 40) := by kernel_rfl

/-- a step as its three cells hold it -/
structure OpV where
  at_ : Int
  len : Int
  v : Value
instance : Inhabited OpV := ⟨⟨0, 0, .slice none 0 0⟩⟩
def cellsV : List OpV → List Value
  | [] => []
  | o :: t => .int .i64 o.at_ :: .int .i64 o.len :: o.v :: cellsV t
set_option maxRecDepth 100000 in
theorem cellsV_append : ∀ x y, cellsV (x ++ y) = cellsV x ++ cellsV y
  | [], _ => rfl
  | o :: t, y => by simp [cellsV, cellsV_append t y]
set_option maxRecDepth 100000 in
theorem cellsV_length : ∀ x, (cellsV x).length = x.length * 3
  | [] => rfl
  | o :: t => by simp [cellsV, cellsV_length t]; omega
set_option maxRecDepth 100000 in
theorem cellsV_get : ∀ (x : List OpV) (i : Nat), i < x.length → (cellsV x)[i * 3]? = some (.int .i64 (x.getD i default).at_) ∧ (cellsV x)[i * 3 + 1]? = some (.int .i64 (x.getD i default).len) ∧ (cellsV x)[i * 3 + 2]? = some (x.getD i default).v
  | [], i, h => by simp at h
  | o :: t, 0, _ => by simp [cellsV]
  | o :: t, i + 1, h => by
    have := cellsV_get t i (by simpa using h)
    simp only [cellsV, List.getD_cons_succ, show (i + 1) * 3 = i * 3 + 1 + 1 + 1 by omega, List.getElem?_cons_succ]
    exact this

set_option maxRecDepth 100000 in
/-- a slice of bytes stays where its block stays -/
theorem BS.keepBlk {w w' : World} {a : Option Addr} {n c : Nat} {l : List Int} (h : BS w a n c l) (hk : ∀ p, a = some p → w'.heap[p.block]? = w.heap[p.block]?) : BS w' a n c l :=
  ⟨h.len, h.le, h.max, h.bytes, fun hp => by
    obtain ⟨b, off, rfl, hc⟩ := h.cells hp
    have hb := hk _ rfl
    simp only at hb
    refine ⟨b, off, rfl, fun i hi => ?_⟩
    rw [← hc i hi]
    simp only [World.cell?, hb], h.none_⟩

/-- a step's cells read as a step; its data lie from 'base' on, in a block that is neither of the two -/
def ReadsV (W : World) (base : Nat) (x y : Option Nat) (o : OpV) (r : OpR) : Prop :=
  o.at_ = r.at_ ∧ o.len = r.len ∧ I64 r.at_ ∧ I64 r.len ∧ ∃ a n c, o.v = .slice a n c ∧ BS W a n c r.data ∧ ∀ p, a = some p → base ≤ p.block ∧ p.block < W.heap.size ∧ some p.block ≠ x ∧ some p.block ≠ y
set_option maxRecDepth 100000 in
theorem ReadsV.keep {W W' : World} {base : Nat} {x y x' y' : Option Nat} {o : OpV} {r : OpR} (h : ReadsV W base x y o r) (hs : W.heap.size ≤ W'.heap.size)
    (hk : ∀ k, base ≤ k → k < W.heap.size → some k ≠ x → some k ≠ y → W'.heap[k]? = W.heap[k]? ∧ some k ≠ x' ∧ some k ≠ y') : ReadsV W' base x' y' o r := by
  obtain ⟨h1, h2, h3, h4, a, n, c, h5, h6, h7⟩ := h
  refine ⟨h1, h2, h3, h4, a, n, c, h5, h6.keepBlk (fun p hp => ?_), fun p hp => ?_⟩
  · obtain ⟨q1, q2, q3, q4⟩ := h7 p hp
    exact (hk _ q1 q2 q3 q4).1
  · obtain ⟨q1, q2, q3, q4⟩ := h7 p hp
    exact ⟨q1, by omega, (hk _ q1 q2 q3 q4).2⟩

/-- what is made so far: 'vo' holds the steps 'out', in memory of the call's own from 'base' on; block 'ex' is another one's -/
def OutSt (W : World) (base : Nat) (ex : Option Nat) (vo : Value) (out : List OpR) : Prop :=
  (∃ vs : List OpV, vs.length = out.length ∧ W.ownsRow base 36 3 vo out.length (cellsV vs) ∧ ∀ i, i < out.length → ReadsV W base vo.ownBlock ex (vs.getD i default) (out.getD i default)) ∧
  (∀ g, ex = some g → vo.ownBlock ≠ some g ∧ g < W.heap.size)

set_option maxRecDepth 100000 in
theorem own_lt3 {w : World} {base e s n : Nat} {v : Value} {xs : List Value} (h : w.ownsRow base e s v n xs) {g : Nat} (hg : v.ownBlock = some g) : base ≤ g ∧ g < w.heap.size := by
  rcases h.2 with ⟨rfl, _⟩ | ⟨g', cap, cur, rfl, h3, h4, _⟩
  · simp [Value.ownBlock] at hg
  · simp [Value.ownBlock] at hg
    subst hg
    refine ⟨h3, ?_⟩
    rcases Nat.lt_or_ge g' w.heap.size with hlt | hge
    · exact hlt
    · rw [Array.getElem?_eq_none hge] at h4; cases h4
set_option maxRecDepth 100000 in
/-- a row of the call's own stays where its block stays -/
theorem own_keep {w w' : World} {base e s n : Nat} {v : Value} {xs : List Value} (h : w.ownsRow base e s v n xs) (hk : ∀ g, v.ownBlock = some g → w'.heap[g]? = w.heap[g]?) : w'.ownsRow base e s v n xs := by
  refine ⟨h.1, ?_⟩
  rcases h.2 with h2 | ⟨g, cap, cur, rfl, h3, h4, h5⟩
  · exact .inl h2
  · exact .inr ⟨g, cap, cur, rfl, h3, by rw [hk g rfl]; exact h4, h5⟩

set_option maxRecDepth 100000 in
theorem OutSt.start (W : World) (base : Nat) (ex : Option Nat) (h : ∀ g, ex = some g → g < W.heap.size) : OutSt W base ex (.slice none 0 0) [] :=
  ⟨⟨[], rfl, World.ownsRow_nil _ _ _ _, fun i hi => absurd hi (by simp)⟩, fun g hg => ⟨by simp [Value.ownBlock], h g hg⟩⟩
set_option maxRecDepth 100000 in
/-- over a step that leaves the blocks of the call's own, but 'ex' -/
theorem OutSt.keep {W W' : World} {base : Nat} {ex ex' : Option Nat} {vo : Value} {out : List OpR} (h : OutSt W base ex vo out) (hs : W.heap.size ≤ W'.heap.size)
    (hk : ∀ k, base ≤ k → k < W.heap.size → some k ≠ ex → W'.heap[k]? = W.heap[k]? ∧ some k ≠ ex') (hx : ∀ g, ex' = some g → g < W'.heap.size) : OutSt W' base ex' vo out := by
  obtain ⟨⟨vs, h1, h2, h3⟩, h4⟩ := h
  have hv : ∀ g, vo.ownBlock = some g → W'.heap[g]? = W.heap[g]? ∧ some g ≠ ex' := by
    intro g hg
    obtain ⟨p1, p2⟩ := own_lt3 h2 hg
    exact hk g p1 p2 (fun e => (h4 g e.symm).1 hg)
  refine ⟨⟨vs, h1, own_keep h2 (fun g hg => (hv g hg).1), fun i hi => (h3 i hi).keep hs (fun k k1 k2 k3 k4 => ?_)⟩, fun g hg => ⟨fun e => (hv g e).2 hg.symm, hx g hg⟩⟩
  exact ⟨(hk k k1 k2 k4).1, k3, (hk k k1 k2 k4).2⟩
set_option maxRecDepth 100000 in
theorem OutSt.later {W W' : World} {base : Nat} {ex : Option Nat} {vo : Value} {out : List OpR} (h : OutSt W base ex vo out) (hb : Below W.heap.size W W') : OutSt W' base ex vo out :=
  h.keep hb.size (fun k _ k2 k3 => ⟨hb.block k k2, k3⟩) (fun g hg => by have := (h.2 g hg).2; have := hb.size; omega)

set_option maxRecDepth 100000 in
theorem one_op {W : World} {B : Nat} {A L : Int} {v : Value} (hB : W.heap[B]? = some (.cells #[.int .i64 A, .int .i64 L, v] 36 (0, 0))) :
    ∀ j u, (cellsV [⟨A, L, v⟩])[j]? = some u → W.cell? ((⟨B, 0, none⟩ : Addr).add j) = some u := by
  have := World.news_of_block hB
  simpa [cellsV] using this

set_option maxRecDepth 100000 in
/-- one more step -/
theorem OutSt.app {W : World} {base : Nat} {ex : Option Nat} {vo : Value} {out : List OpR} (h : OutSt W base ex vo out) {B : Nat} {A L : Int} {a : Option Addr} {n c : Nat} {d : List Int}
    (hB : W.heap[B]? = some (.cells #[.int .i64 A, .int .i64 L, .slice a n c] 36 (0, 0))) (hd : BS W a n c d) (hap : ∀ p, a = some p → base ≤ p.block ∧ p.block < W.heap.size ∧ some p.block ≠ vo.ownBlock ∧ some p.block ≠ ex)
    (hA : I64 A) (hL : I64 L) (hn : out.length ≤ 1000) (hbase : base ≤ W.heap.size) :
    ∃ g cap W5, (Builtin.append_ #[23, 23] 23 #[vo, .slice (some ⟨B, 0, none⟩) 1 1]).run Try.prog W = .ok (.slice (some ⟨g, 0, none⟩) (out.length + 1) cap) W5 ∧
      OutSt W5 base ex (.slice (some ⟨g, 0, none⟩) (out.length + 1) cap) (out ++ [⟨A, L, d⟩]) ∧ W.grownBy W5 vo.ownBlock ∧ (vo.ownBlock = some g ∨ g = W.heap.size) := by
  obtain ⟨i0, hi, hz0, hz1, hz2⟩ := info_parts Try.info_op
  obtain ⟨⟨vs, h1, h2, h3⟩, h4⟩ := h
  obtain ⟨g, cap, W5, hr, ho, hg, hlies, hlt⟩ := run_append_lies (P := Try.prog) W 23 23 base 36 i0 _ 3 40 Try.underlying23 hi hz0 hz1 hz2 rfl (by decide) vo out.length _ h2 ⟨B, 0, none⟩ 1 1 (cellsV [⟨A, L, .slice a n c⟩])
    rfl (one_op hB) (by intro u hu; simp [cellsV] at hu; rcases hu with rfl | rfl | rfl <;> rfl) (by omega) (by unfold maxLen; omega) (by omega) hbase W.heap.size rfl
  have key : ∀ k, base ≤ k → k < W.heap.size → some k ≠ vo.ownBlock → some k ≠ ex → W5.heap[k]? = W.heap[k]? ∧ some k ≠ (Value.slice (some ⟨g, 0, none⟩) (out.length + 1) cap).ownBlock ∧ some k ≠ ex := by
    intro k k1 k2 k3 k4
    refine ⟨hg.block k k2 k3, ?_, k4⟩
    simp only [Value.ownBlock]
    intro e
    injection e with e
    subst e
    rcases hlies with hl | hl
    · exact k3 hl.symm
    · omega
  refine ⟨g, cap, W5, hr, ⟨⟨vs ++ [⟨A, L, .slice a n c⟩], by simp [h1], ?_, ?_⟩, ?_⟩, hg, hlies⟩
  · rw [cellsV_append, List.length_append]
    exact ho
  · intro i hi'
    rw [List.length_append] at hi'
    simp only [List.length_cons, List.length_nil] at hi'
    rcases Nat.lt_or_ge i out.length with hlt2 | hge
    · have e1 : (vs ++ [(⟨A, L, .slice a n c⟩ : OpV)]).getD i default = vs.getD i default := by simp [List.getD_eq_getElem?_getD, List.getElem?_append_left (show i < vs.length by omega)]
      have e2 : (out ++ [(⟨A, L, d⟩ : OpR)]).getD i default = out.getD i default := by simp [List.getD_eq_getElem?_getD, List.getElem?_append_left hlt2]
      rw [e1, e2]
      exact (h3 i hlt2).keep hg.size key
    · obtain rfl : i = out.length := by omega
      have e1 : (vs ++ [(⟨A, L, .slice a n c⟩ : OpV)]).getD out.length default = ⟨A, L, .slice a n c⟩ := by rw [← h1]; simp [List.getD_eq_getElem?_getD]
      have e2 : (out ++ [(⟨A, L, d⟩ : OpR)]).getD out.length default = ⟨A, L, d⟩ := by simp [List.getD_eq_getElem?_getD]
      rw [e1, e2]
      have : ReadsV W base vo.ownBlock ex ⟨A, L, .slice a n c⟩ ⟨A, L, d⟩ := ⟨rfl, rfl, hA, hL, a, n, c, rfl, hd, hap⟩
      exact this.keep hg.size key
  · intro g' hg'
    obtain ⟨q1, q2⟩ := h4 g' hg'
    refine ⟨?_, by have := hg.size; omega⟩
    simp only [Value.ownBlock]
    intro e
    injection e with e
    subst e
    rcases hlies with hl | hl
    · exact q1 hl
    · omega

set_option maxRecDepth 100000 in
/-- what is made reads as the list -/
theorem OutSt.os {W : World} {base : Nat} {ex : Option Nat} {vo : Value} {out : List OpR} (h : OutSt W base ex vo out) : ∃ a c, vo = .slice a out.length c ∧ OS W a out.length c out := by
  obtain ⟨⟨vs, h1, h2, h3⟩, -⟩ := h
  rcases h2.2 with ⟨rfl, h0⟩ | ⟨g, cap, cur, rfl, _, hcells, hle, hmx, hsz, htk⟩
  · obtain rfl : out = [] := List.eq_nil_of_length_eq_zero h0
    exact ⟨none, 0, rfl, OS.nil_ W⟩
  · refine ⟨_, cap, rfl, rfl, hle, by unfold maxLen at hmx; omega, fun hp => ⟨g, 0, rfl, fun i hi => ?_⟩, fun h => by cases h⟩
    have cell : ∀ j u, (cellsV vs)[j]? = some u → W.cell? ⟨g, j, none⟩ = some u := by
      intro j u hu
      have hj : j < (cellsV vs).length := by
        rcases Nat.lt_or_ge j (cellsV vs).length with q | q
        · exact q
        · rw [List.getElem?_eq_none q] at hu; cases hu
      rw [← htk, List.getElem?_take] at hu
      split at hu
      · simp only [World.cell?, hcells]
        simpa using hu
      · cases hu
    obtain ⟨g0, g1, g2⟩ := cellsV_get vs i (by omega)
    obtain ⟨r1, r2, r3, r4, a, n, c, r5, r6, _⟩ := h3 i hi
    refine ⟨a, n, c, ?_, ?_, ?_, r6, r3, r4⟩
    · rw [Nat.zero_add, cell _ _ g0, r1]
    · rw [Nat.zero_add, cell _ _ g1, r2]
    · rw [Nat.zero_add, cell _ _ g2, r5]

/-- a slice of steps that reads as a list in every later world that has the same blocks from 'lo' on: it lies there -/
def OSN (w : World) (lo : Nat) (a : Option Addr) (n c : Nat) (l : List OpR) : Prop :=
  ∀ w' : World, w.heap.size ≤ w'.heap.size → (∀ k, lo ≤ k → k < w.heap.size → w'.heap[k]? = w.heap[k]?) → OS w' a n c l
set_option maxRecDepth 100000 in
theorem OSN.os {w : World} {lo : Nat} {a : Option Addr} {n c : Nat} {l : List OpR} (h : OSN w lo a n c l) : OS w a n c l := h w (Nat.le_refl _) (fun _ _ _ => rfl)
set_option maxRecDepth 100000 in
theorem OSN.later {w w' : World} {lo : Nat} {a : Option Addr} {n c : Nat} {l : List OpR} (h : OSN w lo a n c l) (hb : Below w.heap.size w w') : OSN w' lo a n c l :=
  fun w2 h1 h2 => h w2 (Nat.le_trans hb.size h1) (fun k k1 k2 => (h2 k k1 (Nat.lt_of_lt_of_le k2 hb.size)).trans (hb.block k k2))
set_option maxRecDepth 100000 in
theorem OSN.mono {w : World} {lo lo' : Nat} {a : Option Addr} {n c : Nat} {l : List OpR} (h : OSN w lo a n c l) (hl : lo' ≤ lo) : OSN w lo' a n c l :=
  fun w2 h1 h2 => h w2 h1 (fun k k1 k2 => h2 k (Nat.le_trans hl k1) k2)
set_option maxRecDepth 100000 in
theorem OutSt.osn {W : World} {base : Nat} {ex : Option Nat} {a : Option Addr} {n c : Nat} {out : List OpR} (h : OutSt W base ex (.slice a n c) out) : OSN W base a n c out := by
  intro W' h1 h2
  have h3 : OutSt W' base none (.slice a n c) out := by
    obtain ⟨⟨vs, q1, q2, q3⟩, -⟩ := h
    exact ⟨⟨vs, q1, own_keep q2 (fun g hg => h2 g (own_lt3 q2 hg).1 (own_lt3 q2 hg).2), fun i hi => (q3 i hi).keep h1 (fun k k1 k2 k3 _ => ⟨h2 k k1 k2, k3, by simp⟩)⟩, fun g hg => by cases hg⟩
  obtain ⟨a', c', e, ho⟩ := h3.os
  simp only [Value.slice.injEq] at e
  obtain ⟨rfl, rfl, rfl⟩ := e
  exact ho
end Go.Proofs.Ytmpmaljkmfgagab
/-
  Plain lists: how many bytes two lists have alike in front, and the longest match, the first of several.
-/
namespace Go.Proofs.Ytmpmaljkmfgagab.MatchM

/-- how many bytes in front of both are the same -/
def ag : List Int → List Int → Nat
  | x :: xs, y :: ys => if x = y then ag xs ys + 1 else 0
  | _, _ => 0

theorem ag_nil_l (y : List Int) : ag [] y = 0 := by cases y <;> rfl
theorem ag_nil_r (x : List Int) : ag x [] = 0 := by cases x <;> rfl
theorem ag_le_l : ∀ x y : List Int, ag x y ≤ x.length
  | [], y => by simp [ag_nil_l]
  | x :: xs, [] => by simp [ag_nil_r]
  | x :: xs, y :: ys => by
    have := ag_le_l xs ys
    simp only [ag, List.length_cons]
    split <;> omega
theorem ag_le_r : ∀ x y : List Int, ag x y ≤ y.length
  | [], y => by simp [ag_nil_l]
  | x :: xs, [] => by simp [ag_nil_r]
  | x :: xs, y :: ys => by
    have := ag_le_r xs ys
    simp only [ag, List.length_cons]
    split <;> omega
theorem ag_self : ∀ x : List Int, ag x x = x.length
  | [] => rfl
  | x :: xs => by simp [ag, ag_self xs]
/-- n bytes alike, in the words of prefixes -/
theorem le_ag : ∀ (n : Nat) (x y : List Int), n ≤ ag x y ↔ (n ≤ y.length ∧ y.take n <+: x)
  | 0, x, y => by simp
  | n + 1, [], y => by cases y <;> simp [ag]
  | n + 1, x :: xs, [] => by simp [ag]
  | n + 1, x :: xs, y :: ys => by
    have := le_ag n xs ys
    simp only [ag, List.length_cons, List.take_succ_cons, List.cons_prefix_cons]
    split
    · rename_i e
      subst e
      constructor
      · intro h
        have := this.1 (by omega)
        exact ⟨by omega, rfl, this.2⟩
      · rintro ⟨h1, -, h2⟩
        have := this.2 ⟨by omega, h2⟩
        omega
    · rename_i e
      constructor
      · intro h; omega
      · rintro ⟨_, h, _⟩; exact absurd h.symm e
theorem ag_eq : ∀ (k : Nat) (x y : List Int), k ≤ x.length → k ≤ y.length → (∀ j, j < k → x[j]?.getD 0 = y[j]?.getD 0) → (k = x.length ∨ k = y.length ∨ x[k]?.getD 0 ≠ y[k]?.getD 0) → ag x y = k
  | 0, x, y, _, _, _, h => by
    cases x with
    | nil => simp [ag_nil_l]
    | cons x xs =>
      cases y with
      | nil => simp [ag_nil_r]
      | cons y ys =>
        simp at h
        simp [ag, h]
  | k + 1, [], y, h, _, _, _ => by simp at h
  | k + 1, x :: xs, [], _, h, _, _ => by simp at h
  | k + 1, x :: xs, y :: ys, h1, h2, he, h => by
    have e0 : x = y := by simpa using he 0 (by omega)
    have ih := ag_eq k xs ys (by simpa using h1) (by simpa using h2) (fun j hj => by simpa using he (j + 1) (by omega)) (by simpa using h)
    simp [ag, e0, ih]
theorem ag_take_le (m : Nat) : ∀ (x y : List Int), ag (x.take m) y ≤ ag x y := by
  intro x y
  have h := (le_ag (ag (x.take m) y) (x.take m) y).1 (Nat.le_refl _)
  exact (le_ag _ x y).2 ⟨h.1, h.2.trans (List.take_prefix _ _)⟩

/-- place i, n bytes: the longest match of s in old, the first of several -/
structure Best (old s : List Int) (i n : Nat) : Prop where
  all : ∀ j, ag (old.drop j) s ≤ n
  ahead : ∀ j, j < i → ag (old.drop j) s < n
  here : ag (old.drop i) s = n

theorem Best.det {old s : List Int} {i n i' n' : Nat} (h : Best old s i n) (h' : Best old s i' n') : i = i' ∧ n = n' := by
  have e : n = n' := by
    have h1 := h.all i'
    have h2 := h'.all i
    rw [h'.here] at h1
    rw [h.here] at h2
    omega
  subst e
  refine ⟨?_, rfl⟩
  rcases Nat.lt_trichotomy i i' with hlt | rfl | hlt
  · have := h'.ahead i hlt
    rw [h.here] at this
    omega
  · rfl
  · have := h.ahead i' hlt
    rw [h'.here] at this
    omega
theorem Best.zero {old s : List Int} {i : Nat} (h : Best old s i 0) : i = 0 := by
  rcases Nat.eq_zero_or_pos i with h0 | h0
  · exact h0
  · have := h.ahead 0 h0
    omega
theorem Best.room {old s : List Int} {i n : Nat} (h : Best old s i n) : i + n ≤ old.length ∧ n ≤ s.length := by
  have h1 := ag_le_l (old.drop i) s
  have h2 := ag_le_r (old.drop i) s
  rw [h.here] at h1 h2
  refine ⟨?_, h2⟩
  rcases Nat.eq_zero_or_pos n with h0 | h0
  · subst h0
    have := h.zero
    omega
  · simp at h1
    omega
theorem Best.alike {old s : List Int} {i n : Nat} (h : Best old s i n) : (old.drop i).take n = s.take n := by
  have h1 := (le_ag n (old.drop i) s).1 (by rw [h.here]; exact Nat.le_refl _)
  have h2 := h.room
  obtain ⟨t, ht⟩ := h1.2
  rw [← ht, List.take_append_of_le_length (by simp; omega), List.take_take, Nat.min_self]
/-- no byte of nothing -/
theorem Best.none_ {old s : List Int} (h : ∀ j, j < old.length → ag (old.drop j) s ≤ 0) : Best old s 0 0 := by
  have hall : ∀ j, ag (old.drop j) s ≤ 0 := by
    intro j
    rcases Nat.lt_or_ge j old.length with hj | hj
    · exact h j hj
    · rw [List.drop_eq_nil_of_le hj, ag_nil_l]; exact Nat.le_refl _
  exact ⟨hall, fun j hj => absurd hj (by omega), by have := hall 0; omega⟩

/-! the search from the front: the best of the first k places -/
structure Upto (old s : List Int) (k i n : Nat) : Prop where
  all : ∀ j, j < k → ag (old.drop j) s ≤ n
  ahead : ∀ j, j < i → ag (old.drop j) s < n
  here : n ≠ 0 → ag (old.drop i) s = n
  zero : n = 0 → i = 0
theorem Upto.start (old s : List Int) : Upto old s 0 0 0 := ⟨fun j hj => absurd hj (by omega), fun j hj => absurd hj (by omega), fun h => absurd rfl h, fun _ => rfl⟩
theorem Upto.more {old s : List Int} {k i n : Nat} (h : Upto old s k i n) (hn : n < ag (old.drop k) s) : Upto old s (k + 1) k (ag (old.drop k) s) := by
  refine ⟨fun j hj => ?_, fun j hj => ?_, fun _ => rfl, fun h => by omega⟩
  · rcases Nat.lt_or_ge j k with hj' | hj'
    · have := h.all j hj'
      omega
    · obtain rfl : j = k := by omega
      exact Nat.le_refl _
  · have := h.all j hj
    omega
theorem Upto.same {old s : List Int} {k i n : Nat} (h : Upto old s k i n) (hn : ¬ n < ag (old.drop k) s) : Upto old s (k + 1) i n := by
  refine ⟨fun j hj => ?_, h.ahead, h.here, h.zero⟩
  rcases Nat.lt_or_ge j k with hj' | hj'
  · exact h.all j hj'
  · obtain rfl : j = k := by omega
    omega
theorem Upto.best {old s : List Int} {i n : Nat} (h : Upto old s old.length i n) : Best old s i n := by
  have hall : ∀ j, ag (old.drop j) s ≤ n := by
    intro j
    rcases Nat.lt_or_ge j old.length with hj | hj
    · exact h.all j hj
    · rw [List.drop_eq_nil_of_le hj, ag_nil_l]; exact Nat.zero_le _
  refine ⟨hall, h.ahead, ?_⟩
  rcases Nat.eq_zero_or_pos n with h0 | h0
  · subst h0
    have := hall i
    omega
  · exact h.here (by omega)

/-! bytes.Index in the words of matches -/
theorem ofNat_inj {x y : Int} (hx : 0 ≤ x ∧ x ≤ 255) (hy : 0 ≤ y ∧ y ≤ 255) (h : UInt8.ofNat x.toNat = UInt8.ofNat y.toNat) : x = y := by
  have := congrArg UInt8.toNat h
  simp only [UInt8.toNat_ofNat'] at this
  omega
theorem bytesOf_prefix : ∀ (x y : List Int), (∀ v ∈ x, 0 ≤ v ∧ v ≤ 255) → (∀ v ∈ y, 0 ≤ v ∧ v ≤ 255) → (Lib.bytesOf x <+: Lib.bytesOf y ↔ x <+: y)
  | [], y, _, _ => by simp [Lib.bytesOf]
  | x :: xs, [], _, _ => by simp [Lib.bytesOf]
  | x :: xs, y :: ys, hx, hy => by
    have ih := bytesOf_prefix xs ys (fun v hv => hx v (by simp [hv])) (fun v hv => hy v (by simp [hv]))
    have e1 : Lib.bytesOf (x :: xs) = UInt8.ofNat x.toNat :: Lib.bytesOf xs := rfl
    have e2 : Lib.bytesOf (y :: ys) = UInt8.ofNat y.toNat :: Lib.bytesOf ys := rfl
    rw [e1, e2, List.cons_prefix_cons, List.cons_prefix_cons, ih]
    constructor
    · rintro ⟨h1, h2⟩; exact ⟨ofNat_inj (hx x (by simp)) (hy y (by simp)) h1, h2⟩
    · rintro ⟨rfl, h2⟩; exact ⟨rfl, h2⟩
theorem bytesOf_drop (x : List Int) (j : Nat) : (Lib.bytesOf x).drop j = Lib.bytesOf (x.drop j) := by simp [Lib.bytesOf, List.map_drop]
theorem bytesOf_length (x : List Int) : (Lib.bytesOf x).length = x.length := by simp [Lib.bytesOf]
/-- an instance of the first n bytes of s begins at place j: n bytes are alike there -/
theorem occ_iff {old s : List Int} (ho : ∀ v ∈ old, 0 ≤ v ∧ v ≤ 255) (hs : ∀ v ∈ s, 0 ≤ v ∧ v ≤ 255) (n j : Nat) (hn : n ≤ s.length) :
    Lib.occAt (Lib.bytesOf old) (Lib.bytesOf (s.take n)) j = true ↔ n ≤ ag (old.drop j) s := by
  unfold Lib.occAt
  rw [bytesOf_drop, List.isPrefixOf_iff_prefix, bytesOf_prefix _ _ (fun v hv => hs v (List.mem_of_mem_take hv)) (fun v hv => ho v (List.mem_of_mem_drop hv)), le_ag]
  exact ⟨fun h => ⟨hn, h⟩, fun h => h.2⟩
/-- what bytes.Index says of the first n bytes of s -/
theorem index_says {old s : List Int} (ho : ∀ v ∈ old, 0 ≤ v ∧ v ≤ 255) (hs : ∀ v ∈ s, 0 ≤ v ∧ v ≤ 255) (n : Nat) (hn : n ≤ s.length) :
    (Lib.index (Lib.bytesOf old) (Lib.bytesOf (s.take n)) = -1 ∧ ∀ j, j ≤ old.length → ag (old.drop j) s < n) ∨
    ∃ i : Nat, Lib.index (Lib.bytesOf old) (Lib.bytesOf (s.take n)) = i ∧ n ≤ ag (old.drop i) s ∧ ∀ j, j < i → ag (old.drop j) s < n := by
  have key : ∀ j, Lib.occAt (Lib.bytesOf old) (Lib.bytesOf (s.take n)) j = false → ag (old.drop j) s < n := by
    intro j h
    rcases Nat.lt_or_ge (ag (old.drop j) s) n with h' | h'
    · exact h'
    · rw [(occ_iff ho hs n j hn).2 h'] at h; cases h
  rcases Lib.index_spec (Lib.bytesOf old) (Lib.bytesOf (s.take n)) with ⟨h1, h2⟩ | ⟨i, h1, _, h3, h4⟩
  · exact .inl ⟨h1, fun j hj => key j (h2 j (by rw [bytesOf_length]; exact hj))⟩
  · exact .inr ⟨i, h1, (occ_iff ho hs n i hn).1 h3, fun j hj => key j (h4 j hj)⟩
/-- .. of a match that is the best one -/
theorem Best.index {old s : List Int} {i n : Nat} (h : Best old s i n) (ho : ∀ v ∈ old, 0 ≤ v ∧ v ≤ 255) (hs : ∀ v ∈ s, 0 ≤ v ∧ v ≤ 255) :
    Lib.index (Lib.bytesOf old) (Lib.bytesOf (s.take n)) = i := by
  have hr := h.room
  rcases index_says ho hs n hr.2 with ⟨_, h2⟩ | ⟨k, h1, h2, h3⟩
  · have := h2 i (by omega)
    rw [h.here] at this
    omega
  · rw [h1]
    rcases Nat.lt_trichotomy k i with hlt | rfl | hlt
    · have := h.ahead k hlt
      omega
    · rfl
    · have := h3 i hlt
      rw [h.here] at this
      omega
theorem Best.beyond {old s : List Int} {i n : Nat} (h : Best old s i n) (ho : ∀ v ∈ old, 0 ≤ v ∧ v ≤ 255) (hs : ∀ v ∈ s, 0 ≤ v ∧ v ≤ 255) (hn : n < s.length) :
    Lib.contains (Lib.bytesOf old) (Lib.bytesOf (s.take (n + 1))) = false := by
  unfold Lib.contains
  rcases index_says ho hs (n + 1) hn with ⟨h1, _⟩ | ⟨k, h1, h2, _⟩
  · rw [h1]; rfl
  · have := h.all k
    omega
/-! the search from the longest one down -/
theorem Best.of_index {old s : List Int} (ho : ∀ v ∈ old, 0 ≤ v ∧ v ≤ 255) (hs : ∀ v ∈ s, 0 ≤ v ∧ v ≤ 255) {n i : Nat} (hn : n ≤ s.length) (hall : ∀ j, ag (old.drop j) s ≤ n)
    (h : Lib.index (Lib.bytesOf old) (Lib.bytesOf (s.take n)) = i) : Best old s i n := by
  rcases index_says ho hs n hn with ⟨h1, _⟩ | ⟨k, h1, h2, h3⟩
  · rw [h1] at h; omega
  · obtain rfl : k = i := by rw [h1] at h; omega
    exact ⟨hall, h3, by have := hall k; omega⟩
theorem all_down {old s : List Int} (ho : ∀ v ∈ old, 0 ≤ v ∧ v ≤ 255) (hs : ∀ v ∈ s, 0 ≤ v ∧ v ≤ 255) {n : Nat} (hn : n + 1 ≤ s.length)
    (h : Lib.index (Lib.bytesOf old) (Lib.bytesOf (s.take (n + 1))) = -1) : ∀ j, ag (old.drop j) s ≤ n := by
  rcases index_says ho hs (n + 1) hn with ⟨_, h2⟩ | ⟨k, h1, _, _⟩
  · intro j
    rcases Nat.lt_or_ge j old.length with hj | hj
    · have := h2 j (by omega)
      omega
    · rw [List.drop_eq_nil_of_le hj, ag_nil_l]; exact Nat.zero_le _
  · rw [h1] at h; omega
theorem all_top (old s : List Int) : ∀ j, ag (old.drop j) s ≤ min old.length s.length := by
  intro j
  have h1 := ag_le_l (old.drop j) s
  have h2 := ag_le_r (old.drop j) s
  simp at h1
  omega
theorem Best.of_zero {old s : List Int} (h : ∀ j, ag (old.drop j) s ≤ 0) : Best old s 0 0 := Best.none_ (fun j _ => h j)
/-! bytes in themselves; fewer old bytes -/
theorem Best.whole {b : List Int} {k i n : Nat} (h : Best b (b.drop k) i n) (hk : k ≤ b.length) : n = b.length - k := by
  have h1 := h.all k
  rw [ag_self] at h1
  have h2 := h.room.2
  simp at h1 h2
  omega
theorem Best.fewer {old s : List Int} {i n i' n' m : Nat} (h : Best (old.take m) s i n) (h' : Best old s i' n') : n ≤ n' := by
  have h1 := h.here
  rw [List.drop_take] at h1
  have h2 := ag_take_le (m - i) (old.drop i) s
  have h3 := h'.all i
  omega
end Go.Proofs.Ytmpmaljkmfgagab.MatchM
/-
  What the reference's Diffed keeps in memory (what is made, the bytes that are still plain), and the contract of its closure; the document's Diff as a relation.
-/
namespace Go.Proofs.Ytmpmaljkmfgagab
open Go.RowKit

namespace DeltaM
/-- plain bytes as a step -/
def flushL (pl : List Int) : List OpR := if pl = [] then [] else [⟨0, 0, pl⟩]
/-- what is made of the rest of the new image, so many plain bytes ahead of it -/
inductive Dif (old : List Int) : List Int → List Int → List OpR → Prop
  | done (pl : List Int) : Dif old [] pl (flushL pl)
  | copy (s pl : List Int) (i n : Nat) (out : List OpR) : MatchM.Best old s i n → 3 < n → Dif old (s.drop n) [] out → Dif old s pl (flushL pl ++ ⟨i, n, []⟩ :: out)
  | lit (x : Int) (t pl : List Int) (i n : Nat) (out : List OpR) : MatchM.Best old (x :: t) i n → n ≤ 3 → Dif old t (pl ++ [x]) out → Dif old (x :: t) pl out
theorem Dif.det {old s pl : List Int} {o o' : List OpR} (h : Dif old s pl o) (h' : Dif old s pl o') : o = o' := by
  induction h generalizing o' with
  | done pl =>
    cases h' with
    | done => rfl
    | copy _ _ i n out hb hn hr =>
      have := hb.room.2
      simp at this
      omega
  | copy s pl i n out hb hn hr ih =>
    cases h' with
    | done =>
      have := hb.room.2
      simp at this
      omega
    | copy _ _ i' n' out' hb' hn' hr' =>
      obtain ⟨rfl, rfl⟩ := hb.det hb'
      rw [ih hr']
    | lit x t _ i' n' out' hb' hn' hr' =>
      obtain ⟨rfl, rfl⟩ := hb.det hb'
      omega
  | lit x t pl i n out hb hn hr ih =>
    cases h' with
    | copy _ _ i' n' out' hb' hn' hr' =>
      obtain ⟨rfl, rfl⟩ := hb.det hb'
      omega
    | lit _ _ _ i' n' out' hb' hn' hr' => exact ih hr'
end DeltaM

theorem cell_blk {W : World} {g t : Nat} {v : Value} (h : W.heap[g]? = some (.cells #[v] t (0, 0))) : W.cell? ⟨g, 0, none⟩ = some v := by simp [World.cell?, h]
theorem frozen_blk {W : World} {g t : Nat} {v : Value} (h : W.heap[g]? = some (.cells #[v] t (0, 0))) : W.frozen? ⟨g, 0, none⟩ = false := by simp [World.frozen?, h]
theorem set_blk {W : World} {g t : Nat} {v : Value} (h : W.heap[g]? = some (.cells #[v] t (0, 0))) (u : Value) : (W.setCell ⟨g, 0, none⟩ u).heap[g]? = some (.cells #[u] t (0, 0)) := by simp [World.setCell, Array.getElem?_modify, h]
theorem lt_blk {W : World} {g : Nat} {o : Obj} (h : W.heap[g]? = some o) : g < W.heap.size := by
  rcases Nat.lt_or_ge g W.heap.size with hlt | hge
  · exact hlt
  · rw [Array.getElem?_eq_none hge] at h; cases h
theorem size_set (W : World) (p : Addr) (u : Value) : (W.setCell p u).heap.size = W.heap.size := by simp [World.setCell]

theorem OutSt.set {W : World} {base : Nat} {ex : Option Nat} {vo : Value} {out : List OpR} (h : OutSt W base ex vo out) {p : Addr} (hp : p.block < base) (u : Value) : OutSt (W.setCell p u) base ex vo out :=
  h.keep (by rw [size_set]; exact Nat.le_refl _) (fun k k1 _ k3 => ⟨Below.heap_setCell W p u k (by omega), k3⟩) (fun g hg => by rw [size_set]; exact (h.2 g hg).2)
theorem OutSt.noex {W : World} {base : Nat} {ex : Option Nat} {vo : Value} {out : List OpR} (h : OutSt W base ex vo out) : OutSt W base none vo out := by
  obtain ⟨⟨vs, h1, h2, h3⟩, -⟩ := h
  exact ⟨⟨vs, h1, h2, fun i hi => (h3 i hi).keep (Nat.le_refl _) (fun k _ _ k3 _ => ⟨rfl, k3, by simp⟩)⟩, fun g hg => by cases hg⟩
theorem own_set {w : World} {base e s n : Nat} {v : Value} {xs : List Value} (h : w.ownsRow base e s v n xs) {p : Addr} (hp : p.block < base) (u : Value) : (w.setCell p u).ownsRow base e s v n xs :=
  own_keep h (fun g hg => Below.heap_setCell w p u g (by have := (own_lt3 h hg).1; omega))

/-- the memory of Diffed: the block of 'out', the block of 'plain', what they hold -/
structure DSt (w0 : World) (B0 B1 : Nat) (vo vp : Value) (out : List OpR) (pl : List Int) (W : World) : Prop where
  c0 : W.heap[B0]? = some (.cells #[vo] 23 (0, 0))
  c1 : W.heap[B1]? = some (.cells #[vp] 22 (0, 0))
  o : OutSt W (B1 + 1) vp.ownBlock vo out
  p : W.ownsRow (B1 + 1) 5 1 vp pl.length (pl.map (Value.int .u8))
  below : Below w0.heap.size w0 W
  le0 : w0.heap.size ≤ B0
  le1 : B0 < B1
section
variable {w0 : World} {B0 B1 : Nat} {vo vp : Value} {out : List OpR} {pl : List Int} {W W' : World}
theorem DSt.later (h : DSt w0 B0 B1 vo vp out pl W) (hb : Below W.heap.size W W') : DSt w0 B0 B1 vo vp out pl W' :=
  ⟨(hb.block _ (lt_blk h.c0)).trans h.c0, (hb.block _ (lt_blk h.c1)).trans h.c1, h.o.later hb, own_later h.p hb, below_then h.below hb, h.le0, h.le1⟩
theorem DSt.drew (h : DSt w0 B0 B1 vo vp out pl W) : DSt w0 B0 B1 vo vp out pl W.drew := h.later (Below.refl _ _).drew
/-- 'plain' is set to nil -/
theorem DSt.clear_ (h : DSt w0 B0 B1 vo vp out pl W) : DSt w0 B0 B1 vo (.slice none 0 0) out [] (W.setCell ⟨B1, 0, none⟩ (.slice none 0 0)) :=
  ⟨(Below.heap_setCell W _ _ B0 (by have := h.le1; show B0 ≠ B1; omega)).trans h.c0, set_blk h.c1 _, h.o.noex.set (by show B1 < B1 + 1; omega) _, World.ownsRow_nil _ _ _ _,
    h.below.setCell (by show w0.heap.size ≤ B1; have := h.le0; have := h.le1; omega) _, h.le0, h.le1⟩
/-- one more plain byte -/
theorem DSt.plain (h : DSt w0 B0 B1 vo vp out pl W) {ad : Addr} {x : Int} (hs : BS W (some ad) 1 1 [x]) (hk : pl.length ≤ 1000) :
    ∃ g cap W5, (Builtin.append_ #[22, 22] 22 #[vp, .slice (some ad) 1 1]).run Try.prog W = .ok (.slice (some ⟨g, 0, none⟩) (pl.length + 1) cap) W5 ∧ W5.cell? ⟨B1, 0, none⟩ = some vp ∧ W5.frozen? ⟨B1, 0, none⟩ = false ∧
      Hid (DSt w0 B0 B1 vo (.slice (some ⟨g, 0, none⟩) (pl.length + 1) cap) out (pl ++ [x]) (W5.setCell ⟨B1, 0, none⟩ (.slice (some ⟨g, 0, none⟩) (pl.length + 1) cap))) := by
  obtain ⟨i0, hi, hz0, hz1, hz2⟩ := info_parts Try.info_u8
  have hlt1 := lt_blk h.c1
  obtain ⟨g, cap, W5, hr, ho, hg, hlies, hlt⟩ := run_append_lies (P := Try.prog) W 22 22 (B1 + 1) 5 i0 _ 1 1 Try.underlying22 hi hz0 hz1 hz2 rfl (by decide) vp pl.length _ h.p ad 1 1 ([x].map (Value.int .u8))
    rfl hs.news (oneCell_u8 _) (by omega) (by unfold maxLen; omega) (by omega) (by omega) W.heap.size rfl
  have far : ∀ k, k < B1 + 1 → some k ≠ vp.ownBlock := by
    intro k hk2 e
    have := (own_lt3 h.p e.symm).1
    omega
  have e0 := (hg.block B0 (lt_blk h.c0) (far _ (by have := h.le1; omega))).trans h.c0
  have e1 := (hg.block B1 hlt1 (far _ (by omega))).trans h.c1
  have hO : OutSt W5 (B1 + 1) (some g) vo out := by
    refine h.o.keep hg.size (fun k k1 k2 k3 => ⟨hg.block k k2 k3, ?_⟩) (fun g' hg' => by injection hg' with hg'; omega)
    intro e
    injection e with e
    subst e
    rcases hlies with hl | hl
    · exact k3 hl.symm
    · omega
  refine ⟨g, cap, W5, hr, cell_blk e1, frozen_blk e1, ?_⟩
  have hB5 := h.below.grown hg h.below.size (fun g' hg' => by have := (own_lt3 h.p hg').1; have := h.le0; have := h.le1; omega)
  refine ⟨(Below.heap_setCell W5 _ _ B0 (by have := h.le1; show B0 ≠ B1; omega)).trans e0, set_blk e1 _, hO.set (by show B1 < B1 + 1; omega) _, ?_, hB5.setCell (by show w0.heap.size ≤ B1; have := h.le0; have := h.le1; omega) _, h.le0, h.le1⟩
  have := own_set ho (show (⟨B1, 0, none⟩ : Addr).block < B1 + 1 by show B1 < B1 + 1; omega) (.slice (some ⟨g, 0, none⟩) (pl.length + 1) cap)
  simpa using this
/-- one more step that copies, 'plain' being nil -/
theorem DSt.copy (h : DSt w0 B0 B1 vo (.slice none 0 0) out [] W) (A L : Int) (hA : I64 A) (hL : I64 L) (hk : out.length ≤ 1000) :
    ∃ g cap W5, (Builtin.append_ #[23, 23] 23 #[vo, .slice (some ⟨W.heap.size, 0, none⟩) 1 1]).run Try.prog (W.alloc (.cells #[.int .i64 A, .int .i64 L, .slice none 0 0] 36)) = .ok (.slice (some ⟨g, 0, none⟩) (out.length + 1) cap) W5 ∧
      W5.cell? ⟨B0, 0, none⟩ = some vo ∧ W5.frozen? ⟨B0, 0, none⟩ = false ∧
      Hid (DSt w0 B0 B1 (.slice (some ⟨g, 0, none⟩) (out.length + 1) cap) (.slice none 0 0) (out ++ [⟨A, L, []⟩]) [] (W5.setCell ⟨B0, 0, none⟩ (.slice (some ⟨g, 0, none⟩) (out.length + 1) cap))) := by
  have hl0 := lt_blk h.c0
  have hl1 := lt_blk h.c1
  have hle1 := h.le1
  have hbl : Below W.heap.size W (W.alloc (.cells #[.int .i64 A, .int .i64 L, .slice none 0 0] 36)) := (Below.refl _ _).alloc (Nat.le_refl _) _
  have h2 := h.later hbl
  obtain ⟨g, cap, W5, hr, hO, hg, hlies⟩ := h2.o.app (B := W.heap.size) (A := A) (L := L) (a := none) (n := 0) (c := 0) (d := []) (by rw [heap_at, if_pos rfl]) (BS.nil_ _) (fun p hp => by cases hp) hA hL hk (by have := hbl.size; omega)
  have far : ∀ k, k < B1 + 1 → some k ≠ vo.ownBlock := by
    intro k hk2 e
    obtain ⟨⟨vs, _, q, _⟩, _⟩ := h.o
    have := (own_lt3 q e.symm).1
    omega
  have hsz := hbl.size
  have e0 := (hg.block B0 (by omega) (far _ (by omega))).trans h2.c0
  have e1 := (hg.block B1 (by omega) (far _ (by omega))).trans h2.c1
  refine ⟨g, cap, W5, hr, cell_blk e0, frozen_blk e0, ?_⟩
  have hB5 := h2.below.grown hg h2.below.size (fun g' hg' => by
    obtain ⟨⟨vs, _, q, _⟩, _⟩ := h.o
    have := (own_lt3 q hg').1
    have := h.le0
    omega)
  exact ⟨set_blk e0 _, (Below.heap_setCell W5 _ _ B1 (by show B1 ≠ B0; omega)).trans e1, hO.set (by show B0 < B1 + 1; omega) _, World.ownsRow_nil _ _ _ _, hB5.setCell (by show w0.heap.size ≤ B0; exact h.le0) _, h.le0, h.le1⟩
/-- the plain bytes become a step, 'plain' nil -/
theorem DSt.flush (h : DSt w0 B0 B1 vo vp out pl W) (hb : ∀ x ∈ pl, 0 ≤ x ∧ x ≤ 255) (hk : out.length ≤ 1000) :
    ∃ g cap W5, (Builtin.append_ #[23, 23] 23 #[vo, .slice (some ⟨W.heap.size, 0, none⟩) 1 1]).run Try.prog (W.alloc (.cells #[.int .i64 0, .int .i64 0, vp] 36)) = .ok (.slice (some ⟨g, 0, none⟩) (out.length + 1) cap) W5 ∧
      W5.cell? ⟨B0, 0, none⟩ = some vo ∧ W5.frozen? ⟨B0, 0, none⟩ = false ∧ (W5.setCell ⟨B0, 0, none⟩ (.slice (some ⟨g, 0, none⟩) (out.length + 1) cap)).cell? ⟨B1, 0, none⟩ = some vp ∧ (W5.setCell ⟨B0, 0, none⟩ (.slice (some ⟨g, 0, none⟩) (out.length + 1) cap)).frozen? ⟨B1, 0, none⟩ = false ∧
      Hid (DSt w0 B0 B1 (.slice (some ⟨g, 0, none⟩) (out.length + 1) cap) (.slice none 0 0) (out ++ [⟨0, 0, pl⟩]) [] ((W5.setCell ⟨B0, 0, none⟩ (.slice (some ⟨g, 0, none⟩) (out.length + 1) cap)).setCell ⟨B1, 0, none⟩ (.slice none 0 0))) := by
  have hl0 := lt_blk h.c0
  have hl1 := lt_blk h.c1
  have hle1 := h.le1
  have hbl : Below W.heap.size W (W.alloc (.cells #[.int .i64 0, .int .i64 0, vp] 36)) := (Below.refl _ _).alloc (Nat.le_refl _) _
  have h2 := h.later hbl
  obtain ⟨a, c, rfl⟩ : ∃ a c, vp = .slice a pl.length c := by
    rcases h.p.2 with ⟨q1, q2⟩ | ⟨g, cap, cur, q1, _⟩
    · exact ⟨none, 0, by rw [q1, q2]⟩
    · exact ⟨_, _, q1⟩
  have hbs := BS.of_own h2.p hb
  obtain ⟨g, cap, W5, hr, hO, hg, hlies⟩ := h2.o.noex.app (B := W.heap.size) (A := 0) (L := 0) (a := a) (n := pl.length) (c := c) (d := pl) (by rw [heap_at, if_pos rfl]) hbs (fun p hp => by
    subst hp
    have q := own_lt3 h2.p (g := p.block) rfl
    exact ⟨q.1, q.2, fun e => (h2.o.2 p.block rfl).1 e.symm, by simp⟩) (by unfold I64; omega) (by unfold I64; omega) hk (by have := hbl.size; omega)
  have far : ∀ k, k < B1 + 1 → some k ≠ vo.ownBlock := by
    intro k hk2 e
    obtain ⟨⟨vs, _, q, _⟩, _⟩ := h.o
    have := (own_lt3 q e.symm).1
    omega
  have hsz := hbl.size
  have e0 := (hg.block B0 (by omega) (far _ (by omega))).trans h2.c0
  have e1 := (hg.block B1 (by omega) (far _ (by omega))).trans h2.c1
  have e1' := (Below.heap_setCell W5 ⟨B0, 0, none⟩ (.slice (some ⟨g, 0, none⟩) (out.length + 1) cap) B1 (by show B1 ≠ B0; omega)).trans e1
  refine ⟨g, cap, W5, hr, cell_blk e0, frozen_blk e0, cell_blk e1', frozen_blk e1', ?_⟩
  have hB5 := h2.below.grown hg h2.below.size (fun g' hg' => by
    obtain ⟨⟨vs, _, q, _⟩, _⟩ := h.o
    have := (own_lt3 q hg').1
    have := h.le0
    omega)
  have hB6 := hB5.setCell (p := ⟨B0, 0, none⟩) (by show w0.heap.size ≤ B0; exact h.le0) (.slice (some ⟨g, 0, none⟩) (out.length + 1) cap)
  refine ⟨(Below.heap_setCell _ _ _ B0 (by show B0 ≠ B1; omega)).trans (set_blk e0 _), set_blk e1' _, (hO.set (by show B0 < B1 + 1; omega) _).set (by show B1 < B1 + 1; omega) _, World.ownsRow_nil _ _ _ _, hB6.setCell (by show w0.heap.size ≤ B1; have := h.le0; omega) _, h.le0, h.le1⟩
end
end Go.Proofs.Ytmpmaljkmfgagab
/-
  What the four functions on steps return, in words that serve the reference and the program alike.
-/
namespace Go.Proofs.Ytmpmaljkmfgagab
open Go.RowKit

theorem ret_chk {a b : Int} (h : a = b) : Ending.returned (.int .i64 a) = .returned (.int .i64 b) := by rw [h]

/-- the rounds of CheckOps -/
def ChkRel (l : List OpR) (old size : Int) (w : World) (made i : Value) (wr : World) : Prop :=
  ∃ (m k : Nat), made = .int .i64 m ∧ i = .int .i64 k ∧ k ≤ l.length ∧ (m : Int) ≤ size ∧ DeltaM.chk old size (l.drop k) m = DeltaM.chk old size l 0 ∧ Below w.heap.size w wr

theorem drop_op (l : List OpR) (k : Nat) (h : k < l.length) : l.drop k = l.getD k default :: l.drop (k + 1) := by
  rw [List.drop_eq_getElem_cons h]; simp [List.getD_eq_getElem?_getD, List.getElem?_eq_getElem h]

/-- the rounds of SameOps -/
def SameRel (x y : List OpR) (w : World) (i : Value) (wr : World) : Prop :=
  ∃ k : Nat, i = .int .i64 k ∧ k ≤ x.length ∧ x.take k = y.take k ∧ Below w.heap.size w wr

theorem take_more {x y : List OpR} {k : Nat} (h : x.take k = y.take k) (hx : k < x.length) (hy : k < y.length) (he : x.getD k default = y.getD k default) : x.take (k + 1) = y.take (k + 1) := by
  rw [List.take_add_one, List.take_add_one, h]
  simp only [List.getD_eq_getElem?_getD, List.getElem?_eq_getElem hx, List.getElem?_eq_getElem hy, Option.getD_some] at he
  simp [List.getElem?_eq_getElem hx, List.getElem?_eq_getElem hy, he]
theorem ne_of_at {x y : List OpR} {k : Nat} (h : x.getD k default ≠ y.getD k default) : decide (x = y) = false := by
  rw [decide_eq_false]
  rintro rfl
  exact h rfl
theorem ret_bool {a b : Bool} (h : a = b) : Ending.returned (.bool a) = .returned (.bool b) := by rw [h]

/-- what Diffed returns -/
def GivesD (old b : List Int) (w : World) (e : Ending) (w' : World) : Prop :=
  ∃ out a n c, DeltaM.Dif old b [] out ∧ e = .returned (.tuple #[.slice a n c, .int .i64 0]) ∧ OS w' a n c out ∧ (out.length ≤ 200 ∧ OSN w' w.heap.size a n c out) ∧ Below w.heap.size w w'

theorem flushL_len (pl : List Int) : (DeltaM.flushL pl).length ≤ 1 := by unfold DeltaM.flushL; split <;> simp
theorem drop_byte (l : List Int) (k : Nat) (h : k < l.length) : l.drop k = l[k]?.getD 0 :: l.drop (k + 1) := by
  rw [List.drop_eq_getElem_cons h]; simp [List.getElem?_eq_getElem h]

/-- what Applied returns -/
def GivesA (old : List Int) (l : List OpR) (s : Int) (w : World) (e : Ending) (w' : World) : Prop :=
  ∃ a n c, e = .returned (.tuple #[.slice a n c, .int .i64 (DeltaM.check l old.length s)]) ∧ BS w' a n c (DeltaM.applied old l s) ∧ Below w.heap.size w w'

theorem OS.bytes {w : World} {a : Option Addr} {n c : Nat} {l : List OpR} (h : OS w a n c l) : ∀ o ∈ l, ∀ v ∈ o.data, 0 ≤ v ∧ v ≤ 255 := by
  intro o ho v hv
  obtain ⟨i, hi, rfl⟩ := List.mem_iff_getElem.1 ho
  have hlen := h.len
  obtain ⟨b, off, _, hc⟩ := h.cells (by omega)
  obtain ⟨_, _, _, _, _, _, hb, _⟩ := hc i (by omega)
  rw [List.getD_eq_getElem?_getD, List.getElem?_eq_getElem hi, Option.getD_some] at hb
  exact hb.bytes v hv

theorem tup_a {v : Value} {a b : Int} (h : a = b) : Ending.returned (.tuple #[v, .int .i64 a]) = .returned (.tuple #[v, .int .i64 b]) := by rw [h]
/-- the document's Diff: the steps, and the error -/
def DiffIs (old b : List Int) (out : List OpR) (err : Int) : Prop :=
  ((64 < old.length ∨ 64 < b.length) ∧ out = [] ∧ err = 1) ∨ (¬ (64 < old.length ∨ 64 < b.length) ∧ DeltaM.Dif old b [] out ∧ err = 0)
theorem DiffIs.det {old b : List Int} {o o' : List OpR} {e e' : Int} (h : DiffIs old b o e) (h' : DiffIs old b o' e') : o = o' ∧ e = e' := by
  rcases h with ⟨h1, rfl, rfl⟩ | ⟨h1, h2, rfl⟩ <;> rcases h' with ⟨q1, rfl, rfl⟩ | ⟨q1, q2, rfl⟩
  · exact ⟨rfl, rfl⟩
  · exact absurd h1 q1
  · exact absurd q1 h1
  · exact ⟨h2.det q2, rfl⟩
end Go.Proofs.Ytmpmaljkmfgagab
/-
  Plain facts on the checksum of a list of bytes: reckoned from the front it is what powers from behind give; a change of one byte changes it. No program is named here.
-/
namespace Go.Proofs.Ytmpmaljkmfgagab.SumM

/-- the checksum s, gone on with over a list of bytes -/
def addL (s : Int) : List Int → Int
  | [] => s
  | x :: l => addL ((s * 31 + x) % 65521) l
/-- 31 to the length of the list -/
def pw : List Int → Int
  | [] => 1
  | _ :: l => pw l * 31 % 65521
/-- the bytes by their powers, from behind -/
def nn : List Int → Int
  | [] => 0
  | x :: l => (nn l + x * pw l) % 65521
/-- every number is a byte -/
def Byt (l : List Int) : Prop := ∀ x ∈ l, 0 ≤ x ∧ x ≤ 255

theorem pw_bd (l : List Int) : 0 ≤ pw l ∧ pw l ≤ 65520 := by
  cases l with
  | nil => simp [pw]
  | cons x l => simp only [pw]; omega
theorem nn_bd (l : List Int) : 0 ≤ nn l ∧ nn l ≤ 65520 := by
  cases l with
  | nil => simp [nn]
  | cons x l => simp only [nn]; omega
theorem addL_bd (l : List Int) : ∀ s, 0 ≤ s → s ≤ 65520 → 0 ≤ addL s l ∧ addL s l ≤ 65520 := by
  induction l with
  | nil => intro s h0 h1; simp only [addL]; omega
  | cons x l ih => intro s h0 h1; simp only [addL]; exact ih _ (by omega) (by omega)
theorem addL_snoc (l : List Int) : ∀ s x, addL s (l ++ [x]) = (addL s l * 31 + x) % 65521 := by
  induction l with
  | nil => intro s x; simp [addL]
  | cons y l ih => intro s x; simp only [List.cons_append, addL]; exact ih _ x
theorem addL_append (l m : List Int) : ∀ s, addL s (l ++ m) = addL (addL s l) m := by
  induction l with
  | nil => intro s; simp [addL]
  | cons y l ih => intro s; simp only [List.cons_append, addL]; exact ih _
theorem addL_pw (l : List Int) : ∀ s, 0 ≤ s → s ≤ 65520 → addL s l = (s * pw l + nn l) % 65521 := by
  induction l with
  | nil => intro s h0 h1; simp only [addL, pw, nn]; omega
  | cons x l ih =>
    intro s h0 h1
    simp only [addL, pw, nn]
    rw [ih _ (by omega) (by omega)]
    have e1 : ((s * 31 + x) % 65521 * pw l + nn l) % 65521 = ((s * 31 + x) * pw l + nn l) % 65521 := by
      rw [Int.add_emod, Int.mul_emod, Int.emod_emod_of_dvd _ (Int.dvd_refl _), ← Int.mul_emod, ← Int.add_emod]
    have e2 : (s * (pw l * 31 % 65521) + (nn l + x * pw l) % 65521) % 65521 = (s * (pw l * 31) + (nn l + x * pw l)) % 65521 := by
      rw [Int.add_emod, Int.mul_emod, Int.emod_emod_of_dvd _ (Int.dvd_refl _), Int.emod_emod_of_dvd _ (Int.dvd_refl _), ← Int.mul_emod, ← Int.add_emod]
    rw [e1, e2]
    congr 1
    rw [Int.add_mul, Int.mul_assoc, Int.mul_comm 31 (pw l)]
    omega
theorem addL_inj (l : List Int) : ∀ s t, 0 ≤ s → s ≤ 65520 → 0 ≤ t → t ≤ 65520 → addL s l = addL t l → s = t := by
  induction l with
  | nil => intro s t _ _ _ _ h; simpa [addL] using h
  | cons x l ih =>
    intro s t h0 h1 h2 h3 h
    simp only [addL] at h
    have := ih _ _ (by omega) (by omega) (by omega) (by omega) h
    omega
/-- one byte that is another one makes another sum -/
theorem addL_set (l : List Int) : ∀ (k : Nat) (s y : Int), 0 ≤ s → s ≤ 65520 → 0 ≤ y → y ≤ 255 → Byt l → k < l.length → (addL s (l.set k y) = addL s l ↔ y = l.getD k 0) := by
  induction l with
  | nil => intro k s y _ _ _ _ _ h; simp at h
  | cons x l ih =>
    intro k s y h0 h1 h2 h3 hb hk
    have hx := hb x (by simp)
    cases k with
    | zero =>
      simp only [List.set_cons_zero, addL, List.getD_cons_zero]
      constructor
      · intro h
        have := addL_inj l _ _ (by omega) (by omega) (by omega) (by omega) h
        omega
      · intro h; rw [h]
    | succ k =>
      simp only [List.set_cons_succ, addL, List.getD_cons_succ]
      exact ih k _ y (by omega) (by omega) h2 h3 (fun z hz => hb z (by simp [hz])) (by simpa using hk)
end Go.Proofs.Ytmpmaljkmfgagab.SumM
/-
  What the functions on patches return, in words that serve the reference and the program alike; the memory of a patch.
-/
namespace Go.Proofs.Ytmpmaljkmfgagab
open Go.RowKit

/-- the document's Make, of the steps and the error that Diff gives -/
def madeOf (fr to : Int) (old b : List Int) (ops : List OpR) (err : Int) : PatR × Int :=
  if err ≠ 0 then (noPat, err)
  else if PatM.check ⟨fr, to, SumM.addL 1 old, SumM.addL 1 b, b.length, ops⟩ ≠ 0 then (noPat, PatM.check ⟨fr, to, SumM.addL 1 old, SumM.addL 1 b, b.length, ops⟩)
  else (⟨fr, to, SumM.addL 1 old, SumM.addL 1 b, b.length, ops⟩, 0)
/-- the document's Make: the patch, and the error -/
def MadeIs (fr to : Int) (x y : List Int) (r : PatR × Int) : Prop := ∃ ops err, DiffIs x y ops err ∧ r = madeOf fr to x y ops err
theorem MadeIs.det {fr to : Int} {x y : List Int} {r r' : PatR × Int} (h : MadeIs fr to x y r) (h' : MadeIs fr to x y r') : r = r' := by
  obtain ⟨o, e, h1, rfl⟩ := h
  obtain ⟨o', e', h2, rfl⟩ := h'
  obtain ⟨rfl, rfl⟩ := h1.det h2
  rfl
theorem MadeIs.many {fr to : Int} {x y : List Int} (h : 64 < x.length ∨ 64 < y.length) : MadeIs fr to x y (noPat, 1) := ⟨[], 1, .inl ⟨h, rfl, rfl⟩, by simp [madeOf]⟩
theorem MadeIs.any {fr to : Int} {x y : List Int} {ops : List OpR} (h : ¬ (64 < x.length ∨ 64 < y.length)) (hd : DeltaM.Dif x y [] ops) : MadeIs fr to x y (madeOf fr to x y ops 0) := ⟨ops, 0, .inr ⟨h, hd, rfl⟩, rfl⟩
/-- what Make returns -/
def GivesP (r : PatR × Int) (w : World) (e : Ending) (w' : World) : Prop :=
  ∃ v, e = .returned (.tuple #[v, .int .i64 r.2]) ∧ PV w' v r.1 ∧ Below w.heap.size w w'
/-- what a function returns that makes a patch: it reads so in every later world that has the same new blocks, as long as 'S' holds -/
def GivesPN (S : World → Prop) (r : PatR × Int) (w : World) (e : Ending) (w' : World) : Prop :=
  ∃ v, e = .returned (.tuple #[v, .int .i64 r.2]) ∧ Below w.heap.size w w' ∧ ∀ W' : World, w'.heap.size ≤ W'.heap.size → (∀ k, w.heap.size ≤ k → k < w'.heap.size → W'.heap[k]? = w'.heap[k]?) → S W' → PV W' v r.1
theorem GivesPN.plain {S : World → Prop} {r : PatR × Int} {w : World} {e : Ending} {w' : World} (h : GivesPN S r w e w') (hS : S w') : GivesP r w e w' := by
  obtain ⟨v, h1, h2, h3⟩ := h
  exact ⟨v, h1, h3 w' (Nat.le_refl _) (fun _ _ _ => rfl) hS, h2⟩
theorem noPat_pv (w : World) : PV w (.agg #[.int .i64 0, .int .i64 0, .int .i64 0, .int .i64 0, .int .i64 0, .slice none 0 0]) noPat :=
  ⟨none, 0, 0, rfl, OS.nil_ w, by unfold I64; decide, by unfold I64; decide, by unfold I64; decide, by unfold I64; decide, by unfold I64; decide⟩
/-- the document's Do -/
def doneOf (p : PatR) (old : List Int) : List Int × Int :=
  if PatM.check p ≠ 0 then ([], PatM.check p)
  else if 64 < old.length then ([], 1)
  else if SumM.addL 1 old ≠ p.old then ([], 6)
  else if DeltaM.check p.ops old.length p.size ≠ 0 then ([], DeltaM.check p.ops old.length p.size)
  else if SumM.addL 1 (DeltaM.applied old p.ops p.size) ≠ p.new then ([], 6)
  else (DeltaM.applied old p.ops p.size, 0)
/-- a call that returns bytes and an error -/
def GivesBE (r : List Int × Int) (w : World) (e : Ending) (w' : World) : Prop :=
  ∃ a n c, e = .returned (.tuple #[.slice a n c, .int .i64 r.2]) ∧ BS w' a n c r.1 ∧ Below w.heap.size w w'

/-- a block of a patch -/
theorem pat_cells {W : World} {B : Nat} {v0 v1 v2 v3 v4 v5 : Value} (h : W.heap[B]? = some (.cells #[v0, v1, v2, v3, v4, v5] 41 (0, 0))) :
    W.cell? ⟨B, 0, none⟩ = some v0 ∧ W.cell? ⟨B, 1, none⟩ = some v1 ∧ W.cell? ⟨B, 2, none⟩ = some v2 ∧ W.cell? ⟨B, 3, none⟩ = some v3 ∧ W.cell? ⟨B, 4, none⟩ = some v4 ∧ W.cell? ⟨B, 5, none⟩ = some v5 ∧
      W.frozen? ⟨B, 0, none⟩ = false ∧ W.frozen? ⟨B, 1, none⟩ = false ∧ W.frozen? ⟨B, 2, none⟩ = false ∧ W.frozen? ⟨B, 3, none⟩ = false ∧ W.frozen? ⟨B, 4, none⟩ = false ∧ W.frozen? ⟨B, 5, none⟩ = false := by
  simp [World.cell?, World.frozen?, h]

/-- a whole patch stored into a block of one -/
theorem set_six {W : World} {B : Nat} {v0 v1 v2 v3 v4 v5 : Value} (h : W.heap[B]? = some (.cells #[v0, v1, v2, v3, v4, v5] 41 (0, 0))) (u0 u1 u2 u3 u4 u5 : Value) :
    ∃ W6, (((((W.setCell ⟨B, 0, none⟩ u0).setCell ⟨B, 1, none⟩ u1).setCell ⟨B, 2, none⟩ u2).setCell ⟨B, 3, none⟩ u3).setCell ⟨B, 4, none⟩ u4).setCell ⟨B, 5, none⟩ u5 = W6 ∧
      W6.cell? ⟨B, 0, none⟩ = some u0 ∧ W6.cell? ⟨B, 1, none⟩ = some u1 ∧ W6.cell? ⟨B, 2, none⟩ = some u2 ∧ W6.cell? ⟨B, 3, none⟩ = some u3 ∧ W6.cell? ⟨B, 4, none⟩ = some u4 ∧ W6.cell? ⟨B, 5, none⟩ = some u5 ∧
      (∀ k, k ≠ B → W6.heap[k]? = W.heap[k]?) ∧ W6.heap.size = W.heap.size := by
  refine ⟨_, rfl, ?_, ?_, ?_, ?_, ?_, ?_, fun k hk => ?_, by simp only [size_set]⟩
  iterate 6 (simp [World.cell?, World.setCell, Array.getElem?_modify, h])
  rw [Below.heap_setCell _ _ _ k hk, Below.heap_setCell _ _ _ k hk, Below.heap_setCell _ _ _ k hk, Below.heap_setCell _ _ _ k hk, Below.heap_setCell _ _ _ k hk, Below.heap_setCell _ _ _ k hk]
end Go.Proofs.Ytmpmaljkmfgagab
/-
  Plain data: a patch as bytes, bytes as a patch; the one is the inverse of the other.
-/
namespace Go.Proofs.Ytmpmaljkmfgagab.PatM

/-- a step as bytes -/
def enc (o : OpR) : List Int := if o.len = 0 then 255 :: (o.data.length : Int) :: o.data else [o.at_, o.len]
def encs : List OpR → List Int
  | [] => []
  | o :: t => enc o ++ encs t
theorem encs_append : ∀ x y, encs (x ++ y) = encs x ++ encs y
  | [], _ => rfl
  | o :: t, y => by simp [encs, encs_append t y]
def head (p : PatR) : List Int := [p.from_, p.to_, p.old / 256, p.old % 256, p.new / 256, p.new % 256, p.size, p.ops.length]
def putL (p : PatR) : List Int := head p ++ encs p.ops
/-- the document's Put -/
def putOf (p : PatR) : List Int × Int := if check p ≠ 0 then ([], check p) else if 400 < (putL p).length then ([], 1) else (putL p, 0)

/-- so many steps out of bytes: an error, the steps, what is left -/
def rd : Nat → List Int → List OpR → Int × List OpR × List Int
  | 0, r, acc => (0, acc, r)
  | k + 1, x :: y :: t, acc => if x = 255 then (if (t.length : Int) < y then (7, [], []) else rd k (t.drop y.toNat) (acc ++ [⟨0, 0, t.take y.toNat⟩])) else if y = 0 then (3, [], []) else rd k t (acc ++ [⟨x, y, []⟩])
  | _ + 1, _, _ => (7, [], [])
/-- the patch that the bytes ahead of the steps tell -/
def headOf (b : List Int) (ops : List OpR) : PatR := ⟨b.getD 0 0, b.getD 1 0, b.getD 2 0 * 256 + b.getD 3 0, b.getD 4 0 * 256 + b.getD 5 0, b.getD 6 0, ops⟩
/-- the document's Read -/
def readOf (b : List Int) : PatR × Int :=
  if 400 < b.length then (noPat, 1)
  else if b.length < 8 then (noPat, 7)
  else if (rd (b.getD 7 0).toNat (b.drop 8) []).1 ≠ 0 then (noPat, (rd (b.getD 7 0).toNat (b.drop 8) []).1)
  else if 0 < (rd (b.getD 7 0).toNat (b.drop 8) []).2.2.length then (noPat, 7)
  else if check (headOf b (rd (b.getD 7 0).toNat (b.drop 8) []).2.1) ≠ 0 then (noPat, check (headOf b (rd (b.getD 7 0).toNat (b.drop 8) []).2.1))
  else (headOf b (rd (b.getD 7 0).toNat (b.drop 8) []).2.1, 0)

theorem check_parts {p : PatR} (h : check p = 0) : ¬ badHead p ∧ DeltaM.check p.ops 64 p.size = 0 := by
  unfold check at h
  split at h
  · omega
  · exact ⟨by assumption, h⟩
theorem data_le {old : Int} : ∀ {l : List OpR}, DeltaM.Good old l → ((encs l).length : Int) ≤ 2 * l.length + DeltaM.total l
  | [], _ => by simp [encs, DeltaM.total]
  | o :: t, h => by
    have h1 := h o (by simp)
    have h2 := data_le (l := t) (fun o' ho => h o' (by simp [ho]))
    have h3 := DeltaM.good_len h1.2
    simp only [encs, List.length_append, DeltaM.total, DeltaM.size, List.length_cons, enc]
    split
    · simp only [List.length_cons]; omega
    · simp only [List.length_cons, List.length_nil]; omega
theorem putL_len {p : PatR} (h : check p = 0) : (putL p).length ≤ 152 := by
  obtain ⟨-, h2⟩ := check_parts h
  obtain ⟨h40, -, -, s1, s2, hg, ht⟩ := DeltaM.check_zero h2
  have := data_le hg
  simp only [putL, head, List.length_append, List.length_cons, List.length_nil]
  omega
theorem putOf_ok {p : PatR} (h : check p = 0) : putOf p = (putL p, 0) := by
  have := putL_len h
  unfold putOf
  rw [if_neg (by simp [h]), if_neg (by omega)]
theorem putOf_bad {p : PatR} (h : check p ≠ 0) : putOf p = ([], check p) := by unfold putOf; rw [if_pos h]

theorem form_data {o : OpR} (h : ¬ DeltaM.badForm o) (h0 : o.len = 0) : o = ⟨0, 0, o.data⟩ ∧ 1 ≤ o.data.length ∧ o.data.length ≤ 64 := by
  obtain ⟨a, l, d⟩ := o
  simp only at h0
  subst h0
  unfold DeltaM.badForm at h
  have h2 : ¬ (a ≠ 0 ∨ ¬ (1 ≤ (d.length : Int) ∧ (d.length : Int) ≤ 64)) := fun h1 => h (.inl ⟨rfl, h1⟩)
  obtain rfl : a = 0 := by omega
  refine ⟨rfl, ?_⟩
  simp only
  omega
theorem form_copy {o : OpR} (h : ¬ DeltaM.badForm o) (h0 : o.len ≠ 0) : o = ⟨o.at_, o.len, []⟩ := by
  obtain ⟨a, l, d⟩ := o
  simp only at h0
  unfold DeltaM.badForm at h
  simp only at h
  have : d.length = 0 := by omega
  obtain rfl := List.eq_nil_of_length_eq_zero this
  rfl
theorem encs_bytes : ∀ {l : List OpR}, DeltaM.Good 64 l → (∀ o ∈ l, ∀ v ∈ o.data, 0 ≤ v ∧ v ≤ 255) → ∀ v ∈ encs l, 0 ≤ v ∧ v ≤ 255
  | [], _, _, v, hv => by simp [encs] at hv
  | o :: t, h, hd, v, hv => by
    have h1 := h o (by simp)
    have h3 := DeltaM.good_len h1.2
    simp only [encs, List.mem_append] at hv
    rcases hv with hv | hv
    · unfold enc at hv
      split at hv
      · rename_i h0
        have h4 := form_data h1.1 h0
        simp only [List.mem_cons] at hv
        rcases hv with rfl | rfl | hv
        · omega
        · omega
        · exact hd o (by simp) v hv
      · simp only [List.mem_cons, List.not_mem_nil, or_false] at hv
        rcases hv with rfl | rfl <;> omega
    · exact encs_bytes (fun o' ho => h o' (by simp [ho])) (fun o' ho => hd o' (by simp [ho])) v hv
theorem putL_bytes {p : PatR} (h : check p = 0) (hd : ∀ o ∈ p.ops, ∀ v ∈ o.data, 0 ≤ v ∧ v ≤ 255) : ∀ v ∈ putL p, 0 ≤ v ∧ v ≤ 255 := by
  obtain ⟨hh, h2⟩ := check_parts h
  obtain ⟨h40, -, -, s1, s2, hg, ht⟩ := DeltaM.check_zero h2
  unfold badHead at hh
  intro v hv
  simp only [putL, List.mem_append] at hv
  rcases hv with hv | hv
  · simp only [head, List.mem_cons, List.not_mem_nil, or_false] at hv
    rcases hv with rfl | rfl | rfl | rfl | rfl | rfl | rfl | rfl <;> omega
  · exact encs_bytes hg hd v hv
theorem rd_encs : ∀ (l : List OpR) (r : List Int) (acc : List OpR), DeltaM.Good 64 l → rd l.length (encs l ++ r) acc = (0, acc ++ l, r)
  | [], r, acc, _ => by simp [rd, encs]
  | o :: t, r, acc, h => by
    have h1 := h o (by simp)
    have ih := fun r acc => rd_encs t r acc (fun o' ho => h o' (by simp [ho]))
    have h3 := DeltaM.good_len h1.2
    by_cases h0 : o.len = 0
    · obtain ⟨e, d1, d2⟩ := form_data h1.1 h0
      have : encs (o :: t) ++ r = 255 :: (o.data.length : Int) :: (o.data ++ (encs t ++ r)) := by simp [encs, enc, h0]
      rw [this, List.length_cons, rd, if_pos rfl, if_neg (by simp only [List.length_append]; omega)]
      rw [show (o.data.length : Int).toNat = o.data.length by omega, List.drop_left, List.take_left, ih, ← e]
      simp
    · have e := form_copy h1.1 h0
      have : encs (o :: t) ++ r = o.at_ :: o.len :: (encs t ++ r) := by simp [encs, enc, h0]
      rw [this, List.length_cons, rd, if_neg (by omega), if_neg h0, ih, ← e]
      simp
theorem rd_back : ∀ (k : Nat) (r : List Int) (acc ops : List OpR) (r' : List Int), (∀ v ∈ r, 0 ≤ v ∧ v ≤ 255) → rd k r acc = (0, ops, r') → ∃ l, ops = acc ++ l ∧ l.length = k ∧ r = encs l ++ r'
  | 0, r, acc, ops, r', _, h => by
    simp only [rd, Prod.mk.injEq, true_and] at h
    exact ⟨[], by simp [h.1], rfl, by simp [encs, h.2]⟩
  | k + 1, [], acc, ops, r', _, h => by simp [rd] at h
  | k + 1, [x], acc, ops, r', _, h => by simp [rd] at h
  | k + 1, x :: y :: t, acc, ops, r', hb, h => by
    have hy := hb y (by simp)
    have ht : ∀ v ∈ t, 0 ≤ v ∧ v ≤ 255 := fun v hv => hb v (by simp [hv])
    rw [rd] at h
    by_cases hx : x = 255
    · subst hx
      rw [if_pos rfl] at h
      by_cases hl : (t.length : Int) < y
      · rw [if_pos hl] at h
        simp at h
      · rw [if_neg hl] at h
        obtain ⟨l, e1, e2, e3⟩ := rd_back k _ _ _ _ (fun v hv => ht v (List.mem_of_mem_drop hv)) h
        have hlen : (t.take y.toNat).length = y.toNat := by simp; omega
        refine ⟨⟨0, 0, t.take y.toNat⟩ :: l, by simp [e1], by simp [e2], ?_⟩
        simp only [encs, enc, if_pos, hlen, List.cons_append, List.append_assoc]
        rw [← e3, List.take_append_drop, show ((y.toNat : Nat) : Int) = y by omega]
    · rw [if_neg hx] at h
      by_cases hy0 : y = 0
      · rw [if_pos hy0] at h
        simp at h
      · rw [if_neg hy0] at h
        obtain ⟨l, e1, e2, e3⟩ := rd_back k _ _ _ _ ht h
        refine ⟨⟨x, y, []⟩ :: l, by simp [e1], by simp [e2], ?_⟩
        simp [encs, enc, hy0, ← e3]
theorem rd_short {k : Nat} {r : List Int} {acc : List OpR} (hk : 0 < k) (h : r.length < 2) : rd k r acc = (7, [], []) := by
  obtain ⟨m, rfl⟩ : ∃ m, k = m + 1 := ⟨k - 1, by omega⟩
  match r, h with
  | [], _ => rfl
  | [_], _ => rfl
theorem read_err {b : List Int} {e : Int} {o : List OpR} {r : List Int} (h : b.length ≤ 400) (h8 : 8 ≤ b.length) (hr : rd (b.getD 7 0).toNat (b.drop 8) [] = (e, o, r)) (he : e ≠ 0) : readOf b = (noPat, e) := by
  unfold readOf
  rw [if_neg (by omega), if_neg (by omega), hr, if_pos he]
theorem read_rest {b : List Int} {o : List OpR} {r : List Int} (h : b.length ≤ 400) (h8 : 8 ≤ b.length) (hr : rd (b.getD 7 0).toNat (b.drop 8) [] = (0, o, r)) (hl : 0 < r.length) : readOf b = (noPat, 7) := by
  unfold readOf
  rw [if_neg (by omega), if_neg (by omega), hr, if_neg (by simp), if_pos hl]
theorem read_fin {b : List Int} {o : List OpR} {r : List Int} (h : b.length ≤ 400) (h8 : 8 ≤ b.length) (hr : rd (b.getD 7 0).toNat (b.drop 8) [] = (0, o, r)) (hl : ¬ 0 < r.length) : readOf b = if check (headOf b o) ≠ 0 then (noPat, check (headOf b o)) else (headOf b o, 0) := by
  unfold readOf
  rw [if_neg (by omega), if_neg (by omega), hr, if_neg (by simp), if_neg hl]
/-- READ OF PUT IS THE PATCH -/
theorem read_put {p : PatR} (h : check p = 0) : readOf (putL p) = (p, 0) := by
  have hlen := putL_len h
  obtain ⟨hh, h2⟩ := check_parts h
  obtain ⟨h40, -, -, s1, s2, hg, ht⟩ := DeltaM.check_zero h2
  unfold badHead at hh
  have hd : (putL p).drop 8 = encs p.ops := by simp [putL, head]
  have h7 : (putL p).getD 7 0 = p.ops.length := by simp [putL, head]
  have hr := rd_encs p.ops [] [] hg
  rw [List.append_nil, List.nil_append] at hr
  have hp : headOf (putL p) p.ops = p := by
    obtain ⟨f, t, o, nw, s, ops⟩ := p
    simp only [headOf, putL, head, List.cons_append, List.nil_append, List.getD_cons_zero, List.getD_cons_succ]
    rw [show o / 256 * 256 + o % 256 = o by omega, show nw / 256 * 256 + nw % 256 = nw by omega]
  unfold readOf
  rw [if_neg (by omega), if_neg (by simp only [putL, head, List.length_append, List.length_cons, List.length_nil]; omega), hd, h7, Int.toNat_natCast, hr]
  simp [hp, h]
/-- what is read is put as it was -/
theorem put_read {b : List Int} {p : PatR} (hb : ∀ v ∈ b, 0 ≤ v ∧ v ≤ 255) (h : readOf b = (p, 0)) : check p = 0 ∧ putL p = b := by
  unfold readOf at h
  split at h
  · simp at h
  split at h
  · simp at h
  split at h
  · rename_i h1
    simp only [Prod.mk.injEq] at h
    exact absurd h.2 h1
  split at h
  · simp at h
  split at h
  · rename_i h1
    simp only [Prod.mk.injEq] at h
    exact absurd h.2 h1
  rename_i h400 h8 he hr hc
  simp only [Prod.mk.injEq, and_true] at h
  rw [← h]
  refine ⟨by simpa using hc, ?_⟩
  have e1 : (rd (b.getD 7 0).toNat (b.drop 8) []).1 = 0 := by simpa using he
  have e2 : (rd (b.getD 7 0).toNat (b.drop 8) []).2.2 = [] := List.eq_nil_of_length_eq_zero (by omega)
  obtain ⟨l, q1, q2, q3⟩ := rd_back (b.getD 7 0).toNat (b.drop 8) [] (rd (b.getD 7 0).toNat (b.drop 8) []).2.1 [] (fun v hv => hb v (List.mem_of_mem_drop hv)) (by
    generalize rd (b.getD 7 0).toNat (b.drop 8) [] = R at e1 e2
    obtain ⟨x, y, z⟩ := R
    simp only at e1 e2
    rw [e1, e2])
  rw [q1, List.nil_append]
  rw [List.append_nil] at q3
  match b, h8 with
  | b0 :: b1 :: b2 :: b3 :: b4 :: b5 :: b6 :: b7 :: t, _ =>
    simp only [List.drop_succ_cons, List.drop_zero] at q3
    have v3 := hb b3 (by simp)
    have v5 := hb b5 (by simp)
    have v7 := hb b7 (by simp)
    simp only [List.getD_cons_zero, List.getD_cons_succ] at q2
    simp only [putL, head, headOf, List.getD_cons_zero, List.getD_cons_succ, List.cons_append, List.nil_append]
    rw [q3, show (l.length : Int) = b7 by omega, show (b2 * 256 + b3) / 256 = b2 by omega, show (b2 * 256 + b3) % 256 = b3 by omega, show (b4 * 256 + b5) / 256 = b4 by omega, show (b4 * 256 + b5) % 256 = b5 by omega]
  | [], h8 | [_], h8 | [_, _], h8 | [_, _, _], h8 | [_, _, _, _], h8 | [_, _, _, _, _], h8 | [_, _, _, _, _, _], h8 | [_, _, _, _, _, _, _], h8 => simp at h8
end Go.Proofs.Ytmpmaljkmfgagab.PatM
/-
  Plain facts on run-length encoding of lists of bytes. No program is named here.
-/
namespace Go.Proofs.Ytmpmaljkmfgagab.PackM

/-- how many numbers in front are x -/
def lead (x : Int) : List Int → Nat
  | [] => 0
  | y :: l => if y = x then lead x l + 1 else 0
/-- the length of the run in front, 127 at most -/
def run (l : List Int) : Nat := min 127 (lead (l[0]?.getD 0) l)

theorem lead_le (x : Int) (l : List Int) : lead x l ≤ l.length := by
  induction l with
  | nil => simp [lead]
  | cons y l ih => simp only [lead, List.length_cons]; split <;> omega
theorem lead_at (x : Int) (l : List Int) : ∀ j, j < lead x l → l[j]?.getD 0 = x := by
  induction l with
  | nil => simp [lead]
  | cons y l ih =>
    intro j hj
    simp only [lead] at hj
    split at hj
    · cases j with
      | zero => simpa using ‹y = x›
      | succ j => simpa using ih j (by omega)
    · omega
theorem lead_ge (x : Int) (l : List Int) : ∀ n, n ≤ l.length → (∀ j, j < n → l[j]?.getD 0 = x) → n ≤ lead x l := by
  induction l with
  | nil => intro n hn _; simpa [lead] using hn
  | cons y l ih =>
    intro n hn h
    cases n with
    | zero => omega
    | succ n =>
      have h0 := h 0 (by omega)
      simp at h0
      simp only [lead, if_pos h0]
      have := ih n (by simpa using hn) (fun j hj => by simpa using h (j + 1) (by omega))
      omega
theorem run_le (l : List Int) : run l ≤ l.length := by have := lead_le (l[0]?.getD 0) l; unfold run; omega
theorem run_max (l : List Int) : run l ≤ 127 := by unfold run; omega
theorem run_at (l : List Int) (j : Nat) (h : j < run l) : l[j]?.getD 0 = l[0]?.getD 0 := lead_at _ l j (by unfold run at h; omega)
theorem run_eq (l : List Int) (n : Nat) (hn : n ≤ l.length) (h127 : n ≤ 127) (heq : ∀ j, j < n → l[j]?.getD 0 = l[0]?.getD 0)
    (hstop : n = l.length ∨ n = 127 ∨ l[n]?.getD 0 ≠ l[0]?.getD 0) : run l = n := by
  have h1 := lead_ge _ l n hn heq
  have h2 := lead_le (l[0]?.getD 0) l
  unfold run
  rcases hstop with h | h | h
  · omega
  · omega
  · have : ¬ n < lead (l[0]?.getD 0) l := fun hh => h (lead_at _ l n hh)
    omega
theorem run_pos (l : List Int) (h : 0 < l.length) : 1 ≤ run l := by
  have h0 : ∀ j, j < 1 → l[j]?.getD 0 = l[0]?.getD 0 := by
    intro j hj
    have : j = 0 := by omega
    rw [this]
  have := lead_ge (l[0]?.getD 0) l 1 (by omega) h0
  unfold run; omega
theorem run_take (l : List Int) : l.take (run l) = List.replicate (run l) (l[0]?.getD 0) := by
  apply List.ext_getElem
  · simp only [List.length_take, List.length_replicate]; have := run_le l; omega
  · intro i h1 h2
    simp at h1
    have := run_at l i (by omega)
    have hi : i < l.length := by omega
    simp [List.getElem?_eq_getElem hi] at this
    simpa using this

/-- what the document says of packing: o is l packed -/
inductive Packs : List Int → List Int → Prop
  | nil : Packs [] []
  | run (l o : List Int) (n : Nat) (hn : PackM.run l = n) (h : 3 ≤ n) (ho : Packs (l.drop n) o) : Packs l ((128 + n : Int) :: l[0]?.getD 0 :: o)
  | lit (l o : List Int) (k : Nat) (h1 : 1 ≤ k) (h2 : k ≤ 127) (h3 : k ≤ l.length) (h4 : ∀ j, j < k → PackM.run (l.drop j) < 3)
      (h5 : k = l.length ∨ k = 127 ∨ 3 ≤ PackM.run (l.drop k)) (ho : Packs (l.drop k) o) : Packs l ((k : Int) :: (l.take k ++ o))

theorem run_nil : run [] = 0 := rfl
theorem run_some {l : List Int} {n : Nat} (hn : run l = n) (h : 3 ≤ n) : l ≠ [] := by
  rintro rfl
  rw [run_nil] at hn; omega

theorem Packs.det {l o : List Int} (h : Packs l o) : ∀ o', Packs l o' → o = o' := by
  induction h with
  | nil =>
    intro o' h'
    cases h' with
    | nil => rfl
    | run _ _ n hn h _ => exact absurd rfl (run_some hn h)
    | lit _ _ k h1 _ h3 => simp at h3; omega
  | run l o n hn h ho ih =>
    intro o' h'
    cases h' with
    | nil => exact absurd rfl (run_some hn h)
    | run _ o1 n1 hn1 h1 ho1 =>
      obtain rfl : n = n1 := by omega
      rw [ih _ ho1]
    | lit _ o1 k h1 _ _ h4 => have := h4 0 (by omega); simp at this; omega
  | lit l o k h1 h2 h3 h4 h5 ho ih =>
    intro o' h'
    cases h' with
    | nil => simp at h3; omega
    | run _ o1 n1 hn1 hh1 ho1 => have := h4 0 (by omega); simp at this; omega
    | lit _ o1 k1 g1 g2 g3 g4 g5 go1 =>
      obtain rfl : k = k1 := by
        rcases Nat.lt_trichotomy k k1 with hlt | heq | hgt
        · have := g4 k hlt
          omega
        · exact heq
        · have := h4 k1 hgt
          omega
      rw [ih _ go1]

theorem Packs.len {l o : List Int} (h : Packs l o) : o.length ≤ l.length + l.length / 127 + 1 ∧ ((l = [] ∨ 3 ≤ PackM.run l) → o.length ≤ l.length + l.length / 127) := by
  induction h with
  | nil => simp
  | run l o n hn h ho ih =>
    have := run_le l
    simp only [List.length_drop, List.length_cons] at ih ⊢
    omega
  | lit l o k h1 h2 h3 h4 h5 ho ih =>
    have h0 := h4 0 (by omega)
    simp only [List.drop_zero] at h0
    have hl : ¬ l = [] := by rintro rfl; simp at h3; omega
    simp only [List.length_drop, List.length_cons, List.length_append, List.length_take] at ih ⊢
    refine ⟨?_, fun hh => hh.elim (fun h => absurd h hl) (fun h => by omega)⟩
    rcases h5 with h5 | h5 | h5
    · have := ih.2 (.inl (by rw [List.drop_eq_nil_iff]; omega))
      omega
    · omega
    · have := ih.2 (.inr h5)
      omega

theorem Packs.byt {l o : List Int} (h : Packs l o) (hl : ∀ x ∈ l, 0 ≤ x ∧ x ≤ 255) : ∀ x ∈ o, 0 ≤ x ∧ x ≤ 255 := by
  induction h with
  | nil => simp
  | run l o n hn h ho ih =>
    have hm := run_max l
    intro x hx
    simp only [List.mem_cons] at hx
    rcases hx with rfl | rfl | hx
    · omega
    · have : 0 < l.length := by have := run_le l; omega
      simpa [List.getElem?_eq_getElem this] using hl _ (List.getElem_mem this)
    · exact ih (fun y hy => hl y (List.mem_of_mem_drop hy)) x hx
  | lit l o k h1 h2 h3 h4 h5 ho ih =>
    intro x hx
    simp only [List.mem_cons, List.mem_append] at hx
    rcases hx with rfl | hx | hx
    · omega
    · exact hl x (List.mem_of_mem_take hx)
    · exact ih (fun y hy => hl y (List.mem_of_mem_drop hy)) x hx

/-- how many bytes follow a byte that tells a length -/
def follow (x : Int) : Nat := if 128 ≤ x then 1 else (x % 128).toNat
/-- the bytes that a length and what follows it stand for -/
def grp (x : Int) (t : List Int) : List Int := if 128 ≤ x then List.replicate (x % 128).toNat (t[0]?.getD 0) else t.take (x % 128).toNat

/-- what the document says of unpacking: with l to go and out made, the result and the error are r -/
inductive Unp (most : Int) : List Int → List Int → List Int × Int → Prop
  | done (out : List Int) : Unp most [] out (out, 0)
  | form (x : Int) (t out : List Int) (h : x % 128 = 0) : Unp most (x :: t) out ([], 3)
  | torn (x : Int) (t out : List Int) (h : x % 128 ≠ 0) (h1 : t.length < follow x) : Unp most (x :: t) out ([], 7)
  | many (x : Int) (t out : List Int) (h : x % 128 ≠ 0) (h1 : follow x ≤ t.length) (h2 : most < out.length + x % 128) : Unp most (x :: t) out ([], 1)
  | step (x : Int) (t out : List Int) (r : List Int × Int) (h : x % 128 ≠ 0) (h1 : follow x ≤ t.length) (h2 : out.length + x % 128 ≤ most)
      (hr : Unp most (t.drop (follow x)) (out ++ grp x t) r) : Unp most (x :: t) out r

theorem Unp.det {most : Int} {l out : List Int} {r : List Int × Int} (h : Unp most l out r) : ∀ r', Unp most l out r' → r = r' := by
  induction h with
  | done out => intro r' h'; cases h'; rfl
  | form x t out h =>
    intro r' h'
    cases h' with
    | form => rfl
    | torn _ _ _ g => exact absurd h g
    | many _ _ _ g => exact absurd h g
    | step _ _ _ _ g => exact absurd h g
  | torn x t out h h1 =>
    intro r' h'
    cases h' with
    | form _ _ _ g => exact absurd g h
    | torn => rfl
    | many _ _ _ g g1 => omega
    | step _ _ _ _ g g1 => omega
  | many x t out h h1 h2 =>
    intro r' h'
    cases h' with
    | form _ _ _ g => exact absurd g h
    | torn _ _ _ g g1 => omega
    | many => rfl
    | step _ _ _ _ g g1 g2 => omega
  | step x t out r h h1 h2 hr ih =>
    intro r' h'
    cases h' with
    | form _ _ _ g => exact absurd g h
    | torn _ _ _ g g1 => omega
    | many _ _ _ g g1 g2 => omega
    | step _ _ _ _ g g1 g2 gr => exact ih _ gr

theorem grp_len (x : Int) (t : List Int) (h : follow x ≤ t.length) : (grp x t).length = (x % 128).toNat := by
  unfold grp
  unfold follow at h
  split
  · simp
  · rename_i hx
    rw [if_neg hx] at h
    rw [List.length_take]; omega
theorem grp_byt (x : Int) (t : List Int) (ht : ∀ y ∈ t, 0 ≤ y ∧ y ≤ 255) : ∀ y ∈ grp x t, 0 ≤ y ∧ y ≤ 255 := by
  intro y hy
  unfold grp at hy
  split at hy
  · obtain ⟨_, rfl⟩ := List.mem_replicate.1 hy
    cases t with
    | nil => simp
    | cons z t => simpa using ht z (by simp)
  · exact ht y (List.mem_of_mem_take hy)

theorem Unp.byt {most : Int} {l out : List Int} {r : List Int × Int} (h : Unp most l out r) (hl : ∀ x ∈ l, 0 ≤ x ∧ x ≤ 255) (ho : ∀ x ∈ out, 0 ≤ x ∧ x ≤ 255) : ∀ x ∈ r.1, 0 ≤ x ∧ x ≤ 255 := by
  induction h with
  | done => exact ho
  | form => simp
  | torn => simp
  | many => simp
  | step x t out r h h1 h2 hr ih =>
    refine ih (fun y hy => hl y (List.mem_cons_of_mem _ (List.mem_of_mem_drop hy))) ?_
    intro y hy
    rcases List.mem_append.1 hy with hy | hy
    · exact ho y hy
    · exact grp_byt x t (fun z hz => hl z (List.mem_cons_of_mem _ hz)) y hy

/-- what is packed is unpacked, wherever it stands, if there is room -/
theorem Packs.back {b p : List Int} (h : Packs b p) : ∀ (most : Int) (rest out : List Int) (r : List Int × Int), out.length + b.length ≤ most → Unp most rest (out ++ b) r → Unp most (p ++ rest) out r := by
  induction h with
  | nil => intro most rest out r _ hr; simpa using hr
  | run l o n hn h ho ih =>
    intro most rest out r hm hr
    have hmx := run_max l
    have hle := run_le l
    have e1 : (128 + (n : Int)) % 128 = n := by omega
    have hf : follow (128 + (n : Int)) = 1 := by unfold follow; rw [if_pos (by omega)]
    have hg : grp (128 + (n : Int)) (l[0]?.getD 0 :: (o ++ rest)) = l.take n := by
      unfold grp
      rw [if_pos (by omega), e1, ← hn, run_take]
      simp
    refine Unp.step _ _ _ _ (by omega) (by rw [hf]; simp) (by rw [e1]; omega) ?_
    rw [hf]
    show Unp most (o ++ rest) (out ++ grp _ (l[0]?.getD 0 :: (o ++ rest))) r
    rw [hg]
    refine ih most rest (out ++ l.take n) r ?_ ?_
    · simp only [List.length_append, List.length_take, List.length_drop]; omega
    · rw [List.append_assoc, List.take_append_drop]; exact hr
  | lit l o k h1 h2 h3 h4 h5 ho ih =>
    intro most rest out r hm hr
    have e1 : (k : Int) % 128 = k := by omega
    have hf : follow (k : Int) = k := by unfold follow; rw [if_neg (by omega)]; omega
    have hg : grp (k : Int) (l.take k ++ o ++ rest) = l.take k := by
      unfold grp
      rw [if_neg (by omega), e1, Int.toNat_natCast, List.append_assoc, List.take_append_of_le_length (by simp; omega), List.take_take, Nat.min_self]
    refine Unp.step _ _ _ _ (by omega) (by rw [hf]; simp; omega) (by rw [e1]; omega) ?_
    rw [hf]
    show Unp most ((l.take k ++ o ++ rest).drop k) (out ++ grp (k : Int) (l.take k ++ o ++ rest)) r
    rw [hg, List.append_assoc, List.drop_append_of_le_length (by simp; omega), List.drop_take, Nat.sub_self, List.take_zero, List.nil_append]
    refine ih most rest (out ++ l.take k) r ?_ ?_
    · simp only [List.length_append, List.length_take, List.length_drop]; omega
    · rw [List.append_assoc, List.take_append_drop]; exact hr

/-- .. and where there is none, it is too much -/
theorem Packs.short {b p : List Int} (h : Packs b p) : ∀ (most : Int) (out : List Int), b ≠ [] → most < out.length + b.length → Unp most p out ([], 1) := by
  induction h with
  | nil => intro most out hb; exact absurd rfl hb
  | run l o n hn h ho ih =>
    intro most out _ hm
    have hmx := run_max l
    have hle := run_le l
    have e1 : (128 + (n : Int)) % 128 = n := by omega
    have hf : follow (128 + (n : Int)) = 1 := by unfold follow; rw [if_pos (by omega)]
    by_cases hr : most < out.length + (n : Int)
    · exact Unp.many _ _ _ (by omega) (by rw [hf]; simp) (by rw [e1]; exact hr)
    · refine Unp.step _ _ _ _ (by omega) (by rw [hf]; simp) (by rw [e1]; omega) ?_
      rw [hf]
      have hg : (grp (128 + (n : Int)) (l[0]?.getD 0 :: o)).length = n := by
        rw [grp_len _ _ (by rw [hf]; simp), e1]; omega
      refine ih most _ ?_ ?_
      · intro he
        have := congrArg List.length he
        simp only [List.length_drop, List.length_nil] at this
        omega
      · simp only [List.length_append, List.length_drop, hg]; omega
  | lit l o k h1 h2 h3 h4 h5 ho ih =>
    intro most out _ hm
    have e1 : (k : Int) % 128 = k := by omega
    have hf : follow (k : Int) = k := by unfold follow; rw [if_neg (by omega)]; omega
    by_cases hr : most < out.length + (k : Int)
    · exact Unp.many _ _ _ (by omega) (by rw [hf]; simp; omega) (by rw [e1]; exact hr)
    · refine Unp.step _ _ _ _ (by omega) (by rw [hf]; simp; omega) (by rw [e1]; omega) ?_
      rw [hf]
      have hg : (grp (k : Int) (l.take k ++ o)).length = k := by
        rw [grp_len _ _ (by rw [hf]; simp; omega), e1]; omega
      have hd : (l.take k ++ o).drop k = o := by
        rw [List.drop_append_of_le_length (by simp; omega), List.drop_take, Nat.sub_self, List.take_zero, List.nil_append]
      rw [hd]
      refine ih most _ ?_ ?_
      · intro he
        have := congrArg List.length he
        simp only [List.length_drop, List.length_nil] at this
        omega
      · simp only [List.length_append, List.length_drop, hg]; omega

/-- two packings behind one another -/
theorem Packs.both {b c p q : List Int} (h : Packs b p) (h' : Packs c q) : Unp (b.length + c.length) (p ++ q) [] (b ++ c, 0) := by
  have h2 := h'.back (b.length + c.length) [] b (b ++ c, 0) (by omega) (Unp.done _)
  rw [List.append_nil] at h2
  exact h.back _ q [] _ (by simp only [List.length_nil]; omega) (by simpa using h2)
theorem Packs.alone {b p : List Int} (h : Packs b p) : Unp b.length p [] (b, 0) := by
  have := h.back b.length [] [] (b, 0) (by simp) (by simpa using Unp.done b)
  simpa using this
end Go.Proofs.Ytmpmaljkmfgagab.PackM
/-
  Plain data: the document's Cut.
-/
namespace Go.Proofs.Ytmpmaljkmfgagab.ChunkM

/-- so many chunks -/
def parts (o : List Int) : Nat := (o.length + 15) / 16
/-- the k-th chunk of packed bytes -/
def nth (fr to : Int) (o : List Int) (k : Nat) : ChR := ⟨fr, to, k, (parts o : Nat), (o.drop (k * 16)).take 16⟩
/-- packed bytes in chunks -/
def cutL (fr to : Int) (o : List Int) : List ChR := (List.range (parts o)).map (nth fr to o)
theorem cutL_length (fr to : Int) (o : List Int) : (cutL fr to o).length = parts o := by simp [cutL]
theorem cutL_get (fr to : Int) (o : List Int) {k : Nat} (h : k < parts o) : (cutL fr to o).getD k default = nth fr to o k := by
  simp [cutL, List.getD_eq_getElem?_getD, List.getElem?_range h]
/-- the document's Cut -/
def CutIs (p : PatR) (cs : List ChR) (err : Int) : Prop :=
  (PatM.check p ≠ 0 ∧ cs = [] ∧ err = PatM.check p) ∨ (PatM.check p = 0 ∧ ∃ o, PackM.Packs (PatM.putL p) o ∧ cs = cutL p.from_ p.to_ o ∧ err = 0)
theorem CutIs.det {p : PatR} {cs cs' : List ChR} {e e' : Int} (h : CutIs p cs e) (h' : CutIs p cs' e') : cs = cs' ∧ e = e' := by
  rcases h with ⟨h1, rfl, rfl⟩ | ⟨h1, o, h2, rfl, rfl⟩ <;> rcases h' with ⟨q1, rfl, rfl⟩ | ⟨q1, o', q2, rfl, rfl⟩
  · exact ⟨rfl, rfl⟩
  · exact absurd q1 h1
  · exact absurd h1 q1
  · rw [h2.det _ q2]
    exact ⟨rfl, rfl⟩
theorem packed_len {p : PatR} (h : PatM.check p = 0) {o : List Int} (ho : PackM.Packs (PatM.putL p) o) : o.length ≤ 154 := by
  have h1 := PatM.putL_len h
  have h2 := ho.len.1
  omega
theorem packed_parts {p : PatR} (h : PatM.check p = 0) {o : List Int} (ho : PackM.Packs (PatM.putL p) o) : parts o ≤ 10 := by
  have := packed_len h ho
  unfold parts
  omega
end Go.Proofs.Ytmpmaljkmfgagab.ChunkM
/-
  Plain data: the document's Join.
-/
namespace Go.Proofs.Ytmpmaljkmfgagab.ChunkM

/-- all data, one behind the other -/
def flatD : List ChR → List Int
  | [] => []
  | c :: t => c.data ++ flatD t
theorem flatD_append : ∀ x y, flatD (x ++ y) = flatD x ++ flatD y
  | [], _ => rfl
  | c :: t, y => by simp [flatD, flatD_append t y]
/-- what is wrong ahead of unpacking -/
def joinErr (l : List ChR) : Int := if checks l ≠ 0 then checks l else if l = [] ∨ (l.length : Int) ≠ (l.getD 0 default).of_ then 5 else 0
/-- the patch that was unpacked, or what is wrong -/
def joinEnd (l : List ChR) (u : List Int × Int) : PatR × Int :=
  if u.2 ≠ 0 then (noPat, u.2)
  else if (PatM.readOf u.1).2 ≠ 0 then (noPat, (PatM.readOf u.1).2)
  else if (PatM.readOf u.1).1.from_ ≠ (l.getD 0 default).fr ∨ (PatM.readOf u.1).1.to_ ≠ (l.getD 0 default).to_ then (noPat, 3)
  else ((PatM.readOf u.1).1, 0)
/-- the document's Join -/
def JoinIs (l : List ChR) (r : PatR × Int) : Prop :=
  (joinErr l ≠ 0 ∧ r = (noPat, joinErr l)) ∨ (joinErr l = 0 ∧ ∃ u, PackM.Unp 400 (flatD l) [] u ∧ r = joinEnd l u)
theorem JoinIs.det {l : List ChR} {r r' : PatR × Int} (h : JoinIs l r) (h' : JoinIs l r') : r = r' := by
  rcases h with ⟨h1, rfl⟩ | ⟨h1, u, h2, rfl⟩ <;> rcases h' with ⟨q1, rfl⟩ | ⟨q1, u', q2, rfl⟩
  · rfl
  · exact absurd q1 h1
  · exact absurd h1 q1
  · rw [h2.det _ q2]
/-- what a list that is right is made of -/
theorem chks_all {z : ChR} : ∀ {l : List ChR} {last : Int}, chks z l last = 0 → ∀ c ∈ l, check c = 0 ∧ kin c z ∧ last < c.n
  | [], _, _, c, hc => by simp at hc
  | c :: t, last, h, x, hx => by
    by_cases h1 : check c = 0
    · by_cases h2 : ¬ kin c z ∨ c.n ≤ last
      · rw [chks_form h1 h2] at h; omega
      · have hk : kin c z := by rcases Classical.em (kin c z) with q | q; exact q; exact absurd (.inl q) h2
        have hn : ¬ c.n ≤ last := fun q => h2 (.inr q)
        rw [chks_on h1 hk hn] at h
        rcases List.mem_cons.1 hx with rfl | hx
        · exact ⟨h1, hk, by omega⟩
        · obtain ⟨q1, q2, q3⟩ := chks_all h x hx
          exact ⟨q1, q2, by omega⟩
    · rw [chks_bad h1] at h; exact absurd h h1
theorem checks_all {l : List ChR} (h : checks l = 0) : ∀ c ∈ l, check c = 0 ∧ kin c (l.getD 0 default) ∧ 0 ≤ c.n := by
  intro c hc
  cases l with
  | nil => simp at hc
  | cons z t =>
    obtain ⟨h1, h2, h3⟩ := chks_all (z := z) (last := -1) h c hc
    exact ⟨h1, h2, by omega⟩
theorem flat_len {l : List ChR} (h : ∀ c ∈ l, c.data.length ≤ 16) : (flatD l).length ≤ 16 * l.length := by
  induction l with
  | nil => simp [flatD]
  | cons c t ih =>
    have h1 := h c (by simp)
    have h2 := ih (fun c' hc' => h c' (by simp [hc']))
    simp only [flatD, List.length_append, List.length_cons]
    omega
theorem checks_data {l : List ChR} (h : checks l = 0) : ∀ c ∈ l, c.data.length ≤ 16 := fun c hc => (check_good (checks_all h c hc).1).2.2.2.2.2.1
/-- what is ahead of unpacking is right -/
theorem joinErr_ok {l : List ChR} (h : joinErr l = 0) : checks l = 0 ∧ l ≠ [] ∧ (l.length : Int) = (l.getD 0 default).of_ ∧ l.length ≤ 52 := by
  unfold joinErr at h
  by_cases h1 : checks l = 0
  · rw [if_neg (by simp [h1])] at h
    by_cases h2 : l = [] ∨ (l.length : Int) ≠ (l.getD 0 default).of_
    · rw [if_pos h2] at h; omega
    · have h3 : l ≠ [] := fun e => h2 (.inl e)
      have h4 : (l.length : Int) = (l.getD 0 default).of_ := by
        rcases Classical.em ((l.length : Int) = (l.getD 0 default).of_) with q | q
        · exact q
        · exact absurd (.inr q) h2
      refine ⟨h1, h3, h4, ?_⟩
      have hm : l.getD 0 default ∈ l := by
        cases l with
        | nil => exact absurd rfl h3
        | cons x t => simp
      have := (check_good (checks_all h1 _ hm).1).2.2.1.2
      omega
  · rw [if_pos h1] at h; exact absurd h h1
end Go.Proofs.Ytmpmaljkmfgagab.ChunkM
/-
  Plain data: the document's Add.
-/
namespace Go.Proofs.Ytmpmaljkmfgagab.ChunkM

/-- numbers go up -/
def Up : List ChR → Prop
  | [] => True
  | [_] => True
  | x :: y :: t => x.n < y.n ∧ Up (y :: t)
theorem Up.tail {x : ChR} {t : List ChR} (h : Up (x :: t)) : Up t := by
  cases t with
  | nil => trivial
  | cons y t => exact h.2
theorem Up.lt {x : ChR} : ∀ {t : List ChR}, Up (x :: t) → ∀ y ∈ t, x.n < y.n
  | [], _, y, hy => by simp at hy
  | z :: t, h, y, hy => by
    rcases List.mem_cons.1 hy with rfl | hy
    · exact h.1
    · have := Up.lt h.2 y hy
      have := h.1
      omega
theorem Up.cons {x : ChR} {t : List ChR} (h : Up t) (hx : ∀ y ∈ t, x.n < y.n) : Up (x :: t) := by
  cases t with
  | nil => trivial
  | cons y t => exact ⟨hx y (by simp), h⟩
theorem chks_up {z : ChR} : ∀ {l : List ChR} {last : Int}, chks z l last = 0 → Up l
  | [], _, _ => trivial
  | c :: t, last, h => by
    have hc := chks_all h c (by simp)
    rw [chks_on hc.1 hc.2.1 (by omega)] at h
    exact (chks_up h).cons (fun y hy => (chks_all h y hy).2.2)
theorem checks_up {l : List ChR} (h : checks l = 0) : Up l := by
  cases l with
  | nil => trivial
  | cons z t => exact chks_up (z := z) (last := -1) h
/-- a chunk at its place -/
def ins : List ChR → ChR → List ChR
  | [], c => [c]
  | x :: t, c => if x.n = c.n then x :: t else if c.n < x.n then c :: x :: t else x :: ins t c
/-- those that it is added to -/
def those (l : List ChR) (c : ChR) : List ChR := if l ≠ [] ∧ ¬ kin c (l.getD 0 default) then [] else l
/-- the document's Add -/
def addOf (l : List ChR) (c : ChR) : List ChR × Int := if checks l ≠ 0 then ([], checks l) else if check c ≠ 0 then ([], check c) else (ins (those l c) c, 0)
theorem ins_mem {c : ChR} : ∀ {l : List ChR} {x : ChR}, x ∈ ins l c → x ∈ l ∨ x = c
  | [], x, h => by simp [ins] at h; exact .inr h
  | y :: t, x, h => by
    unfold ins at h
    split at h
    · exact .inl h
    · split at h
      · rcases List.mem_cons.1 h with rfl | h
        · exact .inr rfl
        · exact .inl h
      · rcases List.mem_cons.1 h with rfl | h
        · exact .inl (by simp)
        · rcases ins_mem h with h | h
          · exact .inl (by simp [h])
          · exact .inr h
theorem ins_up {c : ChR} : ∀ {l : List ChR}, Up l → Up (ins l c)
  | [], _ => trivial
  | y :: t, h => by
    unfold ins
    split
    · exact h
    · split
      · exact ⟨by assumption, h⟩
      · refine (ins_up h.tail).cons (fun x hx => ?_)
        rcases ins_mem hx with hx | rfl
        · exact h.lt x hx
        · omega
/-- those below a number -/
def under (k : Int) (l : List ChR) : List ChR := l.filter (fun x => decide (x.n < k))
theorem under_all {k : Int} {l : List ChR} (h : ∀ x ∈ l, x.n < k) : under k l = l := by
  unfold under
  rw [List.filter_eq_self]
  intro x hx
  simpa using h x hx
theorem under_none {k : Int} {l : List ChR} (h : ∀ x ∈ l, k ≤ x.n) : under k l = [] := by
  unfold under
  rw [List.filter_eq_nil_iff]
  intro x hx
  have := h x hx
  simp
  omega
theorem under_cons_lt {k : Int} {x : ChR} {t : List ChR} (h : x.n < k) : under k (x :: t) = x :: under k t := by simp [under, h]
/-- the next one -/
theorem under_hit {k : Int} : ∀ {l : List ChR} {x : ChR}, Up l → x ∈ l → x.n = k → under (k + 1) l = under k l ++ [x]
  | [], x, _, h, _ => by simp at h
  | y :: t, x, hu, h, hk => by
    rcases List.mem_cons.1 h with rfl | h
    · rw [under_cons_lt (by omega), under_none (k := k + 1) (fun z hz => by have := hu.lt z hz; omega), under_none (k := k) (l := x :: t)]
      · rfl
      · intro z hz
        rcases List.mem_cons.1 hz with rfl | hz
        · omega
        · have := hu.lt z hz; omega
    · have hy := hu.lt x h
      rw [under_cons_lt (by omega), under_cons_lt (by omega), under_hit hu.tail h hk]
      rfl
theorem under_miss {k : Int} {l : List ChR} (h : ∀ x ∈ l, x.n ≠ k) : under (k + 1) l = under k l := by
  unfold under
  apply List.filter_congr
  intro x hx
  have := h x hx
  simp only [decide_eq_decide]
  omega
theorem ins_self {c : ChR} : ∀ {l : List ChR}, (∀ x ∈ l, x.n ≠ c.n) → c ∈ ins l c
  | [], _ => by simp [ins]
  | y :: t, h => by
    unfold ins
    rw [if_neg (h y (by simp))]
    split
    · simp
    · exact List.mem_cons_of_mem _ (ins_self (fun x hx => h x (by simp [hx])))
theorem ins_old {c : ChR} : ∀ {l : List ChR} {x : ChR}, x ∈ l → x ∈ ins l c
  | [], x, h => by simp at h
  | y :: t, x, h => by
    unfold ins
    split
    · exact h
    · split
      · exact List.mem_cons_of_mem _ h
      · rcases List.mem_cons.1 h with rfl | h
        · simp
        · exact List.mem_cons_of_mem _ (ins_old h)
theorem ins_have {c x : ChR} : ∀ {l : List ChR}, Up l → x ∈ l → x.n = c.n → ins l c = l
  | [], _, h, _ => by simp at h
  | y :: t, hu, h, hn => by
    unfold ins
    rcases List.mem_cons.1 h with rfl | h
    · rw [if_pos hn]
    · have := hu.lt x h
      rw [if_neg (by omega), if_neg (by omega), ins_have hu.tail h hn]
/-- numbers that go up within bounds are few -/
theorem up_len : ∀ {l : List ChR}, Up l → ∀ {lo hi : Int}, (∀ x ∈ l, lo ≤ x.n ∧ x.n < hi) → lo ≤ hi → (l.length : Int) ≤ hi - lo
  | [], _, lo, hi, _, h => by simp; omega
  | x :: t, hu, lo, hi, hr, h => by
    have hx := hr x (by simp)
    have ih := up_len hu.tail (lo := x.n + 1) (hi := hi) (fun y hy => ⟨by have := hu.lt y hy; omega, (hr y (by simp [hy])).2⟩) (by omega)
    simp only [List.length_cons]
    omega
end Go.Proofs.Ytmpmaljkmfgagab.ChunkM
/-
  A literal of bytes that was put as a text.
-/
namespace Go.Proofs.Ytmpmaljkmfgagab
open Go.RowKit

/-- a literal that was put as a text: its row bears a mark -/
theorem lit_bs_marked (w : World) (zs : List Int) (n : Nat) (fz : Nat × Nat) (hn : zs.length = n) (hm : n ≤ 1000) (hz : ∀ x ∈ zs, 0 ≤ x ∧ x ≤ 255) :
    BS (w.alloc (.cells (zs.map (Value.int .u8)).toArray 5 fz)) (some ⟨w.heap.size, 0, none⟩) n n zs := by
  refine ⟨hn, Nat.le_refl _, by omega, hz, fun _ => ⟨w.heap.size, 0, rfl, fun i hi => ?_⟩, fun h => by cases h⟩
  have hi' : i < zs.length := by omega
  rw [Nat.zero_add]
  simp only [World.cell?, heap_at, if_pos]
  simp [List.getElem?_eq_getElem hi']
theorem lit_bs (w : World) (zs : List Int) (n : Nat) (hn : zs.length = n) (hm : n ≤ 1000) (hz : ∀ x ∈ zs, 0 ≤ x ∧ x ≤ 255) :
    BS (w.alloc (.cells (zs.map (Value.int .u8)).toArray 5)) (some ⟨w.heap.size, 0, none⟩) n n zs := by
  refine ⟨hn, Nat.le_refl _, by omega, hz, fun _ => ⟨w.heap.size, 0, rfl, fun i hi => ?_⟩, fun h => by cases h⟩
  have hi' : i < zs.length := by omega
  rw [Nat.zero_add]
  simp only [World.cell?, heap_at, if_pos]
  simp [List.getElem?_eq_getElem hi']

end Go.Proofs.Ytmpmaljkmfgagab
/-
  The steps of the closed facts; a literal of steps.
-/
namespace Go.Proofs.Ytmpmaljkmfgagab
open Go.RowKit

/-- the steps of the closed facts -/
def stepsL : List OpR := [⟨0, 0, [120]⟩, ⟨4, 4, []⟩, ⟨0, 4, []⟩]

theorem block_cell (w : World) (cs : Array Value) (t : Nat) (fz : Nat × Nat) (j : Nat) : (w.alloc (.cells cs t fz)).cell? ⟨w.heap.size, j, none⟩ = cs[j]? := by
  simp only [World.cell?, heap_at, if_pos]
  simp
/-- a literal of steps -/
theorem lit_os (W : World) (vs : List OpV) (l : List OpR) (n : Nat) (hv : vs.length = n) (hl : l.length = n) (hn : n ≤ 1000)
    (hr : ∀ i, i < n → ∃ a m c, vs.getD i default = ⟨(l.getD i default).at_, (l.getD i default).len, .slice a m c⟩ ∧ BS W a m c (l.getD i default).data ∧ I64 (l.getD i default).at_ ∧ I64 (l.getD i default).len) :
    OS (W.alloc (.cells (cellsV vs).toArray 36)) (some ⟨W.heap.size, 0, none⟩) n n l := by
  have hb : Below W.heap.size W (W.alloc (.cells (cellsV vs).toArray 36)) := (Below.refl _ _).alloc (Nat.le_refl _) _
  refine ⟨hl, Nat.le_refl _, by omega, fun _ => ⟨_, 0, rfl, fun i hi => ?_⟩, fun h => by cases h⟩
  obtain ⟨a, m, c, he, hbs, h1, h2⟩ := hr i hi
  obtain ⟨g0, g1, g2⟩ := cellsV_get vs i (by omega)
  rw [he] at g0 g1 g2
  refine ⟨a, m, c, ?_, ?_, ?_, hbs.later hb, h1, h2⟩
  · rw [block_cell, Nat.zero_add]; simpa using g0
  · rw [block_cell, Nat.zero_add]; simpa using g1
  · rw [block_cell, Nat.zero_add]; simpa using g2
end Go.Proofs.Ytmpmaljkmfgagab
/-
  The steps from the one image of the closed facts to the other one.
-/
namespace Go.Proofs.Ytmpmaljkmfgagab
open Go.RowKit

theorem dif_three : DeltaM.Dif [97, 98, 99, 100, 101, 102, 103, 104] [120, 101, 102, 103, 104, 97, 98, 99, 100] [] stepsL := by
  have h1 : MatchM.Best [97, 98, 99, 100, 101, 102, 103, 104] [120, 101, 102, 103, 104, 97, 98, 99, 100] 0 0 := (show MatchM.Upto _ _ 8 0 0 from ⟨by decide, by decide, by decide, by decide⟩).best
  have h2 : MatchM.Best [97, 98, 99, 100, 101, 102, 103, 104] [101, 102, 103, 104, 97, 98, 99, 100] 4 4 := (show MatchM.Upto _ _ 8 4 4 from ⟨by decide, by decide, by decide, by decide⟩).best
  have h3 : MatchM.Best [97, 98, 99, 100, 101, 102, 103, 104] [97, 98, 99, 100] 0 4 := (show MatchM.Upto _ _ 8 0 4 from ⟨by decide, by decide, by decide, by decide⟩).best
  have e3 := DeltaM.Dif.copy _ [] 0 4 _ h3 (by decide) (.done [])
  have e2 := DeltaM.Dif.copy _ [120] 4 4 _ h2 (by decide) e3
  exact .lit 120 _ [] 0 0 _ h1 (by decide) e2
end Go.Proofs.Ytmpmaljkmfgagab
/-
  Plain data: the patch of the closed facts.
-/
namespace Go.Proofs.Ytmpmaljkmfgagab
open Go.RowKit

/-- the patch of the closed facts -/
def patL : PatR := ⟨1, 2, 33012, 46707, 9, stepsL⟩
theorem patL_check : PatM.check patL = 0 := by decide
theorem patL_made : madeOf 1 2 [97, 98, 99, 100, 101, 102, 103, 104] [120, 101, 102, 103, 104, 97, 98, 99, 100] stepsL 0 = (patL, 0) := by decide
theorem patL_put : PatM.putL patL = [1, 2, 128, 244, 182, 115, 9, 3, 255, 1, 120, 4, 4, 0, 4] := by decide
theorem patL_done : doneOf patL [97, 98, 99, 100, 101, 102, 103, 104] = ([120, 101, 102, 103, 104, 97, 98, 99, 100], 0) := by decide
theorem patL_other : doneOf patL [97, 98, 99, 100, 101, 102, 103, 105] = ([], 6) := by decide

end Go.Proofs.Ytmpmaljkmfgagab
/-
  append by its run, as one step of a region that draws its order.
-/
namespace Go.Proofs.Ytmpmaljkmfgagab
open Go.RowKit

/-- append by its run, as one step of a region that draws its order -/
theorem step_append_run {P : Program} {ops : Array Oper} {o : Oper} {a : Act} {w : World} {K : Act → World → Prop} {Q : Exit → Act → World → Prop} {E : Prop} (hgd : o.guard = none) (s x : Operand) (t tn : TypeId)
    (ho : o.op = .call { callee := .builtin .append, args := #[s, x], argTypes := #[t, tn] }) (vs vx : Value) (hs : a.eval s = vs) (hx : a.eval x = vx)
    (v' : Value) (w' : World) (hr : (Builtin.append_ #[t, tn] o.type #[vs, vx]).run P w = .ok v' w') (h : K (a.put o.dst v') w') :
    if Region.wanted o (yielded ops a.tmps) = true then Oper.wp P o a w K Q else E := by
  have hw : Region.wanted o (yielded ops a.tmps) = true := by simp [Region.wanted, hgd]
  rw [if_pos hw]
  exact Lib.wp_append_run w s x t tn ho vs vx hs hx v' w' hr h
end Go.Proofs.Ytmpmaljkmfgagab
/-
  Bytes that a call makes beside a step's own block.
-/
namespace Go.Proofs.Ytmpmaljkmfgagab
open Go.RowKit

/-- append(v, s...) onto a row of the call's own: where the new row lies -/
theorem app_lies {w : World} {base : Nat} {v : Value} {n : Nat} {l : List Int} (hown : w.ownsRow base 5 1 v n (l.map (Value.int .u8)))
    {a : Option Addr} {m c : Nat} {l' : List Int} (hs : BS w a m c l') (hb : n + m ≤ 140737488355328) (hbase : base ≤ w.heap.size) :
    ∃ a' c' w', (Builtin.append_ #[22, 22] 22 #[v, .slice a m c]).run Try.prog w = .ok (.slice a' (n + m) c') w' ∧
      w'.ownsRow base 5 1 (.slice a' (n + m) c') (n + m) ((l ++ l').map (Value.int .u8)) ∧ w.grownBy w' v.ownBlock ∧ ((Value.slice a' (n + m) c').ownBlock = v.ownBlock ∨ (Value.slice a' (n + m) c').ownBlock = some w.heap.size) := by
  obtain ⟨i0, hi, hz0, hz1, hz2⟩ := info_parts Try.info_u8
  suffices h : ∃ v' w', (Builtin.append_ #[22, 22] 22 #[v, .slice a m c]).run Try.prog w = .ok v' w' ∧
      w'.ownsRow base 5 1 v' (n + m) ((l ++ l').map (Value.int .u8)) ∧ w.grownBy w' v.ownBlock ∧ (v'.ownBlock = v.ownBlock ∨ v'.ownBlock = some w.heap.size) by
    obtain ⟨v', w', hr, ho, hg, hl⟩ := h
    obtain ⟨a', c', rfl⟩ : ∃ a' c', v' = .slice a' (n + m) c' := by
      rcases ho.2 with ⟨h1, h2⟩ | ⟨g, cap, cur, h1, _⟩
      · exact ⟨none, 0, by rw [h1, h2]⟩
      · exact ⟨_, _, h1⟩
    exact ⟨a', c', w', hr, ho, hg, hl⟩
  cases a with
  | none =>
    have hc := hs.none_ rfl
    subst hc
    obtain rfl : m = 0 := by have := hs.le; omega
    obtain rfl : l' = [] := List.eq_nil_of_length_eq_zero hs.len
    exact ⟨v, w, run_append_owned_none w base 22 _ 5 i0 1 Try.underlying22 hi v n _ hown, by simpa using hown, World.grownBy.refl w _, .inl rfl⟩
  | some ad =>
    obtain ⟨v', w', hr, ho, hg, _, hl⟩ := run_append_own_at (P := Try.prog) w base 22 22 5 i0 _ 1 1 Try.underlying22 hi hz0 hz1 hz2 rfl (by decide) v n _ hown ad m c (l'.map (Value.int .u8))
      (by simpa using hs.len) hs.news (oneCell_u8 _) (by unfold maxLen; omega) (by omega) hbase
    exact ⟨v', w', hr, by simpa using ho, hg, hl⟩

/-- the memory of Applied in a round: the step's own block, and what is made -/
structure ASt (w : World) (B : Nat) (cs : Array Value) (vo : Value) (outl : List Int) (W : World) : Prop where
  cb : W.heap[B]? = some (.cells cs 36 (0, 0))
  own : W.ownsRow w.heap.size 5 1 vo outl.length (outl.map (Value.int .u8))
  ne : vo.ownBlock ≠ some B
  below : Below w.heap.size w W
  le : w.heap.size ≤ B
section
variable {w : World} {B : Nat} {cs : Array Value} {vo : Value} {outl : List Int} {W W' : World}
theorem ASt.later (h : ASt w B cs vo outl W) (hb : Below W.heap.size W W') : ASt w B cs vo outl W' :=
  ⟨(hb.block _ (lt_blk h.cb)).trans h.cb, own_later h.own hb, h.ne, below_then h.below hb, h.le⟩
theorem ASt.app (h : ASt w B cs vo outl W) {a : Option Addr} {m c : Nat} {l' : List Int} (hs : BS W a m c l') (hm : m ≤ 1000) (hk : outl.length ≤ 1000) :
    ∃ a5 c5 W5, (Builtin.append_ #[22, 22] 22 #[vo, .slice a m c]).run Try.prog W = .ok (.slice a5 (outl.length + m) c5) W5 ∧ Hid (ASt w B cs (.slice a5 (outl.length + m) c5) (outl ++ l') W5) := by
  obtain ⟨a5, c5, W5, hr, ho, hg, hl⟩ := app_lies h.own hs (by omega) h.below.size
  have hlt := lt_blk h.cb
  refine ⟨a5, c5, W5, hr, (hg.block B hlt (fun e => h.ne e.symm)).trans h.cb, ?_, ?_, h.below.grown hg h.below.size (fun g hg' => (own_lt3 h.own hg').1), h.le⟩
  · rw [List.length_append, hs.len]
    exact ho
  · intro e
    rcases hl with hl | hl
    · exact h.ne (hl.symm.trans e)
    · rw [hl] at e
      injection e with e
      omega
end
theorem cells_blk {W : World} {B : Nat} {v0 v1 v2 : Value} (h : W.heap[B]? = some (.cells #[v0, v1, v2] 36 (0, 0))) : W.cell? ⟨B, 0, none⟩ = some v0 ∧ W.cell? ⟨B, 1, none⟩ = some v1 ∧ W.cell? ⟨B, 2, none⟩ = some v2 := by
  simp [World.cell?, h]
theorem one_lit (W : World) (x : Int) (hx : 0 ≤ x ∧ x ≤ 255) : BS (W.alloc (.cells #[.int .u8 x] 5)) (some ⟨W.heap.size, 0, none⟩) 1 1 [x] := by
  refine ⟨rfl, Nat.le_refl _, by omega, by simpa using hx, fun _ => ⟨W.heap.size, 0, rfl, fun i hi => ?_⟩, fun h => by cases h⟩
  obtain rfl : i = 0 := by omega
  simp only [World.cell?, Nat.add_zero, heap_at, if_pos]
  simp
end Go.Proofs.Ytmpmaljkmfgagab
/-
  A chunk in a block of its own; a list of chunks from one on.
-/
namespace Go.Proofs.Ytmpmaljkmfgagab
open Go.RowKit

theorem ch_block (W : World) (v0 v1 v2 v3 v4 : Value) : (W.alloc (.cells #[v0, v1, v2, v3, v4] 69)).heap[W.heap.size]? = some (.cells #[v0, v1, v2, v3, v4] 69 (0, 0)) := by rw [heap_at, if_pos rfl]
theorem ch_cells {W : World} {B : Nat} {v0 v1 v2 v3 v4 : Value} (h : W.heap[B]? = some (.cells #[v0, v1, v2, v3, v4] 69 (0, 0))) : W.cell? ⟨B, 0, none⟩ = some v0 ∧ W.cell? ⟨B, 1, none⟩ = some v1 ∧ W.cell? ⟨B, 2, none⟩ = some v2 ∧ W.cell? ⟨B, 3, none⟩ = some v3 ∧ W.cell? ⟨B, 4, none⟩ = some v4 := by
  simp [World.cell?, h]
theorem drop_ch (l : List ChR) (k : Nat) (h : k < l.length) : l.drop k = l.getD k default :: l.drop (k + 1) := by
  rw [List.drop_eq_getElem_cons h]; simp [List.getD_eq_getElem?_getD, List.getElem?_eq_getElem h]
end Go.Proofs.Ytmpmaljkmfgagab
/-
  A list of chunks that a call makes, the data lying in an elder world; one more chunk appended; what it reads as.
-/
namespace Go.Proofs.Ytmpmaljkmfgagab
open Go.RowKit

theorem Try.info_chunk : (Try.prog.info? 69).map (fun i => (i.zero, i.size, i.bytes)) = some (some (.agg #[.int .i64 0, .int .i64 0, .int .i64 0, .int .i64 0, .slice none 0 0]), 5, 56) := by kernel_rfl

/-- a chunk as its five cells hold it -/
structure ChVv where
  fr : Int
  to_ : Int
  n : Int
  of_ : Int
  v : Value
instance : Inhabited ChVv := ⟨⟨0, 0, 0, 0, .slice none 0 0⟩⟩
def cellsC : List ChVv → List Value
  | [] => []
  | o :: t => .int .i64 o.fr :: .int .i64 o.to_ :: .int .i64 o.n :: .int .i64 o.of_ :: o.v :: cellsC t
theorem cellsC_append : ∀ x y, cellsC (x ++ y) = cellsC x ++ cellsC y
  | [], _ => rfl
  | o :: t, y => by simp [cellsC, cellsC_append t y]
theorem cellsC_length : ∀ x, (cellsC x).length = x.length * 5
  | [] => rfl
  | o :: t => by simp [cellsC, cellsC_length t]; omega
theorem cellsC_get : ∀ (x : List ChVv) (i : Nat), i < x.length → (cellsC x)[i * 5]? = some (.int .i64 (x.getD i default).fr) ∧ (cellsC x)[i * 5 + 1]? = some (.int .i64 (x.getD i default).to_) ∧ (cellsC x)[i * 5 + 2]? = some (.int .i64 (x.getD i default).n) ∧ (cellsC x)[i * 5 + 3]? = some (.int .i64 (x.getD i default).of_) ∧ (cellsC x)[i * 5 + 4]? = some (x.getD i default).v
  | [], i, h => by simp at h
  | o :: t, 0, _ => by simp [cellsC]
  | o :: t, i + 1, h => by
    have := cellsC_get t i (by simpa using h)
    simp only [cellsC, List.getD_cons_succ, show (i + 1) * 5 = i * 5 + 1 + 1 + 1 + 1 + 1 by omega, List.getElem?_cons_succ]
    exact this
/-- a chunk's cells read as a chunk; its data lie in the world that was -/
def ReadsC (w0 : World) (o : ChVv) (r : ChR) : Prop :=
  o.fr = r.fr ∧ o.to_ = r.to_ ∧ o.n = r.n ∧ o.of_ = r.of_ ∧ r.I ∧ ∃ a n c, o.v = .slice a n c ∧ BS w0 a n c r.data
/-- what is made so far -/
def ChSt (w0 : World) (base : Nat) (vo : Value) (out : List ChR) (W : World) : Prop :=
  ∃ vs : List ChVv, vs.length = out.length ∧ W.ownsRow base 69 5 vo out.length (cellsC vs) ∧ ∀ i, i < out.length → ReadsC w0 (vs.getD i default) (out.getD i default)
theorem one_ch {W : World} {B : Nat} {A1 A2 A3 A4 : Int} {v : Value} (hB : W.heap[B]? = some (.cells #[.int .i64 A1, .int .i64 A2, .int .i64 A3, .int .i64 A4, v] 69 (0, 0))) :
    ∀ j u, (cellsC [⟨A1, A2, A3, A4, v⟩])[j]? = some u → W.cell? ((⟨B, 0, none⟩ : Addr).add j) = some u := by
  have := World.news_of_block hB
  simpa [cellsC] using this
section
variable {w0 : World} {base : Nat} {vo : Value} {out : List ChR} {W W' : World}
theorem ChSt.start (w0 W : World) (base : Nat) : ChSt w0 base (.slice none 0 0) [] W := ⟨[], rfl, World.ownsRow_nil _ _ _ _, fun i hi => absurd hi (by simp)⟩
theorem ChSt.keep (h : ChSt w0 base vo out W) (hk : ∀ g, vo.ownBlock = some g → W'.heap[g]? = W.heap[g]?) : ChSt w0 base vo out W' := by
  obtain ⟨vs, h1, h2, h3⟩ := h
  exact ⟨vs, h1, own_keep h2 hk, h3⟩
theorem ChSt.own (h : ChSt w0 base vo out W) {g : Nat} (hg : vo.ownBlock = some g) : base ≤ g ∧ g < W.heap.size := by
  obtain ⟨vs, h1, h2, h3⟩ := h
  exact own_lt3 h2 hg
theorem ChSt.later (h : ChSt w0 base vo out W) (hb : Below W.heap.size W W') : ChSt w0 base vo out W' := h.keep (fun _ hg => hb.block _ (h.own hg).2)
theorem ChSt.form (h : ChSt w0 base vo out W) : ∃ a c, vo = .slice a out.length c := by
  obtain ⟨vs, h1, h2, h3⟩ := h
  rcases h2.2 with ⟨q1, q2⟩ | ⟨g, cap, cur, q1, _⟩
  · exact ⟨none, 0, by rw [q1, q2]⟩
  · exact ⟨_, _, q1⟩
/-- one more chunk -/
theorem ChSt.app (h : ChSt w0 base vo out W) (r : ChR) {a : Option Addr} {n c : Nat} (hd : BS w0 a n c r.data) (hI : r.I) (hn : out.length ≤ 1000) (hbase : base ≤ W.heap.size) {w : World} (hbl : Below base w W) (hw : base = w.heap.size) :
    ∃ g cap W5, (Builtin.append_ #[67, 67] 67 #[vo, .slice (some ⟨W.heap.size, 0, none⟩) 1 1]).run Try.prog (W.alloc (.cells #[.int .i64 r.fr, .int .i64 r.to_, .int .i64 r.n, .int .i64 r.of_, .slice a n c] 69)) = .ok (.slice (some ⟨g, 0, none⟩) (out.length + 1) cap) W5 ∧
      Hid (ChSt w0 base (.slice (some ⟨g, 0, none⟩) (out.length + 1) cap) (out ++ [r]) W5 ∧ Below base w W5) ∧ ∀ k, k < W.heap.size → some k ≠ vo.ownBlock → W5.heap[k]? = W.heap[k]? := by
  subst hw
  obtain ⟨i0, hi, hz0, hz1, hz2⟩ := info_parts Try.info_chunk
  have hb1 : Below W.heap.size W (W.alloc (.cells #[.int .i64 r.fr, .int .i64 r.to_, .int .i64 r.n, .int .i64 r.of_, .slice a n c] 69)) := (Below.refl _ _).alloc (Nat.le_refl _) _
  have e2 : (W.alloc (.cells #[.int .i64 r.fr, .int .i64 r.to_, .int .i64 r.n, .int .i64 r.of_, .slice a n c] 69)).heap.size = W.heap.size + 1 := by simp
  have hx2 : (W.alloc (.cells #[.int .i64 r.fr, .int .i64 r.to_, .int .i64 r.n, .int .i64 r.of_, .slice a n c] 69)).heap[W.heap.size]? = some (.cells #[.int .i64 r.fr, .int .i64 r.to_, .int .i64 r.n, .int .i64 r.of_, .slice a n c] 69 (0, 0)) := by
    rw [heap_at, if_pos rfl]
  have hbl2 := below_then hbl hb1
  have h' := h.later hb1
  generalize W.alloc (.cells #[.int .i64 r.fr, .int .i64 r.to_, .int .i64 r.n, .int .i64 r.of_, .slice a n c] 69) = W2 at hb1 e2 hx2 hbl2 h' ⊢
  have hown := fun g hg => h'.own (g := g) hg
  obtain ⟨vs, h1, h2, h3⟩ := h'
  obtain ⟨g, cap, W5, hr, ho, hg, hlies, hlt⟩ := run_append_lies (P := Try.prog) W2 67 67 w.heap.size 69 i0 _ 5 56 Try.underlying67 hi hz0 hz1 hz2 rfl (by decide) vo out.length _ h2 ⟨W.heap.size, 0, none⟩ 1 1 (cellsC [⟨r.fr, r.to_, r.n, r.of_, .slice a n c⟩])
    rfl (one_ch hx2) (by intro u hu; simp [cellsC] at hu; rcases hu with rfl | rfl | rfl | rfl | rfl <;> rfl) (by omega) (by unfold maxLen; omega) (by omega) (by omega) W2.heap.size rfl
  refine ⟨g, cap, W5, hr, ⟨⟨vs ++ [⟨r.fr, r.to_, r.n, r.of_, .slice a n c⟩], by simp [h1], ?_, ?_⟩, hbl2.grown hg hbl2.size (fun g' hg' => (hown g' hg').1)⟩, fun k k1 k2 => (hg.block k (by omega) k2).trans (hb1.block k k1)⟩
  · rw [cellsC_append, List.length_append]
    exact ho
  · intro i hi'
    rw [List.length_append] at hi'
    simp only [List.length_cons, List.length_nil] at hi'
    rcases Nat.lt_or_ge i out.length with hlt2 | hge
    · have e1 : (vs ++ [(⟨r.fr, r.to_, r.n, r.of_, .slice a n c⟩ : ChVv)]).getD i default = vs.getD i default := by simp [List.getD_eq_getElem?_getD, List.getElem?_append_left (show i < vs.length by omega)]
      have e2 : (out ++ [r]).getD i default = out.getD i default := by simp [List.getD_eq_getElem?_getD, List.getElem?_append_left hlt2]
      rw [e1, e2]
      exact h3 i hlt2
    · obtain rfl : i = out.length := by omega
      have e1 : (vs ++ [(⟨r.fr, r.to_, r.n, r.of_, .slice a n c⟩ : ChVv)]).getD out.length default = ⟨r.fr, r.to_, r.n, r.of_, .slice a n c⟩ := by rw [← h1]; simp [List.getD_eq_getElem?_getD]
      have e2 : (out ++ [r]).getD out.length default = r := by simp [List.getD_eq_getElem?_getD]
      rw [e1, e2]
      exact ⟨rfl, rfl, rfl, rfl, hI, a, n, c, rfl, hd⟩
end
/-- what is made reads as the list -/
theorem ChSt.cs {w0 : World} {base : Nat} {a : Option Addr} {n c : Nat} {out : List ChR} {W : World} (h : ChSt w0 base (.slice a n c) out W) (hn : out.length = n) (hb : Below w0.heap.size w0 W) : CS W a n c out := by
  obtain ⟨vs, h1, h2, h3⟩ := h
  subst hn
  rcases h2.2 with ⟨hv, hn0⟩ | ⟨g, cap, cur, hv, _, _, hnc, hcm, _, _⟩
  · simp only [Value.slice.injEq] at hv
    obtain ⟨rfl, h0, rfl⟩ := hv
    obtain rfl : out = [] := List.eq_nil_of_length_eq_zero h0
    exact CS.nil_ W
  · simp only [Value.slice.injEq, true_and] at hv
    obtain ⟨rfl, rfl⟩ := hv
    refine ⟨rfl, hnc, by unfold maxLen at hcm; omega, fun hp => ⟨g, 0, rfl, fun i hi => ?_⟩, fun h => by cases h⟩
    obtain ⟨r1, r2, r3, r4, r5, av, nv, cv, r6, r7⟩ := h3 i hi
    obtain ⟨c0, c1, c2, c3, c4⟩ := cellsC_get vs i (by omega)
    have e0 := h2.cellAt (i * 5) (by omega)
    have e1 := h2.cellAt (i * 5 + 1) (by omega)
    have e2 := h2.cellAt (i * 5 + 2) (by omega)
    have e3 := h2.cellAt (i * 5 + 3) (by omega)
    have e4 := h2.cellAt (i * 5 + 4) (by omega)
    rw [c0, r1] at e0
    rw [c1, r2] at e1
    rw [c2, r3] at e2
    rw [c3, r4] at e3
    rw [c4, r6] at e4
    refine ⟨av, nv, cv, ?_, ?_, ?_, ?_, ?_, r7.later hb, r5⟩
    · rw [Nat.zero_add]; exact e0
    · rw [Nat.zero_add]; exact e1
    · rw [Nat.zero_add]; exact e2
    · rw [Nat.zero_add]; exact e3
    · rw [Nat.zero_add]; exact e4
end Go.Proofs.Ytmpmaljkmfgagab
/-
  What packing and unpacking return, in words that serve the reference and the program alike.
-/
namespace Go.Proofs.Ytmpmaljkmfgagab
open Go.RowKit

theorem ret_run {a b : Int} (h : a = b) : Ending.returned (.int .i64 a) = .returned (.int .i64 b) := by rw [h]

/-- a call that returns l packed -/
def GivesPk (l : List Int) (w : World) (e : Ending) (w' : World) : Prop :=
  ∃ (o : List Int) (a : Option Addr) (n c : Nat), PackM.Packs l o ∧ e = .returned (.slice a n c) ∧ BS w' a n c o ∧ Below w.heap.size w w'

/-- a call that returns what unpacking l to so many gives -/
def GivesU (most : Int) (l : List Int) (w : World) (e : Ending) (w' : World) : Prop :=
  ∃ (r : List Int × Int) (a : Option Addr) (n c : Nat), PackM.Unp most l [] r ∧ e = .returned (.tuple #[.slice a n c, .int .i64 r.2]) ∧ BS w' a n c r.1 ∧ Below w.heap.size w w'
def lenV : Value → Nat
  | .slice _ n _ => n
  | _ => 0
end Go.Proofs.Ytmpmaljkmfgagab
/-
  Rows of chunks of the call's own: one whose chunks get data of their own, one by one; one chunk put between.
-/
namespace Go.Proofs.Ytmpmaljkmfgagab
open Go.RowKit

/-- a chunk's cells read as a chunk; its data lie in memory that is new, and not in the block 'ex' -/
def ReadsG (W : World) (base : Nat) (ex : Option Nat) (o : ChVv) (r : ChR) : Prop :=
  o.fr = r.fr ∧ o.to_ = r.to_ ∧ o.n = r.n ∧ o.of_ = r.of_ ∧ r.I ∧ ∃ a n c, o.v = .slice a n c ∧ BS W a n c r.data ∧ ∀ p, a = some p → base ≤ p.block ∧ p.block < W.heap.size ∧ some p.block ≠ ex
theorem ReadsG.plain {W : World} {base : Nat} {ex : Option Nat} {o : ChVv} {r : ChR} (h : ReadsG W base ex o r) : ReadsC W o r := by
  obtain ⟨h1, h2, h3, h4, h5, a, n, c, h6, h7, -⟩ := h
  exact ⟨h1, h2, h3, h4, h5, a, n, c, h6, h7⟩
theorem ReadsG.keep {W W' : World} {base : Nat} {ex : Option Nat} {o : ChVv} {r : ChR} (h : ReadsG W base ex o r) (hs : W.heap.size ≤ W'.heap.size) (hk : ∀ k, base ≤ k → k < W.heap.size → some k ≠ ex → W'.heap[k]? = W.heap[k]?) : ReadsG W' base ex o r := by
  obtain ⟨h1, h2, h3, h4, h5, a, n, c, h6, h7, h8⟩ := h
  refine ⟨h1, h2, h3, h4, h5, a, n, c, h6, h7.keepBlk (fun p hp => hk _ (h8 p hp).1 (h8 p hp).2.1 (h8 p hp).2.2), fun p hp => ⟨(h8 p hp).1, ?_, (h8 p hp).2.2⟩⟩
  have := (h8 p hp).2.1
  omega
theorem ReadsC.keepG {w W' : World} {o : ChVv} {r : ChR} (h : ReadsC w o r) (hb : Below w.heap.size w W') : ReadsC W' o r := by
  obtain ⟨h1, h2, h3, h4, h5, a, n, c, h6, h7⟩ := h
  exact ⟨h1, h2, h3, h4, h5, a, n, c, h6, h7.later hb⟩
theorem ReadsC.one {W : World} {o : ChVv} {r : ChR} (h : ReadsC W o r) : o.v.oneCell' = true := by
  obtain ⟨-, -, -, -, -, a, n, c, h6, -⟩ := h
  rw [h6]
  rfl
theorem oneCell_chs {vs : List ChVv} (h : ∀ o ∈ vs, o.v.oneCell' = true) : ∀ u ∈ cellsC vs, u.oneCell' = true := by
  induction vs with
  | nil => intro u hu; simp [cellsC] at hu
  | cons o t ih =>
    intro u hu
    simp only [cellsC, List.mem_cons] at hu
    rcases hu with rfl | rfl | rfl | rfl | rfl | hu
    · rfl
    · rfl
    · rfl
    · rfl
    · exact h o (by simp)
    · exact ih (fun o' ho' => h o' (by simp [ho'])) u hu
theorem one_all {W : World} {vs : List ChVv} {l : List ChR} (hl : vs.length = l.length) (h : ∀ i, i < l.length → ReadsC W (vs.getD i default) (l.getD i default)) : ∀ o ∈ vs, o.v.oneCell' = true := by
  intro o ho
  obtain ⟨i, hi, rfl⟩ := List.mem_iff_getElem.1 ho
  have := (h i (by omega)).one
  rwa [List.getD_eq_getElem?_getD, List.getElem?_eq_getElem hi, Option.getD_some] at this
/-- what is copied so far: a row of the call's own -/
def CpSt (base : Nat) (vo : Value) (out : List ChR) (W : World) : Prop :=
  ∃ vs : List ChVv, vs.length = out.length ∧ W.ownsRow base 69 5 vo out.length (cellsC vs) ∧ ∀ i, i < out.length → ReadsG W base vo.ownBlock (vs.getD i default) (out.getD i default)
theorem CpSt.later {base : Nat} {vo : Value} {out : List ChR} {W W' : World} (h : CpSt base vo out W) (hb : Below W.heap.size W W') : CpSt base vo out W' := by
  obtain ⟨vs, h1, h2, h3⟩ := h
  exact ⟨vs, h1, own_keep h2 (fun g hg => hb.block _ (own_lt3 h2 hg).2), fun i hi => (h3 i hi).keep hb.size (fun k _ hk _ => hb.block k hk)⟩
theorem CpSt.ch {base : Nat} {vo : Value} {out : List ChR} {W : World} (h : CpSt base vo out W) : ChSt W base vo out W := by
  obtain ⟨vs, h1, h2, h3⟩ := h
  exact ⟨vs, h1, h2, fun i hi => (h3 i hi).plain⟩
theorem CpSt.cs {base : Nat} {a : Option Addr} {n c : Nat} {out : List ChR} {W : World} (h : CpSt base (.slice a n c) out W) (hn : out.length = n) : CS W a n c out := h.ch.cs hn (Below.refl _ _)
theorem CpSt.form {base : Nat} {vo : Value} {out : List ChR} {W : World} (h : CpSt base vo out W) : ∃ a c, vo = .slice a out.length c := h.ch.form

/-- the cells of a slice of chunks -/
theorem CS.vs {w : World} {a : Option Addr} {n c : Nat} {l : List ChR} (h : CS w a n c l) : ∃ vs : List ChVv, vs.length = l.length ∧ (∀ i, i < l.length → ReadsC w (vs.getD i default) (l.getD i default)) ∧ ∀ ad, a = some ad → ∀ j u, (cellsC vs)[j]? = some u → w.cell? (ad.add j) = some u := by
  have hlen := h.len
  by_cases hp : 0 < n
  · obtain ⟨b, off, rfl, hc⟩ := h.cells hp
    have each : ∀ i, i < l.length → ∃ o : ChVv, ReadsC w o (l.getD i default) ∧ w.cell? ⟨b, off + i * 5, none⟩ = some (.int .i64 o.fr) ∧ w.cell? ⟨b, off + i * 5 + 1, none⟩ = some (.int .i64 o.to_) ∧ w.cell? ⟨b, off + i * 5 + 2, none⟩ = some (.int .i64 o.n) ∧ w.cell? ⟨b, off + i * 5 + 3, none⟩ = some (.int .i64 o.of_) ∧ w.cell? ⟨b, off + i * 5 + 4, none⟩ = some o.v := by
      intro i hi
      obtain ⟨va, vm, vc, q0, q1, q2, q3, q4, q5, qI⟩ := hc i (by omega)
      exact ⟨⟨_, _, _, _, .slice va vm vc⟩, ⟨rfl, rfl, rfl, rfl, qI, va, vm, vc, rfl, q5⟩, q0, q1, q2, q3, q4⟩
    obtain ⟨vs, hvl, hvs⟩ := list_of default _ l.length each
    refine ⟨vs, hvl, fun i hi => (hvs i hi).1, fun ad had j u hu => ?_⟩
    injection had with had
    subst had
    have hj : j < vs.length * 5 := by
      rcases Nat.lt_or_ge j (vs.length * 5) with q | q
      · exact q
      · rw [List.getElem?_eq_none (by rw [cellsC_length]; exact q)] at hu; cases hu
    obtain ⟨-, q0, q1, q2, q3, q4⟩ := hvs (j / 5) (by omega)
    obtain ⟨g0, g1, g2, g3, g4⟩ := cellsC_get vs (j / 5) (by omega)
    rw [addr_add]
    rcases (by omega : j = j / 5 * 5 ∨ j = j / 5 * 5 + 1 ∨ j = j / 5 * 5 + 2 ∨ j = j / 5 * 5 + 3 ∨ j = j / 5 * 5 + 4) with hr | hr | hr | hr | hr
    · rw [hr] at hu ⊢
      rw [g0] at hu
      rw [← hu]
      exact q0
    · rw [hr] at hu ⊢
      rw [g1] at hu
      rw [← hu]
      exact q1
    · rw [hr] at hu ⊢
      rw [g2] at hu
      rw [← hu]
      exact q2
    · rw [hr] at hu ⊢
      rw [g3] at hu
      rw [← hu]
      exact q3
    · rw [hr] at hu ⊢
      rw [g4] at hu
      rw [← hu]
      exact q4
  · obtain rfl : l = [] := List.eq_nil_of_length_eq_zero (by omega)
    exact ⟨[], rfl, fun i hi => absurd hi (by simp), fun ad _ j u hu => by simp [cellsC] at hu⟩

/-- a chunk of a row gets other data -/
theorem cellsC_set4 : ∀ (L : List ChVv) (k : Nat) (v : Value), k < L.length → (cellsC L).set (k * 5 + 4) v = cellsC (L.set k ⟨(L.getD k default).fr, (L.getD k default).to_, (L.getD k default).n, (L.getD k default).of_, v⟩)
  | [], k, v, h => by simp at h
  | e :: t, 0, v, _ => by simp [cellsC]
  | e :: t, k + 1, v, h => by
    have := cellsC_set4 t k v (by simpa using h)
    simp only [cellsC, List.set_cons_succ, List.getD_cons_succ, show (k + 1) * 5 + 4 = k * 5 + 4 + 1 + 1 + 1 + 1 + 1 by omega]
    rw [this]
theorem getD_setC (L : List ChVv) (k q : Nat) (e : ChVv) (hk : k < L.length) : (L.set k e).getD q default = if k = q then e else L.getD q default := by
  simp only [List.getD_eq_getElem?_getD, List.getElem?_set]
  split
  · simp
  · rfl

/-- so many chunks have data of their own -/
def CpUp (w : World) (vo : Value) (l : List ChR) (k : Nat) (W : World) : Prop :=
  ∃ vs : List ChVv, vs.length = l.length ∧ W.ownsRow w.heap.size 69 5 vo l.length (cellsC vs) ∧ (∀ i, i < k → i < l.length → ReadsG W w.heap.size vo.ownBlock (vs.getD i default) (l.getD i default)) ∧ (∀ i, k ≤ i → i < l.length → ReadsC w (vs.getD i default) (l.getD i default)) ∧ Below w.heap.size w W
theorem CpUp.start {w W : World} {vo : Value} {l : List ChR} (h : ChSt w w.heap.size vo l W) (hb : Below w.heap.size w W) : CpUp w vo l 0 W := by
  obtain ⟨vs, h1, h2, h3⟩ := h
  exact ⟨vs, h1, h2, fun i hi => absurd hi (by omega), fun i _ hi => h3 i hi, hb⟩
theorem CpUp.fin {w W : World} {vo : Value} {l : List ChR} {k : Nat} (h : CpUp w vo l k W) (hk : l.length ≤ k) : CpSt w.heap.size vo l W := by
  obtain ⟨vs, h1, h2, h3, -⟩ := h
  exact ⟨vs, h1, h2, fun i hi => h3 i (by omega) hi⟩
theorem CpUp.later {w W W' : World} {vo : Value} {l : List ChR} {k : Nat} (h : CpUp w vo l k W) (hb : Below W.heap.size W W') : CpUp w vo l k W' := by
  obtain ⟨vs, h1, h2, h3, h4, h5⟩ := h
  exact ⟨vs, h1, own_keep h2 (fun g hg => hb.block _ (own_lt3 h2 hg).2), fun i hi hi' => (h3 i hi hi').keep hb.size (fun k _ hk _ => hb.block k hk), h4, below_then h5 hb⟩
/-- the data cell of the k-th chunk -/
theorem CpUp.cell {w W : World} {g n cap : Nat} {l : List ChR} {k : Nat} (h : CpUp w (.slice (some ⟨g, 0, none⟩) n cap) l k W) (hl : l.length = n) (hk : k < n) :
    ∃ a m c, W.cell? ⟨g, k * 5 + 4, none⟩ = some (.slice a m c) ∧ BS W a m c (l.getD k default).data ∧ W.frozen? ⟨g, k * 5 + 4, none⟩ = false := by
  obtain ⟨vs, h1, h2, h3, h4, h5⟩ := h
  subst hl
  obtain ⟨-, -, -, -, -, a, m, c, hv, hbs⟩ := h4 k (Nat.le_refl _) hk
  have e4 := h2.cellAt (k * 5 + 4) (by omega)
  rw [(cellsC_get vs k (by omega)).2.2.2.2, hv] at e4
  exact ⟨a, m, c, e4, hbs.later h5, h2.frozenAt _⟩
/-- the k-th chunk gets data of its own -/
theorem CpUp.step {w W W2 : World} {g n cap : Nat} {l : List ChR} {k : Nat} (h : CpUp w (.slice (some ⟨g, 0, none⟩) n cap) l k W) (hl : l.length = n) (hk : k < n) {a : Option Addr} {m c : Nat}
    (ho : W2.ownsRow W.heap.size 5 1 (.slice a m c) m ((l.getD k default).data.map (Value.int .u8))) (hby : ∀ x ∈ (l.getD k default).data, 0 ≤ x ∧ x ≤ 255) (hb : Below W.heap.size W W2) :
    CpUp w (.slice (some ⟨g, 0, none⟩) n cap) l (k + 1) (W2.setCell ⟨g, k * 5 + 4, none⟩ (.slice a m c)) := by
  have hwg := h
  obtain ⟨vs0, -, hown0, -, -, hb0⟩ := hwg
  have hgb := own_lt3 hown0 (g := g) rfl
  obtain ⟨vs, h1, h2, h3, h4, h5⟩ := h.later hb
  subst hl
  have hst := h2.stored (k * 5 + 4) (.slice a m c)
  rw [cellsC_set4 vs k _ (by omega)] at hst
  have hsz : (W2.setCell ⟨g, k * 5 + 4, none⟩ (.slice a m c)).heap.size = W2.heap.size := by simp
  have hoth : ∀ q, q ≠ g → (W2.setCell ⟨g, k * 5 + 4, none⟩ (.slice a m c)).heap[q]? = W2.heap[q]? := fun q hq => Below.heap_setCell _ _ _ q hq
  refine ⟨_, by simp [h1], hst.1, fun i hi hi' => ?_, fun i hi hi' => ?_, h5.setCell hgb.1 _⟩
  · rw [getD_setC _ _ _ _ (by omega)]
    by_cases hik : k = i
    · subst hik
      rw [if_pos rfl]
      obtain ⟨r1, r2, r3, r4, r5, -⟩ := h4 k (Nat.le_refl _) hk
      refine ⟨r1, r2, r3, r4, r5, a, m, c, rfl, ?_, fun p hp => ?_⟩
      · refine (BS.of_own ho hby).keepBlk (fun p hp => hoth _ ?_)
        have := own_lt3 ho (g := p.block) (by rw [hp]; rfl)
        omega
      · have := own_lt3 ho (g := p.block) (by rw [hp]; rfl)
        refine ⟨?_, by rw [hsz]; omega, ?_⟩
        · have := hb0.size
          omega
        · simp only [Value.ownBlock, ne_eq, Option.some.injEq]
          omega
    · rw [if_neg hik]
      refine (h3 i (by omega) hi').keep (by rw [hsz]; exact Nat.le_refl _) (fun q _ _ hq => hoth q ?_)
      rintro rfl
      exact hq rfl
  · rw [getD_setC _ _ _ _ (by omega), if_neg (by omega)]
    exact h4 i (by omega) hi'

/-- the row is another one now, or grown -/
theorem ReadsG.move {W W' : World} {base : Nat} {ex ex' : Option Nat} {o : ChVv} {r : ChR} (h : ReadsG W base ex o r) (hs : W.heap.size ≤ W'.heap.size) (hk : ∀ k, base ≤ k → k < W.heap.size → some k ≠ ex → W'.heap[k]? = W.heap[k]?) (he : ∀ g, ex' = some g → ex = some g ∨ W.heap.size ≤ g) : ReadsG W' base ex' o r := by
  obtain ⟨h1, h2, h3, h4, h5, a, n, c, h6, h7, h8⟩ := h.keep hs hk
  obtain ⟨-, -, -, -, -, a', n', c', q6, -, q8⟩ := h
  rw [q6] at h6
  simp only [Value.slice.injEq] at h6
  obtain ⟨rfl, rfl, rfl⟩ := h6
  refine ⟨h1, h2, h3, h4, h5, _, _, _, q6, h7, fun p hp => ⟨(h8 p hp).1, (h8 p hp).2.1, fun e => ?_⟩⟩
  rcases he p.block e.symm with he | he
  · exact (h8 p hp).2.2 he.symm
  · have := (q8 p hp).2.1
    omega
/-- one more chunk, with data of its own -/
theorem CpSt.app {base : Nat} {vo : Value} {out : List ChR} {W : World} (h : CpSt base vo out W) (r : ChR) {a : Option Addr} {n c : Nat} (hd : BS W a n c r.data) (hnew : ∀ p, a = some p → base ≤ p.block ∧ p.block < W.heap.size ∧ some p.block ≠ vo.ownBlock) (hI : r.I) (hn : out.length ≤ 1000) (hbase : base ≤ W.heap.size) {w : World} (hbl : Below base w W) (hw : base = w.heap.size) :
    ∃ g cap W5, (Builtin.append_ #[67, 67] 67 #[vo, .slice (some ⟨W.heap.size, 0, none⟩) 1 1]).run Try.prog (W.alloc (.cells #[.int .i64 r.fr, .int .i64 r.to_, .int .i64 r.n, .int .i64 r.of_, .slice a n c] 69)) = .ok (.slice (some ⟨g, 0, none⟩) (out.length + 1) cap) W5 ∧
      Hid (CpSt base (.slice (some ⟨g, 0, none⟩) (out.length + 1) cap) (out ++ [r]) W5 ∧ Below base w W5) ∧ ∀ k, k < W.heap.size → some k ≠ vo.ownBlock → W5.heap[k]? = W.heap[k]? := by
  subst hw
  obtain ⟨i0, hi, hz0, hz1, hz2⟩ := info_parts Try.info_chunk
  have hb1 : Below W.heap.size W (W.alloc (.cells #[.int .i64 r.fr, .int .i64 r.to_, .int .i64 r.n, .int .i64 r.of_, .slice a n c] 69)) := (Below.refl _ _).alloc (Nat.le_refl _) _
  have e2 : (W.alloc (.cells #[.int .i64 r.fr, .int .i64 r.to_, .int .i64 r.n, .int .i64 r.of_, .slice a n c] 69)).heap.size = W.heap.size + 1 := by simp
  have hx2 : (W.alloc (.cells #[.int .i64 r.fr, .int .i64 r.to_, .int .i64 r.n, .int .i64 r.of_, .slice a n c] 69)).heap[W.heap.size]? = some (.cells #[.int .i64 r.fr, .int .i64 r.to_, .int .i64 r.n, .int .i64 r.of_, .slice a n c] 69 (0, 0)) := by
    rw [heap_at, if_pos rfl]
  have hbl2 := below_then hbl hb1
  have h' := h.later hb1
  have hd' := hd.later hb1
  generalize W.alloc (.cells #[.int .i64 r.fr, .int .i64 r.to_, .int .i64 r.n, .int .i64 r.of_, .slice a n c] 69) = W2 at hb1 e2 hx2 hbl2 h' hd' ⊢
  obtain ⟨vs, h1, h2, h3⟩ := h'
  have hown := fun g hg => own_lt3 h2 (g := g) hg
  obtain ⟨g, cap, W5, hr, ho, hg, hlies, hlt⟩ := run_append_lies (P := Try.prog) W2 67 67 w.heap.size 69 i0 _ 5 56 Try.underlying67 hi hz0 hz1 hz2 rfl (by decide) vo out.length _ h2 ⟨W.heap.size, 0, none⟩ 1 1 (cellsC [⟨r.fr, r.to_, r.n, r.of_, .slice a n c⟩])
    rfl (one_ch hx2) (by intro u hu; simp [cellsC] at hu; rcases hu with rfl | rfl | rfl | rfl | rfl <;> rfl) (by omega) (by unfold maxLen; omega) (by omega) (by omega) W2.heap.size rfl
  have hmv : ∀ g', (Value.slice (some ⟨g, 0, none⟩) (out.length + 1) cap).ownBlock = some g' → vo.ownBlock = some g' ∨ W2.heap.size ≤ g' := by
    intro g' hg'
    simp only [Value.ownBlock, Option.some.injEq] at hg'
    subst hg'
    rcases hlies with q | q
    · exact .inl q
    · exact .inr (by omega)
  have hkp : ∀ k, w.heap.size ≤ k → k < W2.heap.size → some k ≠ vo.ownBlock → W5.heap[k]? = W2.heap[k]? := fun k _ k1 k2 => hg.block k k1 k2
  refine ⟨g, cap, W5, hr, ⟨⟨vs ++ [⟨r.fr, r.to_, r.n, r.of_, .slice a n c⟩], by simp [h1], ?_, ?_⟩, hbl2.grown hg hbl2.size (fun g' hg' => (hown g' hg').1)⟩, fun k k1 k2 => (hg.block k (by omega) k2).trans (hb1.block k k1)⟩
  · rw [cellsC_append, List.length_append]
    exact ho
  · intro i hi'
    rw [List.length_append] at hi'
    simp only [List.length_cons, List.length_nil] at hi'
    rcases Nat.lt_or_ge i out.length with hlt2 | hge
    · have e1 : (vs ++ [(⟨r.fr, r.to_, r.n, r.of_, .slice a n c⟩ : ChVv)]).getD i default = vs.getD i default := by simp [List.getD_eq_getElem?_getD, List.getElem?_append_left (show i < vs.length by omega)]
      have e2 : (out ++ [r]).getD i default = out.getD i default := by simp [List.getD_eq_getElem?_getD, List.getElem?_append_left hlt2]
      rw [e1, e2]
      exact (h3 i hlt2).move hg.size hkp hmv
    · obtain rfl : i = out.length := by omega
      have e1 : (vs ++ [(⟨r.fr, r.to_, r.n, r.of_, .slice a n c⟩ : ChVv)]).getD out.length default = ⟨r.fr, r.to_, r.n, r.of_, .slice a n c⟩ := by rw [← h1]; simp [List.getD_eq_getElem?_getD]
      have e2 : (out ++ [r]).getD out.length default = r := by simp [List.getD_eq_getElem?_getD]
      rw [e1, e2]
      have hG : ReadsG W2 w.heap.size vo.ownBlock ⟨r.fr, r.to_, r.n, r.of_, .slice a n c⟩ r := ⟨rfl, rfl, rfl, rfl, hI, a, n, c, rfl, hd', fun p hp => ⟨(hnew p hp).1, by have := (hnew p hp).2.1; omega, (hnew p hp).2.2⟩⟩
      exact hG.move hg.size hkp hmv
theorem CpSt.start (base : Nat) (W : World) : CpSt base (.slice none 0 0) [] W := ⟨[], rfl, World.ownsRow_nil _ _ _ _, fun i hi => absurd hi (by simp)⟩
theorem CpSt.own {base : Nat} {vo : Value} {out : List ChR} {W : World} (h : CpSt base vo out W) {g : Nat} (hg : vo.ownBlock = some g) : base ≤ g ∧ g < W.heap.size := by
  obtain ⟨vs, h1, h2, h3⟩ := h
  exact own_lt3 h2 hg

/-- one chunk put between: what is read -/
theorem between {W : World} {vs : List ChVv} {l : List ChR} {o : ChVv} {r : ChR} (hl : vs.length = l.length) (h : ∀ i, i < l.length → ReadsC W (vs.getD i default) (l.getD i default)) (ho : ReadsC W o r) (j : Nat) (hj : j ≤ l.length) :
    (vs.take j ++ o :: vs.drop j).length = (l.take j ++ r :: l.drop j).length ∧ ∀ i, i < (l.take j ++ r :: l.drop j).length → ReadsC W ((vs.take j ++ o :: vs.drop j).getD i default) ((l.take j ++ r :: l.drop j).getD i default) := by
  refine ⟨by simp [hl], fun i hi => ?_⟩
  have hlen : (l.take j ++ r :: l.drop j).length = l.length + 1 := by simp; omega
  rw [hlen] at hi
  have tv : (vs.take j).length = j := by simp; omega
  have tl : (l.take j).length = j := by simp; omega
  simp only [List.getD_eq_getElem?_getD] at h ⊢
  rcases Nat.lt_trichotomy i j with hlt | rfl | hgt
  · rw [List.getElem?_append_left (by omega), List.getElem?_append_left (by omega), List.getElem?_take_of_lt hlt, List.getElem?_take_of_lt hlt]
    exact h i (by omega)
  · rw [List.getElem?_append_right (by omega), List.getElem?_append_right (by omega), tv, tl, Nat.sub_self]
    exact ho
  · obtain ⟨q, rfl⟩ : ∃ q, i = j + q + 1 := ⟨i - j - 1, by omega⟩
    rw [List.getElem?_append_right (by omega), List.getElem?_append_right (by omega), tv, tl, show j + q + 1 - j = q + 1 by omega, List.getElem?_cons_succ, List.getElem?_cons_succ, List.getElem?_drop, List.getElem?_drop]
    exact h (j + q) (by omega)
end Go.Proofs.Ytmpmaljkmfgagab
/-
  Plain data: a chunk put at its place, by the first one whose number is not less.
-/
namespace Go.Proofs.Ytmpmaljkmfgagab.ChunkM

theorem ins_at {c : ChR} : ∀ {l : List ChR} {k : Nat}, k ≤ l.length → (∀ x ∈ l.take k, x.n < c.n) → (k < l.length → c.n < (l.getD k default).n) → ins l c = l.take k ++ c :: l.drop k
  | [], k, hk, _, _ => by
    obtain rfl : k = 0 := by simpa using hk
    rfl
  | x :: t, 0, _, _, h => by
    have h0 : c.n < x.n := by simpa using h (by simp)
    unfold ins
    rw [if_neg (by omega), if_pos h0]
    rfl
  | x :: t, k + 1, hk, hb, h => by
    have hx : x.n < c.n := hb x (by simp)
    unfold ins
    rw [if_neg (by omega), if_neg (by omega), ins_at (k := k) (by simpa using hk) (fun y hy => hb y (by simp [hy])) (fun hlt => by simpa using h (by simpa using hlt))]
    simp
/-- the first one whose number is not less -/
def AtIs (l : List ChR) (N i : Int) : Prop := (i = -1 ∧ ∀ x ∈ l, x.n < N) ∨ ∃ k : Nat, i = k ∧ k < l.length ∧ N ≤ (l.getD k default).n ∧ ∀ x ∈ l.take k, x.n < N
theorem ins_last {l : List ChR} {c : ChR} (h : ∀ x ∈ l, x.n < c.n) : ins l c = l.take l.length ++ c :: l.drop l.length :=
  ins_at (Nat.le_refl _) (fun x hx => h x (List.mem_of_mem_take hx)) (fun h => absurd h (Nat.lt_irrefl _))
theorem getD_memC {l : List ChR} {k : Nat} (h : k < l.length) : l.getD k default ∈ l := by
  rw [List.getD_eq_getElem?_getD, List.getElem?_eq_getElem h]
  exact List.getElem_mem _
theorem ins_there {l : List ChR} {c : ChR} {k : Nat} (hu : Up l) (hk : k < l.length) (h : (l.getD k default).n = c.n) : ins l c = l := ins_have hu (getD_memC hk) h
/-- so few they are -/
theorem checks_few {l : List ChR} (h : checks l = 0) : l.length ≤ 52 := by
  have h1 := up_len (l := l) (checks_up h) (lo := 0) (hi := 52) (fun y hy => by
    have h1 := checks_all h y hy
    have h2 := (check_good h1.1).2.2
    omega) (by omega)
  omega
end Go.Proofs.Ytmpmaljkmfgagab.ChunkM
/-
  A chunk put between the chunks of a row of the call's own: copies and cuts of chunks, what the row holds behind them.
-/
namespace Go.Proofs.Ytmpmaljkmfgagab
open Go.RowKit

/-- copy of elements of so many cells each, into a row that is known whole -/
theorem run_copy_rowK {P : Program} (w : World) (dT sT ty elem : TypeId) (size g o dLen dCap : Nat) (a : Addr) (sLen sCap : Nat) (cur : Array Value) (t : TypeId) (cs : List Value)
    (hu : P.underlying dT = some (.slice elem)) (hs : (P.info? elem).map (·.size) = some size)
    (hg : w.heap[g]? = some (.cells cur t (0, 0))) (hn : cs.length = Nat.min sLen dLen * size)
    (hsrc : ∀ j v, cs[j]? = some v → w.cell? (a.add j) = some v) (hfit : o + cs.length ≤ cur.size) (h1 : ∀ v ∈ cs, v.oneCell' = true) :
    (Builtin.copy_ #[dT, sT] ty #[.slice (some ⟨g, o, none⟩) dLen dCap, .slice (some a) sLen sCap]).run P w =
      .ok (goInt (Nat.min sLen dLen)) (w.setRow g (cur.toList.take o ++ cs ++ cur.toList.drop (o + cs.length)).toArray) := by
  have hl := run_loadCells_list (P := P) w a cs hsrc
  have hst := run_storeCells_at P g o t cs 0 cur w hg (by simpa using hfit) h1
  cases hq : P.info? elem with
  | none => simp [hq] at hs
  | some i =>
    have hi : i.size = size := by simpa [hq] using hs
    simp [Builtin.copy_, run_underlying hu, Builtin.lenOf, Builtin.firstCells, sizeOf, typeInfo, hq, hi, ← hn, hl, hst]
theorem copyC {w : World} (g o dLen dCap : Nat) (ad : Addr) (sLen sCap : Nat) (cur cs : List Value) (hg : w.heap[g]? = some (.cells cur.toArray 69 (0, 0))) (hn : cs.length = Nat.min sLen dLen * 5)
    (hsrc : ∀ j v, cs[j]? = some v → w.cell? (ad.add j) = some v) (hfit : o + cs.length ≤ cur.length) (h1 : ∀ v ∈ cs, v.oneCell' = true) :
    ∃ W', (∀ ty, (Builtin.copy_ #[67, 67] ty #[.slice (some ⟨g, o, none⟩) dLen dCap, .slice (some ad) sLen sCap]).run Try.prog w = .ok (goInt (Nat.min sLen dLen)) W') ∧
      W'.heap[g]? = some (.cells (splice cur o cs).toArray 69 (0, 0)) ∧ w.grownBy W' (some g) ∧ W'.heap.size = w.heap.size := by
  obtain ⟨i0, hi, hz0, hz1, hz2⟩ := info_parts Try.info_chunk
  refine ⟨_, fun ty => run_copy_rowK (P := Try.prog) w 67 67 ty 69 5 g o dLen dCap ad sLen sCap cur.toArray 69 cs Try.underlying67 (by rw [hi]; simp [hz1]) hg hn hsrc (by simpa using hfit) h1, ?_, ?_, ?_⟩
  · rw [setRow_heap w g _ _ 69 _ hg]
    simp [splice]
  · exact ⟨rfl, rfl, rfl, by simp [World.setRow], fun k _ hk => setRow_other w g k _ (fun e => hk (by simp [e]))⟩
  · simp [World.setRow]

/-- where a slice of chunks lies that was cut at k -/
def cutC (a : Option Addr) (c k : Nat) : Option Addr := if c = k then a else a.map (·.add (k * 5))
theorem size_run_ch (w : World) : (Go.sizeOf 69).run Try.prog w = .ok 5 w := by
  obtain ⟨i0, hi, hz0, hz1, hz2⟩ := info_parts Try.info_chunk
  simp [Go.sizeOf, typeInfo, hi, hz1]
section
variable (a : Option Addr) (n c : Nat) (W : World)
theorem run_cutC_l (k : Nat) (hk : k ≤ n) : (Instr.slice 67 (.slice a n c) (some (.int .i64 (k : Int))) none none).run Try.prog W = .ok (.slice (cutC a c k) (n - k) (c - k)) W := by
  have ht : Try.prog.underlying 67 = some (.slice (Try.prog.elem 67)) := by simp [Program.elem, Try.underlying67]
  have he : Try.prog.elem 67 = 69 := by simp [Program.elem, Try.underlying67]
  rw [run_slice_l W 67 _ _ _ ht .i64 _ (by omega) (by omega), he, size_run_ch]
  simp [Result.andThen, sliced, cutC]
theorem run_cutC_h (h : Nat) (hh : h ≤ c) : (Instr.slice 67 (.slice a n c) none (some (.int .i64 (h : Int))) none).run Try.prog W = .ok (.slice a h c) W := by
  have ht : Try.prog.underlying 67 = some (.slice (Try.prog.elem 67)) := by simp [Program.elem, Try.underlying67]
  have he : Try.prog.elem 67 = 69 := by simp [Program.elem, Try.underlying67]
  rw [run_slice_h W 67 _ _ _ ht .i64 _ (by omega) (by omega), he, size_run_ch]
  cases a <;> simp [Result.andThen, sliced, Addr.add]
end

/-- what a row holds behind the two copies, in place -/
theorem shift_row {cur xs ys : List Value} {I N K : Nat} (hI : I ≤ N) (hxl : xs.length = N) (hyl : ys.length = K) (hx : cur.take N = xs) (hc : N + K ≤ cur.length) :
    (splice (splice cur (I + K) (xs.drop I)) I ys).take (N + K) = xs.take I ++ ys ++ xs.drop I ∧ (splice (splice cur (I + K) (xs.drop I)) I ys).length = cur.length := by
  have hdl : (xs.drop I).length = N - I := by rw [List.length_drop, hxl]
  have hl1 : (splice cur (I + K) (xs.drop I)).length = cur.length := length_splice _ _ _ (by omega)
  refine ⟨?_, by rw [length_splice _ _ _ (by omega), hl1]⟩
  apply List.ext_getElem?
  intro j
  rw [List.getElem?_take]
  by_cases hj : j < N + K
  · rw [if_pos hj]
    rcases Nat.lt_or_ge j I with h1 | h1
    · rw [show (xs.take I ++ ys ++ xs.drop I)[j]? = xs[j]? by rw [List.append_assoc, List.getElem?_append_left (by rw [List.length_take]; omega), List.getElem?_take_of_lt h1]]
      unfold splice
      rw [List.getElem?_append_left (by simp; omega), List.getElem?_take_of_lt h1, List.getElem?_append_left (by simp; omega), List.getElem?_take_of_lt (by omega), ← hx, List.getElem?_take_of_lt (by omega)]
    · rcases Nat.lt_or_ge j (I + K) with h2 | h2
      · rw [show (xs.take I ++ ys ++ xs.drop I)[j]? = ys[j - I]? by rw [List.append_assoc, List.getElem?_append_right (by rw [List.length_take]; omega), List.length_take, show min I xs.length = I by omega, List.getElem?_append_left (by omega)]]
        rw [splice, List.getElem?_append_right (by rw [List.length_take]; omega), List.length_take, hl1, show min I cur.length = I by omega, List.getElem?_append_left (by omega)]
      · rw [show (xs.take I ++ ys ++ xs.drop I)[j]? = xs[j - K]? by rw [List.getElem?_append_right (by simp; omega), List.getElem?_drop]; congr 1; simp; omega]
        rw [splice, List.getElem?_append_right (by rw [List.length_take]; omega), List.length_take, hl1, show min I cur.length = I by omega, List.getElem?_append_right (by omega), List.getElem?_drop, splice,
          List.getElem?_append_right (by rw [List.length_take]; omega), List.length_take, show min (I + K) cur.length = I + K by omega, List.getElem?_append_left (by omega), List.getElem?_drop]
        congr 1
        omega
  · rw [if_neg hj, List.getElem?_eq_none]
    simp
    omega
/-- what a new row holds behind the two copies -/
theorem grow_row {Z xs ys : List Value} {I N K : Nat} (hI : I ≤ N) (hxl : xs.length = N) (hyl : ys.length = K) (hx : Z.take I = xs.take I) (hc : N + K ≤ Z.length) :
    (splice (splice Z I ys) (I + K) (xs.drop I)).take (N + K) = xs.take I ++ ys ++ xs.drop I ∧ (splice (splice Z I ys) (I + K) (xs.drop I)).length = Z.length := by
  have hdl : (xs.drop I).length = N - I := by rw [List.length_drop, hxl]
  have hl1 : (splice Z I ys).length = Z.length := length_splice _ _ _ (by omega)
  refine ⟨?_, by rw [length_splice _ _ _ (by omega), hl1]⟩
  have h1 : (splice Z I ys).take (I + K) = xs.take I ++ ys := by
    unfold splice
    rw [← List.append_assoc, List.take_append_of_le_length (by simp; omega), List.take_of_length_le (by simp; omega), hx]
  unfold splice at h1 ⊢
  rw [h1, ← List.append_assoc, List.take_append_of_le_length (by simp; omega), List.take_of_length_le (by simp; omega)]
theorem cellsC_take : ∀ (vs : List ChVv) (i : Nat), (cellsC vs).take (i * 5) = cellsC (vs.take i)
  | [], i => by simp [cellsC]
  | o :: t, 0 => by simp [cellsC]
  | o :: t, i + 1 => by
    have := cellsC_take t i
    rw [show (i + 1) * 5 = i * 5 + 1 + 1 + 1 + 1 + 1 by omega]
    simp [cellsC, this]
theorem cellsC_drop : ∀ (vs : List ChVv) (i : Nat), (cellsC vs).drop (i * 5) = cellsC (vs.drop i)
  | [], i => by simp [cellsC]
  | o :: t, 0 => by simp [cellsC]
  | o :: t, i + 1 => by
    have := cellsC_drop t i
    rw [show (i + 1) * 5 = i * 5 + 1 + 1 + 1 + 1 + 1 by omega]
    simp [cellsC, this]
theorem cellsC_between (vs : List ChVv) (b : ChVv) (i : Nat) : (cellsC vs).take (i * 5) ++ cellsC [b] ++ (cellsC vs).drop (i * 5) = cellsC (vs.take i ++ b :: vs.drop i) := by
  rw [cellsC_take, cellsC_drop, show vs.take i ++ b :: vs.drop i = vs.take i ++ ([b] ++ vs.drop i) by simp, cellsC_append, cellsC_append, List.append_assoc]
end Go.Proofs.Ytmpmaljkmfgagab
/-
  What reads so in every later world that has the same blocks from a place on.
-/
namespace Go.Proofs.Ytmpmaljkmfgagab
open Go.RowKit

/-- the same reads in every later world that has the same blocks from 'lo' on -/
def NewR (lo : Nat) (w : World) (R : World → Prop) : Prop := ∀ W : World, w.heap.size ≤ W.heap.size → (∀ k, lo ≤ k → k < w.heap.size → W.heap[k]? = w.heap[k]?) → R W
theorem NewR.here {lo : Nat} {w : World} {R : World → Prop} (h : NewR lo w R) : R w := h w (Nat.le_refl _) (fun _ _ _ => rfl)
theorem NewR.later {lo : Nat} {w w' : World} {R : World → Prop} (h : NewR lo w R) (hs : w.heap.size ≤ w'.heap.size) (hk : ∀ k, lo ≤ k → k < w.heap.size → w'.heap[k]? = w.heap[k]?) : NewR lo w' R :=
  fun W h1 h2 => h W (Nat.le_trans hs h1) (fun k k1 k2 => (h2 k k1 (by omega)).trans (hk k k1 k2))
theorem NewR.below {lo : Nat} {w w' : World} {R : World → Prop} (h : NewR lo w R) (hb : Below w.heap.size w w') : NewR lo w' R := h.later hb.size (fun k _ hk => hb.block k hk)
theorem NewR.mono {lo lo' : Nat} {w : World} {R : World → Prop} (h : NewR lo w R) (hl : lo' ≤ lo) : NewR lo' w R := fun W h1 h2 => h W h1 (fun k k1 k2 => h2 k (by omega) k2)
theorem NewR.imp {lo : Nat} {w : World} {R R' : World → Prop} (h : NewR lo w R) (hi : ∀ W, R W → R' W) : NewR lo w R' := fun W h1 h2 => hi W (h W h1 h2)
theorem NewR.and {lo : Nat} {w : World} {R R' : World → Prop} (h : NewR lo w R) (h' : NewR lo w R') : NewR lo w (fun W => R W ∧ R' W) := fun W h1 h2 => ⟨h W h1 h2, h' W h1 h2⟩
theorem NewR.any {lo : Nat} {w : World} {R : World → Prop} (h : ∀ W, R W) : NewR lo w R := fun W _ _ => h W
/-- what is kept wherever the cells are kept -/
theorem NewR.of_keep {w : World} {R : World → Prop} (h : ∀ W : World, (∀ p v, w.cell? p = some v → W.cell? p = some v) → R W) : NewR 0 w R := by
  intro V _ h2
  refine h V (fun p v hc => ?_)
  have hlt : p.block < w.heap.size := by
    rcases Nat.lt_or_ge p.block w.heap.size with q | q
    · exact q
    · simp [World.cell?, Array.getElem?_eq_none q] at hc
  simp only [World.cell?] at hc ⊢
  rw [h2 _ (Nat.zero_le _) hlt]
  exact hc
theorem BS.new {lo : Nat} {w : World} {a : Option Addr} {n c : Nat} {l : List Int} (h : BS w a n c l) (hp : ∀ p, a = some p → lo ≤ p.block ∧ p.block < w.heap.size) : NewR lo w (fun W => BS W a n c l) :=
  fun _ _ h2 => h.keepBlk (fun p q => h2 _ (hp p q).1 (hp p q).2)
end Go.Proofs.Ytmpmaljkmfgagab
/-
  Plain data: what Add makes of chunks of the same patch and of another one.
-/
namespace Go.Proofs.Ytmpmaljkmfgagab.ChunkM

theorem chks_ok {z : ChR} : ∀ {l : List ChR} {last : Int}, (∀ c ∈ l, check c = 0 ∧ kin c z) → Up l → (∀ c ∈ l, last < c.n) → chks z l last = 0
  | [], _, _, _, _ => rfl
  | c :: t, last, h, hu, hn => by
    have h1 := h c (by simp)
    rw [chks_on h1.1 h1.2 (by have := hn c (by simp); omega)]
    exact chks_ok (fun c' hc' => h c' (by simp [hc'])) hu.tail (fun c' hc' => hu.lt c' hc')
theorem checks_ok {l : List ChR} (h : ∀ c ∈ l, check c = 0 ∧ kin c (l.getD 0 default)) (hu : Up l) : checks l = 0 := by
  cases l with
  | nil => rfl
  | cons z t => exact chks_ok (z := z) (fun c hc => by simpa using h c hc) hu (fun c hc => by have := (check_good (h c hc).1).2.2.2.1; omega)
theorem kin_refl (a : ChR) : kin a a := ⟨rfl, rfl, rfl⟩
theorem kin_trans {a b c : ChR} (h : kin a b) (h' : kin b c) : kin a c := ⟨h.1.trans h'.1, h.2.1.trans h'.2.1, h.2.2.trans h'.2.2⟩
theorem kin_symm {a b : ChR} (h : kin a b) : kin b a := ⟨h.1.symm, h.2.1.symm, h.2.2.symm⟩
theorem getD_mem {l : List ChR} (h : l ≠ []) : l.getD 0 default ∈ l := by
  cases l with
  | nil => exact absurd rfl h
  | cons x t => simp
theorem made_ne {l : List ChR} {c : ChR} : ins (those l c) c ≠ [] := by
  intro e
  cases h : those l c with
  | nil => rw [h] at e; simp [ins] at e
  | cons y t =>
    have : y ∈ ins (those l c) c := ins_old (by rw [h]; simp)
    rw [e] at this
    simp at this
/-- the chunk's number is there -/
theorem made_has {l : List ChR} {c : ChR} : ∃ y ∈ ins (those l c) c, y.n = c.n := by
  rcases Classical.em (∃ y ∈ those l c, y.n = c.n) with ⟨y, hy, hn⟩ | h
  · exact ⟨y, ins_old hy, hn⟩
  · exact ⟨c, ins_self (fun y hy hn => h ⟨y, hy, hn⟩), rfl⟩
theorem those_mine {l : List ChR} {c : ChR} (h : kin c (l.getD 0 default)) : those l c = l := by
  unfold those
  rw [if_neg (fun q => q.2 h)]
theorem those_up {l : List ChR} {c : ChR} (hl : checks l = 0) : Up (those l c) := by
  unfold those
  split
  · trivial
  · exact checks_up hl
theorem those_kin {l : List ChR} {c : ChR} (hl : checks l = 0) : ∀ y ∈ those l c, check y = 0 ∧ kin y c := by
  intro y hy
  unfold those at hy
  split at hy
  · simp at hy
  · rename_i h
    have hne : l ≠ [] := by rintro rfl; simp at hy
    have hk : kin c (l.getD 0 default) := by
      rcases Classical.em (kin c (l.getD 0 default)) with q | q
      · exact q
      · exact absurd ⟨hne, q⟩ h
    obtain ⟨h1, h2, _⟩ := checks_all hl y hy
    exact ⟨h1, kin_trans h2 (kin_symm hk)⟩
/-- what is made is right -/
theorem made_kin {l : List ChR} {c : ChR} (hl : checks l = 0) (hc : check c = 0) : ∀ y ∈ ins (those l c) c, check y = 0 ∧ kin y c := by
  intro y hy
  rcases ins_mem hy with hy | rfl
  · exact those_kin hl y hy
  · exact ⟨hc, kin_refl _⟩
theorem made_first {l : List ChR} {c : ChR} (hl : checks l = 0) (hc : check c = 0) : kin ((ins (those l c) c).getD 0 default) c := (made_kin hl hc _ (getD_mem (made_ne))).2
theorem made_checks {l : List ChR} {c : ChR} (hl : checks l = 0) (hc : check c = 0) : checks (ins (those l c) c) = 0 :=
  checks_ok (fun y hy => ⟨(made_kin hl hc y hy).1, kin_trans (made_kin hl hc y hy).2 (kin_symm (made_first hl hc))⟩) (ins_up (those_up hl))
/-- added once more it changes nothing -/
theorem made_again {l : List ChR} {c : ChR} (hl : checks l = 0) (hc : check c = 0) : addOf (ins (those l c) c) c = (ins (those l c) c, 0) := by
  have h1 := made_checks hl hc
  have h2 : those (ins (those l c) c) c = ins (those l c) c := those_mine (kin_symm (made_first hl hc))
  unfold addOf
  rw [if_neg (by simp [h1]), if_neg (by simp [hc]), h2]
  obtain ⟨y, hy, hn⟩ := made_has
  rw [ins_have (ins_up (those_up hl)) hy hn]
theorem ins_len {c : ChR} : ∀ {l : List ChR}, (∀ x ∈ l, x.n ≠ c.n) → (ins l c).length = l.length + 1
  | [], _ => rfl
  | y :: t, h => by
    unfold ins
    rw [if_neg (h y (by simp))]
    split
    · rfl
    · simp [ins_len (l := t) (fun x hx => h x (by simp [hx]))]
theorem those_other {l : List ChR} {c : ChR} (h : l = [] ∨ ¬ kin c (l.getD 0 default)) : those l c = [] := by
  unfold those
  rcases Classical.em (l = []) with rfl | hne
  · split <;> rfl
  · rw [if_pos ⟨hne, by rcases h with h | h; exact absurd h hne; exact h⟩]
theorem addOf_ok {l : List ChR} {c : ChR} (h : (addOf l c).2 = 0) : checks l = 0 ∧ check c = 0 ∧ (addOf l c).1 = ins (those l c) c := by
  unfold addOf at h ⊢
  by_cases h1 : checks l = 0
  · rw [if_neg (by simp [h1])] at h ⊢
    by_cases h2 : check c = 0
    · rw [if_neg (by simp [h2])]
      exact ⟨h1, h2, rfl⟩
    · rw [if_pos h2] at h
      exact absurd h h2
  · rw [if_pos h1] at h
    exact absurd h h1
end Go.Proofs.Ytmpmaljkmfgagab.ChunkM
/-
  Plain data: the chunks of a patch, some of them, and all.
-/
namespace Go.Proofs.Ytmpmaljkmfgagab.ChunkM

theorem parts_mul (o : List Int) : o.length ≤ parts o * 16 := by unfold parts; omega
theorem flat_range (fr to : Int) (o : List Int) : ∀ k, flatD ((List.range k).map (nth fr to o)) = o.take (k * 16)
  | 0 => by simp [flatD]
  | k + 1 => by
    rw [List.range_succ, List.map_append, flatD_append, flat_range fr to o k]
    simp only [List.map_cons, List.map_nil, flatD, nth, List.append_nil]
    rw [show (k + 1) * 16 = k * 16 + 16 by omega, List.take_add]
theorem flat_cut (fr to : Int) (o : List Int) : flatD (cutL fr to o) = o := by
  unfold cutL
  rw [flat_range, List.take_of_length_le (parts_mul o)]
theorem nth_check {fr to : Int} {o : List Int} (hf : 1 ≤ fr ∧ fr ≤ 30) (ht : 1 ≤ to ∧ to ≤ 30) (hp : parts o ≤ 52) {k : Nat} (hk : k < parts o) : check (nth fr to o k) = 0 := by
  have h1 : ¬ badNums (nth fr to o k) := by unfold badNums nth; simp only; omega
  have hl : (nth fr to o k).data.length = min 16 (o.length - k * 16) := by simp [nth]
  have hk2 : k * 16 < o.length := by unfold parts at hk; omega
  by_cases h2 : (nth fr to o k).n = (nth fr to o k).of_ - 1
  · rw [check_last h1 h2, if_neg]
    rw [hl]
    omega
  · rw [check_mid h1 h2, if_neg]
    rw [hl]
    have : (k : Int) ≠ (parts o : Int) - 1 := h2
    unfold parts at this hk
    omega
theorem up_map (fr to : Int) (o : List Int) : ∀ (l : List Nat), l.Pairwise (· < ·) → Up (l.map (nth fr to o))
  | [], _ => trivial
  | x :: t, h => by
    rw [List.map_cons]
    refine (up_map fr to o t (List.pairwise_cons.1 h).2).cons (fun y hy => ?_)
    obtain ⟨z, hz, rfl⟩ := List.mem_map.1 hy
    have := (List.pairwise_cons.1 h).1 z hz
    unfold nth
    simp only
    omega
/-- those of a patch's chunks whose numbers were seen -/
def some_ (fr to : Int) (o : List Int) (seen : Nat → Bool) : List ChR := ((List.range (parts o)).filter seen).map (nth fr to o)
theorem some_all (fr to : Int) (o : List Int) {seen : Nat → Bool} (h : ∀ k, k < parts o → seen k = true) : some_ fr to o seen = cutL fr to o := by
  unfold some_ cutL
  rw [List.filter_eq_self.2 (fun k hk => h k (List.mem_range.1 hk))]
theorem some_up (fr to : Int) (o : List Int) (seen : Nat → Bool) : Up (some_ fr to o seen) := up_map fr to o _ (List.pairwise_lt_range.filter _)
theorem some_mem {fr to : Int} {o : List Int} {seen : Nat → Bool} {x : ChR} (h : x ∈ some_ fr to o seen) : ∃ k, k < parts o ∧ seen k = true ∧ x = nth fr to o k := by
  obtain ⟨k, hk, rfl⟩ := List.mem_map.1 h
  have := List.mem_filter.1 hk
  exact ⟨k, List.mem_range.1 this.1, this.2, rfl⟩
theorem up_ext : ∀ {x y : List ChR}, Up x → Up y → (∀ c, c ∈ x ↔ c ∈ y) → x = y
  | [], [], _, _, _ => rfl
  | [], b :: t, _, _, h => by have := (h b).2 (by simp); simp at this
  | a :: s, [], _, _, h => by have := (h a).1 (by simp); simp at this
  | a :: s, b :: t, hx, hy, h => by
    have e : a = b := by
      rcases List.mem_cons.1 ((h a).1 (by simp)) with e | ha
      · exact e
      · rcases List.mem_cons.1 ((h b).2 (by simp)) with e | hb
        · exact e.symm
        · have h1 := hy.lt a ha
          have h2 := hx.lt b hb
          omega
    subst e
    congr 1
    refine up_ext hx.tail hy.tail (fun c => ⟨fun hc => ?_, fun hc => ?_⟩)
    · rcases List.mem_cons.1 ((h c).1 (by simp [hc])) with rfl | h2
      · have := hx.lt c hc; omega
      · exact h2
    · rcases List.mem_cons.1 ((h c).2 (by simp [hc])) with rfl | h2
      · have := hy.lt c hc; omega
      · exact h2
theorem some_checks {fr to : Int} {o : List Int} (hf : 1 ≤ fr ∧ fr ≤ 30) (ht : 1 ≤ to ∧ to ≤ 30) (hp : parts o ≤ 52) (seen : Nat → Bool) : checks (some_ fr to o seen) = 0 := by
  refine checks_ok (fun c hc => ?_) (some_up fr to o seen)
  obtain ⟨k, hk, _, rfl⟩ := some_mem hc
  refine ⟨nth_check hf ht hp hk, ?_⟩
  have hne : some_ fr to o seen ≠ [] := by intro e; rw [e] at hc; simp at hc
  obtain ⟨j, hj, _, e⟩ := some_mem (getD_mem hne)
  rw [e]
  exact ⟨rfl, rfl, rfl⟩
/-- one more comes -/
theorem some_add {fr to : Int} {o : List Int} (hf : 1 ≤ fr ∧ fr ≤ 30) (ht : 1 ≤ to ∧ to ≤ 30) (hp : parts o ≤ 52) (seen : Nat → Bool) {k : Nat} (hk : k < parts o) : addOf (some_ fr to o seen) (nth fr to o k) = (some_ fr to o (fun j => seen j || decide (j = k)), 0) := by
  have h1 := some_checks hf ht hp seen
  have h2 := nth_check hf ht hp hk
  have h3 : those (some_ fr to o seen) (nth fr to o k) = some_ fr to o seen := by
    rcases Classical.em (some_ fr to o seen = []) with e | hne
    · rw [e]
      unfold those
      split <;> rfl
    · refine those_mine ?_
      obtain ⟨j, hj, _, e⟩ := some_mem (getD_mem hne)
      rw [e]
      exact ⟨rfl, rfl, rfl⟩
  unfold addOf
  rw [if_neg (by simp [h1]), if_neg (by simp [h2]), h3]
  congr 1
  refine up_ext (ins_up (some_up fr to o seen)) (some_up fr to o _) (fun c => ⟨fun hc => ?_, fun hc => ?_⟩)
  · rcases ins_mem hc with hc | rfl
    · obtain ⟨j, hj, hs, rfl⟩ := some_mem hc
      exact List.mem_map.2 ⟨j, List.mem_filter.2 ⟨List.mem_range.2 hj, by simp [hs]⟩, rfl⟩
    · exact List.mem_map.2 ⟨k, List.mem_filter.2 ⟨List.mem_range.2 hk, by simp⟩, rfl⟩
  · obtain ⟨j, hj, hs, rfl⟩ := some_mem hc
    rcases Classical.em (seen j = true) with hs1 | hs1
    · exact ins_old (List.mem_map.2 ⟨j, List.mem_filter.2 ⟨List.mem_range.2 hj, hs1⟩, rfl⟩)
    · have hjk : j = k := by
        simp only [Bool.or_eq_true, decide_eq_true_eq] at hs
        rcases hs with h | h
        · exact absurd h hs1
        · exact h
      subst hjk
      refine ins_self (fun x hx => ?_)
      obtain ⟨i, hi, his, rfl⟩ := some_mem hx
      intro e
      have : (i : Int) = (j : Int) := e
      have : i = j := by omega
      subst this
      exact hs1 his
end Go.Proofs.Ytmpmaljkmfgagab.ChunkM
/-
  Plain data: what Join makes of some of a patch's chunks, and of all.
-/
namespace Go.Proofs.Ytmpmaljkmfgagab.ChunkM

theorem some_length (fr to : Int) (o : List Int) (seen : Nat → Bool) : (some_ fr to o seen).length = ((List.range (parts o)).filter seen).length := by simp [some_]
theorem some_ne {fr to : Int} {o : List Int} {seen : Nat → Bool} {k : Nat} (hk : k < parts o) (hs : seen k = true) : some_ fr to o seen ≠ [] := by
  intro e
  have : nth fr to o k ∈ some_ fr to o seen := List.mem_map.2 ⟨k, List.mem_filter.2 ⟨List.mem_range.2 hk, hs⟩, rfl⟩
  rw [e] at this
  simp at this
theorem some_of {fr to : Int} {o : List Int} {seen : Nat → Bool} (h : some_ fr to o seen ≠ []) : ((some_ fr to o seen).getD 0 default).of_ = (parts o : Int) ∧ ((some_ fr to o seen).getD 0 default).fr = fr ∧ ((some_ fr to o seen).getD 0 default).to_ = to := by
  obtain ⟨j, hj, _, e⟩ := some_mem (getD_mem h)
  rw [e]
  exact ⟨rfl, rfl, rfl⟩
/-- as long as one is wanting -/
theorem some_late {fr to : Int} {o : List Int} (hf : 1 ≤ fr ∧ fr ≤ 30) (ht : 1 ≤ to ∧ to ≤ 30) (hp : parts o ≤ 52) {seen : Nat → Bool} (hne : some_ fr to o seen ≠ []) (hlt : (some_ fr to o seen).length < parts o) {r : PatR × Int} (h : JoinIs (some_ fr to o seen) r) : r = (noPat, 5) := by
  have hj : joinErr (some_ fr to o seen) = 5 := by
    unfold joinErr
    rw [if_neg (by simp [some_checks hf ht hp seen]), if_pos (.inr (by rw [(some_of hne).1]; omega))]
  exact h.det (.inl ⟨by rw [hj]; omega, by rw [hj]⟩)
/-- when all are there -/
theorem cut_join {p : PatR} {o : List Int} (hc : PatM.check p = 0) (ho : PackM.Packs (PatM.putL p) o) {r : PatR × Int} (h : JoinIs (cutL p.from_ p.to_ o) r) : r = (p, 0) := by
  obtain ⟨hb, -⟩ := PatM.check_parts hc
  have hf : 1 ≤ p.from_ ∧ p.from_ ≤ 30 := by unfold PatM.badHead at hb; omega
  have ht : 1 ≤ p.to_ ∧ p.to_ ≤ 30 := by unfold PatM.badHead at hb; omega
  have hp : parts o ≤ 52 := by have := packed_parts hc ho; omega
  have hall := some_all p.from_ p.to_ o (seen := fun _ => true) (fun _ _ => rfl)
  have hon : o ≠ [] := by
    rintro rfl
    have := ho.back 400 [] [] (PatM.putL p, 0) (by have := PatM.putL_len hc; simp; omega) (by simpa using PackM.Unp.done (PatM.putL p))
    have h2 : PackM.Unp 400 [] [] (([] : List Int), 0) := .done []
    have h3 := this.det _ h2
    simp only [Prod.mk.injEq, and_true] at h3
    simp [PatM.putL, PatM.head] at h3
  have hpos : 0 < parts o := by
    have : 0 < o.length := List.length_pos_iff.2 hon
    unfold parts
    omega
  have hne : cutL p.from_ p.to_ o ≠ [] := by
    rw [← hall]
    exact some_ne (k := 0) hpos rfl
  have hof := some_of (by rw [hall]; exact hne : some_ p.from_ p.to_ o (fun _ => true) ≠ [])
  rw [hall] at hof
  have hj : joinErr (cutL p.from_ p.to_ o) = 0 := by
    unfold joinErr
    have h1 := some_checks hf ht hp (fun _ => true)
    rw [hall] at h1
    rw [if_neg (by simp [h1]), if_neg]
    rintro (q | q)
    · exact hne q
    · exact q (by rw [hof.1, cutL_length])
  refine h.det (.inr ⟨hj, (PatM.putL p, 0), ?_, ?_⟩)
  · rw [flat_cut]
    have := ho.back 400 [] [] (PatM.putL p, 0) (by have := PatM.putL_len hc; simp; omega) (by simpa using PackM.Unp.done (PatM.putL p))
    simpa using this
  · unfold joinEnd
    simp only
    rw [PatM.read_put hc, if_neg (by simp), if_neg (by simp), if_neg (by rw [hof.2.1, hof.2.2]; simp)]
end Go.Proofs.Ytmpmaljkmfgagab.ChunkM
/-
  Plain data: how many of so many numbers were seen.
-/
namespace Go.Proofs.Ytmpmaljkmfgagab.ChunkM

/-- how many of the numbers below n were seen -/
def seenN (n : Nat) (seen : Nat → Bool) : Nat := ((List.range n).filter seen).length
theorem seenN_zero (n : Nat) : seenN n (fun _ => false) = 0 := by unfold seenN; simp
theorem seenN_succ (n : Nat) (seen : Nat → Bool) : seenN (n + 1) seen = seenN n seen + if seen n then 1 else 0 := by
  unfold seenN
  rw [List.range_succ, List.filter_append, List.length_append]
  congr 1
  by_cases h : seen n = true
  · simp [h]
  · simp [h]
theorem seenN_le (n : Nat) (seen : Nat → Bool) : seenN n seen ≤ n := by
  have := List.length_filter_le seen (List.range n)
  simpa [seenN] using this
theorem seenN_ext {n : Nat} {s s' : Nat → Bool} (h : ∀ k, k < n → s k = s' k) : seenN n s = seenN n s' := by
  unfold seenN
  rw [List.filter_congr (fun k hk => h k (List.mem_range.1 hk))]
/-- one more is seen -/
theorem seenN_add {n k : Nat} (seen : Nat → Bool) (hk : k < n) : seenN n (fun j => seen j || decide (j = k)) = seenN n seen + if seen k then 0 else 1 := by
  induction n with
  | zero => omega
  | succ n ih =>
    rw [seenN_succ, seenN_succ]
    by_cases e : k = n
    · subst e
      rw [seenN_ext (s := fun j => seen j || decide (j = k)) (s' := seen) (fun j hj => by have : j ≠ k := by omega
                                                                                          simp [this])]
      by_cases h : seen k = true
      · simp [h]
      · simp [h]
    · rw [ih (by omega)]
      have : n ≠ k := fun q => e q.symm
      simp only [this, decide_false, Bool.or_false]
      omega
/-- all are seen where as many are seen as there are -/
theorem seenN_all {n : Nat} {seen : Nat → Bool} (h : seenN n seen = n) : ∀ k, k < n → seen k = true := by
  intro k hk
  unfold seenN at h
  exact List.length_filter_eq_length_iff.1 (by rw [h, List.length_range]) k (List.mem_range.2 hk)
theorem some_seen (fr to : Int) (o : List Int) (seen : Nat → Bool) : (some_ fr to o seen).length = seenN (parts o) seen := some_length fr to o seen
end Go.Proofs.Ytmpmaljkmfgagab.ChunkM
/-
  A slice of ints that reads as a list; append onto a row of the call's own.
-/
namespace Go.Proofs.Ytmpmaljkmfgagab
open Go.RowKit

theorem Try.info_int : (Try.prog.info? 3).map (fun i => (i.zero, i.size, i.bytes)) = some (some (.int .i64 0), 1, 8) := by kernel_rfl

/-- a slice of ints that reads as a list: nil or not, wherever it lies -/
structure NS (w : World) (a : Option Addr) (n c : Nat) (l : List Int) : Prop where
  len : l.length = n
  le : n ≤ c
  max : c ≤ 9223372036854775807
  cells : 0 < n → ∃ b off, a = some ⟨b, off, none⟩ ∧ ∀ i, i < n → w.cell? ⟨b, off + i, none⟩ = some (.int .i64 (l.getD i 0))
  none_ : a = none → c = 0
section
variable {w w' : World} {a : Option Addr} {n c : Nat} {l : List Int}
theorem NS.keep (h : NS w a n c l) (hk : ∀ p v, w.cell? p = some v → w'.cell? p = some v) : NS w' a n c l :=
  ⟨h.len, h.le, h.max, fun hp => by
    obtain ⟨b, off, e, hc⟩ := h.cells hp
    exact ⟨b, off, e, fun i hi => hk _ _ (hc i hi)⟩, h.none_⟩
theorem NS.later (h : NS w a n c l) (hb : Below w.heap.size w w') : NS w' a n c l := h.keep (fun _ _ hc => cell_later hb hc)
theorem NS.drewN (h : NS w a n c l) (m : Nat) : NS (w.drewN m) a n c l := h.keep (fun _ _ h => h)
theorem NS.nil_ (w : World) : NS w none 0 0 [] := ⟨rfl, by omega, by omega, fun h => absurd h (by omega), fun _ => rfl⟩
theorem NS.of_own {B e : Nat} (h : w.ownsRow B e 1 (.slice a n c) n (l.map (Value.int .i64))) : NS w a n c l := by
  have h1 := h.1
  simp at h1
  rcases h.2 with ⟨hv, hn⟩ | ⟨g, cap, cur, hv, _, _, hnc, hcm, _, _⟩
  · simp at hv
    obtain ⟨rfl, rfl, rfl⟩ := hv
    exact ⟨h1, by omega, by omega, fun h => absurd h (by omega), fun _ => rfl⟩
  · simp at hv
    obtain ⟨rfl, rfl⟩ := hv
    refine ⟨h1, hnc, by unfold maxLen at hcm; omega, fun hp => ⟨g, 0, rfl, fun i hi => ?_⟩, fun h => by cases h⟩
    have := h.cellAt i (by omega)
    simp [List.getElem?_eq_getElem (show i < l.length by omega)] at this
    simpa [List.getD_eq_getElem?_getD, List.getElem?_eq_getElem (show i < l.length by omega)] using this
end
/-- one more int behind a row of the call's own -/
theorem app_int {w : World} {base : Nat} {v : Value} {n : Nat} {l : List Int} (hown : w.ownsRow base 3 1 v n (l.map (Value.int .i64))) {B : Nat} {x : Int} (hB : w.heap[B]? = some (.cells #[.int .i64 x] 3 (0, 0))) (hb : n ≤ 100000) (hbase : base ≤ w.heap.size) :
    ∃ a' c' w', (Builtin.append_ #[53, 53] 53 #[v, .slice (some ⟨B, 0, none⟩) 1 1]).run Try.prog w = .ok (.slice a' (n + 1) c') w' ∧
      w'.ownsRow base 3 1 (.slice a' (n + 1) c') (n + 1) ((l ++ [x]).map (Value.int .i64)) ∧ w.grownBy w' v.ownBlock := by
  obtain ⟨i0, hi, hz0, hz1, hz2⟩ := info_parts Try.info_int
  have hnews := World.news_of_block hB
  obtain ⟨v', w', hr, ho, hg, _⟩ := run_append_own (P := Try.prog) w base 53 53 3 i0 _ 1 8 Try.underlying53 hi hz0 hz1 hz2 rfl (by decide) v n _ hown ⟨B, 0, none⟩ 1 1 ([x].map (Value.int .i64))
    rfl (by simpa using hnews) (by intro u hu; simp at hu; subst hu; rfl) (by unfold maxLen; omega) (by omega) hbase
  obtain ⟨a', c', rfl⟩ : ∃ a' c', v' = .slice a' (n + 1) c' := by
    rcases ho.2 with ⟨h1, h2⟩ | ⟨g, cap, cur, h1, _⟩
    · exact ⟨none, 0, by rw [h1, h2]⟩
    · exact ⟨_, _, h1⟩
  exact ⟨a', c', w', hr, by simpa using ho, hg⟩
end Go.Proofs.Ytmpmaljkmfgagab
/-
  Cuts of slices of ints, each as one equation for the walk; what a cut reads as.
-/
namespace Go.Proofs.Ytmpmaljkmfgagab
open Go.RowKit

theorem size_run_int (w : World) : (Go.sizeOf 3).run Try.prog w = .ok 1 w := by
  obtain ⟨i0, hi, hz0, hz1, hz2⟩ := info_parts Try.info_int
  simp [Go.sizeOf, typeInfo, hi, hz1]
section
variable (a : Option Addr) (n c : Nat) (W : World)
theorem run_cutN_l (k : Nat) (hk : k ≤ n) : (Instr.slice 53 (.slice a n c) (some (.int .i64 (k : Int))) none none).run Try.prog W = .ok (.slice (cutA a c k) (n - k) (c - k)) W := by
  have ht : Try.prog.underlying 53 = some (.slice (Try.prog.elem 53)) := by simp [Program.elem, Try.underlying53]
  have he : Try.prog.elem 53 = 3 := by simp [Program.elem, Try.underlying53]
  rw [run_slice_l W 53 _ _ _ ht .i64 _ (by omega) (by omega), he, size_run_int]
  simp [Result.andThen, sliced, cutA]
theorem run_cutN_h (h : Nat) (hh : h ≤ c) : (Instr.slice 53 (.slice a n c) none (some (.int .i64 (h : Int))) none).run Try.prog W = .ok (.slice a h c) W := by
  have ht : Try.prog.underlying 53 = some (.slice (Try.prog.elem 53)) := by simp [Program.elem, Try.underlying53]
  have he : Try.prog.elem 53 = 3 := by simp [Program.elem, Try.underlying53]
  rw [run_slice_h W 53 _ _ _ ht .i64 _ (by omega) (by omega), he, size_run_int]
  cases a <;> simp [Result.andThen, sliced, Addr.add]
end
section
variable {w : World} {a : Option Addr} {n c : Nat} {l : List Int}
theorem NS.cut (h : NS w a n c l) (k : Nat) (hk : k ≤ n) : NS w (cutA a c k) (n - k) (c - k) (l.drop k) := by
  have h1 := h.len
  have h2 := h.le
  have h3 := h.max
  refine ⟨by simp; omega, by omega, by omega, fun hp => ?_, ?_⟩
  · obtain ⟨b, off, rfl, hc⟩ := h.cells (by omega)
    refine ⟨b, off + k, by unfold cutA; rw [if_neg (by omega), Option.map_some, addr_add], fun i hi => ?_⟩
    rw [Nat.add_assoc, hc (k + i) (by omega)]
    simp [List.getD_eq_getElem?_getD, List.getElem?_drop]
  · intro he
    have : a = none := by
      unfold cutA at he
      split at he
      · exact he
      · simpa using he
    have := h.none_ this
    omega
theorem NS.head (h : NS w a n c l) (k : Nat) (hk : k ≤ n) : NS w a k c (l.take k) := by
  have h1 := h.len
  have h2 := h.le
  refine ⟨by simp; omega, by omega, h.max, fun hp => ?_, h.none_⟩
  obtain ⟨b, off, rfl, hc⟩ := h.cells (by omega)
  exact ⟨b, off, rfl, fun i hi => by rw [hc i (by omega)]; simp [List.getD_eq_getElem?_getD, List.getElem?_take_of_lt hi]⟩
end
end Go.Proofs.Ytmpmaljkmfgagab
/-
  An argument of ints, opened.
-/
namespace Go.Proofs.Ytmpmaljkmfgagab
open Go.RowKit
section
variable {H : Type} {enc : TypeId × Value → H} {w : World} {sp : Nat → Bool} {held : Bool}
set_option maxRecDepth 100000 in
theorem open_ns {fuel : Nat} {v : Value} {x : DataW H × List MemPlace} (h : DataW.trod enc Try.prog w 0 sp held fuel 53 [v] = some x) :
    ∃ a n c l, v = .slice a n c ∧ NS w a n c l := by
  rcases Go.ChangeShapes.open_ints Try.underlying53 Try.underlying3 (by kernel_rfl) h with ⟨hcs, _⟩ | ⟨a, len, cap, zs, hcs, _, hl, hm, hz, _, hcell, hwz⟩
  · simp at hcs
    subst hcs
    exact ⟨none, 0, 0, [], rfl, NS.nil_ w⟩
  · simp at hcs
    subst hcs
    have hlz : len ≤ zs.length := by rw [hz]; split <;> omega
    refine ⟨some a, len, cap, zs.take len, rfl, ?_, hl, by unfold maxLen at hm; omega, ?_, fun h => by cases h⟩
    · simp; omega
    · intro hp
      obtain ⟨b, off, spot⟩ := a
      have h0 := hcell 0 (by omega)
      have hs : spot = none := by simpa [Addr.add] using World.cell?_spot h0
      subst hs
      refine ⟨b, off, rfl, fun i hi => ?_⟩
      have h1 := hcell i (by omega)
      rw [addr_add] at h1
      rw [h1]
      simp only [List.getD_eq_getElem?_getD, List.getElem?_take_of_lt hi]
end
end Go.Proofs.Ytmpmaljkmfgagab
