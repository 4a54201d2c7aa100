/-
  Texts put into one: Row, Num64, RecMath, RecL, EqRec, RecIs, RecAgr, RecChk, RecRes, RecSt, RecWSt, LawSt, Bytes, CutB, Ops, OpsOwn, NewR, MemSt, Turn, Ways, ChR, ChunkMath, Pat, DeltaMath, ApplyMath, PatMath, MatchMath, DiffSt, DeltaRes, SumMath, PatRes, PutMath, PackMath, ChunkMath2, JoinMath, DifMath, TotMath, AddMathC, OtherMath, AnyMath, AnyMath2, DevMath, ChunkV, DevV, DevT, Held, ChSt.
-/
import Derived.Test.YtnnmpoknghbdnacGreatRows
import Derived.WalkKit
import Derived.ProofKit
import Derived.OpenShut
import Derived.ChangeOld
import Derived.Below
import Derived.Lib.Hide
import Derived.WalkLawsBesides
import Derived.WalkSpells
import Derived.Laws.OwnMore
import Derived.OwnWalk
import Derived.Deep.DeepAppendRoom
import Derived.Lib.AppendZerosOnto
import Derived.Deep.QuietTactic
import Derived.BigQuiet
import Derived.Deep.RegionWith
import Derived.DeepKeys
import Derived.Laws.StructEq
import Derived.Laws.Rows
import Derived.Laws.Tables
import Derived.StillTailTactics
import Derived.Deep.MidRow
import Derived.Deep.WholeRow
import Derived.Deep.Quiet
import Derived.Laws.Slices
import Derived.Deep.Strs
import Derived.Deep.Slices
import Derived.Deep.AppendLies
import Derived.Deep.RegionHeld3
import Derived.StillTail
import Derived.WideShapes
import Derived.Lib.Bytes
import Derived.Lib.IndexMore
import Derived.Deep.RegionLaw
import Derived.Deep.Cut
set_option maxRecDepth 100000
set_option maxHeartbeats 4000000
namespace Go.Proofs.YtnnmpoknghbdnacGreat
open Go.RowKit
theorem sA {α : Type} (l : List α) (i : Nat) (a : α) : l.toArray.setIfInBounds i a = (l.set i a).toArray := List.setIfInBounds_toArray l i a
theorem sB {α : Type} (a : α) (l : List α) (b : α) : (a :: l).set 0 b = b :: l := rfl
theorem sC {α : Type} (a : α) (l : List α) (n : Nat) (b : α) : (a :: l).set (n + 1) b = a :: l.set n b := rfl
theorem gA {α : Type} (l : List α) (i : Nat) : l.toArray[i]? = l[i]? := List.getElem?_toArray
theorem gB {α : Type} (a : α) (l : List α) : (a :: l)[0]? = some a := rfl
theorem LH {p : Prop} (h : p) : Hid p := Lib.hid h
theorem LR {P : Program} {ops : Array Oper} {rest : List Oper} {o : Oper} {a : Act} {w : World} {Q : Exit → Act → World → Prop} (hgd : o.guard = none) {t : TypeId} {d : TypeDesc} (hu : P.underlying t = some d) (hd : (match d with | .struct _ | .array _ _ => true | _ => false) = true) (x : Operand) (ho : o.op = .load t x) (g : Nat) (hx : a.eval x = .pointer (some ⟨g, 0, none⟩)) {cs : Array Value} (hg : w.heap[g]? = some (.cells cs t (0, 0))) (hi : (P.info? t).map (·.size) = some cs.size) (h : wpList P ops Q rest (a.put o.dst (.agg cs)) w) : wpList P ops Q (o :: rest) a w := wpList_load_row hgd t x ho g hx t cs (0, 0) d hg hu hd hi h
theorem gC {α : Type} (a : α) (l : List α) (i : Nat) : (a :: l)[i + 1]? = l[i]? := rfl
theorem U3 : Tryz.prog.underlying 3 = some (.int .i64) := Tryz.underlying3
theorem U4 : Tryz.prog.underlying 4 = some TypeDesc.bool := Tryz.underlying4
theorem U5 : Tryz.prog.underlying 5 = some (.int .u8) := Tryz.underlying5
theorem U9 : Tryz.prog.underlying 9 = some TypeDesc.string := Tryz.underlying9
theorem U22 : Tryz.prog.underlying 22 = some (.slice 5) := Tryz.underlying22
theorem U23 : Tryz.prog.underlying 23 = some (.array 2 22) := Tryz.underlying23
theorem U25 : Tryz.prog.underlying 25 = some (.struct #[⟨ "Version", 3, 0, false, "", "", 0⟩, ⟨ "Size", 3, 1, false, "", "", 8⟩, ⟨ "Sum", 3, 2, false, "", "", 16⟩]) := Tryz.underlying25
theorem U26 : Tryz.prog.underlying 26 = some (.array 2 25) := Tryz.underlying26
theorem U28 : Tryz.prog.underlying 28 = some (.struct #[⟨ "Gen", 3, 0, false, "", "", 0⟩, ⟨ "Active", 3, 1, false, "", "", 8⟩, ⟨ "Trying", 4, 2, false, "", "", 16⟩, ⟨ "Tries", 3, 3, false, "", "", 24⟩, ⟨ "Floor", 3, 4, false, "", "", 32⟩, ⟨ "In", 26, 5, false, "", "", 40⟩]) := Tryz.underlying28
theorem U30 : Tryz.prog.underlying 30 = some (.struct #[⟨ "OK", 4, 0, false, "", "", 0⟩, ⟨ "R", 28, 1, false, "", "", 8⟩]) := Tryz.underlying30
theorem U31 : Tryz.prog.underlying 31 = some (.array 2 30) := Tryz.underlying31
theorem U32 : Tryz.prog.underlying 32 = some (.slice 39) := Tryz.underlying32
theorem U33 : Tryz.prog.underlying 33 = some (.slice 159) := Tryz.underlying33
theorem U35 : Tryz.prog.underlying 35 = some (.struct #[⟨ "From", 3, 0, false, "", "", 0⟩, ⟨ "To", 3, 1, false, "", "", 8⟩, ⟨ "Old", 3, 2, false, "", "", 16⟩, ⟨ "New", 3, 3, false, "", "", 24⟩, ⟨ "Size", 3, 4, false, "", "", 32⟩, ⟨ "Ops", 33, 5, false, "", "", 40⟩]) := Tryz.underlying35
theorem U37 : Tryz.prog.underlying 37 = some (.struct #[⟨ "Slots", 23, 0, false, "", "", 0⟩, ⟨ "Copies", 31, 2, false, "", "", 48⟩, ⟨ "Up", 4, 26, false, "", "", 240⟩, ⟨ "Running", 3, 27, false, "", "", 248⟩, ⟨ "Got", 32, 28, false, "", "", 256⟩, ⟨ "Busy", 4, 29, false, "", "", 280⟩, ⟨ "Job", 35, 30, false, "", "", 288⟩, ⟨ "Done", 3, 36, false, "", "", 352⟩]) := Tryz.underlying37
theorem U39 : Tryz.prog.underlying 39 = some (.struct #[⟨ "From", 3, 0, false, "", "", 0⟩, ⟨ "To", 3, 1, false, "", "", 8⟩, ⟨ "N", 3, 2, false, "", "", 16⟩, ⟨ "Of", 3, 3, false, "", "", 24⟩, ⟨ "Data", 22, 4, false, "", "", 32⟩]) := Tryz.underlying39
theorem U70 : Tryz.prog.underlying 70 = some (.slice 22) := Tryz.underlying70
theorem U159 : Tryz.prog.underlying 159 = some (.struct #[⟨ "At", 3, 0, false, "", "", 0⟩, ⟨ "Len", 3, 1, false, "", "", 8⟩, ⟨ "Data", 22, 2, false, "", "", 16⟩]) := Tryz.underlying159
def IsRow (k : IntKind) (w : World) (a : Option Addr) (len cap : Nat) (zs : List Int) : Prop :=
 (a = none ∧ len = 0 ∧ cap = 0 ∧ zs = []) ∨
 ∃ x, a = some x ∧ len ≤ cap ∧ cap ≤ maxLen ∧ zs.length = cap ∧ (∀ i, i < zs.length → w.cell? (x.add i) = some (.int k (zs.getD i 0))) ∧ ∀ n ∈ zs, (Lit.int k n).wf = true
theorem IsRow.cells {k w a len cap zs} (h : IsRow k w a len cap zs) (hp : 0 < len) : ∃ b off, a = some ⟨b, off, none⟩ ∧ ∀ i, i < zs.length → w.cell? ⟨b, off + i, none⟩ = some (.int k (zs[i]?.getD 0)) := by
 rcases h with ⟨_, rfl, rfl, rfl⟩ | ⟨x, rfl, hl, hm, hz, hc, _⟩
 · omega
 · obtain ⟨b, off, spot⟩ := x
   have h0 := hc 0 (by omega); have hspot : spot = none := by simpa [Addr.add] using World.cell?_spot h0
   subst hspot; refine ⟨b, off, rfl, fun i hi => ?_⟩; have h := hc i hi; by_cases e : i = 0
   · subst e; simpa [Addr.add] using h
   · simpa [Addr.add, e] using h
theorem hpA (w : World) (o : Obj) (k : Nat) : (w.alloc o).heap[k]? = if k = w.heap.size then some o else w.heap[k]? := by
 show (w.heap.push o)[k]? = _; rw [Array.getElem?_push]
structure BS (w : World) (a : Option Addr) (n c : Nat) (l : List Int) : Prop where
 len : l.length = n
 le : n ≤ c
 max : c ≤ 9223372036854775807
 bytes : ∀ x ∈ l, 0 ≤ x ∧ x ≤ 255
 cells : 0 < n → ∃ b off, a = some ⟨b, off, none⟩ ∧ ∀ i, i < n → w.cell? ⟨b, off + i, none⟩ = some (.int .u8 (l[i]?.getD 0))
 none_ : a = none → c = 0
section
variable {w w' : World} {a : Option Addr} {n c : Nat} {l : List Int}
theorem BS.byte (h : BS w a n c l) (i : Nat) : 0 ≤ l[i]?.getD 0 ∧ l[i]?.getD 0 ≤ 255 := by
 by_cases hi : i < l.length
 · simpa [List.getElem?_eq_getElem hi] using h.bytes _ (List.getElem_mem hi)
 · simp [List.getElem?_eq_none (Nat.le_of_not_lt hi)]
theorem BS.later (h : BS w a n c l) (hb : Below w.heap.size w w') : BS w' a n c l :=
 ⟨h.len, h.le, h.max, h.bytes, fun hp => by
  obtain ⟨b, off, e, hc⟩ := h.cells hp
  exact ⟨b, off, e, fun i hi => cell_later hb (hc i hi)⟩, h.none_⟩
theorem BS.keep (h : BS w a n c l) (hk : ∀ p v, w.cell? p = some v → w'.cell? p = some v) : BS w' a n c l :=
 ⟨h.len, h.le, h.max, h.bytes, fun hp => by
  obtain ⟨b, off, e, hc⟩ := h.cells hp
  exact ⟨b, off, e, fun i hi => hk _ _ (hc i hi)⟩, h.none_⟩
theorem BS.drewN (h : BS w a n c l) (m : Nat) : BS (w.drewN m) a n c l := h.keep (fun _ _ h => h)
theorem BS.nil_ (w : World) : BS w none 0 0 [] := ⟨rfl, by omega, by omega, by simp, fun h => absurd h (by omega), fun _ => rfl⟩
theorem BS.of_own {B e : Nat} (h : w.ownsRow B e 1 (.slice a n c) n (l.map (Value.int .u8))) (hl : ∀ x ∈ l, 0 ≤ x ∧ x ≤ 255) : BS w a n c l := by
 have h1 := h.1; simp at h1; rcases h.2 with ⟨hv, hn⟩ | ⟨g, cap, cur, hv, _, _, hnc, hcm, _, _⟩
 · simp at hv
   obtain ⟨rfl, rfl, rfl⟩ := hv; exact ⟨h1, by omega, by omega, hl, fun h => absurd h (by omega), fun _ => rfl⟩
 · simp at hv
   obtain ⟨rfl, rfl⟩ := hv; refine ⟨h1, hnc, by unfold maxLen at hcm; omega, hl, fun hp => ⟨g, 0, rfl, fun i hi => ?_⟩, fun h => by cases h⟩; have := h.cellAt i (by omega); simp [List.getElem?_eq_getElem (show i < l.length by omega)] at this
   simpa [List.getElem?_eq_getElem (show i < l.length by omega)] using this
end
theorem zba {P : Program} {f : FuncId} {args : Array Value} {w : World} {n : Nat} {v : Value} (h : Calls P f args (w.drewN n) fun e w' => e = .returned v ∧ w.drewN n = w') :
 Calls P f args (w.drewN n) fun e w'' => e = .returned v ∧ ∃ m, w'' = w.drewN m := h.mono fun _ _ ⟨he, hm⟩ => ⟨he, n, hm.symm⟩
def GivesB (w : World) (l : List Int) (e : Ending) (w' : World) : Prop :=
 ∃ a n c, e = .returned (.slice a n c) ∧ w'.ownsRow w.heap.size 5 1 (.slice a n c) n (l.map (Value.int .u8)) ∧ Below w.heap.size w w'
def GivesS (w : World) (l : List Int) (e : Ending) (w' : World) : Prop :=
 ∃ a n c, e = .returned (.slice a n c) ∧ BS w' a n c l ∧ Below w.heap.size w w'
def zbD (w w' : World) : Prop := ∃ n, w' = w.drewN n
theorem zbD.more (w : World) (a b : Nat) : zbD w ((w.drewN a).drewN b) := ⟨a + b, World.drewN_drewN _ _ _⟩
theorem zbD.below {w w' : World} (h : zbD w w') : Below w.heap.size w w' := by
 obtain ⟨n, rfl⟩ := h; exact below_drewN (Below.refl _ _) n
theorem zbz (l : List Int) : ∀ u ∈ l.map (Value.int .u8), u.oneCell' = true := by
 intro u hu; obtain ⟨x, _, rfl⟩ := List.mem_map.1 hu
 rfl
theorem ret_int {k : IntKind} {a b : Int} (h : a = b) : Ending.returned (.int k a) = .returned (.int k b) := by rw [h]
def I64 (x : Int) : Prop := -9223372036854775808 ≤ x ∧ x ≤ 9223372036854775807
theorem I64.of_wf {x : Int} (h : (Lit.int .i64 x).wf = true) : I64 x := by
 have h1 : IntKind.i64.min = -9223372036854775808 := rfl; have h2 : IntKind.i64.max = 9223372036854775807 := rfl; simp only [Lit.wf, Bool.and_eq_true, decide_eq_true_eq] at h; unfold I64; omega
end Go.Proofs.YtnnmpoknghbdnacGreat
namespace Go.Proofs.YtnnmpoknghbdnacGreat
structure InfR where
 ver : Int
 size : Int
 sum : Int
structure RecR where
 gen : Int
 act : Int
 trying : Bool
 tries : Int
 floor : Int
 i0 : InfR
 i1 : InfR
structure CopR where
 ok : Bool
 r : RecR
structure CopsR where
 c0 : CopR
 c1 : CopR
theorem InfR.eq_iff (a b : InfR) : a = b ↔ a.ver = b.ver ∧ a.size = b.size ∧ a.sum = b.sum := by
 obtain ⟨a1, a2, a3⟩ := a; obtain ⟨b1, b2, b3⟩ := b; simp
instance : DecidableEq InfR := fun a b => decidable_of_iff _ (InfR.eq_iff a b).symm
theorem RecR.eq_iff (a b : RecR) : a = b ↔ a.gen = b.gen ∧ a.act = b.act ∧ a.trying = b.trying ∧ a.tries = b.tries ∧ a.floor = b.floor ∧ a.i0 = b.i0 ∧ a.i1 = b.i1 := by
 obtain ⟨a1, a2, a3, a4, a5, a6, a7⟩ := a; obtain ⟨b1, b2, b3, b4, b5, b6, b7⟩ := b; simp
instance : DecidableEq RecR := fun a b => decidable_of_iff _ (RecR.eq_iff a b).symm
theorem CopR.eq_iff (a b : CopR) : a = b ↔ a.ok = b.ok ∧ a.r = b.r := by
 obtain ⟨a1, a2⟩ := a; obtain ⟨b1, b2⟩ := b; simp
instance : DecidableEq CopR := fun a b => decidable_of_iff _ (CopR.eq_iff a b).symm
theorem CopsR.eq_iff (a b : CopsR) : a = b ↔ a.c0 = b.c0 ∧ a.c1 = b.c1 := by
 obtain ⟨a1, a2⟩ := a; obtain ⟨b1, b2⟩ := b; simp
instance : DecidableEq CopsR := fun a b => decidable_of_iff _ (CopsR.eq_iff a b).symm
instance : Inhabited InfR := ⟨⟨0, 0, 0⟩⟩
instance : Inhabited RecR := ⟨⟨0, 0, false, 0, 0, default, default⟩⟩
instance : Inhabited CopR := ⟨⟨false, default⟩⟩
instance : Inhabited CopsR := ⟨⟨default, default⟩⟩
namespace RecM
def noInf : InfR := ⟨0, 0, 0⟩
def noRec : RecR := ⟨0, 0, false, 0, 0, noInf, noInf⟩
def noCop : CopR := ⟨false, noRec⟩
def noCops : CopsR := ⟨noCop, noCop⟩
def inf (r : RecR) (k : Int) : InfR := if k = 0 then r.i0 else r.i1
def cop (l : CopsR) (k : Int) : CopR := if k = 0 then l.c0 else l.c1
def badNums (r : RecR) : Prop := ¬ (1 ≤ r.gen ∧ r.gen ≤ 1000000) ∨ ¬ (0 ≤ r.act ∧ r.act ≤ 1) ∨ ¬ (0 ≤ r.tries ∧ r.tries ≤ 3) ∨ ¬ (1 ≤ r.floor ∧ r.floor ≤ 30)
instance (r : RecR) : Decidable (badNums r) := by unfold badNums; infer_instance
def badInf (i : InfR) : Prop := ¬ (0 ≤ i.ver ∧ i.ver ≤ 30) ∨ ¬ (0 ≤ i.size ∧ i.size ≤ 64) ∨ ¬ (0 ≤ i.sum ∧ i.sum ≤ 65535)
instance (i : InfR) : Decidable (badInf i) := by unfold badInf; infer_instance
def infErr (i : InfR) : Int := if badInf i then 2 else if i.ver = 0 ∧ (i.size ≠ 0 ∨ i.sum ≠ 0) then 3 else 0
def badRec (r : RecR) : Prop := (inf r r.act).ver < r.floor ∨ (r.trying = true ∧ (inf r (1 - r.act)).ver < r.floor) ∨ (r.trying = false ∧ r.tries ≠ 0)
instance (r : RecR) : Decidable (badRec r) := by unfold badRec; infer_instance
def check (r : RecR) : Int := if badNums r then 2 else if infErr r.i0 ≠ 0 then infErr r.i0 else if infErr r.i1 ≠ 0 then infErr r.i1 else if badRec r then 3 else 0
def copErr (c : CopR) : Int := if c.ok = true then check c.r else if c.r ≠ noRec then 3 else 0
def copies (l : CopsR) : Int := if copErr l.c0 ≠ 0 then copErr l.c0 else if copErr l.c1 ≠ 0 then copErr l.c1 else if l.c0.ok = false ∧ l.c1.ok = false then 7 else 0
def newest (l : CopsR) : Int := if l.c0.ok = true ∧ (l.c1.ok = false ∨ l.c1.r.gen ≤ l.c0.r.gen) then 0 else 1
def cur (l : CopsR) : RecR := (cop l (newest l)).r
def readOf (l : CopsR) : RecR × Int × Int := if copies l ≠ 0 then (noRec, 0, copies l) else (cur l, newest l, 0)
def put (l : CopsR) (c : CopR) : CopsR := if newest l = 0 then ⟨l.c0, c⟩ else ⟨c, l.c1⟩
def next (l : CopsR) (r : RecR) : RecR := { r with gen := (cur l).gen + 1 }
def writeOf (l : CopsR) (r : RecR) (torn : Bool) : CopsR × Int :=
 if copies l ≠ 0 then (noCops, copies l) else if check (next l r) ≠ 0 then (noCops, check (next l r)) else (put l (if torn then noCop else ⟨true, next l r⟩), 0)
def after (r : RecR) : RecR := if r.trying = true ∧ r.tries ≠ 0 then { r with tries := r.tries - 1 } else { r with trying := false }
def slot (r : RecR) : Int := if r.trying = true ∧ r.tries ≠ 0 then 1 - r.act else r.act
def startOf (r : RecR) : Int × RecR × Int := if check r ≠ 0 then (0, noRec, check r) else (slot r, after r, 0)
def conf (r : RecR) : RecR := ⟨r.gen, 1 - r.act, false, 0, max r.floor (inf r (1 - r.act)).ver, r.i0, r.i1⟩
def confOf (r : RecR) : RecR × Int := if check r ≠ 0 then (noRec, check r) else if r.trying = false then (noRec, 5) else (conf r, 0)
theorem infErr_zero {i : InfR} : infErr i = 0 ↔ ¬ badInf i ∧ ¬ (i.ver = 0 ∧ (i.size ≠ 0 ∨ i.sum ≠ 0)) := by
 unfold infErr; by_cases h : badInf i
 · simp [h]
 · by_cases h2 : i.ver = 0 ∧ (i.size ≠ 0 ∨ i.sum ≠ 0)
   · simp only [if_neg h, if_pos h2]
     exact ⟨fun h => by omega, fun h => absurd h2 h.2⟩
   · simp only [if_neg h, if_neg h2]
     exact ⟨fun _ => ⟨h, h2⟩, fun _ => trivial⟩
theorem check_zero {r : RecR} : check r = 0 ↔ ¬ badNums r ∧ infErr r.i0 = 0 ∧ infErr r.i1 = 0 ∧ ¬ badRec r := by
 unfold check; by_cases h : badNums r
 · simp [h]
 · by_cases h0 : infErr r.i0 = 0
   · by_cases h1 : infErr r.i1 = 0
     · by_cases h2 : badRec r
       · simp [h, h0, h1, h2]
       · simp [h, h0, h1, h2]
     · simp [h, h0, h1]
   · simp [h, h0]
theorem check_nums {r : RecR} (h : check r = 0) : (1 ≤ r.gen ∧ r.gen ≤ 1000000) ∧ (r.act = 0 ∨ r.act = 1) ∧ (0 ≤ r.tries ∧ r.tries ≤ 3) ∧ (1 ≤ r.floor ∧ r.floor ≤ 30) := by
 have := (check_zero.1 h).1; unfold badNums at this; omega
theorem check_inf {r : RecR} (h : check r = 0) (k : Int) : infErr (inf r k) = 0 := by
 obtain ⟨-, h0, h1, -⟩ := check_zero.1 h; unfold inf; split
 · exact h0
 · exact h1
theorem inf_nums {i : InfR} (h : infErr i = 0) : (0 ≤ i.ver ∧ i.ver ≤ 30) ∧ (0 ≤ i.size ∧ i.size ≤ 64) ∧ (0 ≤ i.sum ∧ i.sum ≤ 65535) := by
 have := (infErr_zero.1 h).1; unfold badInf at this; omega
theorem check_rec {r : RecR} (h : check r = 0) : r.floor ≤ (inf r r.act).ver ∧ (r.trying = true → r.floor ≤ (inf r (1 - r.act)).ver) ∧ (r.trying = false → r.tries = 0) := by
 have := (check_zero.1 h).2.2.2; unfold badRec at this; refine ⟨?_, fun ht => ?_, fun ht => ?_⟩
 · rcases Int.lt_or_le (inf r r.act).ver r.floor with q | q
   · exact absurd (.inl q) this
   · exact q
 · rcases Int.lt_or_le (inf r (1 - r.act)).ver r.floor with q | q
   · exact absurd (.inr (.inl ⟨ht, q⟩)) this
   · exact q
 · rcases Classical.em (r.tries = 0) with q | q
   · exact q
   · exact absurd (.inr (.inr ⟨ht, q⟩)) this
theorem startOf_ok {r : RecR} (h : check r = 0) : startOf r = (slot r, after r, 0) := by unfold startOf; rw [if_neg (fun q => q h)]
theorem confOf_ok {r : RecR} (h : check r = 0) (ht : r.trying = true) : confOf r = (conf r, 0) := by unfold confOf; rw [if_neg (fun q => q h), if_neg (by rw [ht]; simp)]
theorem newest_or (l : CopsR) : newest l = 0 ∨ newest l = 1 := by unfold newest; split <;> simp
theorem copies_zero {l : CopsR} : copies l = 0 ↔ copErr l.c0 = 0 ∧ copErr l.c1 = 0 ∧ (l.c0.ok = true ∨ l.c1.ok = true) := by
 unfold copies; by_cases h0 : copErr l.c0 = 0
 · by_cases h1 : copErr l.c1 = 0
   · by_cases h2 : l.c0.ok = false ∧ l.c1.ok = false
     · simp [h0, h1, h2]
     · simp only [h0, h1, if_neg h2, ne_eq, not_true_eq_false, if_false, true_and]
       refine ⟨fun _ => ?_, fun _ => trivial⟩; rcases Bool.eq_false_or_eq_true l.c0.ok with e | e
       · exact .inl e
       · rcases Bool.eq_false_or_eq_true l.c1.ok with e' | e'
         · exact .inr e'
         · exact absurd ⟨e, e'⟩ h2
   · simp [h0, h1]
 · simp [h0]
theorem copErr_ok {c : CopR} (h : copErr c = 0) (ho : c.ok = true) : check c.r = 0 := by unfold copErr at h; rwa [if_pos ho] at h
theorem copErr_no {c : CopR} (h : copErr c = 0) (ho : c.ok = false) : c = noCop := by
 unfold copErr at h; rw [if_neg (by simp [ho])] at h; obtain ⟨o, r⟩ := c; simp only at h ho; by_cases hr : r = noRec
 · subst hr ho; rfl
 · rw [if_pos hr] at h; omega
theorem newest_ok {l : CopsR} (h : copies l = 0) : (cop l (newest l)).ok = true := by
 obtain ⟨-, -, h3⟩ := copies_zero.1 h; unfold newest cop; by_cases h1 : l.c0.ok = true ∧ (l.c1.ok = false ∨ l.c1.r.gen ≤ l.c0.r.gen)
 · rw [if_pos h1, if_pos rfl]; exact h1.1
 · rw [if_neg h1, if_neg (by omega)]
   rcases h3 with h3 | h3
   · rcases Bool.eq_false_or_eq_true l.c1.ok with e | e
     · exact e
     · exact absurd ⟨h3, .inl e⟩ h1
   · exact h3
theorem cur_ok {l : CopsR} (h : copies l = 0) : check (cur l) = 0 := by
 obtain ⟨h1, h2, -⟩ := copies_zero.1 h; refine copErr_ok ?_ (newest_ok h); unfold cop; split
 · exact h1
 · exact h2
theorem cop_put {l : CopsR} (c : CopR) : cop (put l c) (newest l) = cop l (newest l) ∧ cop (put l c) (1 - newest l) = c := by
 rcases newest_or l with e | e
 · unfold put cop; rw [e]; exact ⟨rfl, rfl⟩
 · unfold put cop; rw [e]; exact ⟨rfl, rfl⟩
theorem put_torn {l : CopsR} (h : copies l = 0) : copies (put l noCop) = 0 ∧ newest (put l noCop) = newest l := by
 obtain ⟨h1, h2, h3⟩ := copies_zero.1 h; have hk := newest_ok h; have e0 : copErr noCop = 0 := by decide
 rcases newest_or l with e | e
 · have e1 : l.c0.ok = true := by rw [e] at hk; exact hk
   have e2 : put l noCop = ⟨l.c0, noCop⟩ := by unfold put; rw [if_pos e]
   rw [e2, e]; exact ⟨copies_zero.2 ⟨h1, e0, .inl e1⟩, by unfold newest; rw [if_pos ⟨e1, .inl rfl⟩]⟩
 · have e1 : l.c1.ok = true := by rw [e] at hk; exact hk
   have e2 : put l noCop = ⟨noCop, l.c1⟩ := by unfold put; rw [if_neg (by omega)]
   rw [e2, e]; exact ⟨copies_zero.2 ⟨e0, h2, .inr e1⟩, by unfold newest; rw [if_neg (by rintro ⟨q, _⟩; cases q)]⟩
theorem put_whole {l : CopsR} (h : copies l = 0) {r : RecR} (hr : check (next l r) = 0) : copies (put l ⟨true, next l r⟩) = 0 ∧ newest (put l ⟨true, next l r⟩) = 1 - newest l := by
 obtain ⟨h1, h2, h3⟩ := copies_zero.1 h; have hk := newest_ok h; have e0 : copErr ⟨true, next l r⟩ = 0 := by unfold copErr; rw [if_pos rfl]; exact hr
 have hg : (next l r).gen = (cop l (newest l)).r.gen + 1 := rfl; rcases newest_or l with e | e
 · have e1 : l.c0.ok = true := by rw [e] at hk; exact hk
   have e2 : put l ⟨true, next l r⟩ = ⟨l.c0, ⟨true, next l r⟩⟩ := by unfold put; rw [if_pos e]
   have e3 : (cop l (newest l)) = l.c0 := by rw [e]; rfl
   rw [e3] at hg; rw [e2, e]; refine ⟨copies_zero.2 ⟨h1, e0, .inl e1⟩, ?_⟩; unfold newest; rw [if_neg]
   · rfl
   · rintro ⟨_, q | q⟩
     · cases q
     · simp only at q; omega
 · have e1 : l.c1.ok = true := by rw [e] at hk; exact hk
   have e2 : put l ⟨true, next l r⟩ = ⟨⟨true, next l r⟩, l.c1⟩ := by unfold put; rw [if_neg (by omega)]
   have e3 : (cop l (newest l)) = l.c1 := by rw [e]; rfl
   rw [e3] at hg; rw [e2, e]; refine ⟨copies_zero.2 ⟨e0, h2, .inl rfl⟩, ?_⟩; unfold newest; rw [if_pos ⟨rfl, .inr (by simp only; omega)⟩]
   rfl
theorem cur_put {l : CopsR} {c : CopR} (h : newest (put l c) = 1 - newest l) : cur (put l c) = c.r := by unfold cur; rw [h, (cop_put c).2]
theorem cur_torn {l : CopsR} (h : copies l = 0) : cur (put l noCop) = cur l := by unfold cur; rw [(put_torn h).2, (cop_put noCop).1]
theorem writeOf_ok {l : CopsR} (h : copies l = 0) {r : RecR} (hr : check (next l r) = 0) (torn : Bool) : writeOf l r torn = (put l (if torn then noCop else ⟨true, next l r⟩), 0) := by
 unfold writeOf; rw [if_neg (fun q => q h), if_neg (fun q => q hr)]
theorem writeOf_bad {l : CopsR} (h : copies l = 0) {r : RecR} (hr : check (next l r) ≠ 0) (torn : Bool) : writeOf l r torn = (noCops, check (next l r)) := by
 unfold writeOf; rw [if_neg (fun q => q h), if_pos hr]
end RecM
open Go.RowKit
theorem bTn {w w1 w2 : World} (h : Below w.heap.size w w1) (h2 : Below w1.heap.size w1 w2) : Below w.heap.size w w2 := h.trans (h2.mono h.size)
def infV (i : InfR) : Value := .agg #[.int .i64 i.ver, .int .i64 i.size, .int .i64 i.sum]
def recV (r : RecR) : Value := .agg #[.int .i64 r.gen, .int .i64 r.act, .bool r.trying, .int .i64 r.tries, .int .i64 r.floor, .int .i64 r.i0.ver, .int .i64 r.i0.size, .int .i64 r.i0.sum, .int .i64 r.i1.ver, .int .i64 r.i1.size, .int .i64 r.i1.sum]
def copV (c : CopR) : Value := .agg #[.bool c.ok, .int .i64 c.r.gen, .int .i64 c.r.act, .bool c.r.trying, .int .i64 c.r.tries, .int .i64 c.r.floor, .int .i64 c.r.i0.ver, .int .i64 c.r.i0.size, .int .i64 c.r.i0.sum, .int .i64 c.r.i1.ver, .int .i64 c.r.i1.size, .int .i64 c.r.i1.sum]
def cpC (l : CopsR) : Array Value := #[.bool l.c0.ok, .int .i64 l.c0.r.gen, .int .i64 l.c0.r.act, .bool l.c0.r.trying, .int .i64 l.c0.r.tries, .int .i64 l.c0.r.floor, .int .i64 l.c0.r.i0.ver, .int .i64 l.c0.r.i0.size, .int .i64 l.c0.r.i0.sum, .int .i64 l.c0.r.i1.ver, .int .i64 l.c0.r.i1.size, .int .i64 l.c0.r.i1.sum,
 .bool l.c1.ok, .int .i64 l.c1.r.gen, .int .i64 l.c1.r.act, .bool l.c1.r.trying, .int .i64 l.c1.r.tries, .int .i64 l.c1.r.floor, .int .i64 l.c1.r.i0.ver, .int .i64 l.c1.r.i0.size, .int .i64 l.c1.r.i0.sum, .int .i64 l.c1.r.i1.ver, .int .i64 l.c1.r.i1.size, .int .i64 l.c1.r.i1.sum]
def copsV (l : CopsR) : Value := .agg (cpC l)
def InfW (i : InfR) : Prop := I64 i.ver ∧ I64 i.size ∧ I64 i.sum
def RecW (r : RecR) : Prop := I64 r.gen ∧ I64 r.act ∧ I64 r.tries ∧ I64 r.floor ∧ InfW r.i0 ∧ InfW r.i1
def CopsW (l : CopsR) : Prop := RecW l.c0.r ∧ RecW l.c1.r
theorem noRec_w : RecW RecM.noRec := by unfold RecW InfW I64 RecM.noRec RecM.noInf; simp
theorem RecW.of_ok {r : RecR} (h : RecM.check r = 0) : RecW r := by
 have h1 := RecM.check_nums h; obtain ⟨-, h2, h3, -⟩ := RecM.check_zero.1 h; have h4 := RecM.inf_nums h2; have h5 := RecM.inf_nums h3; unfold RecW InfW I64; omega
section
variable {P : Program} {w : World} {d : Nat} {xs ys : Array Value}
theorem fields_nil : (Op.eqFields d xs ys []).run P w = .ok (decide True) w := by simp [Op.eqFields]
theorem zaR {f : Field} {fs : List Field} {a b : Value} {p q : Prop} [Decidable p] [Decidable q] (hn : f.name ≠ "_") (ha : (part f.type xs f.offset).run P w = .ok a w) (hb : (part f.type ys f.offset).run P w = .ok b w)
 (he : (Op.equalIn d f.type a b).run P w = .ok (decide p) w) (hr : (Op.eqFields d xs ys fs).run P w = .ok (decide q) w) : (Op.eqFields d xs ys (f :: fs)).run P w = .ok (decide (p ∧ q)) w := by
 simp only [Op.eqFields, if_pos hn, Sem.run_bind, ha, hb, he, Result.andThen_ok]; by_cases hp : p
 · simp only [hp, decide_true, Bool.not_true, Bool.false_eq_true, if_false, hr, true_and]
 · simp [hp]
theorem items_nil {e : TypeId} {c : Nat} : (Op.eqItems d e c xs ys []).run P w = .ok (decide True) w := by simp [Op.eqItems]
theorem items_cons {e : TypeId} {c i : Nat} {is : List Nat} {a b : Value} {p q : Prop} [Decidable p] [Decidable q] (ha : (part e xs (i * c)).run P w = .ok a w) (hb : (part e ys (i * c)).run P w = .ok b w)
 (he : (Op.equalIn d e a b).run P w = .ok (decide p) w) (hr : (Op.eqItems d e c xs ys is).run P w = .ok (decide q) w) : (Op.eqItems d e c xs ys (i :: is)).run P w = .ok (decide (p ∧ q)) w := by
 simp only [Op.eqItems, Sem.run_bind, ha, hb, he, Result.andThen_ok]; by_cases hp : p
 · simp only [hp, decide_true, Bool.not_true, Bool.false_eq_true, if_false, hr, true_and]
 · simp [hp]
theorem zbC {t : TypeId} (ht : P.underlying t = some (.int .i64)) (a b : Int) : (Op.equalIn (d + 1) t (.int .i64 a) (.int .i64 b)).run P w = .ok (decide (a = b)) w := by
 rw [run_equalIn_int w d t .i64 .i64 a b ht]; by_cases h : a = b <;> simp [h]
theorem bool_equal {t : TypeId} (ht : P.underlying t = some .bool) (a b : Bool) : (Op.equalIn (d + 1) t (.bool a) (.bool b)).run P w = .ok (decide (a = b)) w := by
 rw [run_equalIn_bool' w d t a b ht]
 cases a <;> cases b <;> rfl
theorem ok_iff {p q : Prop} [Decidable p] [Decidable q] {x : Result Bool} (h : p ↔ q) (hx : x = .ok (decide p) w) : x = .ok (decide q) w := by
 rw [hx]; by_cases hp : p
 · simp [hp, h.1 hp]
 · have : ¬ q := fun k => hp (h.2 k)
   simp [hp, this]
end
theorem inf_equal (d : Nat) (a b : InfR) (w : World) : (Op.equalIn (d + 2) 25 (infV a) (infV b)).run Tryz.prog w = .ok (decide (a = b)) w := by
 unfold infV; rw [run_equalIn_struct w (d + 1) 25 _ _ (by kernel_rfl) (by kernel_rfl)]; simp only [Program.fieldsOf, U25]; have hi := U3; refine ok_iff (p := a.ver = b.ver ∧ a.size = b.size ∧ a.sum = b.sum ∧ True) (by rw [InfR.eq_iff, and_true]) ?_; exact zaR (by decide) (by kernel_rfl) (by kernel_rfl) (zbC hi _ _) (zaR (by decide) (by kernel_rfl) (by kernel_rfl) (zbC hi _ _) (zaR (by decide) (by kernel_rfl) (by kernel_rfl) (zbC hi _ _) fields_nil))
theorem infs_equal (d : Nat) (a0 a1 b0 b1 : InfR) (w : World) : (Op.equalIn (d + 3) 26 (.agg #[.int .i64 a0.ver, .int .i64 a0.size, .int .i64 a0.sum, .int .i64 a1.ver, .int .i64 a1.size, .int .i64 a1.sum]) (.agg #[.int .i64 b0.ver, .int .i64 b0.size, .int .i64 b0.sum, .int .i64 b1.ver, .int .i64 b1.size, .int .i64 b1.sum])).run Tryz.prog w = .ok (decide (a0 = b0 ∧ a1 = b1)) w := by
 obtain ⟨i, hi⟩ : ∃ i, Tryz.prog.info? 25 = some i := info_of_underlying U25; rw [run_equalIn_array w (d + 2) _ _ U26 hi]; have hc : Tryz.prog.cellsOf 25 = 3 := by kernel_rfl
 rw [hc]; refine ok_iff (p := a0 = b0 ∧ a1 = b1 ∧ True) (by rw [and_true]) ?_; exact items_cons (by kernel_rfl) (by kernel_rfl) (inf_equal d a0 b0 w) (items_cons (by kernel_rfl) (by kernel_rfl) (inf_equal d a1 b1 w) items_nil)
theorem rec_equal (d : Nat) (a b : RecR) (w : World) : (Op.equalIn (d + 4) 28 (recV a) (recV b)).run Tryz.prog w = .ok (decide (a = b)) w := by
 unfold recV; rw [run_equalIn_struct w (d + 3) 28 _ _ (by kernel_rfl) (by kernel_rfl)]; simp only [Program.fieldsOf, U28]; have hi := U3; have hb := U4; refine ok_iff (p := a.gen = b.gen ∧ a.act = b.act ∧ a.trying = b.trying ∧ a.tries = b.tries ∧ a.floor = b.floor ∧ (a.i0 = b.i0 ∧ a.i1 = b.i1) ∧ True) (by rw [RecR.eq_iff, and_true]) ?_
 exact zaR (by decide) (by kernel_rfl) (by kernel_rfl) (zbC hi _ _) (zaR (by decide) (by kernel_rfl) (by kernel_rfl) (zbC hi _ _) (zaR (by decide) (by kernel_rfl) (by kernel_rfl) (bool_equal hb _ _)
  (zaR (by decide) (by kernel_rfl) (by kernel_rfl) (zbC hi _ _) (zaR (by decide) (by kernel_rfl) (by kernel_rfl) (zbC hi _ _) (zaR (by decide) (by kernel_rfl) (by kernel_rfl) (infs_equal d _ _ _ _ w) fields_nil)))))
theorem cop_equal (d : Nat) (a b : CopR) (w : World) : (Op.equalIn (d + 5) 30 (copV a) (copV b)).run Tryz.prog w = .ok (decide (a = b)) w := by
 unfold copV; rw [run_equalIn_struct w (d + 4) 30 _ _ (by kernel_rfl) (by kernel_rfl)]; simp only [Program.fieldsOf, U30]; have hb := U4; refine ok_iff (p := a.ok = b.ok ∧ a.r = b.r ∧ True) (by rw [CopR.eq_iff, and_true]) ?_; exact zaR (by decide) (by kernel_rfl) (by kernel_rfl) (bool_equal hb _ _) (zaR (by decide) (by kernel_rfl) (by kernel_rfl) (rec_equal d a.r b.r w) fields_nil)
theorem cops_equal (d : Nat) (a b : CopsR) (w : World) : (Op.equalIn (d + 6) 31 (copsV a) (copsV b)).run Tryz.prog w = .ok (decide (a = b)) w := by
 unfold copsV cpC; obtain ⟨i, hi⟩ : ∃ i, Tryz.prog.info? 30 = some i := info_of_underlying U30; rw [run_equalIn_array w (d + 5) _ _ U31 hi]; have hc : Tryz.prog.cellsOf 30 = 12 := by kernel_rfl
 rw [hc]; refine ok_iff (p := a.c0 = b.c0 ∧ a.c1 = b.c1 ∧ True) (by rw [CopsR.eq_iff, and_true]) ?_; exact items_cons (by kernel_rfl) (by kernel_rfl) (cop_equal d a.c0 b.c0 w) (items_cons (by kernel_rfl) (by kernel_rfl) (cop_equal d a.c1 b.c1 w) items_nil)
theorem inf_neq (a b : InfR) (w : World) : (binOp .neq 25 (infV a) (infV b)).run Tryz.prog w = .ok (.bool (!decide (a = b))) w := by
 have h := inf_equal 9998 a b w; unfold infV at h ⊢; rw [run_neq_struct, h]
 rfl
theorem rec_neq (a b : RecR) (w : World) : (binOp .neq 28 (recV a) (recV b)).run Tryz.prog w = .ok (.bool (!decide (a = b))) w := by
 have h := rec_equal 9996 a b w; unfold recV at h ⊢; rw [run_neq_struct, h]
 rfl
theorem zbp (lo hi x : Int) (w : World) :
 Calls Tryz.prog 186 #[.int .i64 lo, .int .i64 hi, .int .i64 x] w fun e w' => e = .returned (.bool (decide (lo ≤ x ∧ x ≤ hi))) ∧ w = w' := by
 by_cases h : lo ≤ x
 · go_enter Tryz.func186, Tryz.ntmps186
   go_wp2; go_ret; exact ⟨by simp [h], rfl⟩
 · go_enter Tryz.func186, Tryz.ntmps186
   go_wp2; go_ret; exact ⟨by simp; omega, rfl⟩
theorem zbf (x : Int) (w : World) (h : x = 0 ∨ x = 1) :
 Calls Tryz.prog 144 #[.int .i64 x] w fun e w' => e = .returned (.int .i64 (1 - x)) ∧ w = w' := by
 rcases h with rfl | rfl
 · go_enter Tryz.func144, Tryz.ntmps144
   go_wp2; go_ret; exact ⟨rfl, rfl⟩
 · go_enter Tryz.func144, Tryz.ntmps144
   go_wp2; go_ret; exact ⟨rfl, rfl⟩
theorem zaG {a b : Int} (h : a = b) : Ending.returned (.int .i64 a) = .returned (.int .i64 b) := by rw [h]
theorem checkInfo_any (i : InfR) (w : World) :
 Calls Tryz.prog 187 #[infV i] w fun e w' => e = .returned (.int .i64 (RecM.infErr i)) ∧ Below w.heap.size w w' := by
 obtain ⟨v, s, u⟩ := i; unfold infV; simp only; have HB := LH ((Below.refl w.heap.size w).alloc (Nat.le_refl _) (.cells #[.int .i64 v, .int .i64 s, .int .i64 u] 25))
 have HBad : Hid (RecM.badInf ⟨v, s, u⟩ → RecM.infErr ⟨v, s, u⟩ = 2) := by
  show _ → _; intro h; unfold RecM.infErr; rw [if_pos h]
 go_enter Tryz.func187, Tryz.ntmps187; go_wp2_with fail; refine (zbp 0 30 v _).mono ?_; rintro e w' ⟨rfl, rfl⟩; by_cases c1 : 0 ≤ v ∧ v ≤ 30
 · rw [decide_eq_true c1]
   go_wp2_with fail; refine (zbp 0 64 s _).mono ?_; rintro e w' ⟨rfl, rfl⟩; by_cases c2 : 0 ≤ s ∧ s ≤ 64
   · rw [decide_eq_true c2]
     go_wp2_with fail; refine (zbp 0 65535 u _).mono ?_; rintro e w' ⟨rfl, rfl⟩; by_cases c3 : 0 ≤ u ∧ u ≤ 65535
     · rw [decide_eq_true c3]
       have HG : Hid (RecM.infErr ⟨v, s, u⟩ = if v = 0 ∧ (s ≠ 0 ∨ u ≠ 0) then 3 else 0) := by
        show _ = _; unfold RecM.infErr; rw [if_neg]; unfold RecM.badInf; simp only; omega
       by_cases c4 : v = 0
       · subst c4
         by_cases c5 : s = 0
         · subst c5
           by_cases c6 : u = 0
           · subst c6
             go_wp2_with fail; go_ret; exact ⟨zaG (by rw [HG.out]; simp), HB.out⟩
           · go_wp2_with fail
             go_ret; exact ⟨zaG (by rw [HG.out]; simp [c6]), HB.out⟩
         · go_wp2_with fail
           go_ret; exact ⟨zaG (by rw [HG.out]; simp [c5]), HB.out⟩
       · have t4 : (v == 0) = false := by simp [c4]
         go_wp2_with fail; go_ret; exact ⟨zaG (by rw [HG.out]; simp [c4]), HB.out⟩
     · rw [decide_eq_false c3]
       have HE := LH (HBad.out (.inr (.inr c3))); go_wp2_with fail; go_ret; exact ⟨zaG HE.out.symm, HB.out⟩
   · rw [decide_eq_false c2]
     have HE := LH (HBad.out (.inr (.inl c2))); go_wp2_with fail; go_ret; exact ⟨zaG HE.out.symm, HB.out⟩
 · rw [decide_eq_false c1]
   have HE := LH (HBad.out (.inl c1)); go_wp2_with fail; go_ret; exact ⟨zaG HE.out.symm, HB.out⟩
theorem quiet_eqq {P : Program} {f : FuncId} {args : Array Value} {w : World} {q n : Nat} {v : Value} (h : Calls P f args (w.drewN (q + n)) fun e w' => e = .returned v ∧ w.drewN (q + n) = w') :
 Calls P f args (w.drewN (q + n)) fun e w'' => e = .returned v ∧ ∃ m, w'' = w.drewN (q + m) := h.mono fun _ _ ⟨he, hm⟩ => ⟨he, n, hm.symm⟩
theorem ret_b {a b : Bool} (h : a = b) : Ending.returned (.bool a) = .returned (.bool b) := by rw [h]
theorem agrees_0 (g : Int) (tr : Bool) (n f v0 s0 u0 v1 s1 u1 : Int) (w : World) :
 Calls Tryz.prog 188 #[.agg #[.int .i64 g, .int .i64 0, .bool tr, .int .i64 n, .int .i64 f, .int .i64 v0, .int .i64 s0, .int .i64 u0, .int .i64 v1, .int .i64 s1, .int .i64 u1]] w
  fun e w' => e = .returned (.bool (!decide (v0 < f ∨ (tr = true ∧ v1 < f) ∨ (tr = false ∧ n ≠ 0)))) ∧ Below w.heap.size w w' := by
 have HB := LH ((Below.refl w.heap.size w).alloc (Nat.le_refl _) (.cells #[.int .i64 g, .int .i64 0, .bool tr, .int .i64 n, .int .i64 f, .int .i64 v0, .int .i64 s0, .int .i64 u0, .int .i64 v1, .int .i64 s1, .int .i64 u1] 28)); have HQ := LH (fun W => zbf 0 W (by decide)); by_cases c1 : v0 < f
 · go_enter Tryz.func188, Tryz.ntmps188
   go_wp2_with fail; go_quiet (fail); have HB1 := LH (below_drewN HB.out nq); go_wp2_with fail; go_ret; exact ⟨ret_b (by simp [c1]), HB1.out⟩
 · have t1 : decide (v0 < f) = false := by simp; omega
   cases tr
   · by_cases c2 : n = 0
     · subst c2
       go_enter Tryz.func188, Tryz.ntmps188; go_wp2_with fail; go_quiet (fail); have HB1 := LH (below_drewN HB.out nq); go_wp2_with fail; go_ret; exact ⟨ret_b (by simp; omega), HB1.out⟩
     · go_enter Tryz.func188, Tryz.ntmps188
       go_wp2_with fail; go_quiet (fail); have HB1 := LH (below_drewN HB.out nq); go_wp2_with fail; go_ret; exact ⟨ret_b (by simp [c2]), HB1.out⟩
   · go_enter Tryz.func188, Tryz.ntmps188
     go_wp2_with fail; go_quiet (fail); have HB1 := LH (below_drewN HB.out nq); go_wp2_with fail; go_quiet (exact quiet_eqq (HQ.out _)); have HB2 := LH (below_drewN HB1.out nq); go_wp2_with fail; go_ret; exact ⟨ret_b (by rw [Bool.eq_iff_iff]; simp; omega), HB2.out⟩
theorem agrees_1 (g : Int) (tr : Bool) (n f v0 s0 u0 v1 s1 u1 : Int) (w : World) :
 Calls Tryz.prog 188 #[.agg #[.int .i64 g, .int .i64 1, .bool tr, .int .i64 n, .int .i64 f, .int .i64 v0, .int .i64 s0, .int .i64 u0, .int .i64 v1, .int .i64 s1, .int .i64 u1]] w
  fun e w' => e = .returned (.bool (!decide (v1 < f ∨ (tr = true ∧ v0 < f) ∨ (tr = false ∧ n ≠ 0)))) ∧ Below w.heap.size w w' := by
 have HB := LH ((Below.refl w.heap.size w).alloc (Nat.le_refl _) (.cells #[.int .i64 g, .int .i64 1, .bool tr, .int .i64 n, .int .i64 f, .int .i64 v0, .int .i64 s0, .int .i64 u0, .int .i64 v1, .int .i64 s1, .int .i64 u1] 28)); have HQ := LH (fun W => zbf 1 W (by decide)); by_cases c1 : v1 < f
 · go_enter Tryz.func188, Tryz.ntmps188
   go_wp2_with fail; go_quiet (fail); have HB1 := LH (below_drewN HB.out nq); go_wp2_with fail; go_ret; exact ⟨ret_b (by simp [c1]), HB1.out⟩
 · have t1 : decide (v1 < f) = false := by simp; omega
   cases tr
   · by_cases c2 : n = 0
     · subst c2
       go_enter Tryz.func188, Tryz.ntmps188; go_wp2_with fail; go_quiet (fail); have HB1 := LH (below_drewN HB.out nq); go_wp2_with fail; go_ret; exact ⟨ret_b (by simp; omega), HB1.out⟩
     · go_enter Tryz.func188, Tryz.ntmps188
       go_wp2_with fail; go_quiet (fail); have HB1 := LH (below_drewN HB.out nq); go_wp2_with fail; go_ret; exact ⟨ret_b (by simp [c2]), HB1.out⟩
   · go_enter Tryz.func188, Tryz.ntmps188
     go_wp2_with fail; go_quiet (fail); have HB1 := LH (below_drewN HB.out nq); go_wp2_with fail; go_quiet (exact quiet_eqq (HQ.out _)); have HB2 := LH (below_drewN HB1.out nq); go_wp2_with fail; go_ret; exact ⟨ret_b (by rw [Bool.eq_iff_iff]; simp; omega), HB2.out⟩
theorem agrees_any (r : RecR) (h : r.act = 0 ∨ r.act = 1) (w : World) :
 Calls Tryz.prog 188 #[recV r] w fun e w' => e = .returned (.bool (!decide (RecM.badRec r))) ∧ Below w.heap.size w w' := by
 obtain ⟨g, a, tr, n, f, ⟨v0, s0, u0⟩, ⟨v1, s1, u1⟩⟩ := r; simp only at h; rcases h with rfl | rfl
 · exact agrees_0 g tr n f v0 s0 u0 v1 s1 u1 w
 · exact agrees_1 g tr n f v0 s0 u0 v1 s1 u1 w
def rcC (r : RecR) : Array Value := #[.int .i64 r.gen, .int .i64 r.act, .bool r.trying, .int .i64 r.tries, .int .i64 r.floor, .int .i64 r.i0.ver, .int .i64 r.i0.size, .int .i64 r.i0.sum, .int .i64 r.i1.ver, .int .i64 r.i1.size, .int .i64 r.i1.sum]
theorem zbu {W : World} {B : Nat} {v0 v1 v2 v3 v4 v5 v6 v7 v8 v9 v10 : Value} (h : W.heap[B]? = some (.cells #[v0, v1, v2, v3, v4, v5, v6, v7, v8, v9, v10] 28 (0, 0))) :
 W.cell? ⟨B, 0, none⟩ = some v0 ∧ W.cell? ⟨B, 1, none⟩ = some v1 ∧ W.cell? ⟨B, 2, none⟩ = some v2 ∧ W.cell? ⟨B, 3, none⟩ = some v3 ∧ W.cell? ⟨B, 4, none⟩ = some v4 ∧ W.cell? ⟨B, 5, none⟩ = some v5 ∧ W.cell? ⟨B, 6, none⟩ = some v6 ∧ W.cell? ⟨B, 7, none⟩ = some v7 ∧ W.cell? ⟨B, 8, none⟩ = some v8 ∧ W.cell? ⟨B, 9, none⟩ = some v9 ∧ W.cell? ⟨B, 10, none⟩ = some v10 := by
 simp [World.cell?, h]
theorem bLQ {W : World} {B : Nat} {o : Obj} (h : W.heap[B]? = some o) : B < W.heap.size := by
 rcases Nat.lt_or_ge B W.heap.size with hlt | hge
 · exact hlt
 · rw [Array.getElem?_eq_none hge] at h
   cases h
def RchkRel (w : World) (r : RecR) (i : Value) (wr : World) : Prop :=
 ∃ k : Nat, i = .int .i64 k ∧ k ≤ 2 ∧ (0 < k → RecM.infErr r.i0 = 0) ∧ (1 < k → RecM.infErr r.i1 = 0) ∧ wr.heap[w.heap.size]? = some (.cells (rcC r) 28 (0, 0)) ∧ Below w.heap.size w wr
theorem checkR_any (r : RecR) (w : World) :
 Calls Tryz.prog 143 #[recV r] w fun e w' => e = .returned (.int .i64 (RecM.check r)) ∧ Below w.heap.size w w' := by
 have HI0 := LH (fun W => checkInfo_any r.i0 W); have HI1 := LH (fun W => checkInfo_any r.i1 W); have HA := LH (fun h W => agrees_any r h W)
 have HBad : Hid (RecM.badNums r → RecM.check r = 2) := by
  show _ → _; intro h; unfold RecM.check; rw [if_pos h]
 have HOn : Hid (¬ RecM.badNums r → RecM.check r = if RecM.infErr r.i0 ≠ 0 then RecM.infErr r.i0 else if RecM.infErr r.i1 ≠ 0 then RecM.infErr r.i1 else if RecM.badRec r then 3 else 0) := by
  show _ → _; intro h; unfold RecM.check; rw [if_neg h]
 obtain ⟨g, a, tr, n, f, ⟨v0, s0, u0⟩, ⟨v1, s1, u1⟩⟩ := r; simp only [recV, infV] at HI0 HI1 HA ⊢; simp only at HOn; have HB := LH ((Below.refl w.heap.size w).alloc (Nat.le_refl _) (.cells #[.int .i64 g, .int .i64 a, .bool tr, .int .i64 n, .int .i64 f, .int .i64 v0, .int .i64 s0, .int .i64 u0, .int .i64 v1, .int .i64 s1, .int .i64 u1] 28)); have i0 : ∀ w : World, (Instr.index 26 (.agg #[.int .i64 v0, .int .i64 s0, .int .i64 u0, .int .i64 v1, .int .i64 s1, .int .i64 u1]) (.int .i64 0)).run Tryz.prog w = .ok (.agg #[.int .i64 v0, .int .i64 s0, .int .i64 u0]) w := fun _ => by kernel_rfl
 have i1 : ∀ w : World, (Instr.index 26 (.agg #[.int .i64 v0, .int .i64 s0, .int .i64 u0, .int .i64 v1, .int .i64 s1, .int .i64 u1]) (.int .i64 1)).run Tryz.prog w = .ok (.agg #[.int .i64 v1, .int .i64 s1, .int .i64 u1]) w := fun _ => by kernel_rfl
 go_enter Tryz.func143, Tryz.ntmps143; go_wp2_with fail; refine (zbp 1 1000000 g _).mono ?_; rintro e w' ⟨rfl, rfl⟩; by_cases c1 : 1 ≤ g ∧ g ≤ 1000000
 · rw [decide_eq_true c1]
   go_wp2_with fail; refine (zbp 0 1 a _).mono ?_; rintro e w' ⟨rfl, rfl⟩; by_cases c2 : 0 ≤ a ∧ a ≤ 1
   · rw [decide_eq_true c2]
     go_wp2_with fail; refine (zbp 0 3 n _).mono ?_; rintro e w' ⟨rfl, rfl⟩; by_cases c3 : 0 ≤ n ∧ n ≤ 3
     · rw [decide_eq_true c3]
       go_wp2_with fail; refine (zbp 1 30 f _).mono ?_; rintro e w' ⟨rfl, rfl⟩; by_cases c4 : 1 ≤ f ∧ f ≤ 30
       · rw [decide_eq_true c4]
         replace HOn := LH (HOn.out (by unfold RecM.badNums; simp only; omega)); have ha : a = 0 ∨ a = 1 := by omega
         replace HA := LH (HA.out ha); go_wp2_with fail; go_loopw [30] (fun i wr => RchkRel w ⟨g, a, tr, n, f, ⟨v0, s0, u0⟩, ⟨v1, s1, u1⟩⟩ i wr) (fun i _ => 2 - (intOf i).toNat)
         case atStart => exact ⟨0, rfl, by omega, by omega, by omega, by rw [hpA, if_pos rfl]; rfl, HB.out⟩
         case round =>
          obtain ⟨k, rfl, hk, h0, h1, hblk, hbel⟩ := hrel; have HBk := LH hblk; have HBl := LH hbel; have H0 := LH h0; have H1 := LH h1; clear hblk hbel h0 h1; rcases (by omega : k = 0 ∨ k = 1 ∨ k = 2) with rfl | rfl | rfl
          · have hbl : Below wr.heap.size wr (wr.alloc (.cells #[.int .i64 v0, .int .i64 s0, .int .i64 u0] 25)) := (Below.refl _ _).alloc (Nat.le_refl _) _
            have HBL := LH hbl; clear hbl; go_wp2_with fail; refine (HI0.out _).mono ?_; rintro e W2 ⟨rfl, hb2⟩; have hb3 := bTn HBL.out hb2; have HB3 := LH (bTn HBl.out hb3); have HBk3 := LH ((hb3.block _ (bLQ HBk.out)).trans HBk.out); clear hb2 hb3; by_cases e0 : RecM.infErr ⟨v0, s0, u0⟩ = 0
            · have HE0 := LH e0
              rw [e0]; clear e0; go_wp2_with fail; go_roundw
              case rel => exact ⟨1, by go_num, by omega, fun _ => HE0.out, fun q => absurd q (by omega), HBk3.out, HB3.out⟩
              case measure => simp [intOf]
            · obtain ⟨E, hE⟩ : ∃ E, RecM.infErr ⟨v0, s0, u0⟩ = E := ⟨_, rfl⟩
              have HE : Hid (RecM.check ⟨g, a, tr, n, f, ⟨v0, s0, u0⟩, ⟨v1, s1, u1⟩⟩ = E) := by
               show _ = _; rw [HOn.out, if_pos e0, hE]
              rw [hE] at e0 ⊢; have t0 : (E != 0) = true := by simp [e0]
              clear hE; go_wp2_with fail; go_ret; exact ⟨zaG HE.out.symm, HB3.out⟩
          · have hbl : Below wr.heap.size wr (wr.alloc (.cells #[.int .i64 v1, .int .i64 s1, .int .i64 u1] 25)) := (Below.refl _ _).alloc (Nat.le_refl _) _
            have HBL := LH hbl; clear hbl; go_wp2_with fail; refine (HI1.out _).mono ?_; rintro e W2 ⟨rfl, hb2⟩; have hb3 := bTn HBL.out hb2; have HB3 := LH (bTn HBl.out hb3); have HBk3 := LH ((hb3.block _ (bLQ HBk.out)).trans HBk.out); clear hb2 hb3; by_cases e0 : RecM.infErr ⟨v1, s1, u1⟩ = 0
            · have HE0 := LH e0
              rw [e0]; clear e0; go_wp2_with fail; go_roundw
              case rel => exact ⟨2, by go_num, by omega, fun _ => H0.out (by omega), fun _ => HE0.out, HBk3.out, HB3.out⟩
              case measure => simp [intOf]
            · obtain ⟨E, hE⟩ : ∃ E, RecM.infErr ⟨v1, s1, u1⟩ = E := ⟨_, rfl⟩
              have HE : Hid (RecM.check ⟨g, a, tr, n, f, ⟨v0, s0, u0⟩, ⟨v1, s1, u1⟩⟩ = E) := by
               show _ = _; rw [HOn.out, if_neg (fun q => q (H0.out (by omega))), if_pos e0, hE]
              rw [hE] at e0 ⊢; have t0 : (E != 0) = true := by simp [e0]
              clear hE; go_wp2_with fail; go_ret; exact ⟨zaG HE.out.symm, HB3.out⟩
          · have hblk := HBk.out
            unfold rcC at hblk; obtain ⟨q0, q1, q2, q3, q4, q5, q6, q7, q8, q9, q10⟩ := zbu hblk; clear hblk; go_wp2_with fail; refine (HA.out _).mono ?_; rintro e W2 ⟨rfl, hb2⟩; have HB3 := LH (bTn HBl.out hb2); replace HOn := LH ((HOn.out.trans (if_neg (fun q => q (H0.out (by omega))))).trans (if_neg (fun q => q (H1.out (by omega))))); clear hb2; by_cases e0 : RecM.badRec ⟨g, a, tr, n, f, ⟨v0, s0, u0⟩, ⟨v1, s1, u1⟩⟩
            · have HE := LH (HOn.out.trans (if_pos e0))
              rw [decide_eq_true e0]; go_wp2_with fail; go_ret; exact ⟨zaG HE.out.symm, HB3.out⟩
            · have HE := LH (HOn.out.trans (if_neg e0))
              rw [decide_eq_false e0]; go_wp2_with fail; go_ret; exact ⟨zaG HE.out.symm, HB3.out⟩
       · rw [decide_eq_false c4]
         have HE := LH (HBad.out (.inr (.inr (.inr c4)))); go_wp2_with fail; go_ret; exact ⟨zaG HE.out.symm, HB.out⟩
     · rw [decide_eq_false c3]
       have HE := LH (HBad.out (.inr (.inr (.inl c3)))); go_wp2_with fail; go_ret; exact ⟨zaG HE.out.symm, HB.out⟩
   · rw [decide_eq_false c2]
     have HE := LH (HBad.out (.inr (.inl c2))); go_wp2_with fail; go_ret; exact ⟨zaG HE.out.symm, HB.out⟩
 · rw [decide_eq_false c1]
   have HE := LH (HBad.out (.inl c1)); go_wp2_with fail; go_ret; exact ⟨zaG HE.out.symm, HB.out⟩
section
variable {P : Program} {fn : Func} {p a b : Tmp} {va vb : Value} {ty : TypeId} {tmps : Array Value} {w : World} {g : Nat} {t : TypeId} {cs : Array Value} {fr : Nat × Nat} {d : TypeDesc}
theorem res_ctt (h : fn.results = #[.cell p ty, .tmp a, .tmp b]) (hp : tmps.getD p undef = .pointer (some ⟨g, 0, none⟩)) (ha : tmps.getD a undef = va) (hb : tmps.getD b undef = vb) (hg : w.heap[g]? = some (.cells cs t fr))
 (hu : P.underlying ty = some d) (hd : (match d with | .struct _ | .array _ _ => true | _ => false) = true) (hi : (P.info? ty).map (·.size) = some cs.size) :
 (results fn tmps).run P w = .ok (.tuple #[.agg cs, va, vb]) w := by
 have ha' : tmps[a]?.getD undef = va := by simpa using ha
 have hb' : tmps[b]?.getD undef = vb := by simpa using hb
 have hp' : tmps[p]?.getD undef = .pointer (some ⟨g, 0, none⟩) := by simpa using hp
 simp [results, h, hp', ha', hb', asAddr, run_loadVar_row w g t ty cs fr d hg hu hd hi]
theorem zam (h : fn.results = #[.cell p ty, .tmp a]) (hp : tmps.getD p undef = .pointer (some ⟨g, 0, none⟩)) (ha : tmps.getD a undef = va) (hg : w.heap[g]? = some (.cells cs t fr))
 (hu : P.underlying ty = some d) (hd : (match d with | .struct _ | .array _ _ => true | _ => false) = true) (hi : (P.info? ty).map (·.size) = some cs.size) :
 (results fn tmps).run P w = .ok (.tuple #[.agg cs, va]) w := by
 have ha' : tmps[a]?.getD undef = va := by simpa using ha
 have hp' : tmps[p]?.getD undef = .pointer (some ⟨g, 0, none⟩) := by simpa using hp
 simp [results, h, hp', ha', asAddr, run_loadVar_row w g t ty cs fr d hg hu hd hi]
theorem res_tct (h : fn.results = #[.tmp a, .cell p ty, .tmp b]) (hp : tmps.getD p undef = .pointer (some ⟨g, 0, none⟩)) (ha : tmps.getD a undef = va) (hb : tmps.getD b undef = vb) (hg : w.heap[g]? = some (.cells cs t fr))
 (hu : P.underlying ty = some d) (hd : (match d with | .struct _ | .array _ _ => true | _ => false) = true) (hi : (P.info? ty).map (·.size) = some cs.size) :
 (results fn tmps).run P w = .ok (.tuple #[va, .agg cs, vb]) w := by
 have ha' : tmps[a]?.getD undef = va := by simpa using ha
 have hb' : tmps[b]?.getD undef = vb := by simpa using hb
 have hp' : tmps[p]?.getD undef = .pointer (some ⟨g, 0, none⟩) := by simpa using hp
 simp [results, h, hp', ha', hb', asAddr, run_loadVar_row w g t ty cs fr d hg hu hd hi]
theorem res_tc (h : fn.results = #[.tmp a, .cell p ty]) (hp : tmps.getD p undef = .pointer (some ⟨g, 0, none⟩)) (ha : tmps.getD a undef = va) (hg : w.heap[g]? = some (.cells cs t fr))
 (hu : P.underlying ty = some d) (hd : (match d with | .struct _ | .array _ _ => true | _ => false) = true) (hi : (P.info? ty).map (·.size) = some cs.size) :
 (results fn tmps).run P w = .ok (.tuple #[va, .agg cs]) w := by
 have ha' : tmps[a]?.getD undef = va := by simpa using ha
 have hp' : tmps[p]?.getD undef = .pointer (some ⟨g, 0, none⟩) := by simpa using hp
 simp [results, h, hp', ha', asAddr, run_loadVar_row w g t ty cs fr d hg hu hd hi]
end
theorem zaZ {base g : Nat} {w W : World} (h : Below base w W) (hb : base ≤ g) (cs : Array Value) : Below base w (W.setRow g cs) :=
 ⟨h.os, h.tape, h.output, by rw [setRow_size]; exact h.size, fun k hk => (setRow_other W g k cs (by omega)).trans (h.block k hk)⟩
theorem bel_cell {base : Nat} {w W : World} (h : Below base w W) {q : Addr} (hb : base ≤ q.block) (v : Value) : Below base w (W.setCell q v) := h.setCell hb v
def zaL : Array Value := #[.int .i64 0, .int .i64 0, .bool false, .int .i64 0, .int .i64 0, .int .i64 0, .int .i64 0, .int .i64 0, .int .i64 0, .int .i64 0, .int .i64 0]
def putAt : Array Value → Nat → List Value → Array Value
 | c, _, [] => c
 | c, o, v :: vs => putAt (c.setIfInBounds o v) (o + 1) vs
theorem setCells_at {g : Nat} {t : TypeId} {fr : Nat × Nat} : ∀ (vs : List Value) (o : Nat) (W : World) (cur : Array Value), W.heap[g]? = some (.cells cur t fr) → (W.setCells g o vs).heap[g]? = some (.cells (putAt cur o vs) t fr)
 | [], _, _, _, h => h
 | v :: vs, o, W, cur, h => by
   show ((W.setCell ⟨g, o, none⟩ v).setCells g (o + 1) vs).heap[g]? = _
   refine setCells_at vs (o + 1) _ _ ?_
   rw [setCell_eq_setRow W g o cur t fr v h]
   exact setRow_heap W g cur _ t fr h
theorem setCells_bel {g base : Nat} (hg : base ≤ g) {w : World} : ∀ (vs : List Value) (o : Nat) (W : World), Below base w W → Below base w (W.setCells g o vs)
 | [], _, _, h => h
 | v :: vs, o, W, h => by
   show Below base w ((W.setCell ⟨g, o, none⟩ v).setCells g (o + 1) vs)
   exact setCells_bel hg vs (o + 1) _ (h.setCell hg v)
theorem rec_thaw {W : World} {B : Nat} {v0 v1 v2 v3 v4 v5 v6 v7 v8 v9 v10 : Value} (h : W.heap[B]? = some (.cells #[v0, v1, v2, v3, v4, v5, v6, v7, v8, v9, v10] 28 (0, 0))) : W.frozen? ⟨B, 0, none⟩ = false ∧ W.frozen? ⟨B, 1, none⟩ = false ∧ W.frozen? ⟨B, 2, none⟩ = false ∧ W.frozen? ⟨B, 3, none⟩ = false ∧ W.frozen? ⟨B, 4, none⟩ = false ∧ W.frozen? ⟨B, 5, none⟩ = false ∧ W.frozen? ⟨B, 6, none⟩ = false ∧ W.frozen? ⟨B, 7, none⟩ = false ∧ W.frozen? ⟨B, 8, none⟩ = false ∧ W.frozen? ⟨B, 9, none⟩ = false ∧ W.frozen? ⟨B, 10, none⟩ = false := by
 simp [World.frozen?, h]
section
variable {P : Program}
theorem zaA {ops : Array Oper} {rest : List Oper} {o : Oper} {a : Act} {w : World} {Q : Act → Prop} (hgd : o.guard = none) (ty : TypeId) (x : Operand) (ho : o.op = .load ty x)
 (g : Nat) (hx : a.eval x = .pointer (some ⟨g, 0, none⟩)) (t : TypeId) (cs : Array Value) (fr : Nat × Nat) (d : TypeDesc) (hg : w.heap[g]? = some (.cells cs t fr))
 (hu : P.underlying ty = some d) (hd : (match d with | .struct _ | .array _ _ => true | _ => false) = true) (hi : (P.info? ty).map (·.size) = some cs.size)
 (h : wpStill P ops w Q rest (a.put o.dst (.agg cs))) : wpStill P ops w Q (o :: rest) a := by
 refine wpStill_step (fun K hK => ?_); rw [if_pos (by simp [Region.wanted, hgd])]; unfold Oper.still execOp; simp only [ho, hx, Instr.loadAt, Instr.sureAddr, Sem.run_bind, Sem.run_pure, Result.andThen_ok, run_loadVar_row w g t ty cs fr d hg hu hd hi, Oper.stillUpon]; exact ⟨trivial, hK _ h⟩
end
structure RSt1 (w : World) (r : RecR) (W : World) : Prop where
 c0 : W.heap[w.heap.size]? = some (.cells (rcC r) 28 (0, 0))
 c1 : W.heap[w.heap.size + 1]? = some (.cells zaL 28 (0, 0))
 below : Below w.heap.size w W
section
variable {w : World} {r r' : RecR} {W W' : World}
theorem RSt1.start (w : World) (r : RecR) : RSt1 w r ((w.alloc (.cells (rcC r) 28)).alloc (.cells zaL 28)) := by
 refine ⟨?_, ?_, ((Below.refl _ _).alloc (Nat.le_refl _) _).alloc (by simp) _⟩
 · rw [hpA, if_neg (by simp), hpA, if_pos rfl]
 · rw [hpA, if_pos (by simp)]
theorem RSt1.later (h : RSt1 w r W) (hb : Below W.heap.size W W') : RSt1 w r W' :=
 ⟨(hb.block _ (bLQ h.c0)).trans h.c0, (hb.block _ (bLQ h.c1)).trans h.c1, bTn h.below hb⟩
theorem RSt1.drew (h : RSt1 w r W) : RSt1 w r W.drew := h.later (Below.refl _ _).drew
theorem RSt1.set (h : RSt1 w r W) {i : Nat} {v : Value} (e : (rcC r).setIfInBounds i v = rcC r') : RSt1 w r' (W.setCell ⟨w.heap.size, i, none⟩ v) := by
 rw [setCell_eq_setRow W _ i _ _ _ v h.c0, e]; exact ⟨setRow_heap W _ _ _ _ _ h.c0, (setRow_other W _ _ _ (by omega)).trans h.c1, zaZ h.below (Nat.le_refl _) _⟩
theorem RSt1.give (h : RSt1 w r W) : (W.setRow (w.heap.size + 1) (rcC r)).heap[w.heap.size + 1]? = some (.cells (rcC r) 28 (0, 0)) ∧ Below w.heap.size w (W.setRow (w.heap.size + 1) (rcC r)) :=
 ⟨setRow_heap W _ _ _ _ _ h.c1, zaZ h.below (by omega) _⟩
theorem RSt1.nil_ (h : RSt1 w r W) : (W.setRow (w.heap.size + 1) zaL).heap[w.heap.size + 1]? = some (.cells zaL 28 (0, 0)) ∧ Below w.heap.size w (W.setRow (w.heap.size + 1) zaL) :=
 ⟨setRow_heap W _ _ _ _ _ h.c1, zaZ h.below (by omega) _⟩
theorem RSt1.cells (h : RSt1 w r W) : W.cell? ⟨w.heap.size, 0, none⟩ = some (.int .i64 r.gen) ∧ W.cell? ⟨w.heap.size, 1, none⟩ = some (.int .i64 r.act) ∧ W.cell? ⟨w.heap.size, 2, none⟩ = some (.bool r.trying) ∧ W.cell? ⟨w.heap.size, 3, none⟩ = some (.int .i64 r.tries) ∧ W.cell? ⟨w.heap.size, 4, none⟩ = some (.int .i64 r.floor) ∧ W.cell? ⟨w.heap.size, 5, none⟩ = some (.int .i64 r.i0.ver) ∧ W.cell? ⟨w.heap.size, 8, none⟩ = some (.int .i64 r.i1.ver) ∧ (∀ i, W.frozen? ⟨w.heap.size, i, none⟩ = false) := by
 refine ⟨?_, ?_, ?_, ?_, ?_, ?_, ?_, fun i => ?_⟩
 all_goals simp [World.cell?, World.frozen?, h.c0, rcC]
theorem sRc (r : RecR) : (Tryz.prog.info? 28).map (·.size) = some (rcC r).size := by kernel_rfl
theorem oRc (r : RecR) : (rcC r).all (·.oneCell') = true := by kernel_rfl
theorem za8 : (Tryz.prog.info? 28).map (·.size) = some zaL.size := by kernel_rfl
theorem one_zero : zaL.all (·.oneCell') = true := by kernel_rfl
end
section
variable {P : Program} {ops : Array Oper} {rest : List Oper} {o : Oper} {a : Act} {w : World} {Q : Exit → Act → World → Prop}
theorem wLP (hgd : o.guard = none) (ty : TypeId) (x : Operand) (ho : o.op = .load ty x) (b k : Nat) (hx : a.eval x = .pointer (some ⟨b, k, none⟩)) (C : Array Value) (t : TypeId) (fr : Nat × Nat) (hB : w.heap[b]? = some (.cells C t fr))
 (cs : Array Value) (hcs : C.extract k (k + cs.size) = cs) (d : TypeDesc) (hu : P.underlying ty = some d) (hd : d.isRow = true) (hi : (P.info? ty).map (·.size) = some cs.size)
 (h : wpList P ops Q rest (a.put o.dst (.agg cs)) w) : wpList P ops Q (o :: rest) a w := by
 have hr := World.rangeAt_of_block hB k cs.size; rw [hcs] at hr; refine wpList_load_mid hgd ty x ho b k hx cs.toList d hr hu hd (by simpa using hi) ?_
 simpa using h
theorem zaE (hg : o.guard = none) (t : TypeId) (parts : Array (Nat × Operand)) (ho : o.op = .build t parts) (vs : List (Nat × Value)) (hvs : (parts.map fun (i, x) => (i, a.eval x)).toList = vs) (cs : Array Value) (hb : P.built t vs = some cs)
 (h : wpList P ops Q rest (a.put o.dst (.agg cs)) w) : wpList P ops Q (o :: rest) a w :=
 wpList_build hg t parts ho (by rw [hvs, hb]; rfl) (by rw [hvs, hb]; exact h)
theorem zaM (hg : o.guard = none) (t : TypeId) (i0 i1 : Nat) (x0 x1 : Operand) (ho : o.op = .build t #[(i0, x0), (i1, x1)]) (v0 v1 : Value) (h0 : a.eval x0 = v0) (h1 : a.eval x1 = v1) (cs : Array Value) (hb : P.built t [(i0, v0), (i1, v1)] = some cs)
 (h : wpList P ops Q rest (a.put o.dst (.agg cs)) w) : wpList P ops Q (o :: rest) a w :=
 zaE hg t _ ho [(i0, v0), (i1, v1)] (by simp [h0, h1]) cs hb h
theorem wSN (hgd : o.guard = none) (ty : TypeId) (x y : Operand) (ho : o.op = .store ty x y) (g : Nat) (cells : Array Value) (hx : a.eval x = .pointer (some ⟨g, 0, none⟩)) (hy : a.eval y = .agg cells)
 (t : TypeId) (old : Array Value) (hg : g = w.heap.size) (hi : (P.info? ty).map (·.size) = some cells.size) (hold : old.size = cells.size) (h1 : cells.all (·.oneCell') = true)
 (h : wpList P ops Q rest (a.put o.dst undef) (w.alloc (.cells cells t))) : wpList P ops Q (o :: rest) a (w.alloc (.cells old t)) := by
 subst hg; refine wpList_store_row hgd ty x y ho w.heap.size cells hx hy t old (by rw [hpA, if_pos rfl]) hi hold h1 ?_; rw [World.setRow_alloc_new]; exact h
end
def za2 : Array Value := #[.bool false, .int .i64 0, .int .i64 0, .bool false, .int .i64 0, .int .i64 0, .int .i64 0, .int .i64 0, .int .i64 0, .int .i64 0, .int .i64 0, .int .i64 0, .bool false, .int .i64 0, .int .i64 0, .bool false, .int .i64 0, .int .i64 0, .int .i64 0, .int .i64 0, .int .i64 0, .int .i64 0, .int .i64 0, .int .i64 0]
def zan (c : CopR) : Array Value := #[.bool c.ok, .int .i64 c.r.gen, .int .i64 c.r.act, .bool c.r.trying, .int .i64 c.r.tries, .int .i64 c.r.floor, .int .i64 c.r.i0.ver, .int .i64 c.r.i0.size, .int .i64 c.r.i0.sum, .int .i64 c.r.i1.ver, .int .i64 c.r.i1.size, .int .i64 c.r.i1.sum]
structure WSt (w : World) (l : CopsR) (r : RecR) (W : World) : Prop where
 c0 : W.heap[w.heap.size]? = some (.cells (cpC l) 31 (0, 0))
 c1 : W.heap[w.heap.size + 1]? = some (.cells (rcC r) 28 (0, 0))
 c2 : W.heap[w.heap.size + 2]? = some (.cells za2 31 (0, 0))
 below : Below w.heap.size w W
section
variable {w : World} {l l' : CopsR} {r r' : RecR} {W W' : World}
theorem WSt.start (w : World) (l : CopsR) (r : RecR) : WSt w l r (((w.alloc (.cells (cpC l) 31)).alloc (.cells (rcC r) 28)).alloc (.cells za2 31)) := by
 refine ⟨?_, ?_, ?_, (((Below.refl _ _).alloc (Nat.le_refl _) _).alloc (by simp) _).alloc (by simp; omega) _⟩
 · rw [hpA, if_neg (by simp; omega), hpA, if_neg (by simp), hpA, if_pos rfl]
 · rw [hpA, if_neg (by simp), hpA, if_pos (by simp)]
 · rw [hpA, if_pos (by simp)]
theorem WSt.later (h : WSt w l r W) (hb : Below W.heap.size W W') : WSt w l r W' :=
 ⟨(hb.block _ (bLQ h.c0)).trans h.c0, (hb.block _ (bLQ h.c1)).trans h.c1, (hb.block _ (bLQ h.c2)).trans h.c2, bTn h.below hb⟩
theorem WSt.drew (h : WSt w l r W) : WSt w l r W.drew := h.later (Below.refl _ _).drew
theorem WSt.alloc (h : WSt w l r W) (o : Obj) : WSt w l r (W.alloc o) := h.later ((Below.refl _ _).alloc (Nat.le_refl _) o)
theorem WSt.lt (h : WSt w l r W) : w.heap.size + 2 < W.heap.size := bLQ h.c2
theorem WSt.set (h : WSt w l r W) {i : Nat} {v : Value} (e : (rcC r).setIfInBounds i v = rcC r') : WSt w l r' (W.setCell ⟨w.heap.size + 1, i, none⟩ v) := by
 rw [setCell_eq_setRow W _ i _ _ _ v h.c1, e]; exact ⟨(setRow_other W _ _ _ (by omega)).trans h.c0, setRow_heap W _ _ _ _ _ h.c1, (setRow_other W _ _ _ (by omega)).trans h.c2, zaZ h.below (by omega) _⟩
theorem WSt.put (h : WSt w l r W) {o : Nat} {c : CopR} (e : putAt (cpC l) o (zan c).toList = cpC l') : WSt w l' r (W.setCells w.heap.size o (zan c).toList) :=
 have oth : ∀ (vs : List Value) (o : Nat) (W : World) (k : Nat), k ≠ w.heap.size → (W.setCells w.heap.size o vs).heap[k]? = W.heap[k]? := by
  intro vs
  induction vs with
  | nil => intros; rfl
  | cons v vs ih =>
    intro o W k hk; show ((W.setCell ⟨w.heap.size, o, none⟩ v).setCells w.heap.size (o + 1) vs).heap[k]? = _; rw [ih _ _ _ hk]; exact Below.heap_setCell W _ v k hk
 ⟨(setCells_at _ _ _ _ h.c0).trans (by rw [e]), (oth _ _ _ _ (by omega)).trans h.c1, (oth _ _ _ _ (by omega)).trans h.c2, setCells_bel (Nat.le_refl _) _ _ _ h.below⟩
theorem WSt.there (h : WSt w l r W) {o : Nat} (ho : o + 12 ≤ 24) : W.there w.heap.size o 12 := by
 intro j hj; have hs : (cpC l).size = 24 := rfl; simp only [World.cell?, World.frozen?, h.c0]; rw [Array.getElem?_eq_getElem (by rw [hs]; omega)]; simp
theorem WSt.give (h : WSt w l r W) : (W.setRow (w.heap.size + 2) (cpC l)).heap[w.heap.size + 2]? = some (.cells (cpC l) 31 (0, 0)) ∧ Below w.heap.size w (W.setRow (w.heap.size + 2) (cpC l)) :=
 ⟨setRow_heap W _ _ _ _ _ h.c2, zaZ h.below (by omega) _⟩
theorem WSt.nil_ (h : WSt w l r W) : (W.setRow (w.heap.size + 2) za2).heap[w.heap.size + 2]? = some (.cells za2 31 (0, 0)) ∧ Below w.heap.size w (W.setRow (w.heap.size + 2) za2) :=
 ⟨setRow_heap W _ _ _ _ _ h.c2, zaZ h.below (by omega) _⟩
theorem sCp (l : CopsR) : (Tryz.prog.info? 31).map (·.size) = some (cpC l).size := by kernel_rfl
theorem za5 (l : CopsR) : (cpC l).all (·.oneCell') = true := by kernel_rfl
theorem zby : (Tryz.prog.info? 31).map (·.size) = some za2.size := by kernel_rfl
theorem one_zcops : za2.all (·.oneCell') = true := by kernel_rfl
theorem zbt (l : CopsR) : za2.size = (cpC l).size := by kernel_rfl
theorem zbb (c : CopR) : (Tryz.prog.info? 30).map (·.size) = some (zan c).size := by kernel_rfl
theorem one_cop (c : CopR) : (zan c).all (·.oneCell') = true := by kernel_rfl
theorem part_at0 (l : CopsR) : (cpC l).extract 0 (0 + (zan l.c0).size) = zan l.c0 := by kernel_rfl
theorem part_at1 (l : CopsR) : (cpC l).extract 12 (12 + (zan l.c1).size) = zan l.c1 := by kernel_rfl
theorem built_cops (c d : CopR) : Tryz.prog.built 31 [(0, .agg (zan c)), (1, .agg (zan d))] = some (cpC ⟨c, d⟩) := by kernel_rfl
theorem put_at0 (l : CopsR) (c : CopR) : putAt (cpC l) 0 (zan c).toList = cpC ⟨c, l.c1⟩ := by kernel_rfl
theorem put_at1 (l : CopsR) (c : CopR) : putAt (cpC l) 12 (zan c).toList = cpC ⟨l.c0, c⟩ := by kernel_rfl
end
section
variable {w W W' : World} {L : List (Nat × Array Value × TypeId)}
end
theorem cAt {W : World} {p k : Nat} {c : Array Value} {t : TypeId} {v : Value} (h : W.heap[p]? = some (.cells c t (0, 0))) (hv : c[k]? = some v) : W.cell? ⟨p, k, none⟩ = some v := by
 simp only [World.cell?, h]
 simpa using hv
section
variable {P : Program} {C : World → Prop} {a : Act} {o : Oper} {K : Act → Prop}
end
theorem lRc (r : RecR) : (#[.int .i64 0, .int .i64 0, .bool false, .int .i64 0, .int .i64 0, .int .i64 0, .int .i64 0, .int .i64 0, .int .i64 0, .int .i64 0, .int .i64 0] : Array Value).size = (rcC r).size := by kernel_rfl
theorem zbS (l : CopsR) : (#[.bool false, .int .i64 0, .int .i64 0, .bool false, .int .i64 0, .int .i64 0, .int .i64 0, .int .i64 0, .int .i64 0, .int .i64 0, .int .i64 0, .int .i64 0, .bool false, .int .i64 0, .int .i64 0, .bool false, .int .i64 0, .int .i64 0, .int .i64 0, .int .i64 0, .int .i64 0, .int .i64 0, .int .i64 0, .int .i64 0] : Array Value).size = (cpC l).size := by kernel_rfl
theorem Tryz.info_u8 : (Tryz.prog.info? 5).map (fun i => (i.zero, i.size, i.bytes)) = some (some (.int .u8 0), 1, 1) := by kernel_rfl
theorem addr_add (b off i : Nat) : (Addr.add ⟨b, off, none⟩ i) = ⟨b, off + i, none⟩ := by
 by_cases e : i = 0
 · subst e; simp [Addr.add]
 · simp [Addr.add, e]
theorem BS.news {w : World} {ad : Addr} {m c : Nat} {l : List Int} (h : BS w (some ad) m c l) : ∀ j u, (l.map (Value.int .u8))[j]? = some u → w.cell? (ad.add j) = some u := by
 intro j u hu
 have hj : j < l.length := by
  rcases Nat.lt_or_ge j l.length with h1 | h1
  · exact h1
  · rw [List.getElem?_eq_none (by simpa using h1)] at hu; cases hu
 obtain ⟨b, off, e, hc⟩ := h.cells (by have := h.len; omega); injection e with e; subst e; rw [addr_add, hc j (by have := h.len; omega)]; simp [List.getElem?_eq_getElem hj] at hu ⊢; exact hu
theorem zbi {w : World} {base : Nat} {v : Value} {n : Nat} {l : List Int} (hown : w.ownsRow base 5 1 v n (l.map (Value.int .u8)))
 {a : Option Addr} {m c : Nat} {l' : List Int} (hs : BS w a m c l') (hb : n + m ≤ 140737488355328) (hbase : base ≤ w.heap.size) :
 ∃ a' c' w', (Builtin.append_ #[22, 22] 22 #[v, .slice a m c]).run Tryz.prog w = .ok (.slice a' (n + m) c') w' ∧
   w'.ownsRow base 5 1 (.slice a' (n + m) c') (n + m) ((l ++ l').map (Value.int .u8)) ∧ w.grownBy w' v.ownBlock := by
 obtain ⟨i0, hi, hz0, hz1, hz2⟩ := info_parts Tryz.info_u8
 suffices h : ∃ v' w', (Builtin.append_ #[22, 22] 22 #[v, .slice a m c]).run Tryz.prog w = .ok v' w' ∧
  w'.ownsRow base 5 1 v' (n + m) ((l ++ l').map (Value.int .u8)) ∧ w.grownBy w' v.ownBlock by
  obtain ⟨v', w', hr, ho, hg⟩ := h
  obtain ⟨a', c', rfl⟩ : ∃ a' c', v' = .slice a' (n + m) c' := by
   rcases ho.2 with ⟨h1, h2⟩ | ⟨g, cap, cur, h1, _⟩
   · exact ⟨none, 0, by rw [h1, h2]⟩
   · exact ⟨_, _, h1⟩
  exact ⟨a', c', w', hr, ho, hg⟩
 cases a with
 | none =>
   have hc := hs.none_ rfl; subst hc; obtain rfl : m = 0 := by have := hs.le; omega
   obtain rfl : l' = [] := List.eq_nil_of_length_eq_zero hs.len; exact ⟨v, w, run_append_owned_none w base 22 _ 5 i0 1 U22 hi v n _ hown, by simpa using hown, World.grownBy.refl w _⟩
 | some ad =>
   obtain ⟨v', w', hr, ho, hg, _⟩ := run_append_own (P := Tryz.prog) w base 22 22 5 i0 _ 1 1 U22 hi hz0 hz1 hz2 rfl (by decide) v n _ hown ad m c (l'.map (Value.int .u8))
    (by simpa using hs.len) hs.news (zbz _) (by unfold maxLen; omega) (by omega) hbase
   exact ⟨v', w', hr, by simpa using ho, hg⟩
def cutA (a : Option Addr) (c k : Nat) : Option Addr := if c = k then a else a.map (·.add k)
theorem zbY (w : World) : (Go.sizeOf 5).run Tryz.prog w = .ok 1 w := by
 obtain ⟨i0, hi, hz0, hz1, hz2⟩ := info_parts Tryz.info_u8; simp [Go.sizeOf, typeInfo, hi, hz1]
section
variable (a : Option Addr) (n c : Nat) (W : World)
theorem zaU (k : Nat) (hk : k ≤ n) : (Instr.slice 22 (.slice a n c) (some (.int .i64 (k : Int))) none none).run Tryz.prog W = .ok (.slice (cutA a c k) (n - k) (c - k)) W := by
 have ht : Tryz.prog.underlying 22 = some (.slice (Tryz.prog.elem 22)) := by simp [Program.elem, Tryz.underlying22]
 have he : Tryz.prog.elem 22 = 5 := by simp [Program.elem, Tryz.underlying22]
 rw [run_slice_l W 22 _ _ _ ht .i64 _ (by omega) (by omega), he, zbY]; simp [Result.andThen, sliced, cutA]
theorem za6 (k h : Nat) (hk : k ≤ h) (hh : h ≤ c) : (Instr.slice 22 (.slice a n c) (some (.int .i64 (k : Int))) (some (.int .i64 (h : Int))) none).run Tryz.prog W = .ok (.slice (cutA a c k) (h - k) (c - k)) W := by
 have ht : Tryz.prog.underlying 22 = some (.slice (Tryz.prog.elem 22)) := by simp [Program.elem, Tryz.underlying22]
 have he : Tryz.prog.elem 22 = 5 := by simp [Program.elem, Tryz.underlying22]
 rw [run_slice_lh W 22 _ _ _ ht .i64 .i64 _ _ (by omega) (by omega) (by omega), he, zbY]; simp [Result.andThen, sliced, cutA]
theorem rCh (h : Nat) (hh : h ≤ c) : (Instr.slice 22 (.slice a n c) none (some (.int .i64 (h : Int))) none).run Tryz.prog W = .ok (.slice a h c) W := by
 have ht : Tryz.prog.underlying 22 = some (.slice (Tryz.prog.elem 22)) := by simp [Program.elem, Tryz.underlying22]
 have he : Tryz.prog.elem 22 = 5 := by simp [Program.elem, Tryz.underlying22]
 rw [run_slice_h W 22 _ _ _ ht .i64 _ (by omega) (by omega), he, zbY]
 cases a <;> simp [Result.andThen, sliced, Addr.add]
end
section
variable {w : World} {a : Option Addr} {n c : Nat} {l : List Int}
theorem BS.cut (h : BS w a n c l) (k : Nat) (hk : k ≤ n) : BS w (cutA a c k) (n - k) (c - k) (l.drop k) := by
 have h1 := h.len; have h2 := h.le; have h3 := h.max; refine ⟨by simp; omega, by omega, by omega, fun x hx => h.bytes x (List.mem_of_mem_drop hx), fun hp => ?_, ?_⟩
 · obtain ⟨b, off, rfl, hc⟩ := h.cells (by omega)
   refine ⟨b, off + k, by unfold cutA; rw [if_neg (by omega), Option.map_some, addr_add], fun i hi => ?_⟩; rw [Nat.add_assoc, hc (k + i) (by omega), List.getElem?_drop]
 · intro he
   have : a = none := by
    unfold cutA at he; split at he
    · exact he
    · simpa using he
   have := h.none_ this; omega
theorem BS.head (h : BS w a n c l) (k : Nat) (hk : k ≤ n) : BS w a k c (l.take k) := by
 have h1 := h.len; have h2 := h.le; refine ⟨by simp; omega, by omega, h.max, fun x hx => h.bytes x (List.mem_of_mem_take hx), fun hp => ?_, h.none_⟩; obtain ⟨b, off, rfl, hc⟩ := h.cells (by omega); exact ⟨b, off, rfl, fun i hi => by rw [hc i (by omega), List.getElem?_take_of_lt hi]⟩
theorem BS.mid (h : BS w a n c l) (k m : Nat) (hk : k ≤ m) (hm : m ≤ n) : BS w (cutA a c k) (m - k) (c - k) ((l.drop k).take (m - k)) :=
 (h.cut k (by omega)).head (m - k) (by omega)
end
theorem zaQ {w w' : World} {base e n : Nat} {v : Value} {xs : List Value} (h : w.ownsRow base e 1 v n xs) (hb : Below w.heap.size w w') : w'.ownsRow base e 1 v n xs := by
 refine ⟨h.1, ?_⟩; rcases h.2 with h2 | ⟨g, cap, cur, h2, h3, h4, h5⟩
 · exact .inl h2
 · refine .inr ⟨g, cap, cur, h2, h3, ?_, h5⟩
   rw [hb.block g ?_]
   · exact h4
   · rcases Nat.lt_or_ge g w.heap.size with hlt | hge
     · exact hlt
     · rw [Array.getElem?_eq_none hge] at h4; cases h4
theorem own_slice {w : World} {base e n : Nat} {v : Value} {xs : List Value} (h : w.ownsRow base e 1 v n xs) : ∃ a c, v = .slice a n c := by
 rcases h.2 with ⟨h1, h2⟩ | ⟨g, cap, cur, h1, _⟩
 · exact ⟨none, 0, by rw [h1, h2]⟩
 · exact ⟨_, _, h1⟩
theorem bTh {w w1 w2 : World} (h : Below w.heap.size w w1) (h2 : Below w1.heap.size w1 w2) : Below w.heap.size w w2 := h.trans (h2.mono h.size)
theorem BS.cellsAt {w : World} {x : Addr} {n c : Nat} {l : List Int} (h : BS w (some x) n c l) : ∀ i, i < n → w.cell? (x.add i) = some (.int .u8 (l.getD i 0)) := by
 intro i hi; obtain ⟨b, off, e, hc⟩ := h.cells (by omega)
 cases e
 rw [addr_add, hc i hi, List.getD_eq_getElem?_getD]
theorem BS.lt256 {w : World} {a : Option Addr} {n c : Nat} {l : List Int} (h : BS w a n c l) : ∀ x ∈ l, 0 ≤ x ∧ x < 256 := fun x hx => by
 have := h.bytes x hx
 omega
structure OpR where
 at_ : Int
 len : Int
 data : List Int
instance : Inhabited OpR := ⟨⟨0, 0, []⟩⟩
theorem OpR.eq_iff (a b : OpR) : a = b ↔ a.at_ = b.at_ ∧ a.len = b.len ∧ a.data = b.data := by
 obtain ⟨a1, a2, a3⟩ := a; obtain ⟨b1, b2, b3⟩ := b; simp
instance : DecidableEq OpR := fun a b => decidable_of_iff _ (OpR.eq_iff a b).symm
def OpAt (w : World) (b o : Nat) (r : OpR) : Prop :=
 ∃ a n c, w.cell? ⟨b, o, none⟩ = some (.int .i64 r.at_) ∧ w.cell? ⟨b, o + 1, none⟩ = some (.int .i64 r.len) ∧ w.cell? ⟨b, o + 2, none⟩ = some (.slice a n c) ∧ BS w a n c r.data ∧ I64 r.at_ ∧ I64 r.len
theorem OpAt.keep {w w' : World} {b o : Nat} {r : OpR} (h : OpAt w b o r) (hk : ∀ p v, w.cell? p = some v → w'.cell? p = some v) : OpAt w' b o r := by
 obtain ⟨a, n, c, h1, h2, h3, h4, h5⟩ := h; exact ⟨a, n, c, hk _ _ h1, hk _ _ h2, hk _ _ h3, h4.keep hk, h5⟩
structure OS (w : World) (a : Option Addr) (n c : Nat) (l : List OpR) : Prop where
 len : l.length = n
 le : n ≤ c
 max : c ≤ 9223372036854775807
 cells : 0 < n → ∃ b off, a = some ⟨b, off, none⟩ ∧ ∀ i, i < n → OpAt w b (off + i * 3) (l.getD i default)
 none_ : a = none → c = 0
section
variable {w w' : World} {a : Option Addr} {n c : Nat} {l : List OpR}
theorem OS.keep (h : OS w a n c l) (hk : ∀ p v, w.cell? p = some v → w'.cell? p = some v) : OS w' a n c l :=
 ⟨h.len, h.le, h.max, fun hp => by
  obtain ⟨b, off, e, hc⟩ := h.cells hp
  exact ⟨b, off, e, fun i hi => (hc i hi).keep hk⟩, h.none_⟩
theorem OS.later (h : OS w a n c l) (hb : Below w.heap.size w w') : OS w' a n c l := h.keep (fun _ _ hc => cell_later hb hc)
theorem OS.nil_ (w : World) : OS w none 0 0 [] := ⟨rfl, by omega, by omega, fun h => absurd h (by omega), fun _ => rfl⟩
end
theorem list_of {α : Type} (d : α) (p : Nat → α → Prop) : ∀ n, (∀ i, i < n → ∃ r, p i r) → ∃ l : List α, l.length = n ∧ ∀ i, i < n → p i (l.getD i d)
 | 0, _ => ⟨[], rfl, fun i hi => absurd hi (by omega)⟩
 | n + 1, h => by
   obtain ⟨l, hl, hp⟩ := list_of d p n (fun i hi => h i (by omega))
   obtain ⟨r, hr⟩ := h n (by omega)
   refine ⟨l ++ [r], by simp [hl], fun i hi => ?_⟩
   rcases Nat.lt_or_ge i n with hlt | hge
   · have := hp i hlt
     simpa [List.getD_eq_getElem?_getD, List.getElem?_append_left (show i < l.length by omega)] using this
   · obtain rfl : i = n := by omega
     simpa [List.getD_eq_getElem?_getD, ← hl] using hr
section
variable {H : Type} {enc : TypeId × Value → H} {w : World} {sp : Nat → Bool} {held : Bool}
theorem open_bs {fuel : Nat} {v : Value} {x : DataW H × List MemPlace} (h : DataW.trod enc Tryz.prog w 0 sp held fuel 22 [v] = some x) :
 ∃ a n c l, v = .slice a n c ∧ BS w a n c l := by
 rcases Go.ChangeShapes.open_ints U22 U5 (by kernel_rfl) h with ⟨hcs, _⟩ | ⟨a, len, cap, zs, hcs, _, hl, hm, hz, _, hcell, hwz⟩
 · simp at hcs
   subst hcs; exact ⟨none, 0, 0, [], rfl, BS.nil_ w⟩
 · simp at hcs
   subst hcs; have hlz : len ≤ zs.length := by rw [hz]; split <;> omega
   refine ⟨some a, len, cap, zs.take len, rfl, ?_, hl, by unfold maxLen at hm; omega, ?_, ?_, fun h => by cases h⟩
   · simp; omega
   · intro y hy
     have := hwz y (List.mem_of_mem_take hy); have h1 : IntKind.u8.min = 0 := rfl; have h2 : IntKind.u8.max = 255 := rfl; simp only [Lit.wf, Bool.and_eq_true, decide_eq_true_eq] at this; omega
   · intro hp
     obtain ⟨b, off, spot⟩ := a; have h0 := hcell 0 (by omega); have hs : spot = none := by simpa [Addr.add] using World.cell?_spot h0
     subst hs; refine ⟨b, off, rfl, fun i hi => ?_⟩; have := hcell i (by omega); rw [addr_add] at this; rw [this, List.getElem?_take_of_lt hi, List.getD_eq_getElem?_getD]
theorem open_os {fuel : Nat} {v : Value} {x : DataW H × List MemPlace} (h : DataW.trod enc Tryz.prog w 0 sp held fuel 33 [v] = some x) :
 ∃ a n c l, v = .slice a n c ∧ OS w a n c l := by
 have hC : Tryz.prog.cellsOf 159 = 3 := by kernel_rfl
 have c3 : Tryz.prog.cellsOf 3 = 1 := by kernel_rfl
 have cb : Tryz.prog.cellsOf 22 = 1 := by kernel_rfl
 rcases Deep.open_slice U33 h with ⟨hcs, _⟩ | ⟨a, len, cap, m, k, D, Pl, hcs, _, hl, hm, hmm, _, hi⟩
 · simp at hcs
   subst hcs; exact ⟨none, 0, 0, [], rfl, OS.nil_ w⟩
 · simp at hcs
   subst hcs; have hlm : len ≤ m := by rw [hmm]; split <;> omega
   rw [hC] at hi
   have each : ∀ i, i < len → ∃ r : OpR, ∃ va vn vc, w.cell? (a.add (i * 3)) = some (.int .i64 r.at_) ∧ w.cell? (a.add (i * 3 + 1)) = some (.int .i64 r.len) ∧ w.cell? (a.add (i * 3 + 2)) = some (.slice va vn vc) ∧ BS w va vn vc r.data ∧ I64 r.at_ ∧ I64 r.len := by
    intro i hlt; obtain ⟨cs, hcs, htr⟩ := hi i (by omega); obtain ⟨_, hcl, hat⟩ := World.cells?_some hcs; obtain ⟨y0, y1, y2, q, _, _, t0, t1, t2⟩ := Deep.trod_struct3 U159 htr
    match cs, hcl with
    | [u0, u1, u2], _ =>
      simp only [c3, cb, List.drop_zero, List.drop_succ_cons, List.take_succ_cons, List.take_zero] at t0 t1 t2; obtain ⟨n0, e0, _, w0⟩ := DataW.trod_int U3 t0; obtain ⟨n1, e1, _, w1⟩ := DataW.trod_int U3 t1; simp at e0 e1; subst e0 e1; obtain ⟨va, vn, vc, dl, rfl, hbs⟩ := open_bs t2; have g0 := hat 0 (by omega); have g1 := hat 1 (by omega); have g2 := hat 2 (by omega); rw [Deep.add_add] at g0 g1 g2; exact ⟨⟨n0, n1, dl⟩, va, vn, vc, g0, g1, g2, hbs, I64.of_wf w0, I64.of_wf w1⟩
   obtain ⟨l, hll, hp⟩ := list_of default _ len each; refine ⟨some a, len, cap, l, rfl, hll, hl, by unfold maxLen at hm; omega, ?_, fun h => by cases h⟩; intro hpos; obtain ⟨b, off, spot⟩ := a; obtain ⟨_, _, _, h0, _⟩ := hp 0 hpos; have hs : spot = none := by simpa [Addr.add] using World.cell?_spot h0
   subst hs; refine ⟨b, off, rfl, fun i hi => ?_⟩; obtain ⟨va, vn, vc, q0, q1, q2, q3⟩ := hp i hi; rw [addr_add] at q0 q1 q2; exact ⟨va, vn, vc, q0, q1, q2, q3⟩
end
theorem Tryz.info_op : (Tryz.prog.info? 159).map (fun i => (i.zero, i.size, i.bytes)) = some (some (.agg #[.int .i64 0, .int .i64 0, .slice none 0 0]), 3, 40) := by kernel_rfl
structure OpV where
 at_ : Int
 len : Int
 v : Value
instance : Inhabited OpV := ⟨⟨0, 0, .slice none 0 0⟩⟩
def zaJ : List OpV → List Value
 | [] => []
 | o :: t => .int .i64 o.at_ :: .int .i64 o.len :: o.v :: zaJ t
theorem zb0 : ∀ x y, zaJ (x ++ y) = zaJ x ++ zaJ y
 | [], _ => rfl
 | o :: t, y => by simp [zaJ, zb0 t y]
theorem zb6 : ∀ x, (zaJ x).length = x.length * 3
 | [] => rfl
 | o :: t => by simp [zaJ, zb6 t]; omega
theorem zbR : ∀ (x : List OpV) (i : Nat), i < x.length → (zaJ x)[i * 3]? = some (.int .i64 (x.getD i default).at_) ∧ (zaJ x)[i * 3 + 1]? = some (.int .i64 (x.getD i default).len) ∧ (zaJ x)[i * 3 + 2]? = some (x.getD i default).v
 | [], i, h => by simp at h
 | o :: t, 0, _ => by simp [zaJ]
 | o :: t, i + 1, h => by
   have := zbR t i (by simpa using h)
   simp only [zaJ, List.getD_cons_succ, show (i + 1) * 3 = i * 3 + 1 + 1 + 1 by omega, List.getElem?_cons_succ]
   exact this
theorem BS.keepBlk {w w' : World} {a : Option Addr} {n c : Nat} {l : List Int} (h : BS w a n c l) (hk : ∀ p, a = some p → w'.heap[p.block]? = w.heap[p.block]?) : BS w' a n c l :=
 ⟨h.len, h.le, h.max, h.bytes, fun hp => by
  obtain ⟨b, off, rfl, hc⟩ := h.cells hp
  have hb := hk _ rfl
  simp only at hb
  refine ⟨b, off, rfl, fun i hi => ?_⟩
  rw [← hc i hi]
  simp only [World.cell?, hb], h.none_⟩
def ReadsV (W : World) (base : Nat) (x y : Option Nat) (o : OpV) (r : OpR) : Prop :=
 o.at_ = r.at_ ∧ o.len = r.len ∧ I64 r.at_ ∧ I64 r.len ∧ ∃ a n c, o.v = .slice a n c ∧ BS W a n c r.data ∧ ∀ p, a = some p → base ≤ p.block ∧ p.block < W.heap.size ∧ some p.block ≠ x ∧ some p.block ≠ y
theorem ReadsV.keep {W W' : World} {base : Nat} {x y x' y' : Option Nat} {o : OpV} {r : OpR} (h : ReadsV W base x y o r) (hs : W.heap.size ≤ W'.heap.size)
 (hk : ∀ k, base ≤ k → k < W.heap.size → some k ≠ x → some k ≠ y → W'.heap[k]? = W.heap[k]? ∧ some k ≠ x' ∧ some k ≠ y') : ReadsV W' base x' y' o r := by
 obtain ⟨h1, h2, h3, h4, a, n, c, h5, h6, h7⟩ := h; refine ⟨h1, h2, h3, h4, a, n, c, h5, h6.keepBlk (fun p hp => ?_), fun p hp => ?_⟩
 · obtain ⟨q1, q2, q3, q4⟩ := h7 p hp
   exact (hk _ q1 q2 q3 q4).1
 · obtain ⟨q1, q2, q3, q4⟩ := h7 p hp
   exact ⟨q1, by omega, (hk _ q1 q2 q3 q4).2⟩
def zbm (W : World) (base : Nat) (ex : Option Nat) (vo : Value) (out : List OpR) : Prop :=
 (∃ vs : List OpV, vs.length = out.length ∧ W.ownsRow base 159 3 vo out.length (zaJ vs) ∧ ∀ i, i < out.length → ReadsV W base vo.ownBlock ex (vs.getD i default) (out.getD i default)) ∧
 (∀ g, ex = some g → vo.ownBlock ≠ some g ∧ g < W.heap.size)
theorem oL3 {w : World} {base e s n : Nat} {v : Value} {xs : List Value} (h : w.ownsRow base e s v n xs) {g : Nat} (hg : v.ownBlock = some g) : base ≤ g ∧ g < w.heap.size := by
 rcases h.2 with ⟨rfl, _⟩ | ⟨g', cap, cur, rfl, h3, h4, _⟩
 · simp [Value.ownBlock] at hg
 · simp [Value.ownBlock] at hg
   subst hg; refine ⟨h3, ?_⟩; rcases Nat.lt_or_ge g' w.heap.size with hlt | hge
   · exact hlt
   · rw [Array.getElem?_eq_none hge] at h4; cases h4
theorem za1 {w w' : World} {base e s n : Nat} {v : Value} {xs : List Value} (h : w.ownsRow base e s v n xs) (hk : ∀ g, v.ownBlock = some g → w'.heap[g]? = w.heap[g]?) : w'.ownsRow base e s v n xs := by
 refine ⟨h.1, ?_⟩; rcases h.2 with h2 | ⟨g, cap, cur, rfl, h3, h4, h5⟩
 · exact .inl h2
 · exact .inr ⟨g, cap, cur, rfl, h3, by rw [hk g rfl]; exact h4, h5⟩
theorem zbm.start (W : World) (base : Nat) (ex : Option Nat) (h : ∀ g, ex = some g → g < W.heap.size) : zbm W base ex (.slice none 0 0) [] :=
 ⟨⟨[], rfl, World.ownsRow_nil _ _ _ _, fun i hi => absurd hi (by simp)⟩, fun g hg => ⟨by simp [Value.ownBlock], h g hg⟩⟩
theorem zbm.keep {W W' : World} {base : Nat} {ex ex' : Option Nat} {vo : Value} {out : List OpR} (h : zbm W base ex vo out) (hs : W.heap.size ≤ W'.heap.size)
 (hk : ∀ k, base ≤ k → k < W.heap.size → some k ≠ ex → W'.heap[k]? = W.heap[k]? ∧ some k ≠ ex') (hx : ∀ g, ex' = some g → g < W'.heap.size) : zbm W' base ex' vo out := by
 obtain ⟨⟨vs, h1, h2, h3⟩, h4⟩ := h
 have hv : ∀ g, vo.ownBlock = some g → W'.heap[g]? = W.heap[g]? ∧ some g ≠ ex' := by
  intro g hg; obtain ⟨p1, p2⟩ := oL3 h2 hg; exact hk g p1 p2 (fun e => (h4 g e.symm).1 hg)
 refine ⟨⟨vs, h1, za1 h2 (fun g hg => (hv g hg).1), fun i hi => (h3 i hi).keep hs (fun k k1 k2 k3 k4 => ?_)⟩, fun g hg => ⟨fun e => (hv g e).2 hg.symm, hx g hg⟩⟩; exact ⟨(hk k k1 k2 k4).1, k3, (hk k k1 k2 k4).2⟩
theorem zbm.later {W W' : World} {base : Nat} {ex : Option Nat} {vo : Value} {out : List OpR} (h : zbm W base ex vo out) (hb : Below W.heap.size W W') : zbm W' base ex vo out :=
 h.keep hb.size (fun k _ k2 k3 => ⟨hb.block k k2, k3⟩) (fun g hg => by have := (h.2 g hg).2; have := hb.size; omega)
theorem one_op {W : World} {B : Nat} {A L : Int} {v : Value} (hB : W.heap[B]? = some (.cells #[.int .i64 A, .int .i64 L, v] 159 (0, 0))) :
 ∀ j u, (zaJ [⟨A, L, v⟩])[j]? = some u → W.cell? ((⟨B, 0, none⟩ : Addr).add j) = some u := by
 have := World.news_of_block hB
 simpa [zaJ] using this
theorem zbm.app {W : World} {base : Nat} {ex : Option Nat} {vo : Value} {out : List OpR} (h : zbm W base ex vo out) {B : Nat} {A L : Int} {a : Option Addr} {n c : Nat} {d : List Int}
 (hB : W.heap[B]? = some (.cells #[.int .i64 A, .int .i64 L, .slice a n c] 159 (0, 0))) (hd : BS W a n c d) (hap : ∀ p, a = some p → base ≤ p.block ∧ p.block < W.heap.size ∧ some p.block ≠ vo.ownBlock ∧ some p.block ≠ ex)
 (hA : I64 A) (hL : I64 L) (hn : out.length ≤ 1000) (hbase : base ≤ W.heap.size) :
 ∃ g cap W5, (Builtin.append_ #[33, 33] 33 #[vo, .slice (some ⟨B, 0, none⟩) 1 1]).run Tryz.prog W = .ok (.slice (some ⟨g, 0, none⟩) (out.length + 1) cap) W5 ∧
   zbm W5 base ex (.slice (some ⟨g, 0, none⟩) (out.length + 1) cap) (out ++ [⟨A, L, d⟩]) ∧ W.grownBy W5 vo.ownBlock ∧ (vo.ownBlock = some g ∨ g = W.heap.size) := by
 obtain ⟨i0, hi, hz0, hz1, hz2⟩ := info_parts Tryz.info_op; obtain ⟨⟨vs, h1, h2, h3⟩, h4⟩ := h
 obtain ⟨g, cap, W5, hr, ho, hg, hlies, hlt⟩ := run_append_lies (P := Tryz.prog) W 33 33 base 159 i0 _ 3 40 U33 hi hz0 hz1 hz2 rfl (by decide) vo out.length _ h2 ⟨B, 0, none⟩ 1 1 (zaJ [⟨A, L, .slice a n c⟩])
  rfl (one_op hB) (by intro u hu; simp [zaJ] at hu; rcases hu with rfl | rfl | rfl <;> rfl) (by omega) (by unfold maxLen; omega) (by omega) hbase W.heap.size rfl
 have key : ∀ k, base ≤ k → k < W.heap.size → some k ≠ vo.ownBlock → some k ≠ ex → W5.heap[k]? = W.heap[k]? ∧ some k ≠ (Value.slice (some ⟨g, 0, none⟩) (out.length + 1) cap).ownBlock ∧ some k ≠ ex := by
  intro k k1 k2 k3 k4; refine ⟨hg.block k k2 k3, ?_, k4⟩; simp only [Value.ownBlock]; intro e; injection e with e; subst e; rcases hlies with hl | hl
  · exact k3 hl.symm
  · omega
 refine ⟨g, cap, W5, hr, ⟨⟨vs ++ [⟨A, L, .slice a n c⟩], by simp [h1], ?_, ?_⟩, ?_⟩, hg, hlies⟩
 · rw [zb0, List.length_append]
   exact ho
 · intro i hi'
   rw [List.length_append] at hi'; simp only [List.length_cons, List.length_nil] at hi'; rcases Nat.lt_or_ge i out.length with hlt2 | hge
   · have e1 : (vs ++ [(⟨A, L, .slice a n c⟩ : OpV)]).getD i default = vs.getD i default := by simp [List.getD_eq_getElem?_getD, List.getElem?_append_left (show i < vs.length by omega)]
     have e2 : (out ++ [(⟨A, L, d⟩ : OpR)]).getD i default = out.getD i default := by simp [List.getD_eq_getElem?_getD, List.getElem?_append_left hlt2]
     rw [e1, e2]; exact (h3 i hlt2).keep hg.size key
   · obtain rfl : i = out.length := by omega
     have e1 : (vs ++ [(⟨A, L, .slice a n c⟩ : OpV)]).getD out.length default = ⟨A, L, .slice a n c⟩ := by rw [← h1]; simp [List.getD_eq_getElem?_getD]
     have e2 : (out ++ [(⟨A, L, d⟩ : OpR)]).getD out.length default = ⟨A, L, d⟩ := by simp [List.getD_eq_getElem?_getD]
     rw [e1, e2]; have : ReadsV W base vo.ownBlock ex ⟨A, L, .slice a n c⟩ ⟨A, L, d⟩ := ⟨rfl, rfl, hA, hL, a, n, c, rfl, hd, hap⟩; exact this.keep hg.size key
 · intro g' hg'
   obtain ⟨q1, q2⟩ := h4 g' hg'; refine ⟨?_, by have := hg.size; omega⟩; simp only [Value.ownBlock]; intro e; injection e with e; subst e; rcases hlies with hl | hl
   · exact q1 hl
   · omega
theorem zbm.os {W : World} {base : Nat} {ex : Option Nat} {vo : Value} {out : List OpR} (h : zbm W base ex vo out) : ∃ a c, vo = .slice a out.length c ∧ OS W a out.length c out := by
 obtain ⟨⟨vs, h1, h2, h3⟩, -⟩ := h; rcases h2.2 with ⟨rfl, h0⟩ | ⟨g, cap, cur, rfl, _, hcells, hle, hmx, hsz, htk⟩
 · obtain rfl : out = [] := List.eq_nil_of_length_eq_zero h0
   exact ⟨none, 0, rfl, OS.nil_ W⟩
 · refine ⟨_, cap, rfl, rfl, hle, by unfold maxLen at hmx; omega, fun hp => ⟨g, 0, rfl, fun i hi => ?_⟩, fun h => by cases h⟩
   have cell : ∀ j u, (zaJ vs)[j]? = some u → W.cell? ⟨g, j, none⟩ = some u := by
    intro j u hu
    have hj : j < (zaJ vs).length := by
     rcases Nat.lt_or_ge j (zaJ vs).length with q | q
     · exact q
     · rw [List.getElem?_eq_none q] at hu; cases hu
    rw [← htk, List.getElem?_take] at hu; split at hu
    · simp only [World.cell?, hcells]
      simpa using hu
    · cases hu
   obtain ⟨g0, g1, g2⟩ := zbR vs i (by omega); obtain ⟨r1, r2, r3, r4, a, n, c, r5, r6, _⟩ := h3 i hi; refine ⟨a, n, c, ?_, ?_, ?_, r6, r3, r4⟩
   · rw [Nat.zero_add, cell _ _ g0, r1]
   · rw [Nat.zero_add, cell _ _ g1, r2]
   · rw [Nat.zero_add, cell _ _ g2, r5]
def OSN (w : World) (lo : Nat) (a : Option Addr) (n c : Nat) (l : List OpR) : Prop :=
 ∀ w' : World, w.heap.size ≤ w'.heap.size → (∀ k, lo ≤ k → k < w.heap.size → w'.heap[k]? = w.heap[k]?) → OS w' a n c l
theorem OSN.os {w : World} {lo : Nat} {a : Option Addr} {n c : Nat} {l : List OpR} (h : OSN w lo a n c l) : OS w a n c l := h w (Nat.le_refl _) (fun _ _ _ => rfl)
theorem OSN.later {w w' : World} {lo : Nat} {a : Option Addr} {n c : Nat} {l : List OpR} (h : OSN w lo a n c l) (hb : Below w.heap.size w w') : OSN w' lo a n c l :=
 fun w2 h1 h2 => h w2 (Nat.le_trans hb.size h1) (fun k k1 k2 => (h2 k k1 (Nat.lt_of_lt_of_le k2 hb.size)).trans (hb.block k k2))
theorem OSN.mono {w : World} {lo lo' : Nat} {a : Option Addr} {n c : Nat} {l : List OpR} (h : OSN w lo a n c l) (hl : lo' ≤ lo) : OSN w lo' a n c l :=
 fun w2 h1 h2 => h w2 h1 (fun k k1 k2 => h2 k (Nat.le_trans hl k1) k2)
theorem zbm.osn {W : World} {base : Nat} {ex : Option Nat} {a : Option Addr} {n c : Nat} {out : List OpR} (h : zbm W base ex (.slice a n c) out) : OSN W base a n c out := by
 intro W' h1 h2
 have h3 : zbm W' base none (.slice a n c) out := by
  obtain ⟨⟨vs, q1, q2, q3⟩, -⟩ := h; exact ⟨⟨vs, q1, za1 q2 (fun g hg => h2 g (oL3 q2 hg).1 (oL3 q2 hg).2), fun i hi => (q3 i hi).keep h1 (fun k k1 k2 k3 _ => ⟨h2 k k1 k2, k3, by simp⟩)⟩, fun g hg => by cases hg⟩
 obtain ⟨a', c', e, ho⟩ := h3.os; simp only [Value.slice.injEq] at e; obtain ⟨rfl, rfl, rfl⟩ := e; exact ho
def NewR (lo : Nat) (w : World) (R : World → Prop) : Prop := ∀ W : World, w.heap.size ≤ W.heap.size → (∀ k, lo ≤ k → k < w.heap.size → W.heap[k]? = w.heap[k]?) → R W
theorem NewR.here {lo : Nat} {w : World} {R : World → Prop} (h : NewR lo w R) : R w := h w (Nat.le_refl _) (fun _ _ _ => rfl)
theorem NewR.mono {lo lo' : Nat} {w : World} {R : World → Prop} (h : NewR lo w R) (hl : lo' ≤ lo) : NewR lo' w R := fun W h1 h2 => h W h1 (fun k k1 k2 => h2 k (by omega) k2)
theorem NewR.imp {lo : Nat} {w : World} {R R' : World → Prop} (h : NewR lo w R) (hi : ∀ W, R W → R' W) : NewR lo w R' := fun W h1 h2 => hi W (h W h1 h2)
theorem NewR.any {lo : Nat} {w : World} {R : World → Prop} (h : ∀ W, R W) : NewR lo w R := fun W _ _ => h W
theorem NewR.of_keep {w : World} {R : World → Prop} (h : ∀ W : World, (∀ p v, w.cell? p = some v → W.cell? p = some v) → R W) : NewR 0 w R := by
 intro V _ h2; refine h V (fun p v hc => ?_)
 have hlt : p.block < w.heap.size := by
  rcases Nat.lt_or_ge p.block w.heap.size with q | q
  · exact q
  · simp [World.cell?, Array.getElem?_eq_none q] at hc
 simp only [World.cell?] at hc ⊢; rw [h2 _ (Nat.zero_le _) hlt]; exact hc
theorem BS.new {lo : Nat} {w : World} {a : Option Addr} {n c : Nat} {l : List Int} (h : BS w a n c l) (hp : ∀ p, a = some p → lo ≤ p.block ∧ p.block < w.heap.size) : NewR lo w (fun W => BS W a n c l) :=
 fun _ _ h2 => h.keepBlk (fun p q => h2 _ (hp p q).1 (hp p q).2)
structure MS (w : World) (L : List (Nat × Array Value × TypeId)) (R N : List (World → Prop)) (W : World) : Prop where
 has : ∀ q ∈ L, W.heap[q.1]? = some (.cells q.2.1 q.2.2 (0, 0))
 srt : L.Pairwise (fun a b => b.1 < a.1)
 base : ∀ q ∈ L, w.heap.size ≤ q.1
 below : Below w.heap.size w W
 reads : ∀ r ∈ R, ∀ W' : World, W.heap.size ≤ W'.heap.size → (∀ k, k < W.heap.size → (∀ q ∈ L, q.1 ≠ k) → W'.heap[k]? = W.heap[k]?) → r W'
 news : ∀ r ∈ N, ∀ W' : World, W.heap.size ≤ W'.heap.size → (∀ k, w.heap.size ≤ k → k < W.heap.size → (∀ q ∈ L, q.1 ≠ k) → W'.heap[k]? = W.heap[k]?) → r W'
section
variable {w W W' : World} {L : List (Nat × Array Value × TypeId)} {R N : List (World → Prop)}
theorem MS.start (w : World) : MS w [] [] [] w := ⟨(fun _ h => by cases h), .nil, (fun _ h => by cases h), Below.refl _ _, (fun _ h => by cases h), (fun _ h => by cases h)⟩
theorem MS.arg (h : MS w [] R [] w) {r : World → Prop} (hr : NewR 0 w r) : MS w [] (r :: R) [] w := by
 refine ⟨h.has, h.srt, h.base, h.below, fun r' hr' => ?_, h.news⟩; rcases List.mem_cons.1 hr' with rfl | hr'
 · exact fun W' h1 h2 => hr W' h1 (fun k _ k2 => h2 k k2 (fun q hq => by cases hq))
 · exact h.reads r' hr'
theorem MS.lt (h : MS w L R N W) {q : Nat × Array Value × TypeId} (hq : q ∈ L) : q.1 < W.heap.size := bLQ (h.has q hq)
theorem MS.later (h : MS w L R N W) (hb : Below W.heap.size W W') : MS w L R N W' :=
 ⟨fun q hq => (hb.block _ (h.lt hq)).trans (h.has q hq), h.srt, h.base, bTn h.below hb,
  fun r hr V h1 h2 => h.reads r hr V (Nat.le_trans hb.size h1) (fun k k1 k2 => (h2 k (by have := hb.size; omega) k2).trans (hb.block k k1)),
  fun r hr V h1 h2 => h.news r hr V (Nat.le_trans hb.size h1) (fun k k0 k1 k2 => (h2 k k0 (by have := hb.size; omega) k2).trans (hb.block k k1))⟩
theorem MS.drew (h : MS w L R N W) : MS w L R N W.drew := h.later (Below.refl _ _).drew
theorem MS.drewN (h : MS w L R N W) (n : Nat) : MS w L R N (W.drewN n) := h.later (below_drewN (Below.refl _ _) n)
theorem MS.alloc (h : MS w L R N W) {p : Nat} (hp : W.heap.size = p) (c : Array Value) (t : TypeId) : MS w ((p, c, t) :: L) R N (W.alloc (.cells c t)) := by
 have hb : Below W.heap.size W (W.alloc (.cells c t)) := (Below.refl _ _).alloc (Nat.le_refl _) _; have h' := h.later hb; refine ⟨fun q hq => ?_, ?_, fun q hq => ?_, h'.below, fun r hr V h1 h2 => ?_, fun r hr V h1 h2 => ?_⟩
 · rcases List.mem_cons.1 hq with rfl | hq
   · rw [hpA, if_pos hp.symm]
   · exact h'.has q hq
 · exact List.Pairwise.cons (fun q hq => by have := h.lt hq; simp only; omega) h.srt
 · rcases List.mem_cons.1 hq with rfl | hq
   · have := h.below.size; simp only; omega
   · exact h.base q hq
 · refine h.reads r hr V (Nat.le_trans hb.size h1) (fun k k1 k2 => (h2 k (by have := hb.size; omega) (fun q hq => ?_)).trans (hb.block k k1))
   rcases List.mem_cons.1 hq with rfl | hq
   · simp only; omega
   · exact k2 q hq
 · refine h.news r hr V (Nat.le_trans hb.size h1) (fun k k0 k1 k2 => (h2 k k0 (by have := hb.size; omega) (fun q hq => ?_)).trans (hb.block k k1))
   rcases List.mem_cons.1 hq with rfl | hq
   · simp only; omega
   · exact k2 q hq
theorem MS.get (h : MS w L R N W) (i : Nat) {q : Nat × Array Value × TypeId} (hq : L[i]? = some q) : W.heap[q.1]? = some (.cells q.2.1 q.2.2 (0, 0)) := h.has q (List.mem_of_getElem? hq)
theorem MS.cel {w W : World} {L : List (Nat × Array Value × TypeId)} {R N : List (World → Prop)} (h : MS w L R N W) (i k : Nat) {p : Nat} {c : Array Value} {t : TypeId} {v : Value} (hq : L[i]? = some (p, c, t)) (hv : c[k]? = some v) : W.cell? ⟨p, k, none⟩ = some v := cAt (h.get i hq) hv
theorem MS.thw {w W : World} {L : List (Nat × Array Value × TypeId)} {R N : List (World → Prop)} (h : MS w L R N W) (i k : Nat) {p : Nat} {c : Array Value} {t : TypeId} (hq : L[i]? = some (p, c, t)) : W.frozen? ⟨p, k, none⟩ = false := by simp [World.frozen?, h.get i hq]
theorem MS.gt {w W : World} {L : List (Nat × Array Value × TypeId)} {R N : List (World → Prop)} (h : MS w L R N W) (i : Nat) {p : Nat} {c : Array Value} {t : TypeId} (hq : L[i]? = some (p, c, t)) : W.heap[p]? = some (.cells c t (0, 0)) := h.get i hq
theorem MS.read (h : MS w L R N W) (i : Nat) {r : World → Prop} (hr : R[i]? = some r) : r W := h.reads r (List.mem_of_getElem? hr) W (Nat.le_refl _) (fun _ _ _ => rfl)
theorem MS.set (h : MS w L R N W) (i : Nat) {g : Nat} {c : Array Value} {t : TypeId} (hq : L[i]? = some (g, c, t)) (c' : Array Value) : MS w (L.set i (g, c', t)) R N (W.setRow g c') := by
 obtain ⟨hi, hLi⟩ := List.getElem?_eq_some_iff.1 hq; have hgL : (g, c, t) ∈ L := List.mem_of_getElem? hq
 have hne : ∀ j (hj : j < L.length), j ≠ i → L[j].1 ≠ g := by
  intro j hj hji e; have hp := List.pairwise_iff_getElem.1 h.srt; rcases Nat.lt_or_gt_of_ne hji with q | q
  · have := hp j i hj hi q
    rw [hLi] at this; simp only at this; omega
  · have := hp i j hi hj q
    rw [hLi] at this; simp only at this; omega
 have hmem : ∀ q ∈ L.set i (g, c', t), (q = (g, c', t)) ∨ (q ∈ L ∧ q.1 ≠ g) := by
  intro q hq'; obtain ⟨j, hj, rfl⟩ := List.mem_iff_getElem.1 hq'; rw [List.length_set] at hj; rw [List.getElem_set]; split
  · exact .inl rfl
  · rename_i hij
    exact .inr ⟨List.getElem_mem _, hne j hj (fun e => hij e.symm)⟩
 have hblk : ∀ q ∈ L, ∃ q' ∈ L.set i (g, c', t), q'.1 = q.1 := by
  intro q hq'; obtain ⟨j, hj, rfl⟩ := List.mem_iff_getElem.1 hq'; refine ⟨(L.set i (g, c', t))[j]'(by rw [List.length_set]; exact hj), List.getElem_mem _, ?_⟩; rw [List.getElem_set]; split
  · rename_i e; subst e; rw [hLi]
  · rfl
 have hoth : ∀ k, (∀ q ∈ L, q.1 ≠ k) → (W.setRow g c').heap[k]? = W.heap[k]? := fun k hk => setRow_other W g k c' (fun e => hk _ hgL e.symm); refine ⟨fun q hq' => ?_, ?_, fun q hq' => ?_, zaZ h.below (h.base _ hgL) _, fun r hr V h1 h2 => ?_, fun r hr V h1 h2 => ?_⟩
 · rcases hmem q hq' with rfl | ⟨hq', hn⟩
   · exact setRow_heap W g _ _ _ _ (h.has _ hgL)
   · exact (setRow_other W g _ c' hn).trans (h.has q hq')
 · rw [List.pairwise_iff_getElem]
   intro a b ha hb hab; rw [List.length_set] at ha hb; have hp := List.pairwise_iff_getElem.1 h.srt a b ha hb hab; rw [List.getElem_set, List.getElem_set]
   have e1 : (if i = a then (g, c', t) else L[a]).1 = L[a].1 := by
    split
    · rename_i e; subst e; rw [hLi]
    · rfl
   have e2 : (if i = b then (g, c', t) else L[b]).1 = L[b].1 := by
    split
    · rename_i e; subst e; rw [hLi]
    · rfl
   rw [e1, e2]; exact hp
 · rcases hmem q hq' with rfl | ⟨hq', -⟩
   · exact h.base (g, c, t) hgL
   · exact h.base q hq'
 · rw [setRow_size] at h1 h2
   exact h.reads r hr V h1 (fun k k1 k2 => (h2 k k1 (fun q hq' => by
    rcases hmem q hq' with rfl | ⟨hq', -⟩
    · exact k2 (g, c, t) hgL
    · exact k2 q hq')).trans (hoth k k2))
 · rw [setRow_size] at h1 h2
   exact h.news r hr V h1 (fun k k0 k1 k2 => (h2 k k0 k1 (fun q hq' => by
    rcases hmem q hq' with rfl | ⟨hq', -⟩
    · exact k2 (g, c, t) hgL
    · exact k2 q hq')).trans (hoth k k2))
theorem MS.cell (h : MS w L R N W) (i : Nat) {g : Nat} {c : Array Value} {t : TypeId} (hq : L[i]? = some (g, c, t)) {k : Nat} {v : Value} {c' : Array Value} (e : c.setIfInBounds k v = c') : MS w (L.set i (g, c', t)) R N (W.setCell ⟨g, k, none⟩ v) := by
 have hb := h.get i hq; simp only at hb; rw [setCell_eq_setRow W g k c t (0, 0) v hb, e]; exact h.set i hq c'
end
def orderB (md : Region.Mode) (ops : Array Oper) : List (Nat × Bool) → Array Bool → Bool
 | [], listed => (Region.ready md ops listed).isEmpty
 | (i, false) :: r, listed => (Region.ready md ops listed).contains i && Region.free md ops listed i && orderB md ops r (listed.setIfInBounds i true)
 | (i, true) :: r, listed => decide (Region.ready md ops listed = [i]) && orderB md ops r (listed.setIfInBounds i true)
def zaT (P : Program) (ops : Array Oper) (Q : Exit → Act → World → Prop) (S : World → Prop) (fin : Bool) : List (Oper × Bool) → Act → World → Prop
 | [], a, w => Q .normal a w
 | (o, false) :: r, a, w => ∃ v, YieldsIf P ops S o v a ∧ zaT P ops Q S fin r (a.put o.dst v) w
 | (o, true) :: r, a, w => if Region.wanted o (yielded ops a.tmps) = true then o.wp P a w (fun a' w' => ((fin = true ∧ r = []) ∨ S w') ∧ zaT P ops Q S fin r a' w') Q else ((fin = true ∧ r = []) ∨ S w) ∧ zaT P ops Q S fin r (a.put o.dst undef) w
def turned (ops : Array Oper) : List (Nat × Bool) → List (Oper × Bool)
 | [] => []
 | (i, b) :: r => match ops[i]? with
   | some o => (o, b) :: turned ops r
   | none => []
section
variable {P : Program} {ops : Array Oper} {Q : Exit → Act → World → Prop} {S : World → Prop} {fin : Bool} {r : List (Oper × Bool)} {o : Oper} {a : Act} {w : World}
theorem tSk (hw : Region.wanted o (yielded ops a.tmps) = false) (h : zaT P ops Q S fin r (a.put o.dst undef) w) : zaT P ops Q S fin ((o, false) :: r) a w := ⟨undef, .inr ⟨hw, rfl⟩, h⟩
theorem tSt (v : Value) (hw : Region.wanted o (yielded ops a.tmps) = true) (hy : ∀ W, S W → (execOp a.eval o).run P W = .ok (.value v) W) (h : zaT P ops Q S fin r (a.put o.dst v) w) : zaT P ops Q S fin ((o, false) :: r) a w := ⟨v, .inl ⟨hw, hy⟩, h⟩
theorem zaw (hw : Region.wanted o (yielded ops a.tmps) = true) (ty : TypeId) (x : Operand) (ho : o.op = .load ty x) (g : Nat) (hx : a.eval x = .pointer (some ⟨g, 0, none⟩)) (t : TypeId) (cs : Array Value) (d : TypeDesc) (hg : ∀ W, S W → W.heap[g]? = some (.cells cs t (0, 0)))
 (hu : P.underlying ty = some d) (hd : (match d with | .struct _ | .array _ _ => true | _ => false) = true) (hi : (P.info? ty).map (·.size) = some cs.size) (h : zaT P ops Q S fin r (a.put o.dst (.agg cs)) w) : zaT P ops Q S fin ((o, false) :: r) a w := by
 refine ⟨.agg cs, .inl ⟨hw, fun W hW => ?_⟩, h⟩; unfold execOp; simp only [ho, hx, Instr.loadAt, Instr.sureAddr, Sem.run_bind, Sem.run_pure, Result.andThen_ok, run_loadVar_row W g t ty cs (0, 0) d (hg W hW) hu hd hi]
theorem turn_part (hw : Region.wanted o (yielded ops a.tmps) = true) (ty : TypeId) (x : Operand) (ho : o.op = .load ty x) (g k : Nat) (hx : a.eval x = .pointer (some ⟨g, k, none⟩)) (t : TypeId) (C : Array Value) (hg : ∀ W, S W → W.heap[g]? = some (.cells C t (0, 0))) (cs : Array Value) (hcs : C.extract k (k + cs.size) = cs) (d : TypeDesc)
 (hu : P.underlying ty = some d) (hd : d.isRow = true) (hi : (P.info? ty).map (·.size) = some cs.size) (h : zaT P ops Q S fin r (a.put o.dst (.agg cs)) w) : zaT P ops Q S fin ((o, false) :: r) a w := by
 refine ⟨.agg cs, .inl ⟨hw, fun W hW => ?_⟩, h⟩; have hr := World.rangeAt_of_block (hg W hW) k cs.size; rw [hcs] at hr; unfold execOp; simp only [ho, hx, Instr.loadAt, Instr.sureAddr, Sem.run_bind, Sem.run_pure, Result.andThen_ok, run_loadVar_mid W g k ty cs.toList d hr hu hd (by simpa using hi)]
theorem tCa (h : ∀ K' : Act → World → Prop, Shut (∀ a w, S w → zaT P ops Q S fin r a w → K' a w) → if Region.wanted o (yielded ops a.tmps) = true then Oper.wp P o a w K' Q else K' (a.put o.dst undef) w) : zaT P ops Q S fin ((o, true) :: r) a w :=
 h (fun a' w' => ((fin = true ∧ r = []) ∨ S w') ∧ zaT P ops Q S fin r a' w') (show ∀ a w, S w → zaT P ops Q S fin r a w → ((fin = true ∧ r = []) ∨ S w) ∧ zaT P ops Q S fin r a w from fun _ _ h1 h2 => ⟨.inr h1, h2⟩)
theorem turn_last (h : ∀ K' : Act → World → Prop, Shut (∀ a w, Q .normal a w → K' a w) → if Region.wanted o (yielded ops a.tmps) = true then Oper.wp P o a w K' Q else K' (a.put o.dst undef) w) : zaT P ops Q S true [(o, true)] a w :=
 h (fun a' w' => ((true = true ∧ ([] : List (Oper × Bool)) = []) ∨ S w') ∧ zaT P ops Q S true [] a' w') (show ∀ a w, Q .normal a w → ((true = true ∧ ([] : List (Oper × Bool)) = []) ∨ S w) ∧ zaT P ops Q S true [] a w from fun _ _ h1 => ⟨.inl ⟨rfl, rfl⟩, h1⟩)
theorem tEn (h : Q .normal a w) : zaT P ops (NoPanic Q) S fin [] a w := NoPanic.normal h
def zbP (P : Program) (ops : Array Oper) (Q : Exit → Act → World → Prop) (S : World → Prop) (last : Nat) : Nat → Array Bool → Act → World → Prop
 | 0, listed, a, w => Region.ready .any ops listed = [] ∧ Q .normal a w
 | n + 1, listed, a, w => (Region.ready .any ops listed = [] → Q .normal a w) ∧ ∀ i ∈ Region.ready .any ops listed, wpOp P ops Q i (fun a' w' => (i = last ∨ S w') ∧ zbP P ops Q S last n (listed.setIfInBounds i true) a' w') a w
theorem any_of_late {last : Nat} : ∀ (n : Nat) (listed : Array Bool) (a : Act) (w : World), zbP P ops Q S last n listed a w → wpAny P .any ops Q n listed a w
 | 0, _, _, _, h => h
 | n + 1, _, _, _, h => ⟨h.1, fun i hi => wpOp_mono (fun _ _ h' => any_of_late n _ _ _ h'.2) (h.2 i hi)⟩
def lastB (ops : Array Oper) (last : Nat) : Bool := decide (ops.size ≤ last) || (List.range ops.size).all (fun k => decide (k = last) || Region.waitsFor .any ops last k)
theorem lastB_spec {last : Nat} (h : lastB ops last = true) {listed : Array Bool} {i : Nat} (hl : last ∈ Region.ready .any ops listed) (hi : i ∈ Region.ready .any ops listed) : i = last := by
 obtain ⟨hi0, oi, hoi, -⟩ := mem_ready.1 hi; obtain ⟨hl0, ol, hol, hall⟩ := mem_ready.1 hl; have hil : i < ops.size := (Array.getElem?_eq_some_iff.1 hoi).1; have hll : last < ops.size := (Array.getElem?_eq_some_iff.1 hol).1; unfold lastB at h; rw [Bool.or_eq_true] at h; rcases h with h | h
 · have := of_decide_eq_true h
   omega
 · have hk := List.all_eq_true.1 h i (List.mem_range.2 hil)
   rw [Bool.or_eq_true] at hk; rcases hk with hk | hk
   · exact of_decide_eq_true hk
   · obtain ⟨o', ho', e, he, hb, hon⟩ := Region.waitsFor_spec hk
     obtain rfl : ol = o' := Option.some.inj (hol.symm.trans ho'); have h1 := hall e he hb; rw [hon] at h1; rw [getD_both hi0] at h1
     cases h1
theorem late_first {i : Nat} {oi : Oper} {v : Value} {last : Nat} (hi : ops[i]? = some oi) (hs : Region.noSelect ops = true) (hil : i ≠ last) (hL : lastB ops last = true) (hQ : ∀ c (a : Act) w, Q (.panic c) (a.put oi.dst v) w → Q (.panic c) a w) :
 ∀ (n : Nat) (listed : Array Bool) (a : Act) (w : World), (∀ j oj, ops[j]? = some oj → j ≠ i → listed.getD j true = false → (∀ e ∈ oj.after, Region.binds .any e = true → e.on ≠ i) → oi.apart ops oj = true) →
   i ∈ Region.ready .any ops listed → YieldsIf P ops S oi v a → S w → zbP P ops Q S last n (listed.setIfInBounds i true) (a.put oi.dst v) w → zbP P ops Q S last (n + 1) listed a w := by
 have hsel := Region.noSelect_spec hs; intro n
 induction n with
 | zero =>
   intro listed a w _ hr hy hS H; refine ⟨fun h => (by rw [h] at hr; cases hr), fun j hj => ?_⟩; by_cases hji : j = i
   · subst hji
     exact hy.wpOp hi hS ⟨.inr hS, H⟩
   · have h0 := ready_mono hj hji
     rw [H.1] at h0
     cases h0
 | succ n ih =>
   intro listed a w hfr hr hy hS H; refine ⟨fun h => (by rw [h] at hr; cases hr), fun j hj => ?_⟩; by_cases hji : j = i
   · subst hji
     exact hy.wpOp hi hS ⟨.inr hS, H⟩
   · have hjl : j ≠ last := fun e => hil (lastB_spec hL (e ▸ hj) hr)
     have h1 := H.2 j (ready_mono hj hji); obtain ⟨hj0, oj, hoj, hall⟩ := mem_ready.1 hj
     have hnw : ∀ e ∈ oj.after, Region.binds .any e = true → e.on ≠ i := by
      intro e he hb hon; have h2 := hall e he hb; rw [hon, getD_both (mem_ready.1 hr).1] at h2
      cases h2
     have h2 := wpOp_putIf hoj (hfr j oj hoj hji hj0 hnw) (fun cs b => hsel i oi cs b hi) (fun cs b => hsel j oj cs b hoj) hQ hy h1; refine wpOp_mono (fun a' w' h3 => ?_) h2; have hS' : S w' := h3.2.1.resolve_left hjl; refine ⟨.inr hS', ih _ a' w' (fun k ok hk hki hun hno => hfr k ok hk hki ?_ hno) (ready_mono hr (Ne.symm hji)) h3.1 hS' ?_⟩
     · by_cases hjk : j = k
       · subst hjk
         exact hj0
       · rw [getD_set_ne true hjk] at hun
         exact hun
     · rw [Array.setIfInBounds_comm _ _ hji]
       exact h3.2.2
theorem zbJ {last : Nat} (hs : Region.noSelect ops = true) (hL : lastB ops last = true) (hQ : ∀ c (a : Act) d v w, Q (.panic c) (a.put d v) w → Q (.panic c) a w) : ∀ (order : List (Nat × Bool)) (listed : Array Bool) (a : Act) (w : World), (∀ p ∈ order, p.1 < ops.size ∧ (p.2 = false → p.1 ≠ last)) →
 (fin = true → ∀ p, order.getLast? = some p → p.1 = last) → orderB .any ops order listed = true → (order = [] ∨ S w) → zaT P ops Q S fin (turned ops order) a w → zbP P ops Q S last order.length listed a w
 | [], listed, a, w, _, _, hB, _, h => ⟨by simpa [orderB] using hB, h⟩
 | (i, b) :: l, listed, a, w, hlt, hfl, hB, hS, h => by
   have hi : i < ops.size := (hlt (i, b) (by simp)).1
   have hoi : ops[i]? = some ops[i] := Array.getElem?_eq_getElem hi
   have hlt' : ∀ p ∈ l, p.1 < ops.size ∧ (p.2 = false → p.1 ≠ last) := fun p hp => hlt p (by simp [hp])
   have hfl' : fin = true → ∀ p, l.getLast? = some p → p.1 = last := fun hf p hp => hfl hf p (by
    cases l with
    | nil => cases hp
    | cons x t => rw [List.getLast?_cons_cons]; exact hp)
   have hS0 : S w := hS.resolve_left (by simp)
   unfold turned at h
   rw [hoi] at h
   simp only at h
   have hnil : turned ops l = [] → l = [] := by
    intro e
    cases l with
    | nil => rfl
    | cons x t =>
      have hx := (hlt' x (by simp)).1; unfold turned at e; rw [Array.getElem?_eq_getElem hx] at e
      cases e
   cases b with
   | false =>
     simp only [orderB, Bool.and_eq_true] at hB; obtain ⟨v, hy, hK⟩ := h; exact late_first hoi hs ((hlt (i, false) (by simp)).2 rfl) hL (fun c a w => hQ c a _ _ w) l.length listed a w (Region.free_spec hoi hB.1.2) (by simpa using hB.1.1) hy hS0 (zbJ hs hL hQ l _ _ _ hlt' hfl' hB.2 (.inr hS0) hK)
   | true =>
     simp only [orderB, Bool.and_eq_true, decide_eq_true_eq] at hB; refine ⟨fun e => (by rw [hB.1] at e; cases e), fun j hj => ?_⟩; rw [hB.1] at hj; obtain rfl : j = i := by simpa using hj
     have hgo : ∀ a w, ((fin = true ∧ turned ops l = []) ∨ S w) ∧ zaT P ops Q S fin (turned ops l) a w → (j = last ∨ S w) ∧ zbP P ops Q S last l.length (listed.setIfInBounds j true) a w := by
      rintro a w ⟨h1, h2⟩; rcases h1 with ⟨hf, hn⟩ | h1
      · have hl := hnil hn
        subst hl; exact ⟨.inl (hfl hf (j, true) rfl), zbJ hs hL hQ [] _ _ _ hlt' hfl' hB.2 (.inl rfl) h2⟩
      · exact ⟨.inr h1, zbJ hs hL hQ l _ _ _ hlt' hfl' hB.2 (.inr h1) h2⟩
     unfold zaT at h; unfold wpOp; rw [hoi]; simp only; split
     · rename_i hw
       rw [if_pos hw] at h; exact .inl (Oper.wp_mono hgo h)
     · rename_i hw
       rw [if_neg hw] at h; exact hgo _ _ h
def mayTurn (ops : Array Oper) (order : List (Nat × Bool)) (fin : Bool) (last : Nat) : Bool :=
 Region.noSelect ops && decide (order.length = ops.size) && order.all (fun p => decide (p.1 < ops.size) && (p.2 || decide (p.1 ≠ last))) && orderB .any ops order (Array.replicate ops.size false) && lastB ops last && (!fin || decide (order.getLast?.map (·.1) = some last))
theorem rTu {id : Nat} (order : List (Nat × Bool)) (fin : Bool) (last : Nat) (hm : P.follows .mixedOrders = true) (hB : mayTurn ops order fin last = true)
 (hS : S w.drew) (h : zaT P ops (NoPanic Q) S fin (turned ops order) a w.drew) : (Code.region id ops true).wp P Q a w := by
 simp only [mayTurn, Bool.and_eq_true, decide_eq_true_eq] at hB; obtain ⟨⟨⟨⟨⟨h1, h2⟩, h3⟩, h4⟩, h5⟩, h6⟩ := hB; refine wp_region_noPanic (wp_region_any hm (any_of_late (Q := NoPanic Q) (S := S) (last := last) _ _ _ _ ?_)); have hh := zbJ (Q := NoPanic Q) (S := S) (fin := fin) h1 h5 (fun _ _ _ _ _ h => h) order (Array.replicate ops.size false) a w.drew (fun p hp => ?_) (fun hf p hp => ?_) h4 (.inr hS) h
 · rwa [h2] at hh
 · have := List.all_eq_true.1 h3 p hp
   simp only [Bool.and_eq_true, decide_eq_true_eq, Bool.or_eq_true] at this; exact ⟨this.1, fun q => this.2.resolve_left (by rw [q]; simp)⟩
 · subst hf
   simp only [Bool.not_true, Bool.false_or, decide_eq_true_eq] at h6; rw [hp] at h6
   simpa using h6
end
inductive Way where
 | done
 | one (i : Nat) (r : Way)
 | call (i : Nat) (r : Way)
 | fork (i : Nat) (r : Way) (j : Nat) (s : Way)
inductive WayO where
 | done
 | one (o : Oper) (r : WayO)
 | call (o : Oper) (r : WayO)
 | fork (o : Oper) (r : WayO) (q : Oper) (s : WayO)
def Way.len : Way → Nat
 | .done => 0
 | .one _ r => r.len + 1
 | .call _ r => r.len + 1
 | .fork _ r _ _ => r.len + 1
def wayB (ops : Array Oper) : Way → Array Bool → Bool
 | .done, listed => (Region.ready .any ops listed).isEmpty
 | .one i r, listed => (Region.ready .any ops listed).contains i && Region.free .any ops listed i && wayB ops r (listed.setIfInBounds i true)
 | .call i r, listed => decide (Region.ready .any ops listed = [i]) && wayB ops r (listed.setIfInBounds i true)
 | .fork i r j s, listed => decide (Region.ready .any ops listed = [i, j]) && wayB ops r (listed.setIfInBounds i true) && wayB ops s (listed.setIfInBounds j true) && decide (r.len = s.len)
def laid (ops : Array Oper) : Way → WayO
 | .done => .done
 | .one i r => .one (ops.getD i default) (laid ops r)
 | .call i r => .call (ops.getD i default) (laid ops r)
 | .fork i r j s => .fork (ops.getD i default) (laid ops r) (ops.getD j default) (laid ops s)
def zbs (P : Program) (ops : Array Oper) (Q : Exit → Act → World → Prop) : WayO → (World → Prop) → Act → World → Prop
 | .done, _, a, w => Q .normal a w
 | .one o r, S, a, w => ∃ v, YieldsIf P ops S o v a ∧ zbs P ops Q r S (a.put o.dst v) w
 | .call o r, S, a, w => if Region.wanted o (yielded ops a.tmps) = true then o.wp P a w (fun a' w' => ∃ S' : World → Prop, (∀ W, S' W → S W) ∧ S' w' ∧ zbs P ops Q r S' a' w') Q else S w ∧ zbs P ops Q r S (a.put o.dst undef) w
 | .fork o r q s, S, a, w => (if Region.wanted o (yielded ops a.tmps) = true then o.wp P a w (fun a' w' => ∃ S' : World → Prop, (∀ W, S' W → S W) ∧ S' w' ∧ zbs P ops Q r S' a' w') Q else S w ∧ zbs P ops Q r S (a.put o.dst undef) w) ∧
  (if Region.wanted q (yielded ops a.tmps) = true then q.wp P a w (fun a' w' => ∃ S' : World → Prop, (∀ W, S' W → S W) ∧ S' w' ∧ zbs P ops Q s S' a' w') Q else S w ∧ zbs P ops Q s S (a.put q.dst undef) w)
section
variable {P : Program} {ops : Array Oper} {Q : Exit → Act → World → Prop} {S : World → Prop} {r s : WayO} {o q : Oper} {a : Act} {w : World}
theorem ySt (v : Value) (hw : Region.wanted o (yielded ops a.tmps) = true) (hy : ∀ W, S W → (execOp a.eval o).run P W = .ok (.value v) W) (h : zbs P ops Q r S (a.put o.dst v) w) : zbs P ops Q (.one o r) S a w := ⟨v, .inl ⟨hw, hy⟩, h⟩
theorem yCa (hw : Region.wanted o (yielded ops a.tmps) = true) (h : ∀ K' : Act → World → Prop, Shut (∀ a w (S' : World → Prop), (∀ W, S' W → S W) → S' w → zbs P ops Q r S' a w → K' a w) → Oper.wp P o a w K' Q) : zbs P ops Q (.call o r) S a w := by
 unfold zbs; rw [if_pos hw]; exact h _ (show ∀ a w (S' : World → Prop), (∀ W, S' W → S W) → S' w → zbs P ops Q r S' a w → ∃ S' : World → Prop, (∀ W, S' W → S W) ∧ S' w ∧ zbs P ops Q r S' a w from fun _ _ S' h1 h2 h3 => ⟨S', h1, h2, h3⟩)
theorem way_fork (h1 : zbs P ops Q (.call o r) S a w) (h2 : zbs P ops Q (.call q s) S a w) : zbs P ops Q (.fork o r q s) S a w := ⟨h1, h2⟩
theorem way_end (h : Q .normal a w) : zbs P ops (NoPanic Q) .done S a w := NoPanic.normal h
theorem late_imp {last : Nat} {S' : World → Prop} (hi : ∀ W, S' W → S W) : ∀ (n : Nat) (listed : Array Bool) (a : Act) (w : World), zbP P ops Q S' last n listed a w → zbP P ops Q S last n listed a w
 | 0, _, _, _, h => h
 | n + 1, _, _, _, h => ⟨h.1, fun i hr => wpOp_mono (fun _ _ h' => ⟨h'.1.imp id (hi _), late_imp hi n _ _ _ h'.2⟩) (h.2 i hr)⟩
theorem late_call {i : Nat} {n : Nat} {listed : Array Bool} {last : Nat} {R : WayO} (hi : i < ops.size) (h : zbs P ops Q (.call (ops.getD i default) R) S a w)
 (hgo : ∀ a w (S' : World → Prop), S' w → zbs P ops Q R S' a w → zbP P ops Q S' last n (listed.setIfInBounds i true) a w) : wpOp P ops Q i (fun a' w' => (i = last ∨ S w') ∧ zbP P ops Q S last n (listed.setIfInBounds i true) a' w') a w := by
 have hoi : ops[i]? = some (ops.getD i default) := by simp [Array.getD, hi]
 generalize ops.getD i default = o at h hoi; unfold zbs at h; unfold wpOp; rw [hoi]; simp only
 have hg2 : ∀ a w, (∃ S' : World → Prop, (∀ W, S' W → S W) ∧ S' w ∧ zbs P ops Q R S' a w) → (i = last ∨ S w) ∧ zbP P ops Q S last n (listed.setIfInBounds i true) a w := by
  rintro a w ⟨S', h1, h2, h3⟩; exact ⟨.inr (h1 _ h2), late_imp h1 _ _ _ _ (hgo a w S' h2 h3)⟩
 split
 · rename_i hw
   rw [if_pos hw] at h; exact .inl (Oper.wp_mono hg2 h)
 · rename_i hw
   rw [if_neg hw] at h; exact hg2 _ _ ⟨S, fun _ h => h, h.1, h.2⟩
theorem zbB (hs : Region.noSelect ops = true) (hQ : ∀ c (a : Act) d v w, Q (.panic c) (a.put d v) w → Q (.panic c) a w) : ∀ (t : Way) (S : World → Prop) (listed : Array Bool) (a : Act) (w : World),
 wayB ops t listed = true → S w → zbs P ops Q (laid ops t) S a w → zbP P ops Q S ops.size t.len listed a w
 | .done, S, listed, a, w, hB, _, h => ⟨by simpa [wayB] using hB, h⟩
 | .one i r, S, listed, a, w, hB, hS, h => by
   simp only [wayB, Bool.and_eq_true] at hB
   have hr : i ∈ Region.ready .any ops listed := by simpa using hB.1.1
   obtain ⟨-, oi, hoi, -⟩ := mem_ready.1 hr
   have hi : i < ops.size := (Array.getElem?_eq_some_iff.1 hoi).1
   have hoi : ops[i]? = some (ops.getD i default) := by simp [Array.getD, hi]
   obtain ⟨v, hy, hK⟩ := h
   exact late_first hoi hs (Nat.ne_of_lt hi) (by simp [lastB]) (fun c a w => hQ c a _ _ w) r.len listed a w (Region.free_spec hoi hB.1.2) hr hy hS (zbB hs hQ r S _ _ _ hB.2 hS hK)
 | .call i r, S, listed, a, w, hB, hS, h => by
   simp only [wayB, Bool.and_eq_true, decide_eq_true_eq] at hB
   refine ⟨fun e => (by rw [hB.1] at e; cases e), fun j hj => ?_⟩
   obtain ⟨-, oi, hoi, -⟩ := mem_ready.1 hj
   have hi : j < ops.size := (Array.getElem?_eq_some_iff.1 hoi).1
   rw [hB.1] at hj
   obtain rfl : j = i := by simpa using hj
   exact late_call hi h (fun a w S' h1 h2 => zbB hs hQ r S' _ a w hB.2 h1 h2)
 | .fork i r j s, S, listed, a, w, hB, hS, h => by
   simp only [wayB, Bool.and_eq_true, decide_eq_true_eq] at hB
   obtain ⟨⟨⟨hB1, hB2⟩, hB3⟩, hB4⟩ := hB
   refine ⟨fun e => (by rw [hB1] at e; cases e), fun k hk => ?_⟩
   obtain ⟨-, oi, hoi, -⟩ := mem_ready.1 hk
   have hi : k < ops.size := (Array.getElem?_eq_some_iff.1 hoi).1
   rw [hB1] at hk
   rcases (show k = i ∨ k = j by simpa using hk) with rfl | rfl
   · exact late_call hi h.1 (fun a w S' h1 h2 => zbB hs hQ r S' _ a w hB2 h1 h2)
   · refine late_call hi h.2 (fun a w S' h1 h2 => ?_)
     show zbP P ops Q S' ops.size r.len _ a w
     rw [hB4]
     exact zbB hs hQ s S' _ a w hB3 h1 h2
def mayWay (ops : Array Oper) (t : Way) : Bool := Region.noSelect ops && decide (t.len = ops.size) && wayB ops t (Array.replicate ops.size false)
theorem wp_region_way {id : Nat} (t : Way) (hm : P.follows .mixedOrders = true) (hB : mayWay ops t = true) (hS : S w.drew) (h : zbs P ops (NoPanic Q) (laid ops t) S a w.drew) : (Code.region id ops true).wp P Q a w := by
 simp only [mayWay, Bool.and_eq_true, decide_eq_true_eq] at hB; obtain ⟨⟨h1, h2⟩, h3⟩ := hB; refine wp_region_noPanic (wp_region_any hm (any_of_late (Q := NoPanic Q) (S := S) (last := ops.size) _ _ _ _ ?_)); have hh := zbB (Q := NoPanic Q) h1 (fun _ _ _ _ _ h => h) t S (Array.replicate ops.size false) a w.drew h3 hS h
 rwa [h2] at hh
end
end Go.Proofs.YtnnmpoknghbdnacGreat
namespace Go.Proofs.YtnnmpoknghbdnacGreat
structure ChR where
 fr : Int
 to_ : Int
 n : Int
 of_ : Int
 data : List Int
instance : Inhabited ChR := ⟨⟨0, 0, 0, 0, []⟩⟩
theorem ChR.eq_iff (a b : ChR) : a = b ↔ a.fr = b.fr ∧ a.to_ = b.to_ ∧ a.n = b.n ∧ a.of_ = b.of_ ∧ a.data = b.data := by
 obtain ⟨a1, a2, a3, a4, a5⟩ := a; obtain ⟨b1, b2, b3, b4, b5⟩ := b; simp
instance : DecidableEq ChR := fun a b => decidable_of_iff _ (ChR.eq_iff a b).symm
def ChR.I (r : ChR) : Prop := I64 r.fr ∧ I64 r.to_ ∧ I64 r.n ∧ I64 r.of_
end Go.Proofs.YtnnmpoknghbdnacGreat
namespace Go.Proofs.YtnnmpoknghbdnacGreat.ChunkM
def badNums (c : ChR) : Prop := ¬ (1 ≤ c.fr ∧ c.fr ≤ 30) ∨ ¬ (1 ≤ c.to_ ∧ c.to_ ≤ 30) ∨ ¬ (1 ≤ c.of_ ∧ c.of_ ≤ 52) ∨ c.n < 0 ∨ c.of_ ≤ c.n
instance (c : ChR) : Decidable (badNums c) := by unfold badNums; infer_instance
def least (c : ChR) : Int := if c.n = c.of_ - 1 then 1 else 16
def check (c : ChR) : Int := if badNums c then 2 else if ¬ (least c ≤ (c.data.length : Int) ∧ (c.data.length : Int) ≤ 16) then 3 else 0
def kin (a b : ChR) : Prop := a.fr = b.fr ∧ a.to_ = b.to_ ∧ a.of_ = b.of_
instance (a b : ChR) : Decidable (kin a b) := by unfold kin; infer_instance
def chks (z : ChR) : List ChR → Int → Int
 | [], _ => 0
 | c :: t, last => if check c ≠ 0 then check c else if ¬ kin c z ∨ c.n ≤ last then 3 else chks z t c.n
def checks : List ChR → Int
 | [] => 0
 | c :: t => chks c (c :: t) (-1)
theorem chks_bad {z c : ChR} {t : List ChR} {last : Int} (h : check c ≠ 0) : chks z (c :: t) last = check c := by simp [chks, h]
theorem chks_form {z c : ChR} {t : List ChR} {last : Int} (h : check c = 0) (h2 : ¬ kin c z ∨ c.n ≤ last) : chks z (c :: t) last = 3 := by simp [chks, h, h2]
theorem chks_on {z c : ChR} {t : List ChR} {last : Int} (h : check c = 0) (h2 : kin c z) (h3 : ¬ c.n ≤ last) : chks z (c :: t) last = chks z t c.n := by simp [chks, h, h2, h3]
theorem check_last {c : ChR} (h : ¬ badNums c) (h2 : c.n = c.of_ - 1) : check c = if ¬ (1 ≤ (c.data.length : Int) ∧ (c.data.length : Int) ≤ 16) then 3 else 0 := by
 unfold check; rw [if_neg h, show least c = 1 by unfold least; rw [if_pos h2]]
theorem check_mid {c : ChR} (h : ¬ badNums c) (h2 : ¬ c.n = c.of_ - 1) : check c = if ¬ (16 ≤ (c.data.length : Int) ∧ (c.data.length : Int) ≤ 16) then 3 else 0 := by
 unfold check; rw [if_neg h, show least c = 16 by unfold least; rw [if_neg h2]]
theorem check_good {c : ChR} (h : check c = 0) : (1 ≤ c.fr ∧ c.fr ≤ 30) ∧ (1 ≤ c.to_ ∧ c.to_ ≤ 30) ∧ (1 ≤ c.of_ ∧ c.of_ ≤ 52) ∧ (0 ≤ c.n ∧ c.n < c.of_) ∧ 1 ≤ c.data.length ∧ c.data.length ≤ 16 ∧ (c.n ≠ c.of_ - 1 → c.data.length = 16) := by
 unfold check at h; by_cases h1 : badNums c
 · rw [if_pos h1] at h; omega
 · rw [if_neg h1] at h
   by_cases h2 : ¬ (least c ≤ (c.data.length : Int) ∧ (c.data.length : Int) ≤ 16)
   · rw [if_pos h2] at h; omega
   · unfold badNums at h1
     unfold least at h2; by_cases h3 : c.n = c.of_ - 1
     · rw [if_pos h3] at h2; omega
     · rw [if_neg h3] at h2; omega
end Go.Proofs.YtnnmpoknghbdnacGreat.ChunkM
namespace Go.Proofs.YtnnmpoknghbdnacGreat
open Go.RowKit
structure PatR where
 from_ : Int
 to_ : Int
 old : Int
 new : Int
 size : Int
 ops : List OpR
instance : Inhabited PatR := ⟨⟨0, 0, 0, 0, 0, []⟩⟩
def PV (w : World) (v : Value) (p : PatR) : Prop :=
 ∃ a n c, v = .agg #[.int .i64 p.from_, .int .i64 p.to_, .int .i64 p.old, .int .i64 p.new, .int .i64 p.size, .slice a n c] ∧ OS w a n c p.ops ∧ I64 p.from_ ∧ I64 p.to_ ∧ I64 p.old ∧ I64 p.new ∧ I64 p.size
theorem PV.later {w w' : World} {v : Value} {p : PatR} (h : PV w v p) (hb : Below w.heap.size w w') : PV w' v p := by
 obtain ⟨a, n, c, h1, h2, h3⟩ := h; exact ⟨a, n, c, h1, h2.later hb, h3⟩
def zap : PatR := ⟨0, 0, 0, 0, 0, []⟩
section
variable {H : Type} {enc : TypeId × Value → H} {w : World} {sp : Nat → Bool} {held : Bool}
end
end Go.Proofs.YtnnmpoknghbdnacGreat
namespace Go.Proofs.YtnnmpoknghbdnacGreat.DeltaM
def size (o : OpR) : Int := o.len + o.data.length
def badForm (o : OpR) : Prop := (o.len = 0 ∧ (o.at_ ≠ 0 ∨ ¬ (1 ≤ (o.data.length : Int) ∧ (o.data.length : Int) ≤ 64))) ∨ (o.len ≠ 0 ∧ (o.data.length : Int) ≠ 0)
def bdR (old : Int) (o : OpR) : Prop := o.len < 0 ∨ o.at_ < 0 ∨ old < o.at_ + o.len
instance (o : OpR) : Decidable (badForm o) := by unfold badForm; infer_instance
instance (old : Int) (o : OpR) : Decidable (bdR old o) := by unfold bdR; infer_instance
def chk (old size_ : Int) : List OpR → Int → Int
 | [], made => if made < size_ then 3 else 0
 | o :: t, made => if badForm o then 3 else if bdR old o then 2 else if size_ < made + size o then 1 else chk old size_ t (made + size o)
def check (l : List OpR) (old size_ : Int) : Int :=
 if 40 < l.length ∨ ¬ (0 ≤ old ∧ old ≤ 64) ∨ ¬ (0 ≤ size_ ∧ size_ ≤ 64) then 1 else chk old size_ l 0
theorem chk_form {old s made : Int} {o : OpR} {t : List OpR} (h : badForm o) : chk old s (o :: t) made = 3 := by simp [chk, h]
theorem chk_range {old s made : Int} {o : OpR} {t : List OpR} (h : ¬ badForm o) (h2 : bdR old o) : chk old s (o :: t) made = 2 := by simp [chk, h, h2]
theorem chk_many {old s made : Int} {o : OpR} {t : List OpR} (h : ¬ badForm o) (h2 : ¬ bdR old o) (h3 : s < made + size o) : chk old s (o :: t) made = 1 := by simp [chk, h, h2, h3]
theorem chk_on {old s made : Int} {o : OpR} {t : List OpR} (h : ¬ badForm o) (h2 : ¬ bdR old o) (h3 : ¬ s < made + size o) : chk old s (o :: t) made = chk old s t (made + size o) := by simp [chk, h, h2, h3]
end Go.Proofs.YtnnmpoknghbdnacGreat.DeltaM
namespace Go.Proofs.YtnnmpoknghbdnacGreat.DeltaM
def part (old : List Int) (o : OpR) : List Int := (old.drop o.at_.toNat).take o.len.toNat
def makes (old : List Int) : List OpR → List Int
 | [] => []
 | o :: t => o.data ++ (part old o ++ makes old t)
def Good (old : Int) (l : List OpR) : Prop := ∀ o ∈ l, ¬ badForm o ∧ ¬ bdR old o
def total : List OpR → Int
 | [] => 0
 | o :: t => size o + total t
theorem chk_zero {old s : Int} : ∀ {l : List OpR} {made : Int}, chk old s l made = 0 → made ≤ s → Good old l ∧ made + total l = s
 | [], made, h, hm => by
   unfold chk at h
   split at h
   · omega
   · exact ⟨fun o ho => by simp at ho, by unfold total; omega⟩
 | o :: t, made, h, hm => by
   by_cases h1 : badForm o
   · rw [chk_form h1] at h; omega
   · by_cases h2 : bdR old o
     · rw [chk_range h1 h2] at h; omega
     · by_cases h3 : s < made + size o
       · rw [chk_many h1 h2 h3] at h; omega
       · rw [chk_on h1 h2 h3] at h
         obtain ⟨g, e⟩ := chk_zero h (by omega)
         refine ⟨fun o' ho => ?_, by unfold total; omega⟩
         rcases List.mem_cons.1 ho with rfl | ho
         · exact ⟨h1, h2⟩
         · exact g o' ho
theorem good_len {old : Int} {o : OpR} (h : ¬ bdR old o) : 0 ≤ o.len ∧ 0 ≤ o.at_ ∧ o.at_ + o.len ≤ old := by unfold bdR at h; omega
theorem check_zero {l : List OpR} {old s : Int} (h : check l old s = 0) : l.length ≤ 40 ∧ 0 ≤ old ∧ old ≤ 64 ∧ 0 ≤ s ∧ s ≤ 64 ∧ Good old l ∧ total l = s := by
 unfold check at h; split at h
 · omega
 · obtain ⟨g, e⟩ := chk_zero h (by omega)
   refine ⟨by omega, by omega, by omega, by omega, by omega, g, by omega⟩
theorem part_length {old : List Int} {o : OpR} (h : ¬ bdR old.length o) : ((part old o).length : Int) = o.len := by
 have := good_len h; unfold part; rw [List.length_take, List.length_drop]; omega
theorem makes_length {old : List Int} : ∀ {l : List OpR}, Good old.length l → ((makes old l).length : Int) = total l
 | [], _ => rfl
 | o :: t, h => by
   have h1 := part_length (h o (by simp)).2
   have h2 := makes_length (old := old) (l := t) (fun o' ho => h o' (by simp [ho]))
   unfold makes total size
   simp only [List.length_append]
   omega
def applied (old : List Int) (l : List OpR) (s : Int) : List Int := if check l old.length s = 0 then makes old l else []
theorem makes_bytes {old : List Int} (ho : ∀ v ∈ old, 0 ≤ v ∧ v ≤ 255) : ∀ {l : List OpR}, (∀ o ∈ l, ∀ v ∈ o.data, 0 ≤ v ∧ v ≤ 255) → ∀ v ∈ makes old l, 0 ≤ v ∧ v ≤ 255
 | [], _, v, hv => by simp [makes] at hv
 | o :: t, h, v, hv => by
   unfold makes at hv
   rcases List.mem_append.1 hv with hv | hv
   · exact h o (by simp) v hv
   · rcases List.mem_append.1 hv with hv | hv
     · exact ho v (List.mem_of_mem_drop (List.mem_of_mem_take hv))
     · exact makes_bytes ho (fun o' ho' => h o' (by simp [ho'])) v hv
end Go.Proofs.YtnnmpoknghbdnacGreat.DeltaM
namespace Go.Proofs.YtnnmpoknghbdnacGreat
open Go.RowKit
namespace PatM
def badHead (p : PatR) : Prop := ¬ (1 ≤ p.from_ ∧ p.from_ ≤ 30) ∨ ¬ (1 ≤ p.to_ ∧ p.to_ ≤ 30) ∨ ¬ (0 ≤ p.old ∧ p.old ≤ 65535) ∨ ¬ (0 ≤ p.new ∧ p.new ≤ 65535)
instance (p : PatR) : Decidable (badHead p) := by unfold badHead; infer_instance
def check (p : PatR) : Int := if badHead p then 2 else DeltaM.check p.ops 64 p.size
theorem eq_iff (a b : PatR) : a = b ↔ a.from_ = b.from_ ∧ a.to_ = b.to_ ∧ a.old = b.old ∧ a.new = b.new ∧ a.size = b.size ∧ a.ops = b.ops := by
 obtain ⟨a1, a2, a3, a4, a5, a6⟩ := a; obtain ⟨b1, b2, b3, b4, b5, b6⟩ := b; simp
instance : DecidableEq PatR := fun a b => decidable_of_iff _ (eq_iff a b).symm
end PatM
end Go.Proofs.YtnnmpoknghbdnacGreat
namespace Go.Proofs.YtnnmpoknghbdnacGreat.MatchM
def ag : List Int → List Int → Nat
 | x :: xs, y :: ys => if x = y then ag xs ys + 1 else 0
 | _, _ => 0
theorem ag_nil_l (y : List Int) : ag [] y = 0 := by cases y <;> rfl
theorem ag_nil_r (x : List Int) : ag x [] = 0 := by cases x <;> rfl
theorem ag_le_l : ∀ x y : List Int, ag x y ≤ x.length
 | [], y => by simp [ag_nil_l]
 | x :: xs, [] => by simp [ag_nil_r]
 | x :: xs, y :: ys => by
   have := ag_le_l xs ys
   simp only [ag, List.length_cons]
   split <;> omega
theorem ag_le_r : ∀ x y : List Int, ag x y ≤ y.length
 | [], y => by simp [ag_nil_l]
 | x :: xs, [] => by simp [ag_nil_r]
 | x :: xs, y :: ys => by
   have := ag_le_r xs ys
   simp only [ag, List.length_cons]
   split <;> omega
theorem le_ag : ∀ (n : Nat) (x y : List Int), n ≤ ag x y ↔ (n ≤ y.length ∧ y.take n <+: x)
 | 0, x, y => by simp
 | n + 1, [], y => by cases y <;> simp [ag]
 | n + 1, x :: xs, [] => by simp [ag]
 | n + 1, x :: xs, y :: ys => by
   have := le_ag n xs ys
   simp only [ag, List.length_cons, List.take_succ_cons, List.cons_prefix_cons]
   split
   · rename_i e
     subst e
     constructor
     · intro h
       have := this.1 (by omega)
       exact ⟨by omega, rfl, this.2⟩
     · rintro ⟨h1, -, h2⟩
       have := this.2 ⟨by omega, h2⟩
       omega
   · rename_i e
     constructor
     · intro h; omega
     · rintro ⟨_, h, _⟩; exact absurd h.symm e
structure Best (old s : List Int) (i n : Nat) : Prop where
 all : ∀ j, ag (old.drop j) s ≤ n
 ahead : ∀ j, j < i → ag (old.drop j) s < n
 here : ag (old.drop i) s = n
theorem Best.det {old s : List Int} {i n i' n' : Nat} (h : Best old s i n) (h' : Best old s i' n') : i = i' ∧ n = n' := by
 have e : n = n' := by
  have h1 := h.all i'; have h2 := h'.all i; rw [h'.here] at h1; rw [h.here] at h2; omega
 subst e; refine ⟨?_, rfl⟩; rcases Nat.lt_trichotomy i i' with hlt | rfl | hlt
 · have := h'.ahead i hlt
   rw [h.here] at this; omega
 · rfl
 · have := h.ahead i' hlt
   rw [h'.here] at this; omega
theorem Best.zero {old s : List Int} {i : Nat} (h : Best old s i 0) : i = 0 := by
 rcases Nat.eq_zero_or_pos i with h0 | h0
 · exact h0
 · have := h.ahead 0 h0
   omega
theorem Best.room {old s : List Int} {i n : Nat} (h : Best old s i n) : i + n ≤ old.length ∧ n ≤ s.length := by
 have h1 := ag_le_l (old.drop i) s; have h2 := ag_le_r (old.drop i) s; rw [h.here] at h1 h2; refine ⟨?_, h2⟩; rcases Nat.eq_zero_or_pos n with h0 | h0
 · subst h0
   have := h.zero; omega
 · simp at h1
   omega
theorem Best.none_ {old s : List Int} (h : ∀ j, j < old.length → ag (old.drop j) s ≤ 0) : Best old s 0 0 := by
 have hall : ∀ j, ag (old.drop j) s ≤ 0 := by
  intro j; rcases Nat.lt_or_ge j old.length with hj | hj
  · exact h j hj
  · rw [List.drop_eq_nil_of_le hj, ag_nil_l]; exact Nat.le_refl _
 exact ⟨hall, fun j hj => absurd hj (by omega), by have := hall 0; omega⟩
structure Upto (old s : List Int) (k i n : Nat) : Prop where
 all : ∀ j, j < k → ag (old.drop j) s ≤ n
 ahead : ∀ j, j < i → ag (old.drop j) s < n
 here : n ≠ 0 → ag (old.drop i) s = n
 zero : n = 0 → i = 0
theorem Upto.start (old s : List Int) : Upto old s 0 0 0 := ⟨fun j hj => absurd hj (by omega), fun j hj => absurd hj (by omega), fun h => absurd rfl h, fun _ => rfl⟩
theorem Upto.more {old s : List Int} {k i n : Nat} (h : Upto old s k i n) (hn : n < ag (old.drop k) s) : Upto old s (k + 1) k (ag (old.drop k) s) := by
 refine ⟨fun j hj => ?_, fun j hj => ?_, fun _ => rfl, fun h => by omega⟩
 · rcases Nat.lt_or_ge j k with hj' | hj'
   · have := h.all j hj'
     omega
   · obtain rfl : j = k := by omega
     exact Nat.le_refl _
 · have := h.all j hj
   omega
theorem Upto.best {old s : List Int} {i n : Nat} (h : Upto old s old.length i n) : Best old s i n := by
 have hall : ∀ j, ag (old.drop j) s ≤ n := by
  intro j; rcases Nat.lt_or_ge j old.length with hj | hj
  · exact h.all j hj
  · rw [List.drop_eq_nil_of_le hj, ag_nil_l]; exact Nat.zero_le _
 refine ⟨hall, h.ahead, ?_⟩; rcases Nat.eq_zero_or_pos n with h0 | h0
 · subst h0
   have := hall i; omega
 · exact h.here (by omega)
theorem ofNat_inj {x y : Int} (hx : 0 ≤ x ∧ x ≤ 255) (hy : 0 ≤ y ∧ y ≤ 255) (h : UInt8.ofNat x.toNat = UInt8.ofNat y.toNat) : x = y := by
 have := congrArg UInt8.toNat h; simp only [UInt8.toNat_ofNat'] at this; omega
theorem bytesOf_prefix : ∀ (x y : List Int), (∀ v ∈ x, 0 ≤ v ∧ v ≤ 255) → (∀ v ∈ y, 0 ≤ v ∧ v ≤ 255) → (Lib.bytesOf x <+: Lib.bytesOf y ↔ x <+: y)
 | [], y, _, _ => by simp [Lib.bytesOf]
 | x :: xs, [], _, _ => by simp [Lib.bytesOf]
 | x :: xs, y :: ys, hx, hy => by
   have ih := bytesOf_prefix xs ys (fun v hv => hx v (by simp [hv])) (fun v hv => hy v (by simp [hv]))
   have e1 : Lib.bytesOf (x :: xs) = UInt8.ofNat x.toNat :: Lib.bytesOf xs := rfl
   have e2 : Lib.bytesOf (y :: ys) = UInt8.ofNat y.toNat :: Lib.bytesOf ys := rfl
   rw [e1, e2, List.cons_prefix_cons, List.cons_prefix_cons, ih]
   constructor
   · rintro ⟨h1, h2⟩; exact ⟨ofNat_inj (hx x (by simp)) (hy y (by simp)) h1, h2⟩
   · rintro ⟨rfl, h2⟩; exact ⟨rfl, h2⟩
theorem bytesOf_drop (x : List Int) (j : Nat) : (Lib.bytesOf x).drop j = Lib.bytesOf (x.drop j) := by simp [Lib.bytesOf, List.map_drop]
theorem bytesOf_length (x : List Int) : (Lib.bytesOf x).length = x.length := by simp [Lib.bytesOf]
theorem occ_iff {old s : List Int} (ho : ∀ v ∈ old, 0 ≤ v ∧ v ≤ 255) (hs : ∀ v ∈ s, 0 ≤ v ∧ v ≤ 255) (n j : Nat) (hn : n ≤ s.length) :
 Lib.occAt (Lib.bytesOf old) (Lib.bytesOf (s.take n)) j = true ↔ n ≤ ag (old.drop j) s := by
 unfold Lib.occAt; rw [bytesOf_drop, List.isPrefixOf_iff_prefix, bytesOf_prefix _ _ (fun v hv => hs v (List.mem_of_mem_take hv)) (fun v hv => ho v (List.mem_of_mem_drop hv)), le_ag]; exact ⟨fun h => ⟨hn, h⟩, fun h => h.2⟩
theorem index_says {old s : List Int} (ho : ∀ v ∈ old, 0 ≤ v ∧ v ≤ 255) (hs : ∀ v ∈ s, 0 ≤ v ∧ v ≤ 255) (n : Nat) (hn : n ≤ s.length) :
 (Lib.index (Lib.bytesOf old) (Lib.bytesOf (s.take n)) = -1 ∧ ∀ j, j ≤ old.length → ag (old.drop j) s < n) ∨
 ∃ i : Nat, Lib.index (Lib.bytesOf old) (Lib.bytesOf (s.take n)) = i ∧ n ≤ ag (old.drop i) s ∧ ∀ j, j < i → ag (old.drop j) s < n := by
 have key : ∀ j, Lib.occAt (Lib.bytesOf old) (Lib.bytesOf (s.take n)) j = false → ag (old.drop j) s < n := by
  intro j h; rcases Nat.lt_or_ge (ag (old.drop j) s) n with h' | h'
  · exact h'
  · rw [(occ_iff ho hs n j hn).2 h'] at h; cases h
 rcases Lib.index_spec (Lib.bytesOf old) (Lib.bytesOf (s.take n)) with ⟨h1, h2⟩ | ⟨i, h1, _, h3, h4⟩
 · exact .inl ⟨h1, fun j hj => key j (h2 j (by rw [bytesOf_length]; exact hj))⟩
 · exact .inr ⟨i, h1, (occ_iff ho hs n i hn).1 h3, fun j hj => key j (h4 j hj)⟩
theorem Best.of_index {old s : List Int} (ho : ∀ v ∈ old, 0 ≤ v ∧ v ≤ 255) (hs : ∀ v ∈ s, 0 ≤ v ∧ v ≤ 255) {n i : Nat} (hn : n ≤ s.length) (hall : ∀ j, ag (old.drop j) s ≤ n)
 (h : Lib.index (Lib.bytesOf old) (Lib.bytesOf (s.take n)) = i) : Best old s i n := by
 rcases index_says ho hs n hn with ⟨h1, _⟩ | ⟨k, h1, h2, h3⟩
 · rw [h1] at h; omega
 · obtain rfl : k = i := by rw [h1] at h; omega
   exact ⟨hall, h3, by have := hall k; omega⟩
theorem all_down {old s : List Int} (ho : ∀ v ∈ old, 0 ≤ v ∧ v ≤ 255) (hs : ∀ v ∈ s, 0 ≤ v ∧ v ≤ 255) {n : Nat} (hn : n + 1 ≤ s.length)
 (h : Lib.index (Lib.bytesOf old) (Lib.bytesOf (s.take (n + 1))) = -1) : ∀ j, ag (old.drop j) s ≤ n := by
 rcases index_says ho hs (n + 1) hn with ⟨_, h2⟩ | ⟨k, h1, _, _⟩
 · intro j
   rcases Nat.lt_or_ge j old.length with hj | hj
   · have := h2 j (by omega)
     omega
   · rw [List.drop_eq_nil_of_le hj, ag_nil_l]; exact Nat.zero_le _
 · rw [h1] at h; omega
theorem all_top (old s : List Int) : ∀ j, ag (old.drop j) s ≤ min old.length s.length := by
 intro j; have h1 := ag_le_l (old.drop j) s; have h2 := ag_le_r (old.drop j) s; simp at h1; omega
theorem Best.of_zero {old s : List Int} (h : ∀ j, ag (old.drop j) s ≤ 0) : Best old s 0 0 := Best.none_ (fun j _ => h j)
end Go.Proofs.YtnnmpoknghbdnacGreat.MatchM
namespace Go.Proofs.YtnnmpoknghbdnacGreat
open Go.RowKit
namespace DeltaM
def flushL (pl : List Int) : List OpR := if pl = [] then [] else [⟨0, 0, pl⟩]
inductive Dif (old : List Int) : List Int → List Int → List OpR → Prop
 | done (pl : List Int) : Dif old [] pl (flushL pl)
 | copy (s pl : List Int) (i n : Nat) (out : List OpR) : MatchM.Best old s i n → 3 < n → Dif old (s.drop n) [] out → Dif old s pl (flushL pl ++ ⟨i, n, []⟩ :: out)
 | lit (x : Int) (t pl : List Int) (i n : Nat) (out : List OpR) : MatchM.Best old (x :: t) i n → n ≤ 3 → Dif old t (pl ++ [x]) out → Dif old (x :: t) pl out
theorem Dif.det {old s pl : List Int} {o o' : List OpR} (h : Dif old s pl o) (h' : Dif old s pl o') : o = o' := by
 induction h generalizing o' with
 | done pl =>
   cases h' with
   | done => rfl
   | copy _ _ i n out hb hn hr =>
     have := hb.room.2; simp at this; omega
 | copy s pl i n out hb hn hr ih =>
   cases h' with
   | done =>
     have := hb.room.2; simp at this; omega
   | copy _ _ i' n' out' hb' hn' hr' =>
     obtain ⟨rfl, rfl⟩ := hb.det hb'; rw [ih hr']
   | lit x t _ i' n' out' hb' hn' hr' =>
     obtain ⟨rfl, rfl⟩ := hb.det hb'; omega
 | lit x t pl i n out hb hn hr ih =>
   cases h' with
   | copy _ _ i' n' out' hb' hn' hr' =>
     obtain ⟨rfl, rfl⟩ := hb.det hb'; omega
   | lit _ _ _ i' n' out' hb' hn' hr' => exact ih hr'
end DeltaM
theorem za0 {W : World} {g t : Nat} {v : Value} (h : W.heap[g]? = some (.cells #[v] t (0, 0))) : W.cell? ⟨g, 0, none⟩ = some v := by simp [World.cell?, h]
theorem zbN {W : World} {g t : Nat} {v : Value} (h : W.heap[g]? = some (.cells #[v] t (0, 0))) : W.frozen? ⟨g, 0, none⟩ = false := by simp [World.frozen?, h]
theorem set_blk {W : World} {g t : Nat} {v : Value} (h : W.heap[g]? = some (.cells #[v] t (0, 0))) (u : Value) : (W.setCell ⟨g, 0, none⟩ u).heap[g]? = some (.cells #[u] t (0, 0)) := by simp [World.setCell, Array.getElem?_modify, h]
theorem zax {W : World} {g : Nat} {o : Obj} (h : W.heap[g]? = some o) : g < W.heap.size := by
 rcases Nat.lt_or_ge g W.heap.size with hlt | hge
 · exact hlt
 · rw [Array.getElem?_eq_none hge] at h; cases h
theorem size_set (W : World) (p : Addr) (u : Value) : (W.setCell p u).heap.size = W.heap.size := by simp [World.setCell]
theorem zbm.set {W : World} {base : Nat} {ex : Option Nat} {vo : Value} {out : List OpR} (h : zbm W base ex vo out) {p : Addr} (hp : p.block < base) (u : Value) : zbm (W.setCell p u) base ex vo out :=
 h.keep (by rw [size_set]; exact Nat.le_refl _) (fun k k1 _ k3 => ⟨Below.heap_setCell W p u k (by omega), k3⟩) (fun g hg => by rw [size_set]; exact (h.2 g hg).2)
theorem zbm.noex {W : World} {base : Nat} {ex : Option Nat} {vo : Value} {out : List OpR} (h : zbm W base ex vo out) : zbm W base none vo out := by
 obtain ⟨⟨vs, h1, h2, h3⟩, -⟩ := h; exact ⟨⟨vs, h1, h2, fun i hi => (h3 i hi).keep (Nat.le_refl _) (fun k _ _ k3 _ => ⟨rfl, k3, by simp⟩)⟩, fun g hg => by cases hg⟩
theorem own_set {w : World} {base e s n : Nat} {v : Value} {xs : List Value} (h : w.ownsRow base e s v n xs) {p : Addr} (hp : p.block < base) (u : Value) : (w.setCell p u).ownsRow base e s v n xs :=
 za1 h (fun g hg => Below.heap_setCell w p u g (by have := (oL3 h hg).1; omega))
structure DSt (w0 : World) (B0 B1 : Nat) (vo vp : Value) (out : List OpR) (pl : List Int) (W : World) : Prop where
 c0 : W.heap[B0]? = some (.cells #[vo] 33 (0, 0))
 c1 : W.heap[B1]? = some (.cells #[vp] 22 (0, 0))
 o : zbm W (B1 + 1) vp.ownBlock vo out
 p : W.ownsRow (B1 + 1) 5 1 vp pl.length (pl.map (Value.int .u8))
 below : Below w0.heap.size w0 W
 le0 : w0.heap.size ≤ B0
 le1 : B0 < B1
section
variable {w0 : World} {B0 B1 : Nat} {vo vp : Value} {out : List OpR} {pl : List Int} {W W' : World}
theorem DSt.later (h : DSt w0 B0 B1 vo vp out pl W) (hb : Below W.heap.size W W') : DSt w0 B0 B1 vo vp out pl W' :=
 ⟨(hb.block _ (zax h.c0)).trans h.c0, (hb.block _ (zax h.c1)).trans h.c1, h.o.later hb, zaQ h.p hb, bTh h.below hb, h.le0, h.le1⟩
theorem DSt.drew (h : DSt w0 B0 B1 vo vp out pl W) : DSt w0 B0 B1 vo vp out pl W.drew := h.later (Below.refl _ _).drew
theorem DSt.clear_ (h : DSt w0 B0 B1 vo vp out pl W) : DSt w0 B0 B1 vo (.slice none 0 0) out [] (W.setCell ⟨B1, 0, none⟩ (.slice none 0 0)) :=
 ⟨(Below.heap_setCell W _ _ B0 (by have := h.le1; show B0 ≠ B1; omega)).trans h.c0, set_blk h.c1 _, h.o.noex.set (by show B1 < B1 + 1; omega) _, World.ownsRow_nil _ _ _ _,
   h.below.setCell (by show w0.heap.size ≤ B1; have := h.le0; have := h.le1; omega) _, h.le0, h.le1⟩
theorem DSt.plain (h : DSt w0 B0 B1 vo vp out pl W) {ad : Addr} {x : Int} (hs : BS W (some ad) 1 1 [x]) (hk : pl.length ≤ 1000) :
 ∃ g cap W5, (Builtin.append_ #[22, 22] 22 #[vp, .slice (some ad) 1 1]).run Tryz.prog W = .ok (.slice (some ⟨g, 0, none⟩) (pl.length + 1) cap) W5 ∧ W5.cell? ⟨B1, 0, none⟩ = some vp ∧ W5.frozen? ⟨B1, 0, none⟩ = false ∧
   Hid (DSt w0 B0 B1 vo (.slice (some ⟨g, 0, none⟩) (pl.length + 1) cap) out (pl ++ [x]) (W5.setCell ⟨B1, 0, none⟩ (.slice (some ⟨g, 0, none⟩) (pl.length + 1) cap))) := by
 obtain ⟨i0, hi, hz0, hz1, hz2⟩ := info_parts Tryz.info_u8; have hlt1 := zax h.c1
 obtain ⟨g, cap, W5, hr, ho, hg, hlies, hlt⟩ := run_append_lies (P := Tryz.prog) W 22 22 (B1 + 1) 5 i0 _ 1 1 U22 hi hz0 hz1 hz2 rfl (by decide) vp pl.length _ h.p ad 1 1 ([x].map (Value.int .u8))
  rfl hs.news (zbz _) (by omega) (by unfold maxLen; omega) (by omega) (by omega) W.heap.size rfl
 have far : ∀ k, k < B1 + 1 → some k ≠ vp.ownBlock := by
  intro k hk2 e; have := (oL3 h.p e.symm).1; omega
 have e0 := (hg.block B0 (zax h.c0) (far _ (by have := h.le1; omega))).trans h.c0; have e1 := (hg.block B1 hlt1 (far _ (by omega))).trans h.c1
 have hO : zbm W5 (B1 + 1) (some g) vo out := by
  refine h.o.keep hg.size (fun k k1 k2 k3 => ⟨hg.block k k2 k3, ?_⟩) (fun g' hg' => by injection hg' with hg'; omega); intro e; injection e with e; subst e; rcases hlies with hl | hl
  · exact k3 hl.symm
  · omega
 refine ⟨g, cap, W5, hr, za0 e1, zbN e1, ?_⟩; have hB5 := h.below.grown hg h.below.size (fun g' hg' => by have := (oL3 h.p hg').1; have := h.le0; have := h.le1; omega); refine ⟨(Below.heap_setCell W5 _ _ B0 (by have := h.le1; show B0 ≠ B1; omega)).trans e0, set_blk e1 _, hO.set (by show B1 < B1 + 1; omega) _, ?_, hB5.setCell (by show w0.heap.size ≤ B1; have := h.le0; have := h.le1; omega) _, h.le0, h.le1⟩; have := own_set ho (show (⟨B1, 0, none⟩ : Addr).block < B1 + 1 by show B1 < B1 + 1; omega) (.slice (some ⟨g, 0, none⟩) (pl.length + 1) cap)
 simpa using this
theorem DSt.copy (h : DSt w0 B0 B1 vo (.slice none 0 0) out [] W) (A L : Int) (hA : I64 A) (hL : I64 L) (hk : out.length ≤ 1000) :
 ∃ g cap W5, (Builtin.append_ #[33, 33] 33 #[vo, .slice (some ⟨W.heap.size, 0, none⟩) 1 1]).run Tryz.prog (W.alloc (.cells #[.int .i64 A, .int .i64 L, .slice none 0 0] 159)) = .ok (.slice (some ⟨g, 0, none⟩) (out.length + 1) cap) W5 ∧
   W5.cell? ⟨B0, 0, none⟩ = some vo ∧ W5.frozen? ⟨B0, 0, none⟩ = false ∧
   Hid (DSt w0 B0 B1 (.slice (some ⟨g, 0, none⟩) (out.length + 1) cap) (.slice none 0 0) (out ++ [⟨A, L, []⟩]) [] (W5.setCell ⟨B0, 0, none⟩ (.slice (some ⟨g, 0, none⟩) (out.length + 1) cap))) := by
 have hl0 := zax h.c0; have hl1 := zax h.c1; have hle1 := h.le1; have hbl : Below W.heap.size W (W.alloc (.cells #[.int .i64 A, .int .i64 L, .slice none 0 0] 159)) := (Below.refl _ _).alloc (Nat.le_refl _) _; have h2 := h.later hbl; obtain ⟨g, cap, W5, hr, hO, hg, hlies⟩ := h2.o.app (B := W.heap.size) (A := A) (L := L) (a := none) (n := 0) (c := 0) (d := []) (by rw [hpA, if_pos rfl]) (BS.nil_ _) (fun p hp => by cases hp) hA hL hk (by have := hbl.size; omega)
 have far : ∀ k, k < B1 + 1 → some k ≠ vo.ownBlock := by
  intro k hk2 e; obtain ⟨⟨vs, _, q, _⟩, _⟩ := h.o; have := (oL3 q e.symm).1; omega
 have hsz := hbl.size; have e0 := (hg.block B0 (by omega) (far _ (by omega))).trans h2.c0; have e1 := (hg.block B1 (by omega) (far _ (by omega))).trans h2.c1; refine ⟨g, cap, W5, hr, za0 e0, zbN e0, ?_⟩
 have hB5 := h2.below.grown hg h2.below.size (fun g' hg' => by
  obtain ⟨⟨vs, _, q, _⟩, _⟩ := h.o; have := (oL3 q hg').1; have := h.le0
  omega)
 exact ⟨set_blk e0 _, (Below.heap_setCell W5 _ _ B1 (by show B1 ≠ B0; omega)).trans e1, hO.set (by show B0 < B1 + 1; omega) _, World.ownsRow_nil _ _ _ _, hB5.setCell (by show w0.heap.size ≤ B0; exact h.le0) _, h.le0, h.le1⟩
theorem DSt.flush (h : DSt w0 B0 B1 vo vp out pl W) (hb : ∀ x ∈ pl, 0 ≤ x ∧ x ≤ 255) (hk : out.length ≤ 1000) :
 ∃ g cap W5, (Builtin.append_ #[33, 33] 33 #[vo, .slice (some ⟨W.heap.size, 0, none⟩) 1 1]).run Tryz.prog (W.alloc (.cells #[.int .i64 0, .int .i64 0, vp] 159)) = .ok (.slice (some ⟨g, 0, none⟩) (out.length + 1) cap) W5 ∧
   W5.cell? ⟨B0, 0, none⟩ = some vo ∧ W5.frozen? ⟨B0, 0, none⟩ = false ∧ (W5.setCell ⟨B0, 0, none⟩ (.slice (some ⟨g, 0, none⟩) (out.length + 1) cap)).cell? ⟨B1, 0, none⟩ = some vp ∧ (W5.setCell ⟨B0, 0, none⟩ (.slice (some ⟨g, 0, none⟩) (out.length + 1) cap)).frozen? ⟨B1, 0, none⟩ = false ∧
   Hid (DSt w0 B0 B1 (.slice (some ⟨g, 0, none⟩) (out.length + 1) cap) (.slice none 0 0) (out ++ [⟨0, 0, pl⟩]) [] ((W5.setCell ⟨B0, 0, none⟩ (.slice (some ⟨g, 0, none⟩) (out.length + 1) cap)).setCell ⟨B1, 0, none⟩ (.slice none 0 0))) := by
 have hl0 := zax h.c0; have hl1 := zax h.c1; have hle1 := h.le1; have hbl : Below W.heap.size W (W.alloc (.cells #[.int .i64 0, .int .i64 0, vp] 159)) := (Below.refl _ _).alloc (Nat.le_refl _) _; have h2 := h.later hbl
 obtain ⟨a, c, rfl⟩ : ∃ a c, vp = .slice a pl.length c := by
  rcases h.p.2 with ⟨q1, q2⟩ | ⟨g, cap, cur, q1, _⟩
  · exact ⟨none, 0, by rw [q1, q2]⟩
  · exact ⟨_, _, q1⟩
 have hbs := BS.of_own h2.p hb
 obtain ⟨g, cap, W5, hr, hO, hg, hlies⟩ := h2.o.noex.app (B := W.heap.size) (A := 0) (L := 0) (a := a) (n := pl.length) (c := c) (d := pl) (by rw [hpA, if_pos rfl]) hbs (fun p hp => by
  subst hp; have q := oL3 h2.p (g := p.block) rfl
  exact ⟨q.1, q.2, fun e => (h2.o.2 p.block rfl).1 e.symm, by simp⟩) (by unfold I64; omega) (by unfold I64; omega) hk (by have := hbl.size; omega)
 have far : ∀ k, k < B1 + 1 → some k ≠ vo.ownBlock := by
  intro k hk2 e; obtain ⟨⟨vs, _, q, _⟩, _⟩ := h.o; have := (oL3 q e.symm).1; omega
 have hsz := hbl.size; have e0 := (hg.block B0 (by omega) (far _ (by omega))).trans h2.c0; have e1 := (hg.block B1 (by omega) (far _ (by omega))).trans h2.c1; have e1' := (Below.heap_setCell W5 ⟨B0, 0, none⟩ (.slice (some ⟨g, 0, none⟩) (out.length + 1) cap) B1 (by show B1 ≠ B0; omega)).trans e1; refine ⟨g, cap, W5, hr, za0 e0, zbN e0, za0 e1', zbN e1', ?_⟩
 have hB5 := h2.below.grown hg h2.below.size (fun g' hg' => by
  obtain ⟨⟨vs, _, q, _⟩, _⟩ := h.o; have := (oL3 q hg').1; have := h.le0
  omega)
 have hB6 := hB5.setCell (p := ⟨B0, 0, none⟩) (by show w0.heap.size ≤ B0; exact h.le0) (.slice (some ⟨g, 0, none⟩) (out.length + 1) cap); refine ⟨(Below.heap_setCell _ _ _ B0 (by show B0 ≠ B1; omega)).trans (set_blk e0 _), set_blk e1' _, (hO.set (by show B0 < B1 + 1; omega) _).set (by show B1 < B1 + 1; omega) _, World.ownsRow_nil _ _ _ _, hB6.setCell (by show w0.heap.size ≤ B1; have := h.le0; omega) _, h.le0, h.le1⟩
end
theorem zao {a b : Int} (h : a = b) : Ending.returned (.int .i64 a) = .returned (.int .i64 b) := by rw [h]
def ChkRel (l : List OpR) (old size : Int) (w : World) (made i : Value) (wr : World) : Prop :=
 ∃ (m k : Nat), made = .int .i64 m ∧ i = .int .i64 k ∧ k ≤ l.length ∧ (m : Int) ≤ size ∧ DeltaM.chk old size (l.drop k) m = DeltaM.chk old size l 0 ∧ Below w.heap.size w wr
theorem drop_op (l : List OpR) (k : Nat) (h : k < l.length) : l.drop k = l.getD k default :: l.drop (k + 1) := by
 rw [List.drop_eq_getElem_cons h]; simp [List.getD_eq_getElem?_getD, List.getElem?_eq_getElem h]
def SameRel (x y : List OpR) (w : World) (i : Value) (wr : World) : Prop :=
 ∃ k : Nat, i = .int .i64 k ∧ k ≤ x.length ∧ x.take k = y.take k ∧ Below w.heap.size w wr
theorem take_more {x y : List OpR} {k : Nat} (h : x.take k = y.take k) (hx : k < x.length) (hy : k < y.length) (he : x.getD k default = y.getD k default) : x.take (k + 1) = y.take (k + 1) := by
 rw [List.take_add_one, List.take_add_one, h]; simp only [List.getD_eq_getElem?_getD, List.getElem?_eq_getElem hx, List.getElem?_eq_getElem hy, Option.getD_some] at he; simp [List.getElem?_eq_getElem hx, List.getElem?_eq_getElem hy, he]
theorem ne_of_at {x y : List OpR} {k : Nat} (h : x.getD k default ≠ y.getD k default) : decide (x = y) = false := by
 rw [decide_eq_false]; rintro rfl; exact h rfl
theorem zaB {a b : Bool} (h : a = b) : Ending.returned (.bool a) = .returned (.bool b) := by rw [h]
def GivesD (old b : List Int) (w : World) (e : Ending) (w' : World) : Prop :=
 ∃ out a n c, DeltaM.Dif old b [] out ∧ e = .returned (.tuple #[.slice a n c, .int .i64 0]) ∧ OS w' a n c out ∧ (out.length ≤ 200 ∧ OSN w' w.heap.size a n c out) ∧ Below w.heap.size w w'
theorem flushL_len (pl : List Int) : (DeltaM.flushL pl).length ≤ 1 := by unfold DeltaM.flushL; split <;> simp
theorem drop_byte (l : List Int) (k : Nat) (h : k < l.length) : l.drop k = l[k]?.getD 0 :: l.drop (k + 1) := by
 rw [List.drop_eq_getElem_cons h]; simp [List.getElem?_eq_getElem h]
def GivesA (old : List Int) (l : List OpR) (s : Int) (w : World) (e : Ending) (w' : World) : Prop :=
 ∃ a n c, e = .returned (.tuple #[.slice a n c, .int .i64 (DeltaM.check l old.length s)]) ∧ BS w' a n c (DeltaM.applied old l s) ∧ Below w.heap.size w w'
theorem OS.bytes {w : World} {a : Option Addr} {n c : Nat} {l : List OpR} (h : OS w a n c l) : ∀ o ∈ l, ∀ v ∈ o.data, 0 ≤ v ∧ v ≤ 255 := by
 intro o ho v hv; obtain ⟨i, hi, rfl⟩ := List.mem_iff_getElem.1 ho; have hlen := h.len; obtain ⟨b, off, _, hc⟩ := h.cells (by omega); obtain ⟨_, _, _, _, _, _, hb, _⟩ := hc i (by omega); rw [List.getD_eq_getElem?_getD, List.getElem?_eq_getElem hi, Option.getD_some] at hb; exact hb.bytes v hv
theorem zbd {v : Value} {a b : Int} (h : a = b) : Ending.returned (.tuple #[v, .int .i64 a]) = .returned (.tuple #[v, .int .i64 b]) := by rw [h]
end Go.Proofs.YtnnmpoknghbdnacGreat
namespace Go.Proofs.YtnnmpoknghbdnacGreat.SumM
def addL (s : Int) : List Int → Int
 | [] => s
 | x :: l => addL ((s * 31 + x) % 65521) l
def pw : List Int → Int
 | [] => 1
 | _ :: l => pw l * 31 % 65521
def nn : List Int → Int
 | [] => 0
 | x :: l => (nn l + x * pw l) % 65521
theorem pw_bd (l : List Int) : 0 ≤ pw l ∧ pw l ≤ 65520 := by
 cases l with
 | nil => simp [pw]
 | cons x l => simp only [pw]; omega
theorem nn_bd (l : List Int) : 0 ≤ nn l ∧ nn l ≤ 65520 := by
 cases l with
 | nil => simp [nn]
 | cons x l => simp only [nn]; omega
theorem addL_bd (l : List Int) : ∀ s, 0 ≤ s → s ≤ 65520 → 0 ≤ addL s l ∧ addL s l ≤ 65520 := by
 induction l with
 | nil => intro s h0 h1; simp only [addL]; omega
 | cons x l ih => intro s h0 h1; simp only [addL]; exact ih _ (by omega) (by omega)
theorem addL_snoc (l : List Int) : ∀ s x, addL s (l ++ [x]) = (addL s l * 31 + x) % 65521 := by
 induction l with
 | nil => intro s x; simp [addL]
 | cons y l ih => intro s x; simp only [List.cons_append, addL]; exact ih _ x
theorem addL_pw (l : List Int) : ∀ s, 0 ≤ s → s ≤ 65520 → addL s l = (s * pw l + nn l) % 65521 := by
 induction l with
 | nil => intro s h0 h1; simp only [addL, pw, nn]; omega
 | cons x l ih =>
   intro s h0 h1; simp only [addL, pw, nn]; rw [ih _ (by omega) (by omega)]
   have e1 : ((s * 31 + x) % 65521 * pw l + nn l) % 65521 = ((s * 31 + x) * pw l + nn l) % 65521 := by
    rw [Int.add_emod, Int.mul_emod, Int.emod_emod_of_dvd _ (Int.dvd_refl _), ← Int.mul_emod, ← Int.add_emod]
   have e2 : (s * (pw l * 31 % 65521) + (nn l + x * pw l) % 65521) % 65521 = (s * (pw l * 31) + (nn l + x * pw l)) % 65521 := by
    rw [Int.add_emod, Int.mul_emod, Int.emod_emod_of_dvd _ (Int.dvd_refl _), Int.emod_emod_of_dvd _ (Int.dvd_refl _), ← Int.mul_emod, ← Int.add_emod]
   rw [e1, e2]
   congr 1
   rw [Int.add_mul, Int.mul_assoc, Int.mul_comm 31 (pw l)]; omega
end Go.Proofs.YtnnmpoknghbdnacGreat.SumM
namespace Go.Proofs.YtnnmpoknghbdnacGreat
open Go.RowKit
def madeOf (fr to : Int) (old b : List Int) (ops : List OpR) (err : Int) : PatR × Int :=
 if err ≠ 0 then (zap, err)
 else if PatM.check ⟨fr, to, SumM.addL 1 old, SumM.addL 1 b, b.length, ops⟩ ≠ 0 then (zap, PatM.check ⟨fr, to, SumM.addL 1 old, SumM.addL 1 b, b.length, ops⟩)
 else (⟨fr, to, SumM.addL 1 old, SumM.addL 1 b, b.length, ops⟩, 0)
def GivesPN (S : World → Prop) (r : PatR × Int) (w : World) (e : Ending) (w' : World) : Prop :=
 ∃ v, e = .returned (.tuple #[v, .int .i64 r.2]) ∧ Below w.heap.size w w' ∧ ∀ W' : World, w'.heap.size ≤ W'.heap.size → (∀ k, w.heap.size ≤ k → k < w'.heap.size → W'.heap[k]? = w'.heap[k]?) → S W' → PV W' v r.1
theorem zaD (w : World) : PV w (.agg #[.int .i64 0, .int .i64 0, .int .i64 0, .int .i64 0, .int .i64 0, .slice none 0 0]) zap :=
 ⟨none, 0, 0, rfl, OS.nil_ w, by unfold I64; decide, by unfold I64; decide, by unfold I64; decide, by unfold I64; decide, by unfold I64; decide⟩
def zaz (p : PatR) (old : List Int) : List Int × Int :=
 if PatM.check p ≠ 0 then ([], PatM.check p)
 else if 64 < old.length then ([], 1)
 else if SumM.addL 1 old ≠ p.old then ([], 6)
 else if DeltaM.check p.ops old.length p.size ≠ 0 then ([], DeltaM.check p.ops old.length p.size)
 else if SumM.addL 1 (DeltaM.applied old p.ops p.size) ≠ p.new then ([], 6)
 else (DeltaM.applied old p.ops p.size, 0)
def zb1 (r : List Int × Int) (w : World) (e : Ending) (w' : World) : Prop :=
 ∃ a n c, e = .returned (.tuple #[.slice a n c, .int .i64 r.2]) ∧ BS w' a n c r.1 ∧ Below w.heap.size w w'
theorem zak {W : World} {B : Nat} {v0 v1 v2 v3 v4 v5 : Value} (h : W.heap[B]? = some (.cells #[v0, v1, v2, v3, v4, v5] 35 (0, 0))) :
 W.cell? ⟨B, 0, none⟩ = some v0 ∧ W.cell? ⟨B, 1, none⟩ = some v1 ∧ W.cell? ⟨B, 2, none⟩ = some v2 ∧ W.cell? ⟨B, 3, none⟩ = some v3 ∧ W.cell? ⟨B, 4, none⟩ = some v4 ∧ W.cell? ⟨B, 5, none⟩ = some v5 ∧
  W.frozen? ⟨B, 0, none⟩ = false ∧ W.frozen? ⟨B, 1, none⟩ = false ∧ W.frozen? ⟨B, 2, none⟩ = false ∧ W.frozen? ⟨B, 3, none⟩ = false ∧ W.frozen? ⟨B, 4, none⟩ = false ∧ W.frozen? ⟨B, 5, none⟩ = false := by
 simp [World.cell?, World.frozen?, h]
theorem zbh {W : World} {B : Nat} {v0 v1 v2 v3 v4 v5 : Value} (h : W.heap[B]? = some (.cells #[v0, v1, v2, v3, v4, v5] 35 (0, 0))) (u0 u1 u2 u3 u4 u5 : Value) :
 ∃ W6, (((((W.setCell ⟨B, 0, none⟩ u0).setCell ⟨B, 1, none⟩ u1).setCell ⟨B, 2, none⟩ u2).setCell ⟨B, 3, none⟩ u3).setCell ⟨B, 4, none⟩ u4).setCell ⟨B, 5, none⟩ u5 = W6 ∧
   W6.cell? ⟨B, 0, none⟩ = some u0 ∧ W6.cell? ⟨B, 1, none⟩ = some u1 ∧ W6.cell? ⟨B, 2, none⟩ = some u2 ∧ W6.cell? ⟨B, 3, none⟩ = some u3 ∧ W6.cell? ⟨B, 4, none⟩ = some u4 ∧ W6.cell? ⟨B, 5, none⟩ = some u5 ∧
   (∀ k, k ≠ B → W6.heap[k]? = W.heap[k]?) ∧ W6.heap.size = W.heap.size := by
 refine ⟨_, rfl, ?_, ?_, ?_, ?_, ?_, ?_, fun k hk => ?_, by simp only [size_set]⟩
 iterate 6 (simp [World.cell?, World.setCell, Array.getElem?_modify, h])
 rw [Below.heap_setCell _ _ _ k hk, Below.heap_setCell _ _ _ k hk, Below.heap_setCell _ _ _ k hk, Below.heap_setCell _ _ _ k hk, Below.heap_setCell _ _ _ k hk, Below.heap_setCell _ _ _ k hk]
end Go.Proofs.YtnnmpoknghbdnacGreat
namespace Go.Proofs.YtnnmpoknghbdnacGreat.PatM
def enc (o : OpR) : List Int := if o.len = 0 then 255 :: (o.data.length : Int) :: o.data else [o.at_, o.len]
def encs : List OpR → List Int
 | [] => []
 | o :: t => enc o ++ encs t
theorem encs_append : ∀ x y, encs (x ++ y) = encs x ++ encs y
 | [], _ => rfl
 | o :: t, y => by simp [encs, encs_append t y]
def head (p : PatR) : List Int := [p.from_, p.to_, p.old / 256, p.old % 256, p.new / 256, p.new % 256, p.size, p.ops.length]
def putL (p : PatR) : List Int := head p ++ encs p.ops
def putOf (p : PatR) : List Int × Int := if check p ≠ 0 then ([], check p) else if 400 < (putL p).length then ([], 1) else (putL p, 0)
def rd : Nat → List Int → List OpR → Int × List OpR × List Int
 | 0, r, acc => (0, acc, r)
 | k + 1, x :: y :: t, acc => if x = 255 then (if (t.length : Int) < y then (7, [], []) else rd k (t.drop y.toNat) (acc ++ [⟨0, 0, t.take y.toNat⟩])) else if y = 0 then (3, [], []) else rd k t (acc ++ [⟨x, y, []⟩])
 | _ + 1, _, _ => (7, [], [])
def headOf (b : List Int) (ops : List OpR) : PatR := ⟨b.getD 0 0, b.getD 1 0, b.getD 2 0 * 256 + b.getD 3 0, b.getD 4 0 * 256 + b.getD 5 0, b.getD 6 0, ops⟩
def readOf (b : List Int) : PatR × Int :=
 if 400 < b.length then (zap, 1)
 else if b.length < 8 then (zap, 7)
 else if (rd (b.getD 7 0).toNat (b.drop 8) []).1 ≠ 0 then (zap, (rd (b.getD 7 0).toNat (b.drop 8) []).1)
 else if 0 < (rd (b.getD 7 0).toNat (b.drop 8) []).2.2.length then (zap, 7)
 else if check (headOf b (rd (b.getD 7 0).toNat (b.drop 8) []).2.1) ≠ 0 then (zap, check (headOf b (rd (b.getD 7 0).toNat (b.drop 8) []).2.1))
 else (headOf b (rd (b.getD 7 0).toNat (b.drop 8) []).2.1, 0)
theorem check_parts {p : PatR} (h : check p = 0) : ¬ badHead p ∧ DeltaM.check p.ops 64 p.size = 0 := by
 unfold check at h; split at h
 · omega
 · exact ⟨by assumption, h⟩
theorem data_le {old : Int} : ∀ {l : List OpR}, DeltaM.Good old l → ((encs l).length : Int) ≤ 2 * l.length + DeltaM.total l
 | [], _ => by simp [encs, DeltaM.total]
 | o :: t, h => by
   have h1 := h o (by simp)
   have h2 := data_le (l := t) (fun o' ho => h o' (by simp [ho]))
   have h3 := DeltaM.good_len h1.2
   simp only [encs, List.length_append, DeltaM.total, DeltaM.size, List.length_cons, enc]
   split
   · simp only [List.length_cons]; omega
   · simp only [List.length_cons, List.length_nil]; omega
theorem putL_len {p : PatR} (h : check p = 0) : (putL p).length ≤ 152 := by
 obtain ⟨-, h2⟩ := check_parts h; obtain ⟨h40, -, -, s1, s2, hg, ht⟩ := DeltaM.check_zero h2; have := data_le hg; simp only [putL, head, List.length_append, List.length_cons, List.length_nil]; omega
theorem putOf_ok {p : PatR} (h : check p = 0) : putOf p = (putL p, 0) := by
 have := putL_len h; unfold putOf; rw [if_neg (by simp [h]), if_neg (by omega)]
theorem putOf_bad {p : PatR} (h : check p ≠ 0) : putOf p = ([], check p) := by unfold putOf; rw [if_pos h]
theorem form_data {o : OpR} (h : ¬ DeltaM.badForm o) (h0 : o.len = 0) : o = ⟨0, 0, o.data⟩ ∧ 1 ≤ o.data.length ∧ o.data.length ≤ 64 := by
 obtain ⟨a, l, d⟩ := o; simp only at h0; subst h0; unfold DeltaM.badForm at h; have h2 : ¬ (a ≠ 0 ∨ ¬ (1 ≤ (d.length : Int) ∧ (d.length : Int) ≤ 64)) := fun h1 => h (.inl ⟨rfl, h1⟩); obtain rfl : a = 0 := by omega
 refine ⟨rfl, ?_⟩; simp only; omega
theorem form_copy {o : OpR} (h : ¬ DeltaM.badForm o) (h0 : o.len ≠ 0) : o = ⟨o.at_, o.len, []⟩ := by
 obtain ⟨a, l, d⟩ := o; simp only at h0; unfold DeltaM.badForm at h; simp only at h; have : d.length = 0 := by omega
 obtain rfl := List.eq_nil_of_length_eq_zero this
 rfl
theorem encs_bytes : ∀ {l : List OpR}, DeltaM.Good 64 l → (∀ o ∈ l, ∀ v ∈ o.data, 0 ≤ v ∧ v ≤ 255) → ∀ v ∈ encs l, 0 ≤ v ∧ v ≤ 255
 | [], _, _, v, hv => by simp [encs] at hv
 | o :: t, h, hd, v, hv => by
   have h1 := h o (by simp)
   have h3 := DeltaM.good_len h1.2
   simp only [encs, List.mem_append] at hv
   rcases hv with hv | hv
   · unfold enc at hv
     split at hv
     · rename_i h0
       have h4 := form_data h1.1 h0
       simp only [List.mem_cons] at hv
       rcases hv with rfl | rfl | hv
       · omega
       · omega
       · exact hd o (by simp) v hv
     · simp only [List.mem_cons, List.not_mem_nil, or_false] at hv
       rcases hv with rfl | rfl <;> omega
   · exact encs_bytes (fun o' ho => h o' (by simp [ho])) (fun o' ho => hd o' (by simp [ho])) v hv
theorem putL_bytes {p : PatR} (h : check p = 0) (hd : ∀ o ∈ p.ops, ∀ v ∈ o.data, 0 ≤ v ∧ v ≤ 255) : ∀ v ∈ putL p, 0 ≤ v ∧ v ≤ 255 := by
 obtain ⟨hh, h2⟩ := check_parts h; obtain ⟨h40, -, -, s1, s2, hg, ht⟩ := DeltaM.check_zero h2; unfold badHead at hh; intro v hv; simp only [putL, List.mem_append] at hv; rcases hv with hv | hv
 · simp only [head, List.mem_cons, List.not_mem_nil, or_false] at hv
   rcases hv with rfl | rfl | rfl | rfl | rfl | rfl | rfl | rfl <;> omega
 · exact encs_bytes hg hd v hv
theorem rd_encs : ∀ (l : List OpR) (r : List Int) (acc : List OpR), DeltaM.Good 64 l → rd l.length (encs l ++ r) acc = (0, acc ++ l, r)
 | [], r, acc, _ => by simp [rd, encs]
 | o :: t, r, acc, h => by
   have h1 := h o (by simp)
   have ih := fun r acc => rd_encs t r acc (fun o' ho => h o' (by simp [ho]))
   have h3 := DeltaM.good_len h1.2
   by_cases h0 : o.len = 0
   · obtain ⟨e, d1, d2⟩ := form_data h1.1 h0
     have : encs (o :: t) ++ r = 255 :: (o.data.length : Int) :: (o.data ++ (encs t ++ r)) := by simp [encs, enc, h0]
     rw [this, List.length_cons, rd, if_pos rfl, if_neg (by simp only [List.length_append]; omega)]
     rw [show (o.data.length : Int).toNat = o.data.length by omega, List.drop_left, List.take_left, ih, ← e]
     simp
   · have e := form_copy h1.1 h0
     have : encs (o :: t) ++ r = o.at_ :: o.len :: (encs t ++ r) := by simp [encs, enc, h0]
     rw [this, List.length_cons, rd, if_neg (by omega), if_neg h0, ih, ← e]
     simp
theorem rd_short {k : Nat} {r : List Int} {acc : List OpR} (hk : 0 < k) (h : r.length < 2) : rd k r acc = (7, [], []) := by
 obtain ⟨m, rfl⟩ : ∃ m, k = m + 1 := ⟨k - 1, by omega⟩
 match r, h with
 | [], _ => rfl
 | [_], _ => rfl
theorem read_err {b : List Int} {e : Int} {o : List OpR} {r : List Int} (h : b.length ≤ 400) (h8 : 8 ≤ b.length) (hr : rd (b.getD 7 0).toNat (b.drop 8) [] = (e, o, r)) (he : e ≠ 0) : readOf b = (zap, e) := by
 unfold readOf; rw [if_neg (by omega), if_neg (by omega), hr, if_pos he]
theorem read_rest {b : List Int} {o : List OpR} {r : List Int} (h : b.length ≤ 400) (h8 : 8 ≤ b.length) (hr : rd (b.getD 7 0).toNat (b.drop 8) [] = (0, o, r)) (hl : 0 < r.length) : readOf b = (zap, 7) := by
 unfold readOf; rw [if_neg (by omega), if_neg (by omega), hr, if_neg (by simp), if_pos hl]
theorem read_fin {b : List Int} {o : List OpR} {r : List Int} (h : b.length ≤ 400) (h8 : 8 ≤ b.length) (hr : rd (b.getD 7 0).toNat (b.drop 8) [] = (0, o, r)) (hl : ¬ 0 < r.length) : readOf b = if check (headOf b o) ≠ 0 then (zap, check (headOf b o)) else (headOf b o, 0) := by
 unfold readOf; rw [if_neg (by omega), if_neg (by omega), hr, if_neg (by simp), if_neg hl]
theorem read_put {p : PatR} (h : check p = 0) : readOf (putL p) = (p, 0) := by
 have hlen := putL_len h; obtain ⟨hh, h2⟩ := check_parts h; obtain ⟨h40, -, -, s1, s2, hg, ht⟩ := DeltaM.check_zero h2; unfold badHead at hh; have hd : (putL p).drop 8 = encs p.ops := by simp [putL, head]
 have h7 : (putL p).getD 7 0 = p.ops.length := by simp [putL, head]
 have hr := rd_encs p.ops [] [] hg; rw [List.append_nil, List.nil_append] at hr
 have hp : headOf (putL p) p.ops = p := by
  obtain ⟨f, t, o, nw, s, ops⟩ := p; simp only [headOf, putL, head, List.cons_append, List.nil_append, List.getD_cons_zero, List.getD_cons_succ]; rw [show o / 256 * 256 + o % 256 = o by omega, show nw / 256 * 256 + nw % 256 = nw by omega]
 unfold readOf; rw [if_neg (by omega), if_neg (by simp only [putL, head, List.length_append, List.length_cons, List.length_nil]; omega), hd, h7, Int.toNat_natCast, hr]; simp [hp, h]
end Go.Proofs.YtnnmpoknghbdnacGreat.PatM
namespace Go.Proofs.YtnnmpoknghbdnacGreat.PackM
def lead (x : Int) : List Int → Nat
 | [] => 0
 | y :: l => if y = x then lead x l + 1 else 0
def run (l : List Int) : Nat := min 127 (lead (l[0]?.getD 0) l)
theorem lead_le (x : Int) (l : List Int) : lead x l ≤ l.length := by
 induction l with
 | nil => simp [lead]
 | cons y l ih => simp only [lead, List.length_cons]; split <;> omega
theorem lead_at (x : Int) (l : List Int) : ∀ j, j < lead x l → l[j]?.getD 0 = x := by
 induction l with
 | nil => simp [lead]
 | cons y l ih =>
   intro j hj; simp only [lead] at hj; split at hj
   · cases j with
     | zero => simpa using ‹y = x›
     | succ j => simpa using ih j (by omega)
   · omega
theorem lead_ge (x : Int) (l : List Int) : ∀ n, n ≤ l.length → (∀ j, j < n → l[j]?.getD 0 = x) → n ≤ lead x l := by
 induction l with
 | nil => intro n hn _; simpa [lead] using hn
 | cons y l ih =>
   intro n hn h
   cases n with
   | zero => omega
   | succ n =>
     have h0 := h 0 (by omega); simp at h0; simp only [lead, if_pos h0]; have := ih n (by simpa using hn) (fun j hj => by simpa using h (j + 1) (by omega)); omega
theorem run_le (l : List Int) : run l ≤ l.length := by have := lead_le (l[0]?.getD 0) l; unfold run; omega
theorem run_max (l : List Int) : run l ≤ 127 := by unfold run; omega
theorem run_at (l : List Int) (j : Nat) (h : j < run l) : l[j]?.getD 0 = l[0]?.getD 0 := lead_at _ l j (by unfold run at h; omega)
theorem run_eq (l : List Int) (n : Nat) (hn : n ≤ l.length) (h127 : n ≤ 127) (heq : ∀ j, j < n → l[j]?.getD 0 = l[0]?.getD 0)
 (hstop : n = l.length ∨ n = 127 ∨ l[n]?.getD 0 ≠ l[0]?.getD 0) : run l = n := by
 have h1 := lead_ge _ l n hn heq; have h2 := lead_le (l[0]?.getD 0) l; unfold run; rcases hstop with h | h | h
 · omega
 · omega
 · have : ¬ n < lead (l[0]?.getD 0) l := fun hh => h (lead_at _ l n hh)
   omega
theorem run_take (l : List Int) : l.take (run l) = List.replicate (run l) (l[0]?.getD 0) := by
 apply List.ext_getElem
 · simp only [List.length_take, List.length_replicate]; have := run_le l; omega
 · intro i h1 h2
   simp at h1; have := run_at l i (by omega); have hi : i < l.length := by omega
   simp [List.getElem?_eq_getElem hi] at this
   simpa using this
inductive Packs : List Int → List Int → Prop
 | nil : Packs [] []
 | run (l o : List Int) (n : Nat) (hn : PackM.run l = n) (h : 3 ≤ n) (ho : Packs (l.drop n) o) : Packs l ((128 + n : Int) :: l[0]?.getD 0 :: o)
 | lit (l o : List Int) (k : Nat) (h1 : 1 ≤ k) (h2 : k ≤ 127) (h3 : k ≤ l.length) (h4 : ∀ j, j < k → PackM.run (l.drop j) < 3)
  (h5 : k = l.length ∨ k = 127 ∨ 3 ≤ PackM.run (l.drop k)) (ho : Packs (l.drop k) o) : Packs l ((k : Int) :: (l.take k ++ o))
theorem run_nil : run [] = 0 := rfl
theorem run_some {l : List Int} {n : Nat} (hn : run l = n) (h : 3 ≤ n) : l ≠ [] := by
 rintro rfl; rw [run_nil] at hn; omega
theorem Packs.det {l o : List Int} (h : Packs l o) : ∀ o', Packs l o' → o = o' := by
 induction h with
 | nil =>
   intro o' h'
   cases h' with
   | nil => rfl
   | run _ _ n hn h _ => exact absurd rfl (run_some hn h)
   | lit _ _ k h1 _ h3 => simp at h3; omega
 | run l o n hn h ho ih =>
   intro o' h'
   cases h' with
   | nil => exact absurd rfl (run_some hn h)
   | run _ o1 n1 hn1 h1 ho1 =>
     obtain rfl : n = n1 := by omega
     rw [ih _ ho1]
   | lit _ o1 k h1 _ _ h4 => have := h4 0 (by omega); simp at this; omega
 | lit l o k h1 h2 h3 h4 h5 ho ih =>
   intro o' h'
   cases h' with
   | nil => simp at h3; omega
   | run _ o1 n1 hn1 hh1 ho1 => have := h4 0 (by omega); simp at this; omega
   | lit _ o1 k1 g1 g2 g3 g4 g5 go1 =>
     obtain rfl : k = k1 := by
      rcases Nat.lt_trichotomy k k1 with hlt | heq | hgt
      · have := g4 k hlt
        omega
      · exact heq
      · have := h4 k1 hgt
        omega
     rw [ih _ go1]
theorem Packs.len {l o : List Int} (h : Packs l o) : o.length ≤ l.length + l.length / 127 + 1 ∧ ((l = [] ∨ 3 ≤ PackM.run l) → o.length ≤ l.length + l.length / 127) := by
 induction h with
 | nil => simp
 | run l o n hn h ho ih =>
   have := run_le l; simp only [List.length_drop, List.length_cons] at ih ⊢; omega
 | lit l o k h1 h2 h3 h4 h5 ho ih =>
   have h0 := h4 0 (by omega); simp only [List.drop_zero] at h0; have hl : ¬ l = [] := by rintro rfl; simp at h3; omega
   simp only [List.length_drop, List.length_cons, List.length_append, List.length_take] at ih ⊢; refine ⟨?_, fun hh => hh.elim (fun h => absurd h hl) (fun h => by omega)⟩; rcases h5 with h5 | h5 | h5
   · have := ih.2 (.inl (by rw [List.drop_eq_nil_iff]; omega))
     omega
   · omega
   · have := ih.2 (.inr h5)
     omega
def follow (x : Int) : Nat := if 128 ≤ x then 1 else (x % 128).toNat
def grp (x : Int) (t : List Int) : List Int := if 128 ≤ x then List.replicate (x % 128).toNat (t[0]?.getD 0) else t.take (x % 128).toNat
inductive Unp (most : Int) : List Int → List Int → List Int × Int → Prop
 | done (out : List Int) : Unp most [] out (out, 0)
 | form (x : Int) (t out : List Int) (h : x % 128 = 0) : Unp most (x :: t) out ([], 3)
 | torn (x : Int) (t out : List Int) (h : x % 128 ≠ 0) (h1 : t.length < follow x) : Unp most (x :: t) out ([], 7)
 | many (x : Int) (t out : List Int) (h : x % 128 ≠ 0) (h1 : follow x ≤ t.length) (h2 : most < out.length + x % 128) : Unp most (x :: t) out ([], 1)
 | step (x : Int) (t out : List Int) (r : List Int × Int) (h : x % 128 ≠ 0) (h1 : follow x ≤ t.length) (h2 : out.length + x % 128 ≤ most)
  (hr : Unp most (t.drop (follow x)) (out ++ grp x t) r) : Unp most (x :: t) out r
theorem Unp.det {most : Int} {l out : List Int} {r : List Int × Int} (h : Unp most l out r) : ∀ r', Unp most l out r' → r = r' := by
 induction h with
 | done out => intro r' h'; cases h'; rfl
 | form x t out h =>
   intro r' h'
   cases h' with
   | form => rfl
   | torn _ _ _ g => exact absurd h g
   | many _ _ _ g => exact absurd h g
   | step _ _ _ _ g => exact absurd h g
 | torn x t out h h1 =>
   intro r' h'
   cases h' with
   | form _ _ _ g => exact absurd g h
   | torn => rfl
   | many _ _ _ g g1 => omega
   | step _ _ _ _ g g1 => omega
 | many x t out h h1 h2 =>
   intro r' h'
   cases h' with
   | form _ _ _ g => exact absurd g h
   | torn _ _ _ g g1 => omega
   | many => rfl
   | step _ _ _ _ g g1 g2 => omega
 | step x t out r h h1 h2 hr ih =>
   intro r' h'
   cases h' with
   | form _ _ _ g => exact absurd g h
   | torn _ _ _ g g1 => omega
   | many _ _ _ g g1 g2 => omega
   | step _ _ _ _ g g1 g2 gr => exact ih _ gr
theorem Packs.back {b p : List Int} (h : Packs b p) : ∀ (most : Int) (rest out : List Int) (r : List Int × Int), out.length + b.length ≤ most → Unp most rest (out ++ b) r → Unp most (p ++ rest) out r := by
 induction h with
 | nil => intro most rest out r _ hr; simpa using hr
 | run l o n hn h ho ih =>
   intro most rest out r hm hr; have hmx := run_max l; have hle := run_le l; have e1 : (128 + (n : Int)) % 128 = n := by omega
   have hf : follow (128 + (n : Int)) = 1 := by unfold follow; rw [if_pos (by omega)]
   have hg : grp (128 + (n : Int)) (l[0]?.getD 0 :: (o ++ rest)) = l.take n := by
    unfold grp; rw [if_pos (by omega), e1, ← hn, run_take]; simp
   refine Unp.step _ _ _ _ (by omega) (by rw [hf]; simp) (by rw [e1]; omega) ?_; rw [hf]; show Unp most (o ++ rest) (out ++ grp _ (l[0]?.getD 0 :: (o ++ rest))) r; rw [hg]; refine ih most rest (out ++ l.take n) r ?_ ?_
   · simp only [List.length_append, List.length_take, List.length_drop]; omega
   · rw [List.append_assoc, List.take_append_drop]; exact hr
 | lit l o k h1 h2 h3 h4 h5 ho ih =>
   intro most rest out r hm hr; have e1 : (k : Int) % 128 = k := by omega
   have hf : follow (k : Int) = k := by unfold follow; rw [if_neg (by omega)]; omega
   have hg : grp (k : Int) (l.take k ++ o ++ rest) = l.take k := by
    unfold grp; rw [if_neg (by omega), e1, Int.toNat_natCast, List.append_assoc, List.take_append_of_le_length (by simp; omega), List.take_take, Nat.min_self]
   refine Unp.step _ _ _ _ (by omega) (by rw [hf]; simp; omega) (by rw [e1]; omega) ?_; rw [hf]; show Unp most ((l.take k ++ o ++ rest).drop k) (out ++ grp (k : Int) (l.take k ++ o ++ rest)) r; rw [hg, List.append_assoc, List.drop_append_of_le_length (by simp; omega), List.drop_take, Nat.sub_self, List.take_zero, List.nil_append]; refine ih most rest (out ++ l.take k) r ?_ ?_
   · simp only [List.length_append, List.length_take, List.length_drop]; omega
   · rw [List.append_assoc, List.take_append_drop]; exact hr
end Go.Proofs.YtnnmpoknghbdnacGreat.PackM
namespace Go.Proofs.YtnnmpoknghbdnacGreat.ChunkM
def parts (o : List Int) : Nat := (o.length + 15) / 16
def nth (fr to : Int) (o : List Int) (k : Nat) : ChR := ⟨fr, to, k, (parts o : Nat), (o.drop (k * 16)).take 16⟩
def cutL (fr to : Int) (o : List Int) : List ChR := (List.range (parts o)).map (nth fr to o)
theorem cutL_length (fr to : Int) (o : List Int) : (cutL fr to o).length = parts o := by simp [cutL]
theorem cutL_get (fr to : Int) (o : List Int) {k : Nat} (h : k < parts o) : (cutL fr to o).getD k default = nth fr to o k := by
 simp [cutL, List.getD_eq_getElem?_getD, List.getElem?_range h]
def CutIs (p : PatR) (cs : List ChR) (err : Int) : Prop :=
 (PatM.check p ≠ 0 ∧ cs = [] ∧ err = PatM.check p) ∨ (PatM.check p = 0 ∧ ∃ o, PackM.Packs (PatM.putL p) o ∧ cs = cutL p.from_ p.to_ o ∧ err = 0)
theorem CutIs.det {p : PatR} {cs cs' : List ChR} {e e' : Int} (h : CutIs p cs e) (h' : CutIs p cs' e') : cs = cs' ∧ e = e' := by
 rcases h with ⟨h1, rfl, rfl⟩ | ⟨h1, o, h2, rfl, rfl⟩ <;> rcases h' with ⟨q1, rfl, rfl⟩ | ⟨q1, o', q2, rfl, rfl⟩
 · exact ⟨rfl, rfl⟩
 · exact absurd q1 h1
 · exact absurd h1 q1
 · rw [h2.det _ q2]
   exact ⟨rfl, rfl⟩
theorem packed_len {p : PatR} (h : PatM.check p = 0) {o : List Int} (ho : PackM.Packs (PatM.putL p) o) : o.length ≤ 154 := by
 have h1 := PatM.putL_len h; have h2 := ho.len.1; omega
theorem packed_parts {p : PatR} (h : PatM.check p = 0) {o : List Int} (ho : PackM.Packs (PatM.putL p) o) : parts o ≤ 10 := by
 have := packed_len h ho; unfold parts; omega
end Go.Proofs.YtnnmpoknghbdnacGreat.ChunkM
namespace Go.Proofs.YtnnmpoknghbdnacGreat.ChunkM
def flatD : List ChR → List Int
 | [] => []
 | c :: t => c.data ++ flatD t
theorem flatD_append : ∀ x y, flatD (x ++ y) = flatD x ++ flatD y
 | [], _ => rfl
 | c :: t, y => by simp [flatD, flatD_append t y]
def joinErr (l : List ChR) : Int := if checks l ≠ 0 then checks l else if l = [] ∨ (l.length : Int) ≠ (l.getD 0 default).of_ then 5 else 0
def joinEnd (l : List ChR) (u : List Int × Int) : PatR × Int :=
 if u.2 ≠ 0 then (zap, u.2)
 else if (PatM.readOf u.1).2 ≠ 0 then (zap, (PatM.readOf u.1).2)
 else if (PatM.readOf u.1).1.from_ ≠ (l.getD 0 default).fr ∨ (PatM.readOf u.1).1.to_ ≠ (l.getD 0 default).to_ then (zap, 3)
 else ((PatM.readOf u.1).1, 0)
def JoinIs (l : List ChR) (r : PatR × Int) : Prop :=
 (joinErr l ≠ 0 ∧ r = (zap, joinErr l)) ∨ (joinErr l = 0 ∧ ∃ u, PackM.Unp 400 (flatD l) [] u ∧ r = joinEnd l u)
theorem JoinIs.det {l : List ChR} {r r' : PatR × Int} (h : JoinIs l r) (h' : JoinIs l r') : r = r' := by
 rcases h with ⟨h1, rfl⟩ | ⟨h1, u, h2, rfl⟩ <;> rcases h' with ⟨q1, rfl⟩ | ⟨q1, u', q2, rfl⟩
 · rfl
 · exact absurd q1 h1
 · exact absurd h1 q1
 · rw [h2.det _ q2]
theorem chks_all {z : ChR} : ∀ {l : List ChR} {last : Int}, chks z l last = 0 → ∀ c ∈ l, check c = 0 ∧ kin c z ∧ last < c.n
 | [], _, _, c, hc => by simp at hc
 | c :: t, last, h, x, hx => by
   by_cases h1 : check c = 0
   · by_cases h2 : ¬ kin c z ∨ c.n ≤ last
     · rw [chks_form h1 h2] at h; omega
     · have hk : kin c z := by rcases Classical.em (kin c z) with q | q; exact q; exact absurd (.inl q) h2
       have hn : ¬ c.n ≤ last := fun q => h2 (.inr q)
       rw [chks_on h1 hk hn] at h
       rcases List.mem_cons.1 hx with rfl | hx
       · exact ⟨h1, hk, by omega⟩
       · obtain ⟨q1, q2, q3⟩ := chks_all h x hx
         exact ⟨q1, q2, by omega⟩
   · rw [chks_bad h1] at h; exact absurd h h1
theorem checks_all {l : List ChR} (h : checks l = 0) : ∀ c ∈ l, check c = 0 ∧ kin c (l.getD 0 default) ∧ 0 ≤ c.n := by
 intro c hc
 cases l with
 | nil => simp at hc
 | cons z t =>
   obtain ⟨h1, h2, h3⟩ := chks_all (z := z) (last := -1) h c hc; exact ⟨h1, h2, by omega⟩
theorem flat_len {l : List ChR} (h : ∀ c ∈ l, c.data.length ≤ 16) : (flatD l).length ≤ 16 * l.length := by
 induction l with
 | nil => simp [flatD]
 | cons c t ih =>
   have h1 := h c (by simp); have h2 := ih (fun c' hc' => h c' (by simp [hc'])); simp only [flatD, List.length_append, List.length_cons]; omega
theorem checks_data {l : List ChR} (h : checks l = 0) : ∀ c ∈ l, c.data.length ≤ 16 := fun c hc => (check_good (checks_all h c hc).1).2.2.2.2.2.1
theorem joinErr_ok {l : List ChR} (h : joinErr l = 0) : checks l = 0 ∧ l ≠ [] ∧ (l.length : Int) = (l.getD 0 default).of_ ∧ l.length ≤ 52 := by
 unfold joinErr at h; by_cases h1 : checks l = 0
 · rw [if_neg (by simp [h1])] at h
   by_cases h2 : l = [] ∨ (l.length : Int) ≠ (l.getD 0 default).of_
   · rw [if_pos h2] at h; omega
   · have h3 : l ≠ [] := fun e => h2 (.inl e)
     have h4 : (l.length : Int) = (l.getD 0 default).of_ := by
      rcases Classical.em ((l.length : Int) = (l.getD 0 default).of_) with q | q
      · exact q
      · exact absurd (.inr q) h2
     refine ⟨h1, h3, h4, ?_⟩
     have hm : l.getD 0 default ∈ l := by
      cases l with
      | nil => exact absurd rfl h3
      | cons x t => simp
     have := (check_good (checks_all h1 _ hm).1).2.2.1.2; omega
 · rw [if_pos h1] at h; exact absurd h h1
end Go.Proofs.YtnnmpoknghbdnacGreat.ChunkM
namespace Go.Proofs.YtnnmpoknghbdnacGreat.DeltaM
end Go.Proofs.YtnnmpoknghbdnacGreat.DeltaM
namespace Go.Proofs.YtnnmpoknghbdnacGreat
theorem PackM.unp_ex (most : Int) : ∀ (m : Nat) (l out : List Int), l.length ≤ m → ∃ r, PackM.Unp most l out r
 | _, [], out, _ => ⟨_, .done out⟩
 | 0, x :: t, out, h => by simp at h
 | m + 1, x :: t, out, h => by
   by_cases h0 : x % 128 = 0
   · exact ⟨_, .form x t out h0⟩
   · by_cases h1 : t.length < PackM.follow x
     · exact ⟨_, .torn x t out h0 h1⟩
     · by_cases h2 : most < out.length + x % 128
       · exact ⟨_, .many x t out h0 (by omega) h2⟩
       · obtain ⟨r, hr⟩ := PackM.unp_ex most m (t.drop (PackM.follow x)) (out ++ PackM.grp x t) (by simp only [List.length_cons] at h; simp only [List.length_drop]; omega)
         exact ⟨r, .step x t out r h0 (by omega) (by omega) hr⟩
theorem ChunkM.join_ex (l : List ChR) : ∃ r, ChunkM.JoinIs l r := by
 by_cases h : ChunkM.joinErr l = 0
 · obtain ⟨u, hu⟩ := PackM.unp_ex 400 _ (ChunkM.flatD l) [] (Nat.le_refl _)
   exact ⟨_, .inr ⟨h, u, hu, rfl⟩⟩
 · exact ⟨_, .inl ⟨h, rfl⟩⟩
noncomputable def ChunkM.joinOf (l : List ChR) : PatR × Int := Classical.choose (ChunkM.join_ex l)
theorem ChunkM.joinOf_is (l : List ChR) : ChunkM.JoinIs l (ChunkM.joinOf l) := Classical.choose_spec (ChunkM.join_ex l)
theorem ChunkM.JoinIs.of {l : List ChR} {r : PatR × Int} (h : ChunkM.JoinIs l r) : r = ChunkM.joinOf l := h.det (ChunkM.joinOf_is l)
end Go.Proofs.YtnnmpoknghbdnacGreat
namespace Go.Proofs.YtnnmpoknghbdnacGreat.ChunkM
def Up : List ChR → Prop
 | [] => True
 | [_] => True
 | x :: y :: t => x.n < y.n ∧ Up (y :: t)
theorem Up.tail {x : ChR} {t : List ChR} (h : Up (x :: t)) : Up t := by
 cases t with
 | nil => trivial
 | cons y t => exact h.2
theorem Up.lt {x : ChR} : ∀ {t : List ChR}, Up (x :: t) → ∀ y ∈ t, x.n < y.n
 | [], _, y, hy => by simp at hy
 | z :: t, h, y, hy => by
   rcases List.mem_cons.1 hy with rfl | hy
   · exact h.1
   · have := Up.lt h.2 y hy
     have := h.1
     omega
theorem Up.cons {x : ChR} {t : List ChR} (h : Up t) (hx : ∀ y ∈ t, x.n < y.n) : Up (x :: t) := by
 cases t with
 | nil => trivial
 | cons y t => exact ⟨hx y (by simp), h⟩
theorem chks_up {z : ChR} : ∀ {l : List ChR} {last : Int}, chks z l last = 0 → Up l
 | [], _, _ => trivial
 | c :: t, last, h => by
   have hc := chks_all h c (by simp)
   rw [chks_on hc.1 hc.2.1 (by omega)] at h
   exact (chks_up h).cons (fun y hy => (chks_all h y hy).2.2)
theorem checks_up {l : List ChR} (h : checks l = 0) : Up l := by
 cases l with
 | nil => trivial
 | cons z t => exact chks_up (z := z) (last := -1) h
def ins : List ChR → ChR → List ChR
 | [], c => [c]
 | x :: t, c => if x.n = c.n then x :: t else if c.n < x.n then c :: x :: t else x :: ins t c
def those (l : List ChR) (c : ChR) : List ChR := if l ≠ [] ∧ ¬ kin c (l.getD 0 default) then [] else l
def addOf (l : List ChR) (c : ChR) : List ChR × Int := if checks l ≠ 0 then ([], checks l) else if check c ≠ 0 then ([], check c) else (ins (those l c) c, 0)
theorem ins_mem {c : ChR} : ∀ {l : List ChR} {x : ChR}, x ∈ ins l c → x ∈ l ∨ x = c
 | [], x, h => by simp [ins] at h; exact .inr h
 | y :: t, x, h => by
   unfold ins at h
   split at h
   · exact .inl h
   · split at h
     · rcases List.mem_cons.1 h with rfl | h
       · exact .inr rfl
       · exact .inl h
     · rcases List.mem_cons.1 h with rfl | h
       · exact .inl (by simp)
       · rcases ins_mem h with h | h
         · exact .inl (by simp [h])
         · exact .inr h
theorem ins_up {c : ChR} : ∀ {l : List ChR}, Up l → Up (ins l c)
 | [], _ => trivial
 | y :: t, h => by
   unfold ins
   split
   · exact h
   · split
     · exact ⟨by assumption, h⟩
     · refine (ins_up h.tail).cons (fun x hx => ?_)
       rcases ins_mem hx with hx | rfl
       · exact h.lt x hx
       · omega
def under (k : Int) (l : List ChR) : List ChR := l.filter (fun x => decide (x.n < k))
theorem under_all {k : Int} {l : List ChR} (h : ∀ x ∈ l, x.n < k) : under k l = l := by
 unfold under; rw [List.filter_eq_self]; intro x hx
 simpa using h x hx
theorem under_none {k : Int} {l : List ChR} (h : ∀ x ∈ l, k ≤ x.n) : under k l = [] := by
 unfold under; rw [List.filter_eq_nil_iff]; intro x hx; have := h x hx; simp; omega
theorem under_cons_lt {k : Int} {x : ChR} {t : List ChR} (h : x.n < k) : under k (x :: t) = x :: under k t := by simp [under, h]
theorem under_hit {k : Int} : ∀ {l : List ChR} {x : ChR}, Up l → x ∈ l → x.n = k → under (k + 1) l = under k l ++ [x]
 | [], x, _, h, _ => by simp at h
 | y :: t, x, hu, h, hk => by
   rcases List.mem_cons.1 h with rfl | h
   · rw [under_cons_lt (by omega), under_none (k := k + 1) (fun z hz => by have := hu.lt z hz; omega), under_none (k := k) (l := x :: t)]
     · rfl
     · intro z hz
       rcases List.mem_cons.1 hz with rfl | hz
       · omega
       · have := hu.lt z hz; omega
   · have hy := hu.lt x h
     rw [under_cons_lt (by omega), under_cons_lt (by omega), under_hit hu.tail h hk]
     rfl
theorem under_miss {k : Int} {l : List ChR} (h : ∀ x ∈ l, x.n ≠ k) : under (k + 1) l = under k l := by
 unfold under; apply List.filter_congr; intro x hx; have := h x hx; simp only [decide_eq_decide]; omega
theorem ins_self {c : ChR} : ∀ {l : List ChR}, (∀ x ∈ l, x.n ≠ c.n) → c ∈ ins l c
 | [], _ => by simp [ins]
 | y :: t, h => by
   unfold ins
   rw [if_neg (h y (by simp))]
   split
   · simp
   · exact List.mem_cons_of_mem _ (ins_self (fun x hx => h x (by simp [hx])))
theorem ins_old {c : ChR} : ∀ {l : List ChR} {x : ChR}, x ∈ l → x ∈ ins l c
 | [], x, h => by simp at h
 | y :: t, x, h => by
   unfold ins
   split
   · exact h
   · split
     · exact List.mem_cons_of_mem _ h
     · rcases List.mem_cons.1 h with rfl | h
       · simp
       · exact List.mem_cons_of_mem _ (ins_old h)
theorem ins_have {c x : ChR} : ∀ {l : List ChR}, Up l → x ∈ l → x.n = c.n → ins l c = l
 | [], _, h, _ => by simp at h
 | y :: t, hu, h, hn => by
   unfold ins
   rcases List.mem_cons.1 h with rfl | h
   · rw [if_pos hn]
   · have := hu.lt x h
     rw [if_neg (by omega), if_neg (by omega), ins_have hu.tail h hn]
theorem up_len : ∀ {l : List ChR}, Up l → ∀ {lo hi : Int}, (∀ x ∈ l, lo ≤ x.n ∧ x.n < hi) → lo ≤ hi → (l.length : Int) ≤ hi - lo
 | [], _, lo, hi, _, h => by simp; omega
 | x :: t, hu, lo, hi, hr, h => by
   have hx := hr x (by simp)
   have ih := up_len hu.tail (lo := x.n + 1) (hi := hi) (fun y hy => ⟨by have := hu.lt y hy; omega, (hr y (by simp [hy])).2⟩) (by omega)
   simp only [List.length_cons]
   omega
end Go.Proofs.YtnnmpoknghbdnacGreat.ChunkM
namespace Go.Proofs.YtnnmpoknghbdnacGreat.ChunkM
end Go.Proofs.YtnnmpoknghbdnacGreat.ChunkM
namespace Go.Proofs.YtnnmpoknghbdnacGreat.ChunkM
end Go.Proofs.YtnnmpoknghbdnacGreat.ChunkM
namespace Go.Proofs.YtnnmpoknghbdnacGreat.ChunkM
end Go.Proofs.YtnnmpoknghbdnacGreat.ChunkM
namespace Go.Proofs.YtnnmpoknghbdnacGreat
structure DevR where
 s0 : List Int
 s1 : List Int
 c : CopsR
 up : Bool
 run : Int
 got : List ChR
 busy : Bool
 job : PatR
 done : Int
namespace DevM
def noDev : DevR := ⟨[], [], RecM.noCops, false, 0, [], false, zap, 0⟩
def slot (d : DevR) (k : Int) : List Int := if k = 0 then d.s0 else d.s1
def setSlot (d : DevR) (k : Int) (b : List Int) : DevR := if k = 0 then { d with s0 := b } else { d with s1 := b }
def rc (d : DevR) : RecR := RecM.cur d.c
def info (d : DevR) (k : Int) : InfR := RecM.inf (rc d) k
def act (d : DevR) : Int := (rc d).act
def oth (d : DevR) : Int := 1 - (rc d).act
def image (d : DevR) (k : Int) : List Int := (slot d k).take (info d k).size.toNat
def fill (b : List Int) : List Int := b ++ List.replicate (64 - b.length) 0
def new (d : DevR) : List Int := (zaz d.job (image d (act d))).1
def off (d : DevR) : DevR := ⟨d.s0, d.s1, d.c, false, 0, [], false, zap, 0⟩
def busyErr (d : DevR) : Int :=
 if (rc d).trying = true ∨ d.job.to_ < (rc d).floor ∨ d.job.from_ ≠ (info d (act d)).ver ∨ (info d (oth d)).ver ≠ 0 then 3
 else if (zaz d.job (image d (act d))).2 ≠ 0 then (zaz d.job (image d (act d))).2
 else if ¬ (0 ≤ d.done ∧ d.done ≤ 64 ∧ d.done < d.job.size + 8) ∨ d.done % 8 ≠ 0 then 2
 else if (slot d (oth d)).take d.done.toNat ≠ (fill (new d)).take d.done.toNat then 3 else 0
def upErr (d : DevR) : Int :=
 if ¬ (0 ≤ d.run ∧ d.run ≤ 1) ∨ ((rc d).trying = false ∧ d.run ≠ act d) then 2
 else if ChunkM.checks d.got ≠ 0 then ChunkM.checks d.got
 else if d.busy = false then (if d.done ≠ 0 ∨ d.job ≠ zap then 3 else 0)
 else busyErr d
def check (d : DevR) : Int :=
 if d.s0.length ≠ 64 ∨ d.s1.length ≠ 64 then 3
 else if RecM.copies d.c ≠ 0 then RecM.copies d.c
 else if d.up = false then (if d.run ≠ 0 ∨ d.got ≠ [] ∨ d.busy = true ∨ d.done ≠ 0 ∨ d.job ≠ zap then 3 else 0)
 else upErr d
structure Busy (d : DevR) : Prop where
 still : (rc d).trying = false
 floor : (rc d).floor ≤ d.job.to_
 fr : d.job.from_ = (info d (act d)).ver
 none_ : (info d (oth d)).ver = 0
 does : (zaz d.job (image d (act d))).2 = 0
 d0 : 0 ≤ d.done
 d64 : d.done ≤ 64
 dsz : d.done < d.job.size + 8
 d8 : d.done % 8 = 0
 bytes : (slot d (oth d)).take d.done.toNat = (fill (new d)).take d.done.toNat
structure Up (d : DevR) : Prop where
 run : d.run = 0 ∨ d.run = 1
 still : (rc d).trying = false → d.run = act d
 got : ChunkM.checks d.got = 0
 idle : d.busy = false → d.done = 0 ∧ d.job = zap
 busy : d.busy = true → Busy d
structure Ok (d : DevR) : Prop where
 l0 : d.s0.length = 64
 l1 : d.s1.length = 64
 cops : RecM.copies d.c = 0
 down : d.up = false → d = off d
 up : d.up = true → Up d
theorem busy_iff {d : DevR} : busyErr d = 0 ↔ Busy d := by
 unfold busyErr
 constructor
 · intro h
   split at h
   · omega
   · rename_i h1
     split at h
     · rename_i h2; exact absurd h h2
     · rename_i h2
       split at h
       · omega
       · rename_i h3
         split at h
         · omega
         · rename_i h4
           have a1 : (rc d).trying = false := by
            rcases Bool.eq_false_or_eq_true (rc d).trying with e | e
            · exact absurd (.inl e) h1
            · exact e
           have a2 : (rc d).floor ≤ d.job.to_ := by
            rcases Int.lt_or_le d.job.to_ (rc d).floor with e | e
            · exact absurd (.inr (.inl e)) h1
            · exact e
           have a3 : d.job.from_ = (info d (act d)).ver := by
            rcases Classical.em (d.job.from_ = (info d (act d)).ver) with e | e
            · exact e
            · exact absurd (.inr (.inr (.inl e))) h1
           have a4 : (info d (oth d)).ver = 0 := by
            rcases Classical.em ((info d (oth d)).ver = 0) with e | e
            · exact e
            · exact absurd (.inr (.inr (.inr e))) h1
           exact ⟨a1, a2, a3, a4, by simpa using h2, by omega, by omega, by omega, by omega, by simpa using h4⟩
 · intro h
   rw [if_neg, if_neg (fun q => q h.does), if_neg, if_neg (fun q => q h.bytes)]
   · have := h.d0; have := h.d64; have := h.dsz; have := h.d8; omega
   · rintro (q | q | q | q)
     · rw [h.still] at q; cases q
     · have := h.floor; omega
     · exact q h.fr
     · exact q h.none_
theorem up_iff {d : DevR} : upErr d = 0 ↔ Up d := by
 unfold upErr
 constructor
 · intro h
   split at h
   · omega
   · rename_i h1
     split at h
     · rename_i h2; exact absurd h h2
     · rename_i h2
       have a1 : d.run = 0 ∨ d.run = 1 := by omega
       have a2 : (rc d).trying = false → d.run = act d := fun ht => by
        rcases Classical.em (d.run = act d) with e | e
        · exact e
        · exact absurd (.inr ⟨ht, e⟩) h1
       have a3 : ChunkM.checks d.got = 0 := by simpa using h2
       rcases Bool.eq_false_or_eq_true d.busy with e | e
       · rw [if_neg (by simp [e])] at h
         exact ⟨a1, a2, a3, fun q => (by rw [e] at q; cases q), fun _ => busy_iff.1 h⟩
       · rw [if_pos e] at h
         split at h
         · omega
         · rename_i h4
           refine ⟨a1, a2, a3, fun _ => ⟨?_, ?_⟩, fun q => (by rw [e] at q; cases q)⟩
           · rcases Classical.em (d.done = 0) with q | q
             · exact q
             · exact absurd (.inl q) h4
           · rcases Classical.em (d.job = zap) with q | q
             · exact q
             · exact absurd (.inr q) h4
 · intro h
   rw [if_neg, if_neg (fun q => q h.got)]
   · rcases Bool.eq_false_or_eq_true d.busy with e | e
     · rw [if_neg (by simp [e])]; exact busy_iff.2 (h.busy e)
     · rw [if_pos e, if_neg]
       obtain ⟨q1, q2⟩ := h.idle e; rintro (q | q)
       · exact q q1
       · exact q q2
   · rintro (q | ⟨q1, q2⟩)
     · rcases h.run with e | e <;> omega
     · exact q2 (h.still q1)
theorem down_iff {d : DevR} (hu : d.up = false) : d = off d ↔ ¬ (d.run ≠ 0 ∨ d.got ≠ [] ∨ d.busy = true ∨ d.done ≠ 0 ∨ d.job ≠ zap) := by
 obtain ⟨s0, s1, c, up, run, got, busy, job, done⟩ := d; simp only at hu; subst hu; simp only [off, DevR.mk.injEq, true_and]
 constructor
 · rintro ⟨rfl, rfl, rfl, rfl, rfl⟩ (q | q | q | q | q) <;> exact absurd q (by simp)
 · intro h
   refine ⟨?_, ?_, ?_, ?_, ?_⟩
   · rcases Classical.em (run = 0) with q | q
     · exact q
     · exact absurd (.inl q) h
   · rcases Classical.em (got = []) with q | q
     · exact q
     · exact absurd (.inr (.inl q)) h
   · rcases Bool.eq_false_or_eq_true busy with q | q
     · exact absurd (.inr (.inr (.inl q))) h
     · exact q
   · rcases Classical.em (job = zap) with q | q
     · exact q
     · exact absurd (.inr (.inr (.inr (.inr q)))) h
   · rcases Classical.em (done = 0) with q | q
     · exact q
     · exact absurd (.inr (.inr (.inr (.inl q)))) h
theorem ok_iff {d : DevR} : check d = 0 ↔ Ok d := by
 unfold check
 constructor
 · intro h
   split at h
   · omega
   · rename_i h1
     split at h
     · rename_i h2; exact absurd h h2
     · rename_i h2
       have a1 : RecM.copies d.c = 0 := by simpa using h2
       rcases Bool.eq_false_or_eq_true d.up with e | e
       · rw [if_neg (by simp [e])] at h
         exact ⟨by omega, by omega, a1, fun q => (by rw [e] at q; cases q), fun _ => up_iff.1 h⟩
       · rw [if_pos e] at h
         split at h
         · omega
         · rename_i h3
           exact ⟨by omega, by omega, a1, fun _ => (down_iff e).2 h3, fun q => (by rw [e] at q; cases q)⟩
 · intro h
   rw [if_neg, if_neg (fun q => q h.cops)]
   · rcases Bool.eq_false_or_eq_true d.up with e | e
     · rw [if_neg (by simp [e])]; exact up_iff.2 (h.up e)
     · rw [if_pos e, if_neg ((down_iff e).1 (h.down e))]
   · have := h.l0; have := h.l1; omega
def wrong (e : Int) (x : DevR × Int) : DevR × Int := if e ≠ 0 then (noDev, e) else x
def newOf (b : List Int) : DevR × Int :=
 if 64 < b.length then (noDev, 1) else (⟨fill b, fill [], ⟨⟨true, ⟨1, 0, false, 0, 1, ⟨1, b.length, SumM.addL 1 b⟩, RecM.noInf⟩⟩, RecM.noCop⟩, true, 0, [], false, zap, 0⟩, 0)
def hear (d : DevR) (c : ChR) : DevR × Int := if d.busy = true then (noDev, 5) else wrong (ChunkM.addOf d.got c).2 ({ d with got := (ChunkM.addOf d.got c).1 }, 0)
def put (r : RecR) (i : InfR) : RecR := if r.act = 0 then { r with i1 := i } else { r with i0 := i }
noncomputable def open_ (d : DevR) : DevR × Int :=
 if d.busy = true ∨ (rc d).trying = true then (noDev, 5)
 else wrong (ChunkM.joinOf d.got).2
  (if (ChunkM.joinOf d.got).1.from_ ≠ (info d (act d)).ver ∨ (ChunkM.joinOf d.got).1.to_ < (rc d).floor then (noDev, 4)
   else wrong (zaz (ChunkM.joinOf d.got).1 (image d (act d))).2
    (wrong (RecM.writeOf d.c (put (rc d) RecM.noInf) false).2
     ({ d with c := (RecM.writeOf d.c (put (rc d) RecM.noInf) false).1, busy := true, job := (ChunkM.joinOf d.got).1, done := 0, got := [] }, 0)))
def many (torn : Bool) (keep : Int) : Int := if torn then max 0 (min 8 keep) else 8
def over (s b : List Int) (dn n : Nat) : List Int := s.take dn ++ ((fill b).drop dn).take n ++ s.drop (dn + n)
def write (d : DevR) (torn : Bool) (keep : Int) : DevR × Int :=
 if d.busy = false ∨ d.job.size ≤ d.done then (noDev, 5)
 else if torn then (off (setSlot d (oth d) (over (slot d (oth d)) (new d) d.done.toNat (many torn keep).toNat)), 0)
 else ({ setSlot d (oth d) (over (slot d (oth d)) (new d) d.done.toNat 8) with done := d.done + 8 }, 0)
def tried (d : DevR) : RecR := { put (rc d) ⟨d.job.to_, d.job.size, d.job.new⟩ with trying := true, tries := 3 }
def finish (d : DevR) (torn : Bool) : DevR × Int :=
 if d.busy = false ∨ d.done < d.job.size then (noDev, 5)
 else wrong (RecM.writeOf d.c (tried d) torn).2
  (if torn then (off { d with c := (RecM.writeOf d.c (tried d) torn).1 }, 0) else ({ d with c := (RecM.writeOf d.c (tried d) torn).1, busy := false, done := 0, job := zap }, 0))
def confirm (d : DevR) : DevR × Int :=
 if d.run = act d ∨ (rc d).trying = false then (noDev, 5)
 else wrong (RecM.writeOf d.c (RecM.conf (rc d)) false).2 ({ d with c := (RecM.writeOf d.c (RecM.conf (rc d)) false).1 }, 0)
def crash (d : DevR) : DevR × Int := (off d, 0)
def boot (d : DevR) : DevR × Int :=
 if RecM.after (rc d) = rc d then ({ d with up := true, run := RecM.slot (rc d) }, 0)
 else wrong (RecM.writeOf d.c (RecM.after (rc d)) false).2 ({ d with c := (RecM.writeOf d.c (RecM.after (rc d)) false).1, up := true, run := RecM.slot (rc d) }, 0)
def told (d : DevR) (up : Bool) (x : DevR × Int) : DevR × Int := wrong (check d) (if d.up = up then x else (noDev, 5))
end DevM
open Go.RowKit
def ChAt (w : World) (b o : Nat) (r : ChR) : Prop :=
 ∃ a m c, w.cell? ⟨b, o, none⟩ = some (.int .i64 r.fr) ∧ w.cell? ⟨b, o + 1, none⟩ = some (.int .i64 r.to_) ∧ w.cell? ⟨b, o + 2, none⟩ = some (.int .i64 r.n) ∧ w.cell? ⟨b, o + 3, none⟩ = some (.int .i64 r.of_) ∧ w.cell? ⟨b, o + 4, none⟩ = some (.slice a m c) ∧ BS w a m c r.data ∧ r.I
theorem ChAt.keep {w w' : World} {b o : Nat} {r : ChR} (h : ChAt w b o r) (hk : ∀ p v, w.cell? p = some v → w'.cell? p = some v) : ChAt w' b o r := by
 obtain ⟨a, m, c, h1, h2, h3, h4, h5, h6, h7⟩ := h; exact ⟨a, m, c, hk _ _ h1, hk _ _ h2, hk _ _ h3, hk _ _ h4, hk _ _ h5, h6.keep hk, h7⟩
structure CS (w : World) (a : Option Addr) (n c : Nat) (l : List ChR) : Prop where
 len : l.length = n
 le : n ≤ c
 max : c ≤ 9223372036854775807
 cells : 0 < n → ∃ b off, a = some ⟨b, off, none⟩ ∧ ∀ i, i < n → ChAt w b (off + i * 5) (l.getD i default)
 none_ : a = none → c = 0
section
variable {w w' : World} {a : Option Addr} {n c : Nat} {l : List ChR}
theorem CS.keep (h : CS w a n c l) (hk : ∀ p v, w.cell? p = some v → w'.cell? p = some v) : CS w' a n c l :=
 ⟨h.len, h.le, h.max, fun hp => by
  obtain ⟨b, off, e, hc⟩ := h.cells hp
  exact ⟨b, off, e, fun i hi => (hc i hi).keep hk⟩, h.none_⟩
theorem CS.later (h : CS w a n c l) (hb : Below w.heap.size w w') : CS w' a n c l := h.keep (fun _ _ hc => cell_later hb hc)
theorem CS.nil_ (w : World) : CS w none 0 0 [] := ⟨rfl, by omega, by omega, fun h => absurd h (by omega), fun _ => rfl⟩
end
def CV (w : World) (v : Value) (r : ChR) : Prop :=
 ∃ a m c, v = .agg #[.int .i64 r.fr, .int .i64 r.to_, .int .i64 r.n, .int .i64 r.of_, .slice a m c] ∧ BS w a m c r.data ∧ r.I
theorem CV.later {w w' : World} {v : Value} {r : ChR} (h : CV w v r) (hb : Below w.heap.size w w') : CV w' v r := by
 obtain ⟨a, m, c, h1, h2, h3⟩ := h; exact ⟨a, m, c, h1, h2.later hb, h3⟩
section
variable {H : Type} {enc : TypeId × Value → H} {w : World} {sp : Nat → Bool} {held : Bool}
theorem open_ch {fuel : Nat} {cs : List Value} {x : DataW H × List MemPlace} (hl : cs.length = 5) (h : DataW.trod enc Tryz.prog w 0 sp held fuel 39 cs = some x) :
 ∃ r a m c, cs = [.int .i64 r.fr, .int .i64 r.to_, .int .i64 r.n, .int .i64 r.of_, .slice a m c] ∧ BS w a m c r.data ∧ ChR.I r := by
 have c3 : Tryz.prog.cellsOf 3 = 1 := by kernel_rfl
 have cb : Tryz.prog.cellsOf 22 = 1 := by kernel_rfl
 obtain ⟨xs, n, _, _, _, hlen, hg⟩ := DataW.trod_struct U39 h
 match cs, hl with
 | [u0, u1, u2, u3, u4], _ =>
   match xs, hlen with
   | [y0, y1, y2, y3, y4], _ =>
     have t0 : DataW.trod enc Tryz.prog w 0 sp held n 3 (([u0, u1, u2, u3, u4].drop 0).take (Tryz.prog.cellsOf 3)) = some y0 := hg 0 _ rfl; have t1 : DataW.trod enc Tryz.prog w 0 sp held n 3 (([u0, u1, u2, u3, u4].drop 1).take (Tryz.prog.cellsOf 3)) = some y1 := hg 1 _ rfl; have t2 : DataW.trod enc Tryz.prog w 0 sp held n 3 (([u0, u1, u2, u3, u4].drop 2).take (Tryz.prog.cellsOf 3)) = some y2 := hg 2 _ rfl; have t3 : DataW.trod enc Tryz.prog w 0 sp held n 3 (([u0, u1, u2, u3, u4].drop 3).take (Tryz.prog.cellsOf 3)) = some y3 := hg 3 _ rfl; have t4 : DataW.trod enc Tryz.prog w 0 sp held n 22 (([u0, u1, u2, u3, u4].drop 4).take (Tryz.prog.cellsOf 22)) = some y4 := hg 4 _ rfl; rw [c3] at t0 t1 t2 t3; rw [cb] at t4; simp only [List.drop_zero, List.drop_succ_cons, List.take_succ_cons, List.take_zero] at t0 t1 t2 t3 t4; obtain ⟨n0, e0, _, w0⟩ := DataW.trod_int U3 t0; obtain ⟨n1, e1, _, w1⟩ := DataW.trod_int U3 t1; obtain ⟨n2, e2, _, w2⟩ := DataW.trod_int U3 t2; obtain ⟨n3, e3, _, w3⟩ := DataW.trod_int U3 t3; simp only [List.cons.injEq, and_true] at e0 e1 e2 e3; subst e0 e1 e2 e3; obtain ⟨a, m, c, dl, rfl, ho⟩ := open_bs t4; exact ⟨⟨n0, n1, n2, n3, dl⟩, a, m, c, rfl, ho, I64.of_wf w0, I64.of_wf w1, I64.of_wf w2, I64.of_wf w3⟩
theorem open_cv {r : Reach} {b0 : Nat} {v : Value} {d : DataW H} {ps : List MemPlace} (hv : Value.okWide Tryz.prog w r b0 39 v) (h : DataW.Trod enc Tryz.prog w 0 sp held 39 v d ps) : ∃ p, CV w v p := by
 have hC : Tryz.prog.cellsOf 39 = 5 := by kernel_rfl
 obtain ⟨⟨l⟩, rfl, hsz⟩ := WideShapes.okWide_struct U39 hv; obtain ⟨fuel, hf⟩ := h; obtain ⟨p, a, m, c, hl, ho, hi⟩ := open_ch (hsz.trans hC) hf; exact ⟨p, a, m, c, by rw [show l = _ from hl], ho, hi⟩
theorem open_cs {fuel : Nat} {v : Value} {x : DataW H × List MemPlace} (h : DataW.trod enc Tryz.prog w 0 sp held fuel 32 [v] = some x) :
 ∃ a n c l, v = .slice a n c ∧ CS w a n c l := by
 have hC : Tryz.prog.cellsOf 39 = 5 := by kernel_rfl
 rcases Deep.open_slice U32 h with ⟨hcs, _⟩ | ⟨a, len, cap, m, k, D, Pl, hcs, _, hl, hm, hmm, _, hi⟩
 · simp at hcs
   subst hcs; exact ⟨none, 0, 0, [], rfl, CS.nil_ w⟩
 · simp at hcs
   subst hcs; have hlm : len ≤ m := by rw [hmm]; split <;> omega
   rw [hC] at hi
   have each : ∀ i, i < len → ∃ r : ChR, ∃ va vn vc, w.cell? (a.add (i * 5)) = some (.int .i64 r.fr) ∧ w.cell? (a.add (i * 5 + 1)) = some (.int .i64 r.to_) ∧ w.cell? (a.add (i * 5 + 2)) = some (.int .i64 r.n) ∧ w.cell? (a.add (i * 5 + 3)) = some (.int .i64 r.of_) ∧ w.cell? (a.add (i * 5 + 4)) = some (.slice va vn vc) ∧ BS w va vn vc r.data ∧ r.I := by
    intro i hlt; obtain ⟨cs, hcs, htr⟩ := hi i (by omega); obtain ⟨_, hcl, hat⟩ := World.cells?_some hcs; obtain ⟨r, va, vn, vc, rfl, hbs, hI⟩ := open_ch hcl htr; have g0 := hat 0 (by simp); have g1 := hat 1 (by simp); have g2 := hat 2 (by simp); have g3 := hat 3 (by simp); have g4 := hat 4 (by simp); rw [Deep.add_add] at g0 g1 g2 g3 g4; exact ⟨r, va, vn, vc, g0, g1, g2, g3, g4, hbs, hI⟩
   obtain ⟨l, hll, hp⟩ := list_of default _ len each; refine ⟨some a, len, cap, l, rfl, hll, hl, by unfold maxLen at hm; omega, ?_, fun h => by cases h⟩; intro hpos; obtain ⟨b, off, spot⟩ := a; obtain ⟨_, _, _, h0, _⟩ := hp 0 hpos; have hs : spot = none := by simpa [Addr.add] using World.cell?_spot h0
   subst hs; refine ⟨b, off, rfl, fun i hi => ?_⟩; obtain ⟨va, vn, vc, q0, q1, q2, q3, q4, q5⟩ := hp i hi; rw [addr_add] at q0 q1 q2 q3 q4; exact ⟨va, vn, vc, q0, q1, q2, q3, q4, q5⟩
end
structure DevH where
 a0 : Option Addr
 n0 : Nat
 c0 : Nat
 a1 : Option Addr
 n1 : Nat
 c1 : Nat
 ga : Option Addr
 gn : Nat
 gc : Nat
 oa : Option Addr
 on : Nat
 oc : Nat
def noH : DevH := ⟨none, 0, 0, none, 0, 0, none, 0, 0, none, 0, 0⟩
def dvC (h : DevH) (d : DevR) : Array Value := #[.slice h.a0 h.n0 h.c0, .slice h.a1 h.n1 h.c1,
 .bool d.c.c0.ok, .int .i64 d.c.c0.r.gen, .int .i64 d.c.c0.r.act, .bool d.c.c0.r.trying, .int .i64 d.c.c0.r.tries, .int .i64 d.c.c0.r.floor, .int .i64 d.c.c0.r.i0.ver, .int .i64 d.c.c0.r.i0.size, .int .i64 d.c.c0.r.i0.sum, .int .i64 d.c.c0.r.i1.ver, .int .i64 d.c.c0.r.i1.size, .int .i64 d.c.c0.r.i1.sum,
 .bool d.c.c1.ok, .int .i64 d.c.c1.r.gen, .int .i64 d.c.c1.r.act, .bool d.c.c1.r.trying, .int .i64 d.c.c1.r.tries, .int .i64 d.c.c1.r.floor, .int .i64 d.c.c1.r.i0.ver, .int .i64 d.c.c1.r.i0.size, .int .i64 d.c.c1.r.i0.sum, .int .i64 d.c.c1.r.i1.ver, .int .i64 d.c.c1.r.i1.size, .int .i64 d.c.c1.r.i1.sum,
 .bool d.up, .int .i64 d.run, .slice h.ga h.gn h.gc, .bool d.busy, .int .i64 d.job.from_, .int .i64 d.job.to_, .int .i64 d.job.old, .int .i64 d.job.new, .int .i64 d.job.size, .slice h.oa h.on h.oc, .int .i64 d.done]
def devV (h : DevH) (d : DevR) : Value := .agg (dvC h d)
def JobW (p : PatR) : Prop := I64 p.from_ ∧ I64 p.to_ ∧ I64 p.old ∧ I64 p.new ∧ I64 p.size
structure DH (w : World) (h : DevH) (d : DevR) : Prop where
 b0 : BS w h.a0 h.n0 h.c0 d.s0
 b1 : BS w h.a1 h.n1 h.c1 d.s1
 got : CS w h.ga h.gn h.gc d.got
 ops : OS w h.oa h.on h.oc d.job.ops
 copsW : CopsW d.c
 runI : I64 d.run
 jobI : JobW d.job
 doneI : I64 d.done
theorem DH.keep {w w' : World} {h : DevH} {d : DevR} (x : DH w h d) (hk : ∀ p v, w.cell? p = some v → w'.cell? p = some v) : DH w' h d :=
 ⟨x.b0.keep hk, x.b1.keep hk, x.got.keep hk, x.ops.keep hk, x.copsW, x.runI, x.jobI, x.doneI⟩
theorem DH.later {w w' : World} {h : DevH} {d : DevR} (x : DH w h d) (hb : Below w.heap.size w w') : DH w' h d := x.keep (fun _ _ hc => cell_later hb hc)
theorem DH.job {w : World} {h : DevH} {d : DevR} (x : DH w h d) : PV w (.agg #[.int .i64 d.job.from_, .int .i64 d.job.to_, .int .i64 d.job.old, .int .i64 d.job.new, .int .i64 d.job.size, .slice h.oa h.on h.oc]) d.job :=
 ⟨h.oa, h.on, h.oc, rfl, x.ops, x.jobI⟩
theorem noCops_w : CopsW RecM.noCops := ⟨noRec_w, noRec_w⟩
theorem zbv : JobW zap := by unfold JobW I64 zap; decide
theorem DH.none_ (w : World) : DH w noH DevM.noDev := ⟨BS.nil_ w, BS.nil_ w, CS.nil_ w, OS.nil_ w, noCops_w, (by unfold I64 DevM.noDev; decide), zbv, (by unfold I64 DevM.noDev; decide)⟩
def zbK (S : World → Prop) (r : DevR × Int) (w : World) (e : Ending) (w' : World) : Prop :=
 ∃ h, e = .returned (.tuple #[devV h r.1, .int .i64 r.2]) ∧ Below w.heap.size w w' ∧ NewR w.heap.size w' (fun W => S W → DH W h r.1)
theorem DH.argR {w : World} {h : DevH} {d : DevR} (x : DH w h d) : NewR 0 w (fun W => DH W h d) := NewR.of_keep (fun _ hk => x.keep hk)
def zDev : Array Value := (Value.slice none 0 0 :: Value.slice none 0 0 :: Value.bool false :: Value.int .i64 0 :: Value.int .i64 0 :: Value.bool false :: Value.int .i64 0 :: Value.int .i64 0 :: Value.int .i64 0 :: Value.int .i64 0 :: Value.int .i64 0 :: Value.int .i64 0 :: Value.int .i64 0 :: Value.int .i64 0 :: Value.bool false :: Value.int .i64 0 :: Value.int .i64 0 :: Value.bool false :: Value.int .i64 0 :: Value.int .i64 0 :: Value.int .i64 0 :: Value.int .i64 0 :: Value.int .i64 0 :: Value.int .i64 0 :: Value.int .i64 0 :: Value.int .i64 0 :: Value.bool false :: Value.int .i64 0 :: Value.slice none 0 0 :: Value.bool false :: Value.int .i64 0 :: Value.int .i64 0 :: Value.int .i64 0 :: Value.int .i64 0 :: Value.int .i64 0 :: Value.slice none 0 0 :: Value.int .i64 0 :: []).toArray
def za4 (h : DevH) : Array Value := #[.slice h.a0 h.n0 h.c0, .slice h.a1 h.n1 h.c1]
def jbC (oa : Option Addr) (on oc : Nat) (p : PatR) : Array Value := #[.int .i64 p.from_, .int .i64 p.to_, .int .i64 p.old, .int .i64 p.new, .int .i64 p.size, .slice oa on oc]
theorem zau {prog : Program} {code : Code} {K : Exit → Act → World → Prop} {a : Act} {W w : World} {L : List (Nat × Array Value × TypeId)} {R N : List (World → Prop)} (h : MS w L R N W) (k : ∀ V, MS w L R N V → Code.wp prog code K a V) : Code.wp prog code K a W := k W h
theorem tAt {W : World} {p k : Nat} {c : Array Value} {t : TypeId} (h : W.heap[p]? = some (.cells c t (0, 0))) : W.frozen? ⟨p, k, none⟩ = false := by
 simp [World.frozen?, h]
theorem zaK : devV noH DevM.noDev = .agg zDev := by kernel_rfl
theorem sDv (h : DevH) (d : DevR) : (Tryz.prog.info? 37).map (·.size) = some (dvC h d).size := by kernel_rfl
theorem oDv (h : DevH) (d : DevR) : (dvC h d).all (·.oneCell') = true := by kernel_rfl
theorem lDv (h h' : DevH) (d d' : DevR) : (dvC h d).size = (dvC h' d').size := by kernel_rfl
theorem zac : (Tryz.prog.info? 37).map (·.size) = some zDev.size := by kernel_rfl
theorem zaq : zDev.all (·.oneCell') = true := by kernel_rfl
theorem zat (h : DevH) (d : DevR) : zDev.size = (dvC h d).size := by kernel_rfl
theorem zav : zDev.size = zDev.size := by kernel_rfl
theorem part_slots (h : DevH) (d : DevR) : (dvC h d).extract 0 (0 + (za4 h).size) = za4 h := by kernel_rfl
theorem zai (h : DevH) (d : DevR) : (dvC h d).extract 2 (2 + (cpC d.c).size) = cpC d.c := by kernel_rfl
theorem zay (h : DevH) (d : DevR) : (dvC h d).extract 30 (30 + (jbC h.oa h.on h.oc d.job).size) = jbC h.oa h.on h.oc d.job := by kernel_rfl
theorem size_slots (h : DevH) : (Tryz.prog.info? 23).map (·.size) = some (za4 h).size := by kernel_rfl
theorem sJb (oa : Option Addr) (on oc : Nat) (p : PatR) : (Tryz.prog.info? 35).map (·.size) = some (jbC oa on oc p).size := by kernel_rfl
theorem zbg (oa : Option Addr) (on oc : Nat) (p : PatR) : (jbC oa on oc p).all (·.oneCell') = true := by kernel_rfl
theorem zaS : I64 0 := by unfold I64; decide
def offH (h : DevH) : DevH := { noH with a0 := h.a0, n0 := h.n0, c0 := h.c0, a1 := h.a1, n1 := h.n1, c1 := h.c1 }
theorem built_off (h : DevH) (d : DevR) : Tryz.prog.built 37 [(0, .agg (za4 h)), (1, .agg (cpC d.c))] = some (dvC (offH h) (DevM.off d)) := by kernel_rfl
theorem DH.off {w : World} {h : DevH} {d : DevR} (x : DH w h d) : DH w (offH h) (DevM.off d) :=
 ⟨x.b0, x.b1, CS.nil_ w, OS.nil_ w, x.copsW, zaS, zbv, zaS⟩
section
variable {P : Program} {fn : Func} {p a : Tmp} {va : Value} {ty : TypeId} {tmps : Array Value} {w : World} {g : Nat} {t : TypeId} {cs : Array Value} {fr : Nat × Nat} {d : TypeDesc}
theorem res_c (h : fn.results = #[.cell p ty]) (hp : tmps.getD p undef = .pointer (some ⟨g, 0, none⟩)) (hg : w.heap[g]? = some (.cells cs t fr))
 (hu : P.underlying ty = some d) (hd : (match d with | .struct _ | .array _ _ => true | _ => false) = true) (hi : (P.info? ty).map (·.size) = some cs.size) :
 (results fn tmps).run P w = .ok (.agg cs) w := by
 have hp' : tmps[p]?.getD undef = .pointer (some ⟨g, 0, none⟩) := by simpa using hp
 simp [results, h, hp', asAddr, run_loadVar_row w g t ty cs fr d hg hu hd hi]
end
def GDv (r : DevR × Int) (w : World) (e : Ending) (w' : World) : Prop :=
 ∃ h, e = .returned (.tuple #[devV h r.1, .int .i64 r.2]) ∧ Below w.heap.size w w' ∧ NewR w.heap.size w' (fun W => DH W h r.1)
theorem GDv.bad {E : Int} {w w' : World} (hb : Below w.heap.size w w') : GDv (DevM.noDev, E) w (.returned (.tuple #[.agg zDev, .int .i64 E])) w' :=
 ⟨noH, by rw [zaK], hb, NewR.any (fun W => DH.none_ W)⟩
namespace DevM
def beg (d : DevR) (up : Bool) : RecR × Int := if check d ≠ 0 then (RecM.noRec, check d) else if d.up ≠ up then (RecM.noRec, 5) else (rc d, 0)
theorem beg_cases (d : DevR) (up : Bool) : (∃ E, E ≠ 0 ∧ beg d up = (RecM.noRec, E) ∧ ∀ x, told d up x = (noDev, E)) ∨ (Ok d ∧ d.up = up ∧ beg d up = (rc d, 0) ∧ ∀ x, told d up x = x) := by
 unfold beg told wrong; by_cases h1 : check d = 0
 · by_cases h2 : d.up = up
   · exact .inr ⟨ok_iff.1 h1, h2, by rw [if_neg (fun q => q h1), if_neg (fun q => q h2)], fun x => by rw [if_neg (fun q => q h1), if_pos h2]⟩
   · exact .inl ⟨5, by decide, by rw [if_neg (fun q => q h1), if_pos h2], fun x => by rw [if_neg (fun q => q h1), if_neg h2]⟩
 · exact .inl ⟨check d, h1, by rw [if_pos h1], fun x => by rw [if_pos h1]⟩
end DevM
def CheckDC : Prop := ∀ (h : DevH) (d : DevR) (w : World), DH w h d → Calls Tryz.prog 14 #[devV h d] w fun e w' => e = .returned (.int .i64 (DevM.check d)) ∧ Below w.heap.size w w'
def Has (lo hi : Nat) (W : World) (R : World → Prop) : Prop := hi ≤ W.heap.size ∧ ∀ V : World, hi ≤ V.heap.size → (∀ k, lo ≤ k → k < hi → V.heap[k]? = W.heap[k]?) → R V
section
variable {lo hi : Nat} {W W' : World} {R : World → Prop}
theorem Has.here (h : Has lo hi W R) : R W := h.2 W h.1 (fun _ _ _ => rfl)
theorem Has.keep (h : Has lo hi W R) (hs : hi ≤ W'.heap.size) (hk : ∀ k, lo ≤ k → k < hi → W'.heap[k]? = W.heap[k]?) : Has lo hi W' R :=
 ⟨hs, fun V h1 h2 => h.2 V h1 (fun k k1 k2 => (h2 k k1 k2).trans (hk k k1 k2))⟩
theorem Has.below (h : Has lo hi W R) (hb : Below W.heap.size W W') : Has lo hi W' R :=
 h.keep (Nat.le_trans h.1 hb.size) (fun k _ k2 => hb.block k (Nat.lt_of_lt_of_le k2 h.1))
theorem Has.row (h : Has lo hi W R) {g : Nat} (hg : g < lo ∨ hi ≤ g) (cs : Array Value) : Has lo hi (W.setRow g cs) R :=
 h.keep (by rw [setRow_size]; exact h.1) (fun k k1 k2 => setRow_other W g k cs (by omega))
theorem Has.of_new (h : NewR lo W R) : Has lo W.heap.size W R := ⟨Nat.le_refl _, h⟩
theorem Has.new (h : Has lo hi W R) {lo' : Nat} (hl : lo' ≤ lo) : NewR lo' W R := fun V h1 h2 => h.2 V (Nat.le_trans h.1 h1) (fun k k1 k2 => h2 k (Nat.le_trans hl k1) (Nat.lt_of_lt_of_le k2 h.1))
theorem Has.imp (h : Has lo hi W R) {R' : World → Prop} (hi' : ∀ V, R V → R' V) : Has lo hi W R' := ⟨h.1, fun V h1 h2 => hi' V (h.2 V h1 h2)⟩
end
abbrev Hlds := List (Nat × Nat × (World → Prop))
structure MH (w : World) (L : List (Nat × Array Value × TypeId)) (H : Hlds) (W : World) : Prop where
 ms : MS w L [] [] W
 has : ∀ q ∈ H, Has q.1 q.2.1 W q.2.2
 lo : ∀ q ∈ H, w.heap.size ≤ q.1
 sep : ∀ p ∈ L, ∀ q ∈ H, p.1 < q.1 ∨ q.2.1 ≤ p.1
section
variable {w W W' : World} {L : List (Nat × Array Value × TypeId)} {H : Hlds}
theorem MH.of (h : MS w L [] [] W) : MH w L [] W := ⟨h, (fun _ q => by cases q), (fun _ q => by cases q), (fun _ _ _ q => by cases q)⟩
theorem MH.below (h : MH w L H W) : Below w.heap.size w W := h.ms.below
theorem MH.later (h : MH w L H W) (hb : Below W.heap.size W W') : MH w L H W' := ⟨h.ms.later hb, fun q hq => (h.has q hq).below hb, h.lo, h.sep⟩
theorem MH.drew (h : MH w L H W) : MH w L H W.drew := h.later (Below.refl _ _).drew
theorem MH.alloc (h : MH w L H W) {p : Nat} (hp : W.heap.size = p) (c : Array Value) (t : TypeId) : MH w ((p, c, t) :: L) H (W.alloc (.cells c t)) := by
 refine ⟨h.ms.alloc hp c t, fun q hq => (h.has q hq).below ((Below.refl _ _).alloc (Nat.le_refl _) _), h.lo, fun p' hp' q hq => ?_⟩; rcases List.mem_cons.1 hp' with rfl | hp'
 · have := (h.has q hq).1
   exact .inr (by simp only; omega)
 · exact h.sep p' hp' q hq
theorem MH.get (h : MH w L H W) (i : Nat) {q : Nat × Array Value × TypeId} (hq : L[i]? = some q) : W.heap[q.1]? = some (.cells q.2.1 q.2.2 (0, 0)) := h.ms.get i hq
theorem MH.cel {w W : World} {L : List (Nat × Array Value × TypeId)} {H : Hlds} (h : MH w L H W) (i k : Nat) {p : Nat} {c : Array Value} {t : TypeId} {v : Value} (hq : L[i]? = some (p, c, t)) (hv : c[k]? = some v) : W.cell? ⟨p, k, none⟩ = some v := cAt (h.get i hq) hv
theorem MH.thw {w W : World} {L : List (Nat × Array Value × TypeId)} {H : Hlds} (h : MH w L H W) (i k : Nat) {p : Nat} {c : Array Value} {t : TypeId} (hq : L[i]? = some (p, c, t)) : W.frozen? ⟨p, k, none⟩ = false := by simp [World.frozen?, h.get i hq]
theorem MH.gt {w W : World} {L : List (Nat × Array Value × TypeId)} {H : Hlds} (h : MH w L H W) (i : Nat) {p : Nat} {c : Array Value} {t : TypeId} (hq : L[i]? = some (p, c, t)) : W.heap[p]? = some (.cells c t (0, 0)) := h.get i hq
theorem MH.fact (h : MH w L H W) (i : Nat) {q : Nat × Nat × (World → Prop)} (hq : H[i]? = some q) : q.2.2 W := (h.has q (List.mem_of_getElem? hq)).here
theorem MH.newR (h : MH w L H W) (i : Nat) {q : Nat × Nat × (World → Prop)} (hq : H[i]? = some q) : NewR w.heap.size W q.2.2 := (h.has q (List.mem_of_getElem? hq)).new (h.lo q (List.mem_of_getElem? hq))
theorem MH.gain (h : MH w L H W) (hb : Below W.heap.size W W') {r : World → Prop} (hr : NewR W.heap.size W' r) : MH w L ((W.heap.size, W'.heap.size, r) :: H) W' := by
 have h' := h.later hb; refine ⟨h'.ms, fun q hq => ?_, fun q hq => ?_, fun p hp q hq => ?_⟩
 · rcases List.mem_cons.1 hq with rfl | hq
   · exact Has.of_new hr
   · exact h'.has q hq
 · rcases List.mem_cons.1 hq with rfl | hq
   · exact h.ms.below.size
   · exact h.lo q hq
 · rcases List.mem_cons.1 hq with rfl | hq
   · exact .inl (h.ms.lt hp)
   · exact h.sep p hp q hq
theorem MH.set_mem {i : Nat} {g : Nat} {c c' : Array Value} {t : TypeId} (hq : L[i]? = some (g, c, t)) {p : Nat × Array Value × TypeId} (hp : p ∈ L.set i (g, c', t)) : ∃ p' ∈ L, p'.1 = p.1 := by
 obtain ⟨hi, hLi⟩ := List.getElem?_eq_some_iff.1 hq; obtain ⟨j, hj, rfl⟩ := List.mem_iff_getElem.1 hp; rw [List.length_set] at hj; refine ⟨L[j], List.getElem_mem _, ?_⟩; rw [List.getElem_set]; split
 · rename_i e; subst e; rw [hLi]
 · rfl
theorem MH.set (h : MH w L H W) (i : Nat) {g : Nat} {c : Array Value} {t : TypeId} (hq : L[i]? = some (g, c, t)) (c' : Array Value) : MH w (L.set i (g, c', t)) H (W.setRow g c') := by
 refine ⟨h.ms.set i hq c', fun q hq' => (h.has q hq').row (h.sep (g, c, t) (List.mem_of_getElem? hq) q hq') c', h.lo, fun p hp q hq' => ?_⟩; obtain ⟨p', hp', e⟩ := MH.set_mem hq hp; rw [← e]; exact h.sep p' hp' q hq'
theorem MH.cell (h : MH w L H W) (i : Nat) {g : Nat} {c : Array Value} {t : TypeId} (hq : L[i]? = some (g, c, t)) {k : Nat} {v : Value} {c' : Array Value} (e : c.setIfInBounds k v = c') : MH w (L.set i (g, c', t)) H (W.setCell ⟨g, k, none⟩ v) := by
 have hb := h.get i hq; simp only at hb; rw [setCell_eq_setRow W g k c t (0, 0) v hb, e]; exact h.set i hq c'
theorem MH.cells (h : MH w L H W) (i : Nat) {g : Nat} {c : Array Value} {t : TypeId} (hq : L[i]? = some (g, c, t)) {o : Nat} {vs : List Value} {c' : Array Value} (e : putAt c o vs = c') : MH w (L.set i (g, c', t)) H (W.setCells g o vs) := by
 subst e
 induction vs generalizing o c W L with
 | nil =>
   have : L.set i (g, c, t) = L := by
    obtain ⟨hi, hLi⟩ := List.getElem?_eq_some_iff.1 hq; rw [← hLi]; exact List.set_getElem_self hi
   show MH w (L.set i (g, c, t)) H W; rw [this]; exact h
 | cons v vs ih =>
   have h1 := h.cell i hq (k := o) (v := v) rfl; obtain ⟨hi, -⟩ := List.getElem?_eq_some_iff.1 hq; have h2 := ih (o := o + 1) (c := c.setIfInBounds o v) h1 (by rw [List.getElem?_set_self hi]); rw [List.set_set] at h2; exact h2
theorem MS.other {W : World} (h : MS w L [] [] W) {g : Nat} (hw : w.heap.size ≤ g) (hg : ∀ p ∈ L, p.1 ≠ g) (k : Nat) (v : Value) : MS w L [] [] (W.setCell ⟨g, k, none⟩ v) :=
 ⟨fun q hq => (Below.heap_setCell W _ v q.1 (hg q hq)).trans (h.has q hq), h.srt, h.base, bel_cell h.below hw v, (fun _ q => by cases q), (fun _ q => by cases q)⟩
theorem MH.other (h : MH w L H W) {g : Nat} (hw : w.heap.size ≤ g) (hg : ∀ p ∈ L, p.1 ≠ g) (hH : ∀ q ∈ H, g < q.1 ∨ q.2.1 ≤ g) (k : Nat) (v : Value) : MH w L H (W.setCell ⟨g, k, none⟩ v) :=
 ⟨h.ms.other hw hg k v, fun q hq => (h.has q hq).keep (by simpa using (h.has q hq).1) (fun j j1 j2 => Below.heap_setCell W _ v j (by have := hH q hq; simp only; omega)), h.lo, h.sep⟩
theorem MH.put (h : MH w L H W) {lo hi : Nat} {r : World → Prop} (hr : Has lo hi W r) (hl : w.heap.size ≤ lo) (hL : ∀ p ∈ L, p.1 < lo) : MH w L ((lo, hi, r) :: H) W := by
 refine ⟨h.ms, fun q hq => ?_, fun q hq => ?_, fun p hp q hq => ?_⟩
 · rcases List.mem_cons.1 hq with rfl | hq
   · exact hr
   · exact h.has q hq
 · rcases List.mem_cons.1 hq with rfl | hq
   · exact hl
   · exact h.lo q hq
 · rcases List.mem_cons.1 hq with rfl | hq
   · exact .inl (hL p hp)
   · exact h.sep p hp q hq
theorem gnH {prog : Program} {code : Code} {K : Exit → Act → World → Prop} {a : Act} (h : MH w L H W) (k : ∀ V, MH w L H V → Code.wp prog code K a V) : Code.wp prog code K a W := k W h
theorem MS.there {R N : List (World → Prop)} (h : MS w L R N W) (i : Nat) {g : Nat} {c : Array Value} {t : TypeId} (hq : L[i]? = some (g, c, t)) {o n : Nat} (hn : o + n ≤ c.size) : W.there g o n := by
 have hb := h.get i hq; simp only at hb; intro j hj; simp only [World.cell?, World.frozen?, hb]; rw [Array.getElem?_eq_getElem (by omega)]; simp
end
theorem Tryz.info_chunk : (Tryz.prog.info? 39).map (fun i => (i.zero, i.size, i.bytes)) = some (some (.agg #[.int .i64 0, .int .i64 0, .int .i64 0, .int .i64 0, .slice none 0 0]), 5, 56) := by kernel_rfl
structure ChVv where
 fr : Int
 to_ : Int
 n : Int
 of_ : Int
 v : Value
instance : Inhabited ChVv := ⟨⟨0, 0, 0, 0, .slice none 0 0⟩⟩
def zas : List ChVv → List Value
 | [] => []
 | o :: t => .int .i64 o.fr :: .int .i64 o.to_ :: .int .i64 o.n :: .int .i64 o.of_ :: o.v :: zas t
theorem zbj : ∀ x y, zas (x ++ y) = zas x ++ zas y
 | [], _ => rfl
 | o :: t, y => by simp [zas, zbj t y]
theorem zaN : ∀ x, (zas x).length = x.length * 5
 | [] => rfl
 | o :: t => by simp [zas, zaN t]; omega
theorem zbM : ∀ (x : List ChVv) (i : Nat), i < x.length → (zas x)[i * 5]? = some (.int .i64 (x.getD i default).fr) ∧ (zas x)[i * 5 + 1]? = some (.int .i64 (x.getD i default).to_) ∧ (zas x)[i * 5 + 2]? = some (.int .i64 (x.getD i default).n) ∧ (zas x)[i * 5 + 3]? = some (.int .i64 (x.getD i default).of_) ∧ (zas x)[i * 5 + 4]? = some (x.getD i default).v
 | [], i, h => by simp at h
 | o :: t, 0, _ => by simp [zas]
 | o :: t, i + 1, h => by
   have := zbM t i (by simpa using h)
   simp only [zas, List.getD_cons_succ, show (i + 1) * 5 = i * 5 + 1 + 1 + 1 + 1 + 1 by omega, List.getElem?_cons_succ]
   exact this
def zbG (w0 : World) (o : ChVv) (r : ChR) : Prop :=
 o.fr = r.fr ∧ o.to_ = r.to_ ∧ o.n = r.n ∧ o.of_ = r.of_ ∧ r.I ∧ ∃ a n c, o.v = .slice a n c ∧ BS w0 a n c r.data
def ChSt (w0 : World) (base : Nat) (vo : Value) (out : List ChR) (W : World) : Prop :=
 ∃ vs : List ChVv, vs.length = out.length ∧ W.ownsRow base 39 5 vo out.length (zas vs) ∧ ∀ i, i < out.length → zbG w0 (vs.getD i default) (out.getD i default)
theorem one_ch {W : World} {B : Nat} {A1 A2 A3 A4 : Int} {v : Value} (hB : W.heap[B]? = some (.cells #[.int .i64 A1, .int .i64 A2, .int .i64 A3, .int .i64 A4, v] 39 (0, 0))) :
 ∀ j u, (zas [⟨A1, A2, A3, A4, v⟩])[j]? = some u → W.cell? ((⟨B, 0, none⟩ : Addr).add j) = some u := by
 have := World.news_of_block hB
 simpa [zas] using this
section
variable {w0 : World} {base : Nat} {vo : Value} {out : List ChR} {W W' : World}
theorem ChSt.start (w0 W : World) (base : Nat) : ChSt w0 base (.slice none 0 0) [] W := ⟨[], rfl, World.ownsRow_nil _ _ _ _, fun i hi => absurd hi (by simp)⟩
theorem ChSt.keep (h : ChSt w0 base vo out W) (hk : ∀ g, vo.ownBlock = some g → W'.heap[g]? = W.heap[g]?) : ChSt w0 base vo out W' := by
 obtain ⟨vs, h1, h2, h3⟩ := h; exact ⟨vs, h1, za1 h2 hk, h3⟩
theorem ChSt.own (h : ChSt w0 base vo out W) {g : Nat} (hg : vo.ownBlock = some g) : base ≤ g ∧ g < W.heap.size := by
 obtain ⟨vs, h1, h2, h3⟩ := h; exact oL3 h2 hg
theorem ChSt.later (h : ChSt w0 base vo out W) (hb : Below W.heap.size W W') : ChSt w0 base vo out W' := h.keep (fun _ hg => hb.block _ (h.own hg).2)
theorem ChSt.form (h : ChSt w0 base vo out W) : ∃ a c, vo = .slice a out.length c := by
 obtain ⟨vs, h1, h2, h3⟩ := h; rcases h2.2 with ⟨q1, q2⟩ | ⟨g, cap, cur, q1, _⟩
 · exact ⟨none, 0, by rw [q1, q2]⟩
 · exact ⟨_, _, q1⟩
theorem ChSt.app (h : ChSt w0 base vo out W) (r : ChR) {a : Option Addr} {n c : Nat} (hd : BS w0 a n c r.data) (hI : r.I) (hn : out.length ≤ 1000) (hbase : base ≤ W.heap.size) {w : World} (hbl : Below base w W) (hw : base = w.heap.size) :
 ∃ g cap W5, (Builtin.append_ #[32, 32] 32 #[vo, .slice (some ⟨W.heap.size, 0, none⟩) 1 1]).run Tryz.prog (W.alloc (.cells #[.int .i64 r.fr, .int .i64 r.to_, .int .i64 r.n, .int .i64 r.of_, .slice a n c] 39)) = .ok (.slice (some ⟨g, 0, none⟩) (out.length + 1) cap) W5 ∧
   Hid (ChSt w0 base (.slice (some ⟨g, 0, none⟩) (out.length + 1) cap) (out ++ [r]) W5 ∧ Below base w W5) ∧ ∀ k, k < W.heap.size → some k ≠ vo.ownBlock → W5.heap[k]? = W.heap[k]? := by
 subst hw; obtain ⟨i0, hi, hz0, hz1, hz2⟩ := info_parts Tryz.info_chunk; have hb1 : Below W.heap.size W (W.alloc (.cells #[.int .i64 r.fr, .int .i64 r.to_, .int .i64 r.n, .int .i64 r.of_, .slice a n c] 39)) := (Below.refl _ _).alloc (Nat.le_refl _) _; have e2 : (W.alloc (.cells #[.int .i64 r.fr, .int .i64 r.to_, .int .i64 r.n, .int .i64 r.of_, .slice a n c] 39)).heap.size = W.heap.size + 1 := by simp
 have hx2 : (W.alloc (.cells #[.int .i64 r.fr, .int .i64 r.to_, .int .i64 r.n, .int .i64 r.of_, .slice a n c] 39)).heap[W.heap.size]? = some (.cells #[.int .i64 r.fr, .int .i64 r.to_, .int .i64 r.n, .int .i64 r.of_, .slice a n c] 39 (0, 0)) := by
  rw [hpA, if_pos rfl]
 have hbl2 := bTh hbl hb1; have h' := h.later hb1; generalize W.alloc (.cells #[.int .i64 r.fr, .int .i64 r.to_, .int .i64 r.n, .int .i64 r.of_, .slice a n c] 39) = W2 at hb1 e2 hx2 hbl2 h' ⊢; have hown := fun g hg => h'.own (g := g) hg; obtain ⟨vs, h1, h2, h3⟩ := h'
 obtain ⟨g, cap, W5, hr, ho, hg, hlies, hlt⟩ := run_append_lies (P := Tryz.prog) W2 32 32 w.heap.size 39 i0 _ 5 56 U32 hi hz0 hz1 hz2 rfl (by decide) vo out.length _ h2 ⟨W.heap.size, 0, none⟩ 1 1 (zas [⟨r.fr, r.to_, r.n, r.of_, .slice a n c⟩])
  rfl (one_ch hx2) (by intro u hu; simp [zas] at hu; rcases hu with rfl | rfl | rfl | rfl | rfl <;> rfl) (by omega) (by unfold maxLen; omega) (by omega) (by omega) W2.heap.size rfl
 refine ⟨g, cap, W5, hr, ⟨⟨vs ++ [⟨r.fr, r.to_, r.n, r.of_, .slice a n c⟩], by simp [h1], ?_, ?_⟩, hbl2.grown hg hbl2.size (fun g' hg' => (hown g' hg').1)⟩, fun k k1 k2 => (hg.block k (by omega) k2).trans (hb1.block k k1)⟩
 · rw [zbj, List.length_append]
   exact ho
 · intro i hi'
   rw [List.length_append] at hi'; simp only [List.length_cons, List.length_nil] at hi'; rcases Nat.lt_or_ge i out.length with hlt2 | hge
   · have e1 : (vs ++ [(⟨r.fr, r.to_, r.n, r.of_, .slice a n c⟩ : ChVv)]).getD i default = vs.getD i default := by simp [List.getD_eq_getElem?_getD, List.getElem?_append_left (show i < vs.length by omega)]
     have e2 : (out ++ [r]).getD i default = out.getD i default := by simp [List.getD_eq_getElem?_getD, List.getElem?_append_left hlt2]
     rw [e1, e2]; exact h3 i hlt2
   · obtain rfl : i = out.length := by omega
     have e1 : (vs ++ [(⟨r.fr, r.to_, r.n, r.of_, .slice a n c⟩ : ChVv)]).getD out.length default = ⟨r.fr, r.to_, r.n, r.of_, .slice a n c⟩ := by rw [← h1]; simp [List.getD_eq_getElem?_getD]
     have e2 : (out ++ [r]).getD out.length default = r := by simp [List.getD_eq_getElem?_getD]
     rw [e1, e2]; exact ⟨rfl, rfl, rfl, rfl, hI, a, n, c, rfl, hd⟩
end
theorem ChSt.cs {w0 : World} {base : Nat} {a : Option Addr} {n c : Nat} {out : List ChR} {W : World} (h : ChSt w0 base (.slice a n c) out W) (hn : out.length = n) (hb : Below w0.heap.size w0 W) : CS W a n c out := by
 obtain ⟨vs, h1, h2, h3⟩ := h; subst hn; rcases h2.2 with ⟨hv, hn0⟩ | ⟨g, cap, cur, hv, _, _, hnc, hcm, _, _⟩
 · simp only [Value.slice.injEq] at hv
   obtain ⟨rfl, h0, rfl⟩ := hv; obtain rfl : out = [] := List.eq_nil_of_length_eq_zero h0; exact CS.nil_ W
 · simp only [Value.slice.injEq, true_and] at hv
   obtain ⟨rfl, rfl⟩ := hv; refine ⟨rfl, hnc, by unfold maxLen at hcm; omega, fun hp => ⟨g, 0, rfl, fun i hi => ?_⟩, fun h => by cases h⟩; obtain ⟨r1, r2, r3, r4, r5, av, nv, cv, r6, r7⟩ := h3 i hi; obtain ⟨c0, c1, c2, c3, c4⟩ := zbM vs i (by omega); have e0 := h2.cellAt (i * 5) (by omega); have e1 := h2.cellAt (i * 5 + 1) (by omega); have e2 := h2.cellAt (i * 5 + 2) (by omega); have e3 := h2.cellAt (i * 5 + 3) (by omega); have e4 := h2.cellAt (i * 5 + 4) (by omega); rw [c0, r1] at e0; rw [c1, r2] at e1; rw [c2, r3] at e2; rw [c3, r4] at e3; rw [c4, r6] at e4; refine ⟨av, nv, cv, ?_, ?_, ?_, ?_, ?_, r7.later hb, r5⟩
   · rw [Nat.zero_add]; exact e0
   · rw [Nat.zero_add]; exact e1
   · rw [Nat.zero_add]; exact e2
   · rw [Nat.zero_add]; exact e3
   · rw [Nat.zero_add]; exact e4
end Go.Proofs.YtnnmpoknghbdnacGreat
