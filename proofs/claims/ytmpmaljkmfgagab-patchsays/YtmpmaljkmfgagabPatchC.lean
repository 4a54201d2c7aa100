/-
  What is asked of package patch: its functions' contracts, as propositions (the walks of the laws take them; the program's own proofs give them).
-/
import Derived.Test.YtmpmaljkmfgagabPutMath
namespace Go.Proofs.Ytmpmaljkmfgagab
open Go.RowKit

def CheckPC : Prop := ∀ (v : Value) (p : PatR) (w : World), PV w v p →
  Calls Try.prog 28 #[v] w fun e w' => e = .returned (.int .i64 (PatM.check p)) ∧ Below w.heap.size w w'
def SamePC : Prop := ∀ (v v' : Value) (p p' : PatR) (w : World), PV w v p → PV w v' p' →
  Calls Try.prog 30 #[v, v'] w fun e w' => e = .returned (.bool (decide (p = p'))) ∧ Below w.heap.size w w'
def MakePC : Prop := ∀ (fr to : Int) (a a' : Option Addr) (n c n' c' : Nat) (x y : List Int) (w : World), BS w a n c x → BS w a' n' c' y → n ≤ 64 → n' ≤ 64 → I64 fr → I64 to →
  Calls Try.prog 23 #[.int .i64 fr, .int .i64 to, .slice a n c, .slice a' n' c'] w fun e w' => ∃ ops, DeltaM.Dif x y [] ops ∧ GivesP (madeOf fr to x y ops 0) w e w'
def MakeManyPC : Prop := ∀ (fr to : Int) (a a' : Option Addr) (n c n' c' : Nat) (w : World), 64 < n ∨ 64 < n' →
  Calls Try.prog 23 #[.int .i64 fr, .int .i64 to, .slice a n c, .slice a' n' c'] w (GivesP (noPat, 1) w)
def DoPC : Prop := ∀ (v : Value) (p : PatR) (a : Option Addr) (n c : Nat) (old : List Int) (w : World), PV w v p → BS w a n c old →
  Calls Try.prog 24 #[v, .slice a n c] w (GivesBE (doneOf p old) w)
def PutPC : Prop := ∀ (v : Value) (p : PatR) (w : World), PV w v p → Calls Try.prog 32 #[v] w (GivesBE (PatM.putOf p) w)
def ReadPC : Prop := ∀ (a : Option Addr) (n c : Nat) (b : List Int) (w : World), BS w a n c b → Calls Try.prog 33 #[.slice a n c] w (GivesP (PatM.readOf b) w)
theorem makeP_all (h1 : MakePC) (h2 : MakeManyPC) (fr to : Int) (a a' : Option Addr) (n c n' c' : Nat) (x y : List Int) (w : World) (hx : BS w a n c x) (hy : BS w a' n' c' y) (hf : I64 fr) (ht : I64 to) :
    Calls Try.prog 23 #[.int .i64 fr, .int .i64 to, .slice a n c, .slice a' n' c'] w fun e w' => ∃ r, MadeIs fr to x y r ∧ GivesP r w e w' := by
  have e1 := hx.len
  have e2 := hy.len
  by_cases h : 64 < n ∨ 64 < n'
  · refine (h2 fr to a a' n c n' c' w h).mono ?_
    exact fun e w' hg => ⟨_, .many (by rw [e1, e2]; exact h), hg⟩
  · refine (h1 fr to a a' n c n' c' x y w hx hy (by omega) (by omega) hf ht).mono ?_
    rintro e w' ⟨ops, hd, hg⟩
    exact ⟨_, .any (by rw [e1, e2]; exact h) hd, hg⟩
/-- a patch that is laid into a block of its own -/
theorem PV.agg {w : World} {v : Value} {p : PatR} (h : PV w v p) : ∃ a n c, v = .agg #[.int .i64 p.from_, .int .i64 p.to_, .int .i64 p.old, .int .i64 p.new, .int .i64 p.size, .slice a n c] := by
  obtain ⟨a, n, c, rfl, -⟩ := h
  exact ⟨a, n, c, rfl⟩
end Go.Proofs.Ytmpmaljkmfgagab
