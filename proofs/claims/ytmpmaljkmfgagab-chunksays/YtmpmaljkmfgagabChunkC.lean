/-
  What is asked of package chunk: its functions' contracts, as propositions; what Cut, Add and Join return.
-/
import Derived.Test.YtmpmaljkmfgagabRowToOpenN
namespace Go.Proofs.Ytmpmaljkmfgagab
open Go.RowKit

/-- what Cut returns -/
def GivesCs (p : PatR) (w : World) (e : Ending) (w' : World) : Prop :=
  ∃ cs err a n c, ChunkM.CutIs p cs err ∧ e = .returned (.tuple #[.slice a n c, .int .i64 err]) ∧ CS w' a n c cs ∧ Below w.heap.size w w'
/-- what Add returns -/
def GivesAd (l : List ChR) (x : ChR) (w : World) (e : Ending) (w' : World) : Prop :=
  ∃ a n c, e = .returned (.tuple #[.slice a n c, .int .i64 (ChunkM.addOf l x).2]) ∧ CS w' a n c (ChunkM.addOf l x).1 ∧ Below w.heap.size w w'
/-- what Join returns -/
def GivesJ (l : List ChR) (w : World) (e : Ending) (w' : World) : Prop :=
  ∃ r, ChunkM.JoinIs l r ∧ ∃ v, e = .returned (.tuple #[v, .int .i64 r.2]) ∧ PV w' v r.1 ∧ Below w.heap.size w w'
def CheckCC : Prop := ∀ (v : Value) (r : ChR) (w : World), CV w v r →
  Calls Try.prog 52 #[v] w fun e w' => e = .returned (.int .i64 (ChunkM.check r)) ∧ Below w.heap.size w w'
def ListCC : Prop := ∀ (a : Option Addr) (n c : Nat) (l : List ChR) (w : World), CS w a n c l →
  Calls Try.prog 54 #[.slice a n c] w fun e w' => e = .returned (.int .i64 (ChunkM.checks l)) ∧ Below w.heap.size w w'
def SameCC : Prop := ∀ (a a' : Option Addr) (n c n' c' : Nat) (x y : List ChR) (w : World), CS w a n c x → CS w a' n' c' y →
  Calls Try.prog 56 #[.slice a n c, .slice a' n' c'] w fun e w' => e = .returned (.bool (decide (x = y))) ∧ Below w.heap.size w w'
def CutCC : Prop := ∀ (v : Value) (p : PatR) (w : World), PV w v p → Calls Try.prog 45 #[v] w (GivesCs p w)
def AddCC : Prop := ∀ (a : Option Addr) (n c : Nat) (l : List ChR) (v : Value) (x : ChR) (w : World), CS w a n c l → CV w v x → Calls Try.prog 46 #[.slice a n c, v] w (GivesAd l x w)
def JoinCC : Prop := ∀ (a : Option Addr) (n c : Nat) (l : List ChR) (w : World), CS w a n c l → Calls Try.prog 47 #[.slice a n c] w (GivesJ l w)
end Go.Proofs.Ytmpmaljkmfgagab
