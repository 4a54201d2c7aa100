/-
  What is asked of package route: its functions' contracts, as propositions; the document's Best.
-/
import Derived.Test.YtmpmaljkmfgagabRouteMath2
import Derived.Test.YtmpmaljkmfgagabEdges
import Derived.Test.YtmpmaljkmfgagabInts
namespace Go.Proofs.Ytmpmaljkmfgagab
open Go.RowKit

namespace RouteM
def inV (x : Int) : Prop := 1 ≤ x ∧ x ≤ 30
/-- the document's Best: the versions, the cost, the error -/
def RouteIs (l : List EdR) (fr to : Int) (p : List Int) (N err : Int) : Prop :=
  (check l ≠ 0 ∧ p = [] ∧ N = 0 ∧ err = check l) ∨
  (check l = 0 ∧ ¬ (inV fr ∧ inV to) ∧ p = [] ∧ N = 0 ∧ err = 2) ∨
  (check l = 0 ∧ (inV fr ∧ inV to) ∧ NoWay l fr to ∧ p = [] ∧ N = 0 ∧ err = 4) ∨
  (check l = 0 ∧ (inV fr ∧ inV to) ∧ Best l fr to p N ∧ err = 0)
theorem RouteIs.bad {l : List EdR} {fr to : Int} {p : List Int} {N err : Int} (h : RouteIs l fr to p N err) (hc : check l ≠ 0) : p = [] ∧ N = 0 ∧ err = check l := by
  rcases h with ⟨_, h⟩ | ⟨h, _⟩ | ⟨h, _⟩ | ⟨h, _⟩
  · exact h
  · exact absurd h hc
  · exact absurd h hc
  · exact absurd h hc
theorem RouteIs.range {l : List EdR} {fr to : Int} {p : List Int} {N err : Int} (h : RouteIs l fr to p N err) (hc : check l = 0) (hr : ¬ (inV fr ∧ inV to)) : p = [] ∧ N = 0 ∧ err = 2 := by
  rcases h with ⟨h, _⟩ | ⟨_, _, h⟩ | ⟨_, h, _⟩ | ⟨_, h, _⟩
  · exact absurd hc h
  · exact h
  · exact absurd h hr
  · exact absurd h hr
theorem RouteIs.none {l : List EdR} {fr to : Int} {p : List Int} {N err : Int} (h : RouteIs l fr to p N err) (hc : check l = 0) (hr : inV fr ∧ inV to) (hn : NoWay l fr to) : p = [] ∧ N = 0 ∧ err = 4 := by
  rcases h with ⟨h, _⟩ | ⟨_, h, _⟩ | ⟨_, _, _, h⟩ | ⟨_, _, h, _⟩
  · exact absurd hc h
  · exact absurd hr h
  · exact h
  · exact absurd h.1 (hn _ _)
theorem RouteIs.best {l : List EdR} {fr to : Int} {p q : List Int} {N M err : Int} (h : RouteIs l fr to p N err) (hc : check l = 0) (hr : inV fr ∧ inV to) (hb : Best l fr to q M) : p = q ∧ N = M ∧ err = 0 := by
  rcases h with ⟨h, _⟩ | ⟨_, h, _⟩ | ⟨_, _, h, _⟩ | ⟨_, _, h, e⟩
  · exact absurd hc h
  · exact absurd hr h
  · exact absurd hb.1 (h _ _)
  · obtain ⟨e1, e2⟩ := h.det hb
    exact ⟨e2, e1, e⟩
end RouteM
/-- what Best returns -/
def GivesR (l : List RouteM.EdR) (fr to : Int) (w : World) (e : Ending) (w' : World) : Prop :=
  ∃ p N err a n c, RouteM.RouteIs l fr to p N err ∧ e = .returned (.tuple #[.slice a n c, .int .i64 N, .int .i64 err]) ∧ NS w' a n c p ∧ Below w.heap.size w w'
def CheckRC : Prop := ∀ (a : Option Addr) (n c : Nat) (l : List RouteM.EdR) (w : World), ES w a n c l →
  Calls Try.prog 39 #[.slice a n c] w fun e w' => e = .returned (.int .i64 (RouteM.check l)) ∧ Below w.heap.size w w'
def BestRC : Prop := ∀ (a : Option Addr) (n c : Nat) (l : List RouteM.EdR) (fr to : Int) (w : World), ES w a n c l →
  Calls Try.prog 36 #[.slice a n c, .int .i64 fr, .int .i64 to] w (GivesR l fr to w)
end Go.Proofs.Ytmpmaljkmfgagab
