/-
  No cell of these rows narrows 'for every input' (looked for: loops, veiled, ifaces, maps, wideKeys, modest, calm, conditions, laid).
  DERIVED. THE GIVEN ROWS OF THIS SEAT. 3 by the template 'for every input the law returns true; each argument reads behind the call as it read before'; 0 by the template 'total and deterministic' (their statements: YtmpmaljkmfgagacTotals.lean).
  GIVEN WITH THE SEED: the statements are not yours to turn. If you find one false, say at which input.
  Laid BY PROGRAM, IN A SANDBOX (cutbox-rows.mjs): the forced cells as the released guide's own fill.sh prints them over the translation a9f784c807557001… (all of the seat's roots in one cut). By AI agents, Wed Nov 11 2026. No macro, syntax, notation, axiom, sorry.
-/
import Derived.Test.YtmpmaljkmfgagacChecked
import GoSem.Claim
import GoSem.ClaimJoined
import GoSem.ClaimMapViews
import Derived.JoinedTies
import Derived.KernelRfl
namespace Go.Proofs.Ytmpmaljkmfgagac
/- THE CELL 'sum', in the pinned program and in every row, IS THE sha256 OF THE DUMP (.gsa) THAT YtmpmaljkmfgagacProg.lean LOADS. Nothing in Lean hashes anything: it is a label: what it is worth is what the hold of that sum in a sandbox is worth. -/
noncomputable def Try.pinned : Pinned := { name := "ytmpmaljkmfgagac", sum := "a9f784c8075570010f53eb00386b40a76ebd7620369557fd12466d01970fe323", checked := Try.checked }
namespace Rows
def none {H : Type} : Left H := { results := [], args := [] }

/-- 'cobblerlaw.RecordSays': WHATEVER THE INPUT: true; the input reads as it did. -/
def recordSaysSpec : ChangeSpec := { name := "recordSays", fn := fun _ => fun
  | [d1, d2, d3] => { results := [.lit (.bool true)], args := [d1, d2, d3] }
  | _ => none }
def recordSaysRow : OpenClaim := { program := "ytmpmaljkmfgagac", sum := "a9f784c8075570010f53eb00386b40a76ebd7620369557fd12466d01970fe323", func := "cobbler/cobblerlaw.RecordSays", spec := "recordSays", unfollowed := true, recurses := true, apart := false }
def RecordSaysSaid : Prop := recordSaysRow.holds Try.pinned (OpenSpec.ofChange recordSaysSpec)

/-- ITS FALSE NEIGHBOUR: 'it returns false'. Refute it at one input. -/
def recordSaysWrong : ChangeSpec := { name := "recordSays", fn := fun _ => fun
  | [d1, d2, d3] => { results := [.lit (.bool false)], args := [d1, d2, d3] }
  | _ => none }
def RecordSaysWrongFalsely : Prop := recordSaysRow.holds Try.pinned (OpenSpec.ofChange recordSaysWrong)

/-- 'cobblerlaw.RecordTorn': WHATEVER THE INPUT: true; the input reads as it did. -/
def recordTornSpec : ChangeSpec := { name := "recordTorn", fn := fun _ => fun
  | [d1, d2] => { results := [.lit (.bool true)], args := [d1, d2] }
  | _ => none }
def recordTornRow : OpenClaim := { program := "ytmpmaljkmfgagac", sum := "a9f784c8075570010f53eb00386b40a76ebd7620369557fd12466d01970fe323", func := "cobbler/cobblerlaw.RecordTorn", spec := "recordTorn", apart := false }
def RecordTornSaid : Prop := recordTornRow.holds Try.pinned (OpenSpec.ofChange recordTornSpec)

/-- ITS FALSE NEIGHBOUR: 'it returns false'. Refute it at one input. -/
def recordTornWrong : ChangeSpec := { name := "recordTorn", fn := fun _ => fun
  | [d1, d2] => { results := [.lit (.bool false)], args := [d1, d2] }
  | _ => none }
def RecordTornWrongFalsely : Prop := recordTornRow.holds Try.pinned (OpenSpec.ofChange recordTornWrong)

/-- 'cobblerlaw.RecordStarts': WHATEVER THE INPUT: true; the input reads as it did. -/
def recordStartsSpec : ChangeSpec := { name := "recordStarts", fn := fun _ => fun
  | [d] => { results := [.lit (.bool true)], args := [d] }
  | _ => none }
def recordStartsRow : OpenClaim := { program := "ytmpmaljkmfgagac", sum := "a9f784c8075570010f53eb00386b40a76ebd7620369557fd12466d01970fe323", func := "cobbler/cobblerlaw.RecordStarts", spec := "recordStarts", apart := false }
def RecordStartsSaid : Prop := recordStartsRow.holds Try.pinned (OpenSpec.ofChange recordStartsSpec)

/-- ITS FALSE NEIGHBOUR: 'it returns false'. Refute it at one input. -/
def recordStartsWrong : ChangeSpec := { name := "recordStarts", fn := fun _ => fun
  | [d] => { results := [.lit (.bool false)], args := [d] }
  | _ => none }
def RecordStartsWrongFalsely : Prop := recordStartsRow.holds Try.pinned (OpenSpec.ofChange recordStartsWrong)

/- THE SECOND FORM. 'bulk': how many values and letters a reading holds, each counted each time it is reached (what is shared counts as often as it is met; a slice's spare places count too). A statement '..UptoSaid' is the law's where the arguments, and the package variables that the reading takes, are together of bulk at most 1048576: NARROWER than '..Said'. Prove '..Said' where nothing that the law and all that it calls make is longer than what came in: it says more and counts as full. Else prove '..UptoSaid'. A law counts once. -/
mutual
def uptoBulk {H : Type} : DataW H → Nat
  | .lit (.string bytes) => bytes.length + 1
  | .lit _ => 1
  | .nil => 1
  | .ptr d => uptoBulk d + 1
  | .slice elems spare => uptoBulkAll elems + uptoBulkAll spare + 1
  | .agg parts => uptoBulkAll parts + 1
  | .iface _ d => uptoBulk d + 1
  | .map entries => uptoBulkEntries entries + 1
  | .held _ => 1
def uptoBulkAll {H : Type} : List (DataW H) → Nat
  | [] => 0
  | d :: r => uptoBulk d + uptoBulkAll r
def uptoBulkEntries {H : Type} : List (Lit × DataW H) → Nat
  | [] => 0
  | x :: r => uptoBulkEntry x + uptoBulkEntries r
def uptoBulkEntry {H : Type} : Lit × DataW H → Nat
  | (.string bytes, d) => bytes.length + uptoBulk d + 1
  | (_, d) => uptoBulk d + 1
 end
def uptoSmall : (H : Type) → List (DataW H) → Bool := fun _ ds => decide (uptoBulkAll ds ≤ 1048576)
def OpenSpec.upto (s : _root_.Go.ChangeSpec) : _root_.Go.OpenSpec := { _root_.Go.OpenSpec.ofChange s with cond := some uptoSmall }

/-- 'cobblerlaw.RecordSays', WHERE WHAT IT READS IS OF BULK AT MOST 1048576: true; the input reads as it did. -/
def recordSaysUptoRow : OpenClaim := { program := "ytmpmaljkmfgagac", sum := "a9f784c8075570010f53eb00386b40a76ebd7620369557fd12466d01970fe323", func := "cobbler/cobblerlaw.RecordSays", spec := "recordSays", unfollowed := true, recurses := true, apart := false, narrowed := true }
def RecordSaysUptoSaid : Prop := recordSaysUptoRow.holds Try.pinned (OpenSpec.upto recordSaysSpec)

/-- 'cobblerlaw.RecordTorn', WHERE WHAT IT READS IS OF BULK AT MOST 1048576: true; the input reads as it did. -/
def recordTornUptoRow : OpenClaim := { program := "ytmpmaljkmfgagac", sum := "a9f784c8075570010f53eb00386b40a76ebd7620369557fd12466d01970fe323", func := "cobbler/cobblerlaw.RecordTorn", spec := "recordTorn", apart := false, narrowed := true }
def RecordTornUptoSaid : Prop := recordTornUptoRow.holds Try.pinned (OpenSpec.upto recordTornSpec)

/-- 'cobblerlaw.RecordStarts', WHERE WHAT IT READS IS OF BULK AT MOST 1048576: true; the input reads as it did. -/
def recordStartsUptoRow : OpenClaim := { program := "ytmpmaljkmfgagac", sum := "a9f784c8075570010f53eb00386b40a76ebd7620369557fd12466d01970fe323", func := "cobbler/cobblerlaw.RecordStarts", spec := "recordStarts", apart := false, narrowed := true }
def RecordStartsUptoSaid : Prop := recordStartsUptoRow.holds Try.pinned (OpenSpec.upto recordStartsSpec)

end Rows
end Go.Proofs.Ytmpmaljkmfgagac
