/-
  No cell of these rows narrows 'for every input' (looked for: loops, veiled, ifaces, maps, wideKeys, modest, calm, conditions, laid).
  DERIVED. THE GIVEN ROWS OF THIS SEAT. 12 by the template 'for every input the law returns true; each argument reads behind the call as it read before'; 0 by the template 'total and deterministic' (their statements: YtmpmaljkmfgagabTotals.lean).
  GIVEN WITH THE SEED: the statements are not yours to turn. If you find one false, say at which input.
  Laid BY PROGRAM, IN A SANDBOX (cutbox-rows.mjs): the forced cells as the released guide's own fill.sh prints them over the translation 4d29341e06179c26… (all of the seat's roots in one cut). By AI agents, Wed Nov 11 2026. No macro, syntax, notation, axiom, sorry.
-/
import Derived.Test.YtmpmaljkmfgagabChecked
import GoSem.Claim
import GoSem.ClaimJoined
import GoSem.ClaimMapViews
import Derived.JoinedTies
import Derived.KernelRfl
namespace Go.Proofs.Ytmpmaljkmfgagab
/- THE CELL 'sum', in the pinned program and in every row, IS THE sha256 OF THE DUMP (.gsa) THAT YtmpmaljkmfgagabProg.lean LOADS. Nothing in Lean hashes anything: it is a label: what it is worth is what the hold of that sum in a sandbox is worth. -/
noncomputable def Try.pinned : Pinned := { name := "ytmpmaljkmfgagab", sum := "4d29341e06179c26cc91f72069483146c9c2ea0dfd9030833f83af64b19dd75e", checked := Try.checked }
namespace Rows
def none {H : Type} : Left H := { results := [], args := [] }

/-- 'cobblerlaw.ComposeMakes': WHATEVER THE INPUT: true; the input reads as it did. -/
def composeMakesSpec : ChangeSpec := { name := "composeMakes", fn := fun _ => fun
  | [d1, d2, d3, d4, d5] => { results := [.lit (.bool true)], args := [d1, d2, d3, d4, d5] }
  | _ => none }
def composeMakesRow : OpenClaim := { program := "ytmpmaljkmfgagab", sum := "4d29341e06179c26cc91f72069483146c9c2ea0dfd9030833f83af64b19dd75e", func := "cobbler/cobblerlaw.ComposeMakes", spec := "composeMakes", unfollowed := true, recurses := true, apart := false }
def ComposeMakesSaid : Prop := composeMakesRow.holds Try.pinned (OpenSpec.ofChange composeMakesSpec)

/-- ITS FALSE NEIGHBOUR: 'it returns false'. Refute it at one input. -/
def composeMakesWrong : ChangeSpec := { name := "composeMakes", fn := fun _ => fun
  | [d1, d2, d3, d4, d5] => { results := [.lit (.bool false)], args := [d1, d2, d3, d4, d5] }
  | _ => none }
def ComposeMakesWrongFalsely : Prop := composeMakesRow.holds Try.pinned (OpenSpec.ofChange composeMakesWrong)

/-- 'cobblerlaw.ComposeDiffs': WHATEVER THE INPUT: true; the input reads as it did. -/
def composeDiffsSpec : ChangeSpec := { name := "composeDiffs", fn := fun _ => fun
  | [d1, d2, d3] => { results := [.lit (.bool true)], args := [d1, d2, d3] }
  | _ => none }
def composeDiffsRow : OpenClaim := { program := "ytmpmaljkmfgagab", sum := "4d29341e06179c26cc91f72069483146c9c2ea0dfd9030833f83af64b19dd75e", func := "cobbler/cobblerlaw.ComposeDiffs", spec := "composeDiffs", unfollowed := true, recurses := true, apart := false }
def ComposeDiffsSaid : Prop := composeDiffsRow.holds Try.pinned (OpenSpec.ofChange composeDiffsSpec)

/-- ITS FALSE NEIGHBOUR: 'it returns false'. Refute it at one input. -/
def composeDiffsWrong : ChangeSpec := { name := "composeDiffs", fn := fun _ => fun
  | [d1, d2, d3] => { results := [.lit (.bool false)], args := [d1, d2, d3] }
  | _ => none }
def ComposeDiffsWrongFalsely : Prop := composeDiffsRow.holds Try.pinned (OpenSpec.ofChange composeDiffsWrong)

/-- 'cobblerlaw.ComposeAlone': WHATEVER THE INPUT: true; the input reads as it did. -/
def composeAloneSpec : ChangeSpec := { name := "composeAlone", fn := fun _ => fun
  | [d1, d2, d3] => { results := [.lit (.bool true)], args := [d1, d2, d3] }
  | _ => none }
def composeAloneRow : OpenClaim := { program := "ytmpmaljkmfgagab", sum := "4d29341e06179c26cc91f72069483146c9c2ea0dfd9030833f83af64b19dd75e", func := "cobbler/cobblerlaw.ComposeAlone", spec := "composeAlone", unfollowed := true, recurses := true, apart := false }
def ComposeAloneSaid : Prop := composeAloneRow.holds Try.pinned (OpenSpec.ofChange composeAloneSpec)

/-- ITS FALSE NEIGHBOUR: 'it returns false'. Refute it at one input. -/
def composeAloneWrong : ChangeSpec := { name := "composeAlone", fn := fun _ => fun
  | [d1, d2, d3] => { results := [.lit (.bool false)], args := [d1, d2, d3] }
  | _ => none }
def ComposeAloneWrongFalsely : Prop := composeAloneRow.holds Try.pinned (OpenSpec.ofChange composeAloneWrong)

/-- 'cobblerlaw.PatchSays': WHATEVER THE INPUT: true; the input reads as it did. -/
def patchSaysSpec : ChangeSpec := { name := "patchSays", fn := fun _ => fun
  | [d1, d2, d3, d4, d5, d6] => { results := [.lit (.bool true)], args := [d1, d2, d3, d4, d5, d6] }
  | _ => none }
def patchSaysRow : OpenClaim := { program := "ytmpmaljkmfgagab", sum := "4d29341e06179c26cc91f72069483146c9c2ea0dfd9030833f83af64b19dd75e", func := "cobbler/cobblerlaw.PatchSays", spec := "patchSays", inPlace := ["internal/bytealg.IndexByte", "internal/bytealg.Index"], unfollowed := true, recurses := true, named := ["internal/bytealg.MaxLen"], apart := false }
def PatchSaysSaid : Prop := patchSaysRow.holds Try.pinned (OpenSpec.ofChange patchSaysSpec)

/-- ITS FALSE NEIGHBOUR: 'it returns false'. Refute it at one input. -/
def patchSaysWrong : ChangeSpec := { name := "patchSays", fn := fun _ => fun
  | [d1, d2, d3, d4, d5, d6] => { results := [.lit (.bool false)], args := [d1, d2, d3, d4, d5, d6] }
  | _ => none }
def PatchSaysWrongFalsely : Prop := patchSaysRow.holds Try.pinned (OpenSpec.ofChange patchSaysWrong)

/-- 'cobblerlaw.PatchBytes': WHATEVER THE INPUT: true; the input reads as it did. -/
def patchBytesSpec : ChangeSpec := { name := "patchBytes", fn := fun _ => fun
  | [d1, d2] => { results := [.lit (.bool true)], args := [d1, d2] }
  | _ => none }
def patchBytesRow : OpenClaim := { program := "ytmpmaljkmfgagab", sum := "4d29341e06179c26cc91f72069483146c9c2ea0dfd9030833f83af64b19dd75e", func := "cobbler/cobblerlaw.PatchBytes", spec := "patchBytes", unfollowed := true, recurses := true, apart := false }
def PatchBytesSaid : Prop := patchBytesRow.holds Try.pinned (OpenSpec.ofChange patchBytesSpec)

/-- ITS FALSE NEIGHBOUR: 'it returns false'. Refute it at one input. -/
def patchBytesWrong : ChangeSpec := { name := "patchBytes", fn := fun _ => fun
  | [d1, d2] => { results := [.lit (.bool false)], args := [d1, d2] }
  | _ => none }
def PatchBytesWrongFalsely : Prop := patchBytesRow.holds Try.pinned (OpenSpec.ofChange patchBytesWrong)

/-- 'cobblerlaw.PatchBack': WHATEVER THE INPUT: true; the input reads as it did. -/
def patchBackSpec : ChangeSpec := { name := "patchBack", fn := fun _ => fun
  | [d1, d2, d3, d4] => { results := [.lit (.bool true)], args := [d1, d2, d3, d4] }
  | _ => none }
def patchBackRow : OpenClaim := { program := "ytmpmaljkmfgagab", sum := "4d29341e06179c26cc91f72069483146c9c2ea0dfd9030833f83af64b19dd75e", func := "cobbler/cobblerlaw.PatchBack", spec := "patchBack", unfollowed := true, recurses := true, apart := false }
def PatchBackSaid : Prop := patchBackRow.holds Try.pinned (OpenSpec.ofChange patchBackSpec)

/-- ITS FALSE NEIGHBOUR: 'it returns false'. Refute it at one input. -/
def patchBackWrong : ChangeSpec := { name := "patchBack", fn := fun _ => fun
  | [d1, d2, d3, d4] => { results := [.lit (.bool false)], args := [d1, d2, d3, d4] }
  | _ => none }
def PatchBackWrongFalsely : Prop := patchBackRow.holds Try.pinned (OpenSpec.ofChange patchBackWrong)

/-- 'cobblerlaw.RouteSays': WHATEVER THE INPUT: true; the input reads as it did. -/
def routeSaysSpec : ChangeSpec := { name := "routeSays", fn := fun _ => fun
  | [d1, d2, d3] => { results := [.lit (.bool true)], args := [d1, d2, d3] }
  | _ => none }
def routeSaysRow : OpenClaim := { program := "ytmpmaljkmfgagab", sum := "4d29341e06179c26cc91f72069483146c9c2ea0dfd9030833f83af64b19dd75e", func := "cobbler/cobblerlaw.RouteSays", spec := "routeSays", apart := false }
def RouteSaysSaid : Prop := routeSaysRow.holds Try.pinned (OpenSpec.ofChange routeSaysSpec)

/-- ITS FALSE NEIGHBOUR: 'it returns false'. Refute it at one input. -/
def routeSaysWrong : ChangeSpec := { name := "routeSays", fn := fun _ => fun
  | [d1, d2, d3] => { results := [.lit (.bool false)], args := [d1, d2, d3] }
  | _ => none }
def RouteSaysWrongFalsely : Prop := routeSaysRow.holds Try.pinned (OpenSpec.ofChange routeSaysWrong)

/-- 'cobblerlaw.RouteLeast': WHATEVER THE INPUT: true; the input reads as it did. -/
def routeLeastSpec : ChangeSpec := { name := "routeLeast", fn := fun _ => fun
  | [d1, d2, d3, d4] => { results := [.lit (.bool true)], args := [d1, d2, d3, d4] }
  | _ => none }
def routeLeastRow : OpenClaim := { program := "ytmpmaljkmfgagab", sum := "4d29341e06179c26cc91f72069483146c9c2ea0dfd9030833f83af64b19dd75e", func := "cobbler/cobblerlaw.RouteLeast", spec := "routeLeast", apart := false }
def RouteLeastSaid : Prop := routeLeastRow.holds Try.pinned (OpenSpec.ofChange routeLeastSpec)

/-- ITS FALSE NEIGHBOUR: 'it returns false'. Refute it at one input. -/
def routeLeastWrong : ChangeSpec := { name := "routeLeast", fn := fun _ => fun
  | [d1, d2, d3, d4] => { results := [.lit (.bool false)], args := [d1, d2, d3, d4] }
  | _ => none }
def RouteLeastWrongFalsely : Prop := routeLeastRow.holds Try.pinned (OpenSpec.ofChange routeLeastWrong)

/-- 'cobblerlaw.RouteMore': WHATEVER THE INPUT: true; the input reads as it did. -/
def routeMoreSpec : ChangeSpec := { name := "routeMore", fn := fun _ => fun
  | [d1, d2, d3, d4] => { results := [.lit (.bool true)], args := [d1, d2, d3, d4] }
  | _ => none }
def routeMoreRow : OpenClaim := { program := "ytmpmaljkmfgagab", sum := "4d29341e06179c26cc91f72069483146c9c2ea0dfd9030833f83af64b19dd75e", func := "cobbler/cobblerlaw.RouteMore", spec := "routeMore", apart := false }
def RouteMoreSaid : Prop := routeMoreRow.holds Try.pinned (OpenSpec.ofChange routeMoreSpec)

/-- ITS FALSE NEIGHBOUR: 'it returns false'. Refute it at one input. -/
def routeMoreWrong : ChangeSpec := { name := "routeMore", fn := fun _ => fun
  | [d1, d2, d3, d4] => { results := [.lit (.bool false)], args := [d1, d2, d3, d4] }
  | _ => none }
def RouteMoreWrongFalsely : Prop := routeMoreRow.holds Try.pinned (OpenSpec.ofChange routeMoreWrong)

/-- 'cobblerlaw.ChunkSays': WHATEVER THE INPUT: true; the input reads as it did. -/
def chunkSaysSpec : ChangeSpec := { name := "chunkSays", fn := fun _ => fun
  | [d1, d2, d3, d4] => { results := [.lit (.bool true)], args := [d1, d2, d3, d4] }
  | _ => none }
def chunkSaysRow : OpenClaim := { program := "ytmpmaljkmfgagab", sum := "4d29341e06179c26cc91f72069483146c9c2ea0dfd9030833f83af64b19dd75e", func := "cobbler/cobblerlaw.ChunkSays", spec := "chunkSays", inPlace := ["slices.overlaps[cobbler/api.Chunk]", "internal/bytealg.MakeNoZero", "internal/bytealg.IndexByte", "internal/bytealg.Index"], unfollowed := true, recurses := true, named := ["internal/bytealg.MaxLen"], apart := false }
def ChunkSaysSaid : Prop := chunkSaysRow.holds Try.pinned (OpenSpec.ofChange chunkSaysSpec)

/-- ITS FALSE NEIGHBOUR: 'it returns false'. Refute it at one input. -/
def chunkSaysWrong : ChangeSpec := { name := "chunkSays", fn := fun _ => fun
  | [d1, d2, d3, d4] => { results := [.lit (.bool false)], args := [d1, d2, d3, d4] }
  | _ => none }
def ChunkSaysWrongFalsely : Prop := chunkSaysRow.holds Try.pinned (OpenSpec.ofChange chunkSaysWrong)

/-- 'cobblerlaw.ChunkAny': WHATEVER THE INPUT: true; the input reads as it did. -/
def chunkAnySpec : ChangeSpec := { name := "chunkAny", fn := fun _ => fun
  | [d1, d2] => { results := [.lit (.bool true)], args := [d1, d2] }
  | _ => none }
def chunkAnyRow : OpenClaim := { program := "ytmpmaljkmfgagab", sum := "4d29341e06179c26cc91f72069483146c9c2ea0dfd9030833f83af64b19dd75e", func := "cobbler/cobblerlaw.ChunkAny", spec := "chunkAny", inPlace := ["internal/bytealg.IndexByte", "internal/bytealg.Index", "internal/bytealg.MakeNoZero", "slices.overlaps[cobbler/api.Chunk]"], unfollowed := true, recurses := true, named := ["internal/bytealg.MaxLen"], apart := false }
def ChunkAnySaid : Prop := chunkAnyRow.holds Try.pinned (OpenSpec.ofChange chunkAnySpec)

/-- ITS FALSE NEIGHBOUR: 'it returns false'. Refute it at one input. -/
def chunkAnyWrong : ChangeSpec := { name := "chunkAny", fn := fun _ => fun
  | [d1, d2] => { results := [.lit (.bool false)], args := [d1, d2] }
  | _ => none }
def ChunkAnyWrongFalsely : Prop := chunkAnyRow.holds Try.pinned (OpenSpec.ofChange chunkAnyWrong)

/-- 'cobblerlaw.ChunkOther': WHATEVER THE INPUT: true; the input reads as it did. -/
def chunkOtherSpec : ChangeSpec := { name := "chunkOther", fn := fun _ => fun
  | [d1, d2] => { results := [.lit (.bool true)], args := [d1, d2] }
  | _ => none }
def chunkOtherRow : OpenClaim := { program := "ytmpmaljkmfgagab", sum := "4d29341e06179c26cc91f72069483146c9c2ea0dfd9030833f83af64b19dd75e", func := "cobbler/cobblerlaw.ChunkOther", spec := "chunkOther", inPlace := ["slices.overlaps[cobbler/api.Chunk]", "internal/bytealg.IndexByte", "internal/bytealg.Index", "internal/bytealg.MakeNoZero"], unfollowed := true, recurses := true, named := ["internal/bytealg.MaxLen"], apart := false }
def ChunkOtherSaid : Prop := chunkOtherRow.holds Try.pinned (OpenSpec.ofChange chunkOtherSpec)

/-- ITS FALSE NEIGHBOUR: 'it returns false'. Refute it at one input. -/
def chunkOtherWrong : ChangeSpec := { name := "chunkOther", fn := fun _ => fun
  | [d1, d2] => { results := [.lit (.bool false)], args := [d1, d2] }
  | _ => none }
def ChunkOtherWrongFalsely : Prop := chunkOtherRow.holds Try.pinned (OpenSpec.ofChange chunkOtherWrong)

/- THE SECOND FORM. 'bulk': how many values and letters a reading holds, each counted each time it is reached (what is shared counts as often as it is met; a slice's spare places count too). A statement '..UptoSaid' is the law's where the arguments, and the package variables that the reading takes, are together of bulk at most 1048576: NARROWER than '..Said'. Prove '..Said' where nothing that the law and all that it calls make is longer than what came in: it says more and counts as full. Else prove '..UptoSaid'. A law counts once. -/
mutual
def uptoBulk {H : Type} : DataW H → Nat
  | .lit (.string bytes) => bytes.length + 1
  | .lit _ => 1
  | .nil => 1
  | .ptr d => uptoBulk d + 1
  | .slice elems spare => uptoBulkAll elems + uptoBulkAll spare + 1
  | .agg parts => uptoBulkAll parts + 1
  | .iface _ d => uptoBulk d + 1
  | .map entries => uptoBulkEntries entries + 1
  | .held _ => 1
def uptoBulkAll {H : Type} : List (DataW H) → Nat
  | [] => 0
  | d :: r => uptoBulk d + uptoBulkAll r
def uptoBulkEntries {H : Type} : List (Lit × DataW H) → Nat
  | [] => 0
  | x :: r => uptoBulkEntry x + uptoBulkEntries r
def uptoBulkEntry {H : Type} : Lit × DataW H → Nat
  | (.string bytes, d) => bytes.length + uptoBulk d + 1
  | (_, d) => uptoBulk d + 1
 end
def uptoSmall : (H : Type) → List (DataW H) → Bool := fun _ ds => decide (uptoBulkAll ds ≤ 1048576)
def OpenSpec.upto (s : _root_.Go.ChangeSpec) : _root_.Go.OpenSpec := { _root_.Go.OpenSpec.ofChange s with cond := some uptoSmall }

/-- 'cobblerlaw.ComposeMakes', WHERE WHAT IT READS IS OF BULK AT MOST 1048576: true; the input reads as it did. -/
def composeMakesUptoRow : OpenClaim := { program := "ytmpmaljkmfgagab", sum := "4d29341e06179c26cc91f72069483146c9c2ea0dfd9030833f83af64b19dd75e", func := "cobbler/cobblerlaw.ComposeMakes", spec := "composeMakes", unfollowed := true, recurses := true, apart := false, narrowed := true }
def ComposeMakesUptoSaid : Prop := composeMakesUptoRow.holds Try.pinned (OpenSpec.upto composeMakesSpec)

/-- 'cobblerlaw.ComposeDiffs', WHERE WHAT IT READS IS OF BULK AT MOST 1048576: true; the input reads as it did. -/
def composeDiffsUptoRow : OpenClaim := { program := "ytmpmaljkmfgagab", sum := "4d29341e06179c26cc91f72069483146c9c2ea0dfd9030833f83af64b19dd75e", func := "cobbler/cobblerlaw.ComposeDiffs", spec := "composeDiffs", unfollowed := true, recurses := true, apart := false, narrowed := true }
def ComposeDiffsUptoSaid : Prop := composeDiffsUptoRow.holds Try.pinned (OpenSpec.upto composeDiffsSpec)

/-- 'cobblerlaw.ComposeAlone', WHERE WHAT IT READS IS OF BULK AT MOST 1048576: true; the input reads as it did. -/
def composeAloneUptoRow : OpenClaim := { program := "ytmpmaljkmfgagab", sum := "4d29341e06179c26cc91f72069483146c9c2ea0dfd9030833f83af64b19dd75e", func := "cobbler/cobblerlaw.ComposeAlone", spec := "composeAlone", unfollowed := true, recurses := true, apart := false, narrowed := true }
def ComposeAloneUptoSaid : Prop := composeAloneUptoRow.holds Try.pinned (OpenSpec.upto composeAloneSpec)

/-- 'cobblerlaw.PatchSays', WHERE WHAT IT READS IS OF BULK AT MOST 1048576: true; the input reads as it did. -/
def patchSaysUptoRow : OpenClaim := { program := "ytmpmaljkmfgagab", sum := "4d29341e06179c26cc91f72069483146c9c2ea0dfd9030833f83af64b19dd75e", func := "cobbler/cobblerlaw.PatchSays", spec := "patchSays", inPlace := ["internal/bytealg.IndexByte", "internal/bytealg.Index"], unfollowed := true, recurses := true, named := ["internal/bytealg.MaxLen"], apart := false, narrowed := true }
def PatchSaysUptoSaid : Prop := patchSaysUptoRow.holds Try.pinned (OpenSpec.upto patchSaysSpec)

/-- 'cobblerlaw.PatchBytes', WHERE WHAT IT READS IS OF BULK AT MOST 1048576: true; the input reads as it did. -/
def patchBytesUptoRow : OpenClaim := { program := "ytmpmaljkmfgagab", sum := "4d29341e06179c26cc91f72069483146c9c2ea0dfd9030833f83af64b19dd75e", func := "cobbler/cobblerlaw.PatchBytes", spec := "patchBytes", unfollowed := true, recurses := true, apart := false, narrowed := true }
def PatchBytesUptoSaid : Prop := patchBytesUptoRow.holds Try.pinned (OpenSpec.upto patchBytesSpec)

/-- 'cobblerlaw.PatchBack', WHERE WHAT IT READS IS OF BULK AT MOST 1048576: true; the input reads as it did. -/
def patchBackUptoRow : OpenClaim := { program := "ytmpmaljkmfgagab", sum := "4d29341e06179c26cc91f72069483146c9c2ea0dfd9030833f83af64b19dd75e", func := "cobbler/cobblerlaw.PatchBack", spec := "patchBack", unfollowed := true, recurses := true, apart := false, narrowed := true }
def PatchBackUptoSaid : Prop := patchBackUptoRow.holds Try.pinned (OpenSpec.upto patchBackSpec)

/-- 'cobblerlaw.RouteSays', WHERE WHAT IT READS IS OF BULK AT MOST 1048576: true; the input reads as it did. -/
def routeSaysUptoRow : OpenClaim := { program := "ytmpmaljkmfgagab", sum := "4d29341e06179c26cc91f72069483146c9c2ea0dfd9030833f83af64b19dd75e", func := "cobbler/cobblerlaw.RouteSays", spec := "routeSays", apart := false, narrowed := true }
def RouteSaysUptoSaid : Prop := routeSaysUptoRow.holds Try.pinned (OpenSpec.upto routeSaysSpec)

/-- 'cobblerlaw.RouteLeast', WHERE WHAT IT READS IS OF BULK AT MOST 1048576: true; the input reads as it did. -/
def routeLeastUptoRow : OpenClaim := { program := "ytmpmaljkmfgagab", sum := "4d29341e06179c26cc91f72069483146c9c2ea0dfd9030833f83af64b19dd75e", func := "cobbler/cobblerlaw.RouteLeast", spec := "routeLeast", apart := false, narrowed := true }
def RouteLeastUptoSaid : Prop := routeLeastUptoRow.holds Try.pinned (OpenSpec.upto routeLeastSpec)

/-- 'cobblerlaw.RouteMore', WHERE WHAT IT READS IS OF BULK AT MOST 1048576: true; the input reads as it did. -/
def routeMoreUptoRow : OpenClaim := { program := "ytmpmaljkmfgagab", sum := "4d29341e06179c26cc91f72069483146c9c2ea0dfd9030833f83af64b19dd75e", func := "cobbler/cobblerlaw.RouteMore", spec := "routeMore", apart := false, narrowed := true }
def RouteMoreUptoSaid : Prop := routeMoreUptoRow.holds Try.pinned (OpenSpec.upto routeMoreSpec)

/-- 'cobblerlaw.ChunkSays', WHERE WHAT IT READS IS OF BULK AT MOST 1048576: true; the input reads as it did. -/
def chunkSaysUptoRow : OpenClaim := { program := "ytmpmaljkmfgagab", sum := "4d29341e06179c26cc91f72069483146c9c2ea0dfd9030833f83af64b19dd75e", func := "cobbler/cobblerlaw.ChunkSays", spec := "chunkSays", inPlace := ["slices.overlaps[cobbler/api.Chunk]", "internal/bytealg.MakeNoZero", "internal/bytealg.IndexByte", "internal/bytealg.Index"], unfollowed := true, recurses := true, named := ["internal/bytealg.MaxLen"], apart := false, narrowed := true }
def ChunkSaysUptoSaid : Prop := chunkSaysUptoRow.holds Try.pinned (OpenSpec.upto chunkSaysSpec)

/-- 'cobblerlaw.ChunkAny', WHERE WHAT IT READS IS OF BULK AT MOST 1048576: true; the input reads as it did. -/
def chunkAnyUptoRow : OpenClaim := { program := "ytmpmaljkmfgagab", sum := "4d29341e06179c26cc91f72069483146c9c2ea0dfd9030833f83af64b19dd75e", func := "cobbler/cobblerlaw.ChunkAny", spec := "chunkAny", inPlace := ["internal/bytealg.IndexByte", "internal/bytealg.Index", "internal/bytealg.MakeNoZero", "slices.overlaps[cobbler/api.Chunk]"], unfollowed := true, recurses := true, named := ["internal/bytealg.MaxLen"], apart := false, narrowed := true }
def ChunkAnyUptoSaid : Prop := chunkAnyUptoRow.holds Try.pinned (OpenSpec.upto chunkAnySpec)

/-- 'cobblerlaw.ChunkOther', WHERE WHAT IT READS IS OF BULK AT MOST 1048576: true; the input reads as it did. -/
def chunkOtherUptoRow : OpenClaim := { program := "ytmpmaljkmfgagab", sum := "4d29341e06179c26cc91f72069483146c9c2ea0dfd9030833f83af64b19dd75e", func := "cobbler/cobblerlaw.ChunkOther", spec := "chunkOther", inPlace := ["slices.overlaps[cobbler/api.Chunk]", "internal/bytealg.IndexByte", "internal/bytealg.Index", "internal/bytealg.MakeNoZero"], unfollowed := true, recurses := true, named := ["internal/bytealg.MaxLen"], apart := false, narrowed := true }
def ChunkOtherUptoSaid : Prop := chunkOtherUptoRow.holds Try.pinned (OpenSpec.upto chunkOtherSpec)

end Rows
end Go.Proofs.Ytmpmaljkmfgagab
