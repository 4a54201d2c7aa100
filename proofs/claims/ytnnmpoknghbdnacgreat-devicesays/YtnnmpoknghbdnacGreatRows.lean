/-
  No cell of these rows narrows 'for every input' (looked for: loops, veiled, ifaces, maps, wideKeys, modest, calm, conditions, laid).
  DERIVED. THE GIVEN ROWS OF THIS SEAT. 8 by the template 'for every input the law returns true; each argument reads behind the call as it read before'; 0 by the template 'total and deterministic' (their statements: YtnnmpoknghbdnacGreatTotals.lean).
  GIVEN WITH THE SEED: the statements are not yours to turn. If you find one false, say at which input.
  Laid BY PROGRAM, IN A SANDBOX (cutbox-rows.mjs): the forced cells as the released guide's own fill.sh prints them over the translation 11aecc8345c53d49… (all of the seat's roots in one cut). By AI agents, Wed Nov 11 2026. No macro, syntax, notation, axiom, sorry.
-/
import Derived.Test.YtnnmpoknghbdnacGreatChecked
import GoSem.Claim
import GoSem.ClaimJoined
import GoSem.ClaimMapViews
import Derived.JoinedTies
import Derived.KernelRfl
namespace Go.Proofs.YtnnmpoknghbdnacGreat
/- THE CELL 'sum', in the pinned program and in every row, IS THE sha256 OF THE DUMP (.gsa) THAT YtnnmpoknghbdnacGreatProg.lean LOADS. Nothing in Lean hashes anything: it is a label: what it is worth is what the hold of that sum in a sandbox is worth. -/
noncomputable def Tryz.pinned : Pinned := { name := "ytnnmpoknghbdnacgreat", sum := "11aecc8345c53d49e3607adb9df475dcdbe369b9bd2933f4f8a14709015bf4ae", checked := Tryz.checked }
namespace Rows
def none {H : Type} : Left H := { results := [], args := [] }

/-- 'cobblerlaw.DeviceSays': WHATEVER THE INPUT: true; the input reads as it did. -/
def deviceSaysSpec : ChangeSpec := { name := "deviceSays", fn := fun _ => fun
  | [d1, d2, d3, d4, d5, d6] => { results := [.lit (.bool true)], args := [d1, d2, d3, d4, d5, d6] }
  | _ => none }
def deviceSaysRow : OpenClaim := { program := "ytnnmpoknghbdnacgreat", sum := "11aecc8345c53d49e3607adb9df475dcdbe369b9bd2933f4f8a14709015bf4ae", func := "cobbler/cobblerlaw.DeviceSays", spec := "deviceSays", inPlace := ["internal/bytealg.IndexByte", "internal/bytealg.Index", "slices.overlaps[cobbler/api.Chunk]", "internal/bytealg.MakeNoZero"], unfollowed := true, recurses := true, named := ["internal/bytealg.MaxLen"], apart := false }
def DeviceSaysSaid : Prop := deviceSaysRow.holds Tryz.pinned (OpenSpec.ofChange deviceSaysSpec)

/-- ITS FALSE NEIGHBOUR: 'it returns false'. Refute it at one input. -/
def deviceSaysWrong : ChangeSpec := { name := "deviceSays", fn := fun _ => fun
  | [d1, d2, d3, d4, d5, d6] => { results := [.lit (.bool false)], args := [d1, d2, d3, d4, d5, d6] }
  | _ => none }
def DeviceSaysWrongFalsely : Prop := deviceSaysRow.holds Tryz.pinned (OpenSpec.ofChange deviceSaysWrong)

/-- 'cobblerlaw.DeviceInstalls': WHATEVER THE INPUT: true; the input reads as it did. -/
def deviceInstallsSpec : ChangeSpec := { name := "deviceInstalls", fn := fun _ => fun
  | [d1, d2, d3, d4, d5] => { results := [.lit (.bool true)], args := [d1, d2, d3, d4, d5] }
  | _ => none }
def deviceInstallsRow : OpenClaim := { program := "ytnnmpoknghbdnacgreat", sum := "11aecc8345c53d49e3607adb9df475dcdbe369b9bd2933f4f8a14709015bf4ae", func := "cobbler/cobblerlaw.DeviceInstalls", spec := "deviceInstalls", inPlace := ["internal/bytealg.IndexByte", "internal/bytealg.Index", "slices.overlaps[cobbler/api.Chunk]", "internal/bytealg.MakeNoZero"], unfollowed := true, recurses := true, named := ["internal/bytealg.MaxLen"], apart := false }
def DeviceInstallsSaid : Prop := deviceInstallsRow.holds Tryz.pinned (OpenSpec.ofChange deviceInstallsSpec)

/-- ITS FALSE NEIGHBOUR: 'it returns false'. Refute it at one input. -/
def deviceInstallsWrong : ChangeSpec := { name := "deviceInstalls", fn := fun _ => fun
  | [d1, d2, d3, d4, d5] => { results := [.lit (.bool false)], args := [d1, d2, d3, d4, d5] }
  | _ => none }
def DeviceInstallsWrongFalsely : Prop := deviceInstallsRow.holds Tryz.pinned (OpenSpec.ofChange deviceInstallsWrong)

/-- 'cobblerlaw.DeviceHolds': WHATEVER THE INPUT: true; the input reads as it did. -/
def deviceHoldsSpec : ChangeSpec := { name := "deviceHolds", fn := fun _ => fun
  | [d1, d2, d3, d4] => { results := [.lit (.bool true)], args := [d1, d2, d3, d4] }
  | _ => none }
def deviceHoldsRow : OpenClaim := { program := "ytnnmpoknghbdnacgreat", sum := "11aecc8345c53d49e3607adb9df475dcdbe369b9bd2933f4f8a14709015bf4ae", func := "cobbler/cobblerlaw.DeviceHolds", spec := "deviceHolds", inPlace := ["internal/bytealg.IndexByte", "internal/bytealg.Index", "slices.overlaps[cobbler/api.Chunk]", "internal/bytealg.MakeNoZero"], unfollowed := true, recurses := true, named := ["internal/bytealg.MaxLen"], apart := false }
def DeviceHoldsSaid : Prop := deviceHoldsRow.holds Tryz.pinned (OpenSpec.ofChange deviceHoldsSpec)

/-- ITS FALSE NEIGHBOUR: 'it returns false'. Refute it at one input. -/
def deviceHoldsWrong : ChangeSpec := { name := "deviceHolds", fn := fun _ => fun
  | [d1, d2, d3, d4] => { results := [.lit (.bool false)], args := [d1, d2, d3, d4] }
  | _ => none }
def DeviceHoldsWrongFalsely : Prop := deviceHoldsRow.holds Tryz.pinned (OpenSpec.ofChange deviceHoldsWrong)

/-- 'cobblerlaw.DeviceTries': WHATEVER THE INPUT: true; the input reads as it did. -/
def deviceTriesSpec : ChangeSpec := { name := "deviceTries", fn := fun _ => fun
  | [d1, d2] => { results := [.lit (.bool true)], args := [d1, d2] }
  | _ => none }
def deviceTriesRow : OpenClaim := { program := "ytnnmpoknghbdnacgreat", sum := "11aecc8345c53d49e3607adb9df475dcdbe369b9bd2933f4f8a14709015bf4ae", func := "cobbler/cobblerlaw.DeviceTries", spec := "deviceTries", inPlace := ["internal/bytealg.IndexByte", "internal/bytealg.Index", "slices.overlaps[cobbler/api.Chunk]", "internal/bytealg.MakeNoZero"], unfollowed := true, recurses := true, named := ["internal/bytealg.MaxLen"], apart := false }
def DeviceTriesSaid : Prop := deviceTriesRow.holds Tryz.pinned (OpenSpec.ofChange deviceTriesSpec)

/-- ITS FALSE NEIGHBOUR: 'it returns false'. Refute it at one input. -/
def deviceTriesWrong : ChangeSpec := { name := "deviceTries", fn := fun _ => fun
  | [d1, d2] => { results := [.lit (.bool false)], args := [d1, d2] }
  | _ => none }
def DeviceTriesWrongFalsely : Prop := deviceTriesRow.holds Tryz.pinned (OpenSpec.ofChange deviceTriesWrong)

/-- 'cobblerlaw.WorldDoes': WHATEVER THE INPUT: true; the input reads as it did. -/
def worldDoesSpec : ChangeSpec := { name := "worldDoes", fn := fun _ => fun
  | [d1, d2, d3, d4] => { results := [.lit (.bool true)], args := [d1, d2, d3, d4] }
  | _ => none }
def worldDoesRow : OpenClaim := { program := "ytnnmpoknghbdnacgreat", sum := "11aecc8345c53d49e3607adb9df475dcdbe369b9bd2933f4f8a14709015bf4ae", func := "cobbler/cobblerlaw.WorldDoes", spec := "worldDoes", inPlace := ["slices.overlaps[cobbler/api.Chunk]", "internal/bytealg.MakeNoZero", "internal/bytealg.IndexByte", "internal/bytealg.Index"], unfollowed := true, recurses := true, named := ["internal/bytealg.MaxLen"], apart := false }
def WorldDoesSaid : Prop := worldDoesRow.holds Tryz.pinned (OpenSpec.ofChange worldDoesSpec)

/-- ITS FALSE NEIGHBOUR: 'it returns false'. Refute it at one input. -/
def worldDoesWrong : ChangeSpec := { name := "worldDoes", fn := fun _ => fun
  | [d1, d2, d3, d4] => { results := [.lit (.bool false)], args := [d1, d2, d3, d4] }
  | _ => none }
def WorldDoesWrongFalsely : Prop := worldDoesRow.holds Tryz.pinned (OpenSpec.ofChange worldDoesWrong)

/-- 'cobblerlaw.WorldKeeps': WHATEVER THE INPUT: true; the input reads as it did. -/
def worldKeepsSpec : ChangeSpec := { name := "worldKeeps", fn := fun _ => fun
  | [d1, d2] => { results := [.lit (.bool true)], args := [d1, d2] }
  | _ => none }
def worldKeepsRow : OpenClaim := { program := "ytnnmpoknghbdnacgreat", sum := "11aecc8345c53d49e3607adb9df475dcdbe369b9bd2933f4f8a14709015bf4ae", func := "cobbler/cobblerlaw.WorldKeeps", spec := "worldKeeps", inPlace := ["slices.overlaps[cobbler/api.Chunk]", "internal/bytealg.MakeNoZero"], unfollowed := true, recurses := true, apart := false }
def WorldKeepsSaid : Prop := worldKeepsRow.holds Tryz.pinned (OpenSpec.ofChange worldKeepsSpec)

/-- ITS FALSE NEIGHBOUR: 'it returns false'. Refute it at one input. -/
def worldKeepsWrong : ChangeSpec := { name := "worldKeeps", fn := fun _ => fun
  | [d1, d2] => { results := [.lit (.bool false)], args := [d1, d2] }
  | _ => none }
def WorldKeepsWrongFalsely : Prop := worldKeepsRow.holds Tryz.pinned (OpenSpec.ofChange worldKeepsWrong)

/-- 'cobblerlaw.WorldRuns': WHATEVER THE INPUT: true; the input reads as it did. -/
def worldRunsSpec : ChangeSpec := { name := "worldRuns", fn := fun _ => fun
  | [d1, d2] => { results := [.lit (.bool true)], args := [d1, d2] }
  | _ => none }
def worldRunsRow : OpenClaim := { program := "ytnnmpoknghbdnacgreat", sum := "11aecc8345c53d49e3607adb9df475dcdbe369b9bd2933f4f8a14709015bf4ae", func := "cobbler/cobblerlaw.WorldRuns", spec := "worldRuns", inPlace := ["slices.overlaps[cobbler/api.Chunk]", "internal/bytealg.MakeNoZero", "internal/bytealg.IndexByte", "internal/bytealg.Index"], unfollowed := true, recurses := true, named := ["internal/bytealg.MaxLen"], apart := false }
def WorldRunsSaid : Prop := worldRunsRow.holds Tryz.pinned (OpenSpec.ofChange worldRunsSpec)

/-- ITS FALSE NEIGHBOUR: 'it returns false'. Refute it at one input. -/
def worldRunsWrong : ChangeSpec := { name := "worldRuns", fn := fun _ => fun
  | [d1, d2] => { results := [.lit (.bool false)], args := [d1, d2] }
  | _ => none }
def WorldRunsWrongFalsely : Prop := worldRunsRow.holds Tryz.pinned (OpenSpec.ofChange worldRunsWrong)

/-- 'cobblerlaw.WorldParts': WHATEVER THE INPUT: true; the input reads as it did. -/
def worldPartsSpec : ChangeSpec := { name := "worldParts", fn := fun _ => fun
  | [d1, d2, d3] => { results := [.lit (.bool true)], args := [d1, d2, d3] }
  | _ => none }
def worldPartsRow : OpenClaim := { program := "ytnnmpoknghbdnacgreat", sum := "11aecc8345c53d49e3607adb9df475dcdbe369b9bd2933f4f8a14709015bf4ae", func := "cobbler/cobblerlaw.WorldParts", spec := "worldParts", inPlace := ["slices.overlaps[cobbler/api.Chunk]", "internal/bytealg.MakeNoZero"], unfollowed := true, recurses := true, apart := false }
def WorldPartsSaid : Prop := worldPartsRow.holds Tryz.pinned (OpenSpec.ofChange worldPartsSpec)

/-- ITS FALSE NEIGHBOUR: 'it returns false'. Refute it at one input. -/
def worldPartsWrong : ChangeSpec := { name := "worldParts", fn := fun _ => fun
  | [d1, d2, d3] => { results := [.lit (.bool false)], args := [d1, d2, d3] }
  | _ => none }
def WorldPartsWrongFalsely : Prop := worldPartsRow.holds Tryz.pinned (OpenSpec.ofChange worldPartsWrong)

/- THE SECOND FORM. 'bulk': how many values and letters a reading holds, each counted each time it is reached (what is shared counts as often as it is met; a slice's spare places count too). A statement '..UptoSaid' is the law's where the arguments, and the package variables that the reading takes, are together of bulk at most 1048576: NARROWER than '..Said'. Prove '..Said' where nothing that the law and all that it calls make is longer than what came in: it says more and counts as full. Else prove '..UptoSaid'. A law counts once. -/
mutual
def uptoBulk {H : Type} : DataW H → Nat
  | .lit (.string bytes) => bytes.length + 1
  | .lit _ => 1
  | .nil => 1
  | .ptr d => uptoBulk d + 1
  | .slice elems spare => uptoBulkAll elems + uptoBulkAll spare + 1
  | .agg parts => uptoBulkAll parts + 1
  | .iface _ d => uptoBulk d + 1
  | .map entries => uptoBulkEntries entries + 1
  | .held _ => 1
def uptoBulkAll {H : Type} : List (DataW H) → Nat
  | [] => 0
  | d :: r => uptoBulk d + uptoBulkAll r
def uptoBulkEntries {H : Type} : List (Lit × DataW H) → Nat
  | [] => 0
  | x :: r => uptoBulkEntry x + uptoBulkEntries r
def uptoBulkEntry {H : Type} : Lit × DataW H → Nat
  | (.string bytes, d) => bytes.length + uptoBulk d + 1
  | (_, d) => uptoBulk d + 1
 end
def uptoSmall : (H : Type) → List (DataW H) → Bool := fun _ ds => decide (uptoBulkAll ds ≤ 1048576)
def OpenSpec.upto (s : _root_.Go.ChangeSpec) : _root_.Go.OpenSpec := { _root_.Go.OpenSpec.ofChange s with cond := some uptoSmall }

/-- 'cobblerlaw.DeviceSays', WHERE WHAT IT READS IS OF BULK AT MOST 1048576: true; the input reads as it did. -/
def deviceSaysUptoRow : OpenClaim := { program := "ytnnmpoknghbdnacgreat", sum := "11aecc8345c53d49e3607adb9df475dcdbe369b9bd2933f4f8a14709015bf4ae", func := "cobbler/cobblerlaw.DeviceSays", spec := "deviceSays", inPlace := ["internal/bytealg.IndexByte", "internal/bytealg.Index", "slices.overlaps[cobbler/api.Chunk]", "internal/bytealg.MakeNoZero"], unfollowed := true, recurses := true, named := ["internal/bytealg.MaxLen"], apart := false, narrowed := true }
def DeviceSaysUptoSaid : Prop := deviceSaysUptoRow.holds Tryz.pinned (OpenSpec.upto deviceSaysSpec)

/-- 'cobblerlaw.DeviceInstalls', WHERE WHAT IT READS IS OF BULK AT MOST 1048576: true; the input reads as it did. -/
def deviceInstallsUptoRow : OpenClaim := { program := "ytnnmpoknghbdnacgreat", sum := "11aecc8345c53d49e3607adb9df475dcdbe369b9bd2933f4f8a14709015bf4ae", func := "cobbler/cobblerlaw.DeviceInstalls", spec := "deviceInstalls", inPlace := ["internal/bytealg.IndexByte", "internal/bytealg.Index", "slices.overlaps[cobbler/api.Chunk]", "internal/bytealg.MakeNoZero"], unfollowed := true, recurses := true, named := ["internal/bytealg.MaxLen"], apart := false, narrowed := true }
def DeviceInstallsUptoSaid : Prop := deviceInstallsUptoRow.holds Tryz.pinned (OpenSpec.upto deviceInstallsSpec)

/-- 'cobblerlaw.DeviceHolds', WHERE WHAT IT READS IS OF BULK AT MOST 1048576: true; the input reads as it did. -/
def deviceHoldsUptoRow : OpenClaim := { program := "ytnnmpoknghbdnacgreat", sum := "11aecc8345c53d49e3607adb9df475dcdbe369b9bd2933f4f8a14709015bf4ae", func := "cobbler/cobblerlaw.DeviceHolds", spec := "deviceHolds", inPlace := ["internal/bytealg.IndexByte", "internal/bytealg.Index", "slices.overlaps[cobbler/api.Chunk]", "internal/bytealg.MakeNoZero"], unfollowed := true, recurses := true, named := ["internal/bytealg.MaxLen"], apart := false, narrowed := true }
def DeviceHoldsUptoSaid : Prop := deviceHoldsUptoRow.holds Tryz.pinned (OpenSpec.upto deviceHoldsSpec)

/-- 'cobblerlaw.DeviceTries', WHERE WHAT IT READS IS OF BULK AT MOST 1048576: true; the input reads as it did. -/
def deviceTriesUptoRow : OpenClaim := { program := "ytnnmpoknghbdnacgreat", sum := "11aecc8345c53d49e3607adb9df475dcdbe369b9bd2933f4f8a14709015bf4ae", func := "cobbler/cobblerlaw.DeviceTries", spec := "deviceTries", inPlace := ["internal/bytealg.IndexByte", "internal/bytealg.Index", "slices.overlaps[cobbler/api.Chunk]", "internal/bytealg.MakeNoZero"], unfollowed := true, recurses := true, named := ["internal/bytealg.MaxLen"], apart := false, narrowed := true }
def DeviceTriesUptoSaid : Prop := deviceTriesUptoRow.holds Tryz.pinned (OpenSpec.upto deviceTriesSpec)

/-- 'cobblerlaw.WorldDoes', WHERE WHAT IT READS IS OF BULK AT MOST 1048576: true; the input reads as it did. -/
def worldDoesUptoRow : OpenClaim := { program := "ytnnmpoknghbdnacgreat", sum := "11aecc8345c53d49e3607adb9df475dcdbe369b9bd2933f4f8a14709015bf4ae", func := "cobbler/cobblerlaw.WorldDoes", spec := "worldDoes", inPlace := ["slices.overlaps[cobbler/api.Chunk]", "internal/bytealg.MakeNoZero", "internal/bytealg.IndexByte", "internal/bytealg.Index"], unfollowed := true, recurses := true, named := ["internal/bytealg.MaxLen"], apart := false, narrowed := true }
def WorldDoesUptoSaid : Prop := worldDoesUptoRow.holds Tryz.pinned (OpenSpec.upto worldDoesSpec)

/-- 'cobblerlaw.WorldKeeps', WHERE WHAT IT READS IS OF BULK AT MOST 1048576: true; the input reads as it did. -/
def worldKeepsUptoRow : OpenClaim := { program := "ytnnmpoknghbdnacgreat", sum := "11aecc8345c53d49e3607adb9df475dcdbe369b9bd2933f4f8a14709015bf4ae", func := "cobbler/cobblerlaw.WorldKeeps", spec := "worldKeeps", inPlace := ["slices.overlaps[cobbler/api.Chunk]", "internal/bytealg.MakeNoZero"], unfollowed := true, recurses := true, apart := false, narrowed := true }
def WorldKeepsUptoSaid : Prop := worldKeepsUptoRow.holds Tryz.pinned (OpenSpec.upto worldKeepsSpec)

/-- 'cobblerlaw.WorldRuns', WHERE WHAT IT READS IS OF BULK AT MOST 1048576: true; the input reads as it did. -/
def worldRunsUptoRow : OpenClaim := { program := "ytnnmpoknghbdnacgreat", sum := "11aecc8345c53d49e3607adb9df475dcdbe369b9bd2933f4f8a14709015bf4ae", func := "cobbler/cobblerlaw.WorldRuns", spec := "worldRuns", inPlace := ["slices.overlaps[cobbler/api.Chunk]", "internal/bytealg.MakeNoZero", "internal/bytealg.IndexByte", "internal/bytealg.Index"], unfollowed := true, recurses := true, named := ["internal/bytealg.MaxLen"], apart := false, narrowed := true }
def WorldRunsUptoSaid : Prop := worldRunsUptoRow.holds Tryz.pinned (OpenSpec.upto worldRunsSpec)

/-- 'cobblerlaw.WorldParts', WHERE WHAT IT READS IS OF BULK AT MOST 1048576: true; the input reads as it did. -/
def worldPartsUptoRow : OpenClaim := { program := "ytnnmpoknghbdnacgreat", sum := "11aecc8345c53d49e3607adb9df475dcdbe369b9bd2933f4f8a14709015bf4ae", func := "cobbler/cobblerlaw.WorldParts", spec := "worldParts", inPlace := ["slices.overlaps[cobbler/api.Chunk]", "internal/bytealg.MakeNoZero"], unfollowed := true, recurses := true, apart := false, narrowed := true }
def WorldPartsUptoSaid : Prop := worldPartsUptoRow.holds Tryz.pinned (OpenSpec.upto worldPartsSpec)

end Rows
end Go.Proofs.YtnnmpoknghbdnacGreat
