/-
  No cell of these rows narrows 'for every input' (looked for: loops, veiled, ifaces, maps, wideKeys, modest, calm, conditions, laid).
  DERIVED. THE GIVEN ROWS OF THIS SEAT. 9 by the template 'for every input the law returns true; each argument reads behind the call as it read before'; 0 by the template 'total and deterministic' (their statements: YtglinhcldgpphaaTotals.lean).
  GIVEN WITH THE SEED: the statements are not yours to turn. If you find one false, say at which input.
  Laid BY PROGRAM, IN A SANDBOX (cutbox-rows.mjs): the forced cells as the released guide's own fill.sh prints them over the translation 6d4429a4d1d13479… (all of the seat's roots in one cut). By AI agents, Wed Nov 11 2026. No macro, syntax, notation, axiom, sorry.
-/
import Derived.Test.YtglinhcldgpphaaChecked
import GoSem.Claim
import GoSem.ClaimJoined
import GoSem.ClaimMapViews
import Derived.JoinedTies
import Derived.KernelRfl
namespace Go.Proofs.Ytglinhcldgpphaa
/- THE CELL 'sum', in the pinned program and in every row, IS THE sha256 OF THE DUMP (.gsa) THAT YtglinhcldgpphaaProg.lean LOADS. Nothing in Lean hashes anything: it is a label: what it is worth is what the hold of that sum in a sandbox is worth. -/
noncomputable def Try.pinned : Pinned := { name := "ytglinhcldgpphaa", sum := "6d4429a4d1d13479961ac04327b8cd9ff2e103b5c96702bcabaabebb3c64897b", checked := Try.checked }
namespace Rows
def none {H : Type} : Left H := { results := [], args := [] }

/-- 'rosarylaw5.WalkCounts': WHATEVER THE INPUT: true; the input reads as it did. -/
def walkCountsSpec : ChangeSpec := { name := "walkCounts", fn := fun _ => fun
  | [d1, d2, d3, d4] => { results := [.lit (.bool true)], args := [d1, d2, d3, d4] }
  | _ => none }
def walkCountsRow : OpenClaim := { program := "ytglinhcldgpphaa", sum := "6d4429a4d1d13479961ac04327b8cd9ff2e103b5c96702bcabaabebb3c64897b", func := "rosary/rosarylaw5.WalkCounts", spec := "walkCounts", inPlace := ["slices.overlaps[rosary/api.Item]", "slices.overlaps[*rosary/shelf.node]"], unfollowed := true, recurses := true, apart := false }
def WalkCountsSaid : Prop := walkCountsRow.holds Try.pinned (OpenSpec.ofChange walkCountsSpec)

/-- ITS FALSE NEIGHBOUR: 'it returns false'. Refute it at one input. -/
def walkCountsWrong : ChangeSpec := { name := "walkCounts", fn := fun _ => fun
  | [d1, d2, d3, d4] => { results := [.lit (.bool false)], args := [d1, d2, d3, d4] }
  | _ => none }
def WalkCountsWrongFalsely : Prop := walkCountsRow.holds Try.pinned (OpenSpec.ofChange walkCountsWrong)

/-- 'rosarylaw5.WalkMiddle': WHATEVER THE INPUT: true; the input reads as it did. -/
def walkMiddleSpec : ChangeSpec := { name := "walkMiddle", fn := fun _ => fun
  | [d1, d2] => { results := [.lit (.bool true)], args := [d1, d2] }
  | _ => none }
def walkMiddleRow : OpenClaim := { program := "ytglinhcldgpphaa", sum := "6d4429a4d1d13479961ac04327b8cd9ff2e103b5c96702bcabaabebb3c64897b", func := "rosary/rosarylaw5.WalkMiddle", spec := "walkMiddle", inPlace := ["slices.overlaps[rosary/api.Item]", "slices.overlaps[*rosary/shelf.node]"], unfollowed := true, recurses := true, apart := false }
def WalkMiddleSaid : Prop := walkMiddleRow.holds Try.pinned (OpenSpec.ofChange walkMiddleSpec)

/-- ITS FALSE NEIGHBOUR: 'it returns false'. Refute it at one input. -/
def walkMiddleWrong : ChangeSpec := { name := "walkMiddle", fn := fun _ => fun
  | [d1, d2] => { results := [.lit (.bool false)], args := [d1, d2] }
  | _ => none }
def WalkMiddleWrongFalsely : Prop := walkMiddleRow.holds Try.pinned (OpenSpec.ofChange walkMiddleWrong)

/-- 'rosarylaw5.WalkWhile': WHATEVER THE INPUT: true; the input reads as it did. -/
def walkWhileSpec : ChangeSpec := { name := "walkWhile", fn := fun _ => fun
  | [d1, d2, d3] => { results := [.lit (.bool true)], args := [d1, d2, d3] }
  | _ => none }
def walkWhileRow : OpenClaim := { program := "ytglinhcldgpphaa", sum := "6d4429a4d1d13479961ac04327b8cd9ff2e103b5c96702bcabaabebb3c64897b", func := "rosary/rosarylaw5.WalkWhile", spec := "walkWhile", inPlace := ["slices.overlaps[rosary/api.Item]", "slices.overlaps[*rosary/shelf.node]"], unfollowed := true, recurses := true, apart := false }
def WalkWhileSaid : Prop := walkWhileRow.holds Try.pinned (OpenSpec.ofChange walkWhileSpec)

/-- ITS FALSE NEIGHBOUR: 'it returns false'. Refute it at one input. -/
def walkWhileWrong : ChangeSpec := { name := "walkWhile", fn := fun _ => fun
  | [d1, d2, d3] => { results := [.lit (.bool false)], args := [d1, d2, d3] }
  | _ => none }
def WalkWhileWrongFalsely : Prop := walkWhileRow.holds Try.pinned (OpenSpec.ofChange walkWhileWrong)

/-- 'rosarylaw5.WalkRanges': WHATEVER THE INPUT: true; the input reads as it did. -/
def walkRangesSpec : ChangeSpec := { name := "walkRanges", fn := fun _ => fun
  | [d1, d2, d3, d4] => { results := [.lit (.bool true)], args := [d1, d2, d3, d4] }
  | _ => none }
def walkRangesRow : OpenClaim := { program := "ytglinhcldgpphaa", sum := "6d4429a4d1d13479961ac04327b8cd9ff2e103b5c96702bcabaabebb3c64897b", func := "rosary/rosarylaw5.WalkRanges", spec := "walkRanges", inPlace := ["slices.overlaps[rosary/api.Item]", "slices.overlaps[*rosary/shelf.node]"], unfollowed := true, recurses := true, apart := false }
def WalkRangesSaid : Prop := walkRangesRow.holds Try.pinned (OpenSpec.ofChange walkRangesSpec)

/-- ITS FALSE NEIGHBOUR: 'it returns false'. Refute it at one input. -/
def walkRangesWrong : ChangeSpec := { name := "walkRanges", fn := fun _ => fun
  | [d1, d2, d3, d4] => { results := [.lit (.bool false)], args := [d1, d2, d3, d4] }
  | _ => none }
def WalkRangesWrongFalsely : Prop := walkRangesRow.holds Try.pinned (OpenSpec.ofChange walkRangesWrong)

/-- 'rosarylaw5.WalkArcs': WHATEVER THE INPUT: true; the input reads as it did. -/
def walkArcsSpec : ChangeSpec := { name := "walkArcs", fn := fun _ => fun
  | [d1, d2, d3] => { results := [.lit (.bool true)], args := [d1, d2, d3] }
  | _ => none }
def walkArcsRow : OpenClaim := { program := "ytglinhcldgpphaa", sum := "6d4429a4d1d13479961ac04327b8cd9ff2e103b5c96702bcabaabebb3c64897b", func := "rosary/rosarylaw5.WalkArcs", spec := "walkArcs", inPlace := ["slices.overlaps[rosary/api.Item]", "slices.overlaps[*rosary/shelf.node]"], unfollowed := true, recurses := true, apart := false }
def WalkArcsSaid : Prop := walkArcsRow.holds Try.pinned (OpenSpec.ofChange walkArcsSpec)

/-- ITS FALSE NEIGHBOUR: 'it returns false'. Refute it at one input. -/
def walkArcsWrong : ChangeSpec := { name := "walkArcs", fn := fun _ => fun
  | [d1, d2, d3] => { results := [.lit (.bool false)], args := [d1, d2, d3] }
  | _ => none }
def WalkArcsWrongFalsely : Prop := walkArcsRow.holds Try.pinned (OpenSpec.ofChange walkArcsWrong)

/-- 'rosarylaw5.WalkPlaces': WHATEVER THE INPUT: true; the input reads as it did. -/
def walkPlacesSpec : ChangeSpec := { name := "walkPlaces", fn := fun _ => fun
  | [d1, d2] => { results := [.lit (.bool true)], args := [d1, d2] }
  | _ => none }
def walkPlacesRow : OpenClaim := { program := "ytglinhcldgpphaa", sum := "6d4429a4d1d13479961ac04327b8cd9ff2e103b5c96702bcabaabebb3c64897b", func := "rosary/rosarylaw5.WalkPlaces", spec := "walkPlaces", inPlace := ["slices.overlaps[rosary/api.Item]", "slices.overlaps[*rosary/shelf.node]"], unfollowed := true, recurses := true, apart := false }
def WalkPlacesSaid : Prop := walkPlacesRow.holds Try.pinned (OpenSpec.ofChange walkPlacesSpec)

/-- ITS FALSE NEIGHBOUR: 'it returns false'. Refute it at one input. -/
def walkPlacesWrong : ChangeSpec := { name := "walkPlaces", fn := fun _ => fun
  | [d1, d2] => { results := [.lit (.bool false)], args := [d1, d2] }
  | _ => none }
def WalkPlacesWrongFalsely : Prop := walkPlacesRow.holds Try.pinned (OpenSpec.ofChange walkPlacesWrong)

/-- 'rosarylaw5.WalkStops': WHATEVER THE INPUT: true; the input reads as it did. -/
def walkStopsSpec : ChangeSpec := { name := "walkStops", fn := fun _ => fun
  | [d1, d2, d3, d4] => { results := [.lit (.bool true)], args := [d1, d2, d3, d4] }
  | _ => none }
def walkStopsRow : OpenClaim := { program := "ytglinhcldgpphaa", sum := "6d4429a4d1d13479961ac04327b8cd9ff2e103b5c96702bcabaabebb3c64897b", func := "rosary/rosarylaw5.WalkStops", spec := "walkStops", inPlace := ["slices.overlaps[rosary/api.Item]", "slices.overlaps[*rosary/shelf.node]"], unfollowed := true, recurses := true, apart := false }
def WalkStopsSaid : Prop := walkStopsRow.holds Try.pinned (OpenSpec.ofChange walkStopsSpec)

/-- ITS FALSE NEIGHBOUR: 'it returns false'. Refute it at one input. -/
def walkStopsWrong : ChangeSpec := { name := "walkStops", fn := fun _ => fun
  | [d1, d2, d3, d4] => { results := [.lit (.bool false)], args := [d1, d2, d3, d4] }
  | _ => none }
def WalkStopsWrongFalsely : Prop := walkStopsRow.holds Try.pinned (OpenSpec.ofChange walkStopsWrong)

/-- 'rosarylaw5.WalkNested': WHATEVER THE INPUT: true; the input reads as it did. -/
def walkNestedSpec : ChangeSpec := { name := "walkNested", fn := fun _ => fun
  | [d] => { results := [.lit (.bool true)], args := [d] }
  | _ => none }
def walkNestedRow : OpenClaim := { program := "ytglinhcldgpphaa", sum := "6d4429a4d1d13479961ac04327b8cd9ff2e103b5c96702bcabaabebb3c64897b", func := "rosary/rosarylaw5.WalkNested", spec := "walkNested", inPlace := ["slices.overlaps[rosary/api.Item]", "slices.overlaps[*rosary/shelf.node]"], unfollowed := true, recurses := true, apart := false }
def WalkNestedSaid : Prop := walkNestedRow.holds Try.pinned (OpenSpec.ofChange walkNestedSpec)

/-- ITS FALSE NEIGHBOUR: 'it returns false'. Refute it at one input. -/
def walkNestedWrong : ChangeSpec := { name := "walkNested", fn := fun _ => fun
  | [d] => { results := [.lit (.bool false)], args := [d] }
  | _ => none }
def WalkNestedWrongFalsely : Prop := walkNestedRow.holds Try.pinned (OpenSpec.ofChange walkNestedWrong)

/-- 'rosarylaw5.WalkHalves': WHATEVER THE INPUT: true; the input reads as it did. -/
def walkHalvesSpec : ChangeSpec := { name := "walkHalves", fn := fun _ => fun
  | [d] => { results := [.lit (.bool true)], args := [d] }
  | _ => none }
def walkHalvesRow : OpenClaim := { program := "ytglinhcldgpphaa", sum := "6d4429a4d1d13479961ac04327b8cd9ff2e103b5c96702bcabaabebb3c64897b", func := "rosary/rosarylaw5.WalkHalves", spec := "walkHalves", inPlace := ["slices.overlaps[rosary/api.Item]", "slices.overlaps[*rosary/shelf.node]"], unfollowed := true, recurses := true, apart := false }
def WalkHalvesSaid : Prop := walkHalvesRow.holds Try.pinned (OpenSpec.ofChange walkHalvesSpec)

/-- ITS FALSE NEIGHBOUR: 'it returns false'. Refute it at one input. -/
def walkHalvesWrong : ChangeSpec := { name := "walkHalves", fn := fun _ => fun
  | [d] => { results := [.lit (.bool false)], args := [d] }
  | _ => none }
def WalkHalvesWrongFalsely : Prop := walkHalvesRow.holds Try.pinned (OpenSpec.ofChange walkHalvesWrong)

/- THE SECOND FORM. 'bulk': how many values and letters a reading holds, each counted each time it is reached (what is shared counts as often as it is met; a slice's spare places count too). A statement '..UptoSaid' is the law's where the arguments, and the package variables that the reading takes, are together of bulk at most 1048576: NARROWER than '..Said'. Prove '..Said' where nothing that the law and all that it calls make is longer than what came in: it says more and counts as full. Else prove '..UptoSaid'. A law counts once. -/
mutual
def uptoBulk {H : Type} : DataW H → Nat
  | .lit (.string bytes) => bytes.length + 1
  | .lit _ => 1
  | .nil => 1
  | .ptr d => uptoBulk d + 1
  | .slice elems spare => uptoBulkAll elems + uptoBulkAll spare + 1
  | .agg parts => uptoBulkAll parts + 1
  | .iface _ d => uptoBulk d + 1
  | .map entries => uptoBulkEntries entries + 1
  | .held _ => 1
def uptoBulkAll {H : Type} : List (DataW H) → Nat
  | [] => 0
  | d :: r => uptoBulk d + uptoBulkAll r
def uptoBulkEntries {H : Type} : List (Lit × DataW H) → Nat
  | [] => 0
  | x :: r => uptoBulkEntry x + uptoBulkEntries r
def uptoBulkEntry {H : Type} : Lit × DataW H → Nat
  | (.string bytes, d) => bytes.length + uptoBulk d + 1
  | (_, d) => uptoBulk d + 1
 end
def uptoSmall : (H : Type) → List (DataW H) → Bool := fun _ ds => decide (uptoBulkAll ds ≤ 1048576)
def OpenSpec.upto (s : _root_.Go.ChangeSpec) : _root_.Go.OpenSpec := { _root_.Go.OpenSpec.ofChange s with cond := some uptoSmall }

/-- 'rosarylaw5.WalkCounts', WHERE WHAT IT READS IS OF BULK AT MOST 1048576: true; the input reads as it did. -/
def walkCountsUptoRow : OpenClaim := { program := "ytglinhcldgpphaa", sum := "6d4429a4d1d13479961ac04327b8cd9ff2e103b5c96702bcabaabebb3c64897b", func := "rosary/rosarylaw5.WalkCounts", spec := "walkCounts", inPlace := ["slices.overlaps[rosary/api.Item]", "slices.overlaps[*rosary/shelf.node]"], unfollowed := true, recurses := true, apart := false, narrowed := true }
def WalkCountsUptoSaid : Prop := walkCountsUptoRow.holds Try.pinned (OpenSpec.upto walkCountsSpec)

/-- 'rosarylaw5.WalkMiddle', WHERE WHAT IT READS IS OF BULK AT MOST 1048576: true; the input reads as it did. -/
def walkMiddleUptoRow : OpenClaim := { program := "ytglinhcldgpphaa", sum := "6d4429a4d1d13479961ac04327b8cd9ff2e103b5c96702bcabaabebb3c64897b", func := "rosary/rosarylaw5.WalkMiddle", spec := "walkMiddle", inPlace := ["slices.overlaps[rosary/api.Item]", "slices.overlaps[*rosary/shelf.node]"], unfollowed := true, recurses := true, apart := false, narrowed := true }
def WalkMiddleUptoSaid : Prop := walkMiddleUptoRow.holds Try.pinned (OpenSpec.upto walkMiddleSpec)

/-- 'rosarylaw5.WalkWhile', WHERE WHAT IT READS IS OF BULK AT MOST 1048576: true; the input reads as it did. -/
def walkWhileUptoRow : OpenClaim := { program := "ytglinhcldgpphaa", sum := "6d4429a4d1d13479961ac04327b8cd9ff2e103b5c96702bcabaabebb3c64897b", func := "rosary/rosarylaw5.WalkWhile", spec := "walkWhile", inPlace := ["slices.overlaps[rosary/api.Item]", "slices.overlaps[*rosary/shelf.node]"], unfollowed := true, recurses := true, apart := false, narrowed := true }
def WalkWhileUptoSaid : Prop := walkWhileUptoRow.holds Try.pinned (OpenSpec.upto walkWhileSpec)

/-- 'rosarylaw5.WalkRanges', WHERE WHAT IT READS IS OF BULK AT MOST 1048576: true; the input reads as it did. -/
def walkRangesUptoRow : OpenClaim := { program := "ytglinhcldgpphaa", sum := "6d4429a4d1d13479961ac04327b8cd9ff2e103b5c96702bcabaabebb3c64897b", func := "rosary/rosarylaw5.WalkRanges", spec := "walkRanges", inPlace := ["slices.overlaps[rosary/api.Item]", "slices.overlaps[*rosary/shelf.node]"], unfollowed := true, recurses := true, apart := false, narrowed := true }
def WalkRangesUptoSaid : Prop := walkRangesUptoRow.holds Try.pinned (OpenSpec.upto walkRangesSpec)

/-- 'rosarylaw5.WalkArcs', WHERE WHAT IT READS IS OF BULK AT MOST 1048576: true; the input reads as it did. -/
def walkArcsUptoRow : OpenClaim := { program := "ytglinhcldgpphaa", sum := "6d4429a4d1d13479961ac04327b8cd9ff2e103b5c96702bcabaabebb3c64897b", func := "rosary/rosarylaw5.WalkArcs", spec := "walkArcs", inPlace := ["slices.overlaps[rosary/api.Item]", "slices.overlaps[*rosary/shelf.node]"], unfollowed := true, recurses := true, apart := false, narrowed := true }
def WalkArcsUptoSaid : Prop := walkArcsUptoRow.holds Try.pinned (OpenSpec.upto walkArcsSpec)

/-- 'rosarylaw5.WalkPlaces', WHERE WHAT IT READS IS OF BULK AT MOST 1048576: true; the input reads as it did. -/
def walkPlacesUptoRow : OpenClaim := { program := "ytglinhcldgpphaa", sum := "6d4429a4d1d13479961ac04327b8cd9ff2e103b5c96702bcabaabebb3c64897b", func := "rosary/rosarylaw5.WalkPlaces", spec := "walkPlaces", inPlace := ["slices.overlaps[rosary/api.Item]", "slices.overlaps[*rosary/shelf.node]"], unfollowed := true, recurses := true, apart := false, narrowed := true }
def WalkPlacesUptoSaid : Prop := walkPlacesUptoRow.holds Try.pinned (OpenSpec.upto walkPlacesSpec)

/-- 'rosarylaw5.WalkStops', WHERE WHAT IT READS IS OF BULK AT MOST 1048576: true; the input reads as it did. -/
def walkStopsUptoRow : OpenClaim := { program := "ytglinhcldgpphaa", sum := "6d4429a4d1d13479961ac04327b8cd9ff2e103b5c96702bcabaabebb3c64897b", func := "rosary/rosarylaw5.WalkStops", spec := "walkStops", inPlace := ["slices.overlaps[rosary/api.Item]", "slices.overlaps[*rosary/shelf.node]"], unfollowed := true, recurses := true, apart := false, narrowed := true }
def WalkStopsUptoSaid : Prop := walkStopsUptoRow.holds Try.pinned (OpenSpec.upto walkStopsSpec)

/-- 'rosarylaw5.WalkNested', WHERE WHAT IT READS IS OF BULK AT MOST 1048576: true; the input reads as it did. -/
def walkNestedUptoRow : OpenClaim := { program := "ytglinhcldgpphaa", sum := "6d4429a4d1d13479961ac04327b8cd9ff2e103b5c96702bcabaabebb3c64897b", func := "rosary/rosarylaw5.WalkNested", spec := "walkNested", inPlace := ["slices.overlaps[rosary/api.Item]", "slices.overlaps[*rosary/shelf.node]"], unfollowed := true, recurses := true, apart := false, narrowed := true }
def WalkNestedUptoSaid : Prop := walkNestedUptoRow.holds Try.pinned (OpenSpec.upto walkNestedSpec)

/-- 'rosarylaw5.WalkHalves', WHERE WHAT IT READS IS OF BULK AT MOST 1048576: true; the input reads as it did. -/
def walkHalvesUptoRow : OpenClaim := { program := "ytglinhcldgpphaa", sum := "6d4429a4d1d13479961ac04327b8cd9ff2e103b5c96702bcabaabebb3c64897b", func := "rosary/rosarylaw5.WalkHalves", spec := "walkHalves", inPlace := ["slices.overlaps[rosary/api.Item]", "slices.overlaps[*rosary/shelf.node]"], unfollowed := true, recurses := true, apart := false, narrowed := true }
def WalkHalvesUptoSaid : Prop := walkHalvesUptoRow.holds Try.pinned (OpenSpec.upto walkHalvesSpec)

end Rows
end Go.Proofs.Ytglinhcldgpphaa
