/-
  No cell of these rows narrows 'for every input' (looked for: loops, veiled, ifaces, maps, wideKeys, modest, calm, conditions, laid).
  DERIVED. THE GIVEN ROWS OF THIS SEAT. 5 by the template 'for every input the law returns true; each argument reads behind the call as it read before'; 0 by the template 'total and deterministic' (their statements: YtokgamagiffaeaaTotals.lean).
  GIVEN WITH THE SEED: the statements are not yours to turn. If you find one false, say at which input.
  Laid BY PROGRAM, IN A SANDBOX (cutbox-rows.mjs): the forced cells as the released guide's own fill.sh prints them over the translation 00a0e887ba7f49a2… (all of the seat's roots in one cut). By AI agents, Wed Nov 11 2026. No macro, syntax, notation, axiom, sorry.
-/
import Derived.Test.YtokgamagiffaeaaChecked
import GoSem.Claim
import GoSem.ClaimJoined
import GoSem.ClaimMapViews
import Derived.JoinedTies
import Derived.KernelRfl
namespace Go.Proofs.Ytokgamagiffaeaa
/- THE CELL 'sum', in the pinned program and in every row, IS THE sha256 OF THE DUMP (.gsa) THAT YtokgamagiffaeaaProg.lean LOADS. Nothing in Lean hashes anything: it is a label: what it is worth is what the hold of that sum in a sandbox is worth. -/
noncomputable def Try.pinned : Pinned := { name := "ytokgamagiffaeaa", sum := "00a0e887ba7f49a2824f611b28884b24cbf7bae6eab519b2c3194cbf72b4826e", checked := Try.checked }
namespace Rows
def none {H : Type} : Left H := { results := [], args := [] }

/-- 'rosarylaw8.BagRoom': WHATEVER THE INPUT: true; the input reads as it did. -/
def bagRoomSpec : ChangeSpec := { name := "bagRoom", fn := fun _ => fun
  | [d1, d2] => { results := [.lit (.bool true)], args := [d1, d2] }
  | _ => none }
def bagRoomRow : OpenClaim := { program := "ytokgamagiffaeaa", sum := "00a0e887ba7f49a2824f611b28884b24cbf7bae6eab519b2c3194cbf72b4826e", func := "rosary/rosarylaw8.BagRoom", spec := "bagRoom", unfollowed := true, recurses := true, apart := false }
def BagRoomSaid : Prop := bagRoomRow.holds Try.pinned (OpenSpec.ofChange bagRoomSpec)

/-- ITS FALSE NEIGHBOUR: 'it returns false'. Refute it at one input. -/
def bagRoomWrong : ChangeSpec := { name := "bagRoom", fn := fun _ => fun
  | [d1, d2] => { results := [.lit (.bool false)], args := [d1, d2] }
  | _ => none }
def BagRoomWrongFalsely : Prop := bagRoomRow.holds Try.pinned (OpenSpec.ofChange bagRoomWrong)

/-- 'rosarylaw8.BagWays': WHATEVER THE INPUT: true; the input reads as it did. -/
def bagWaysSpec : ChangeSpec := { name := "bagWays", fn := fun _ => fun
  | [d1, d2] => { results := [.lit (.bool true)], args := [d1, d2] }
  | _ => none }
def bagWaysRow : OpenClaim := { program := "ytokgamagiffaeaa", sum := "00a0e887ba7f49a2824f611b28884b24cbf7bae6eab519b2c3194cbf72b4826e", func := "rosary/rosarylaw8.BagWays", spec := "bagWays", unfollowed := true, recurses := true, apart := false }
def BagWaysSaid : Prop := bagWaysRow.holds Try.pinned (OpenSpec.ofChange bagWaysSpec)

/-- ITS FALSE NEIGHBOUR: 'it returns false'. Refute it at one input. -/
def bagWaysWrong : ChangeSpec := { name := "bagWays", fn := fun _ => fun
  | [d1, d2] => { results := [.lit (.bool false)], args := [d1, d2] }
  | _ => none }
def BagWaysWrongFalsely : Prop := bagWaysRow.holds Try.pinned (OpenSpec.ofChange bagWaysWrong)

/-- 'rosarylaw8.BagTwice': WHATEVER THE INPUT: true; the input reads as it did. -/
def bagTwiceSpec : ChangeSpec := { name := "bagTwice", fn := fun _ => fun
  | [d1, d2] => { results := [.lit (.bool true)], args := [d1, d2] }
  | _ => none }
def bagTwiceRow : OpenClaim := { program := "ytokgamagiffaeaa", sum := "00a0e887ba7f49a2824f611b28884b24cbf7bae6eab519b2c3194cbf72b4826e", func := "rosary/rosarylaw8.BagTwice", spec := "bagTwice", unfollowed := true, recurses := true, apart := false }
def BagTwiceSaid : Prop := bagTwiceRow.holds Try.pinned (OpenSpec.ofChange bagTwiceSpec)

/-- ITS FALSE NEIGHBOUR: 'it returns false'. Refute it at one input. -/
def bagTwiceWrong : ChangeSpec := { name := "bagTwice", fn := fun _ => fun
  | [d1, d2] => { results := [.lit (.bool false)], args := [d1, d2] }
  | _ => none }
def BagTwiceWrongFalsely : Prop := bagTwiceRow.holds Try.pinned (OpenSpec.ofChange bagTwiceWrong)

/-- 'rosarylaw8.BagLinks': WHATEVER THE INPUT: true; the input reads as it did. -/
def bagLinksSpec : ChangeSpec := { name := "bagLinks", fn := fun _ => fun
  | [d] => { results := [.lit (.bool true)], args := [d] }
  | _ => none }
def bagLinksRow : OpenClaim := { program := "ytokgamagiffaeaa", sum := "00a0e887ba7f49a2824f611b28884b24cbf7bae6eab519b2c3194cbf72b4826e", func := "rosary/rosarylaw8.BagLinks", spec := "bagLinks", unfollowed := true, recurses := true, apart := false }
def BagLinksSaid : Prop := bagLinksRow.holds Try.pinned (OpenSpec.ofChange bagLinksSpec)

/-- ITS FALSE NEIGHBOUR: 'it returns false'. Refute it at one input. -/
def bagLinksWrong : ChangeSpec := { name := "bagLinks", fn := fun _ => fun
  | [d] => { results := [.lit (.bool false)], args := [d] }
  | _ => none }
def BagLinksWrongFalsely : Prop := bagLinksRow.holds Try.pinned (OpenSpec.ofChange bagLinksWrong)

/-- 'rosarylaw8.BagDrops': WHATEVER THE INPUT: true; the input reads as it did. -/
def bagDropsSpec : ChangeSpec := { name := "bagDrops", fn := fun _ => fun
  | [d1, d2] => { results := [.lit (.bool true)], args := [d1, d2] }
  | _ => none }
def bagDropsRow : OpenClaim := { program := "ytokgamagiffaeaa", sum := "00a0e887ba7f49a2824f611b28884b24cbf7bae6eab519b2c3194cbf72b4826e", func := "rosary/rosarylaw8.BagDrops", spec := "bagDrops", unfollowed := true, recurses := true, apart := false }
def BagDropsSaid : Prop := bagDropsRow.holds Try.pinned (OpenSpec.ofChange bagDropsSpec)

/-- ITS FALSE NEIGHBOUR: 'it returns false'. Refute it at one input. -/
def bagDropsWrong : ChangeSpec := { name := "bagDrops", fn := fun _ => fun
  | [d1, d2] => { results := [.lit (.bool false)], args := [d1, d2] }
  | _ => none }
def BagDropsWrongFalsely : Prop := bagDropsRow.holds Try.pinned (OpenSpec.ofChange bagDropsWrong)

/- THE SECOND FORM. 'bulk': how many values and letters a reading holds, each counted each time it is reached (what is shared counts as often as it is met; a slice's spare places count too). A statement '..UptoSaid' is the law's where the arguments, and the package variables that the reading takes, are together of bulk at most 1048576: NARROWER than '..Said'. Prove '..Said' where nothing that the law and all that it calls make is longer than what came in: it says more and counts as full. Else prove '..UptoSaid'. A law counts once. -/
mutual
def uptoBulk {H : Type} : DataW H → Nat
  | .lit (.string bytes) => bytes.length + 1
  | .lit _ => 1
  | .nil => 1
  | .ptr d => uptoBulk d + 1
  | .slice elems spare => uptoBulkAll elems + uptoBulkAll spare + 1
  | .agg parts => uptoBulkAll parts + 1
  | .iface _ d => uptoBulk d + 1
  | .map entries => uptoBulkEntries entries + 1
  | .held _ => 1
def uptoBulkAll {H : Type} : List (DataW H) → Nat
  | [] => 0
  | d :: r => uptoBulk d + uptoBulkAll r
def uptoBulkEntries {H : Type} : List (Lit × DataW H) → Nat
  | [] => 0
  | x :: r => uptoBulkEntry x + uptoBulkEntries r
def uptoBulkEntry {H : Type} : Lit × DataW H → Nat
  | (.string bytes, d) => bytes.length + uptoBulk d + 1
  | (_, d) => uptoBulk d + 1
 end
def uptoSmall : (H : Type) → List (DataW H) → Bool := fun _ ds => decide (uptoBulkAll ds ≤ 1048576)
def OpenSpec.upto (s : _root_.Go.ChangeSpec) : _root_.Go.OpenSpec := { _root_.Go.OpenSpec.ofChange s with cond := some uptoSmall }

/-- 'rosarylaw8.BagRoom', WHERE WHAT IT READS IS OF BULK AT MOST 1048576: true; the input reads as it did. -/
def bagRoomUptoRow : OpenClaim := { program := "ytokgamagiffaeaa", sum := "00a0e887ba7f49a2824f611b28884b24cbf7bae6eab519b2c3194cbf72b4826e", func := "rosary/rosarylaw8.BagRoom", spec := "bagRoom", unfollowed := true, recurses := true, apart := false, narrowed := true }
def BagRoomUptoSaid : Prop := bagRoomUptoRow.holds Try.pinned (OpenSpec.upto bagRoomSpec)

/-- 'rosarylaw8.BagWays', WHERE WHAT IT READS IS OF BULK AT MOST 1048576: true; the input reads as it did. -/
def bagWaysUptoRow : OpenClaim := { program := "ytokgamagiffaeaa", sum := "00a0e887ba7f49a2824f611b28884b24cbf7bae6eab519b2c3194cbf72b4826e", func := "rosary/rosarylaw8.BagWays", spec := "bagWays", unfollowed := true, recurses := true, apart := false, narrowed := true }
def BagWaysUptoSaid : Prop := bagWaysUptoRow.holds Try.pinned (OpenSpec.upto bagWaysSpec)

/-- 'rosarylaw8.BagTwice', WHERE WHAT IT READS IS OF BULK AT MOST 1048576: true; the input reads as it did. -/
def bagTwiceUptoRow : OpenClaim := { program := "ytokgamagiffaeaa", sum := "00a0e887ba7f49a2824f611b28884b24cbf7bae6eab519b2c3194cbf72b4826e", func := "rosary/rosarylaw8.BagTwice", spec := "bagTwice", unfollowed := true, recurses := true, apart := false, narrowed := true }
def BagTwiceUptoSaid : Prop := bagTwiceUptoRow.holds Try.pinned (OpenSpec.upto bagTwiceSpec)

/-- 'rosarylaw8.BagLinks', WHERE WHAT IT READS IS OF BULK AT MOST 1048576: true; the input reads as it did. -/
def bagLinksUptoRow : OpenClaim := { program := "ytokgamagiffaeaa", sum := "00a0e887ba7f49a2824f611b28884b24cbf7bae6eab519b2c3194cbf72b4826e", func := "rosary/rosarylaw8.BagLinks", spec := "bagLinks", unfollowed := true, recurses := true, apart := false, narrowed := true }
def BagLinksUptoSaid : Prop := bagLinksUptoRow.holds Try.pinned (OpenSpec.upto bagLinksSpec)

/-- 'rosarylaw8.BagDrops', WHERE WHAT IT READS IS OF BULK AT MOST 1048576: true; the input reads as it did. -/
def bagDropsUptoRow : OpenClaim := { program := "ytokgamagiffaeaa", sum := "00a0e887ba7f49a2824f611b28884b24cbf7bae6eab519b2c3194cbf72b4826e", func := "rosary/rosarylaw8.BagDrops", spec := "bagDrops", unfollowed := true, recurses := true, apart := false, narrowed := true }
def BagDropsUptoSaid : Prop := bagDropsUptoRow.holds Try.pinned (OpenSpec.upto bagDropsSpec)

end Rows
end Go.Proofs.Ytokgamagiffaeaa
