/-
  No cell of these rows narrows 'for every input' (looked for: loops, veiled, ifaces, maps, wideKeys, modest, calm, conditions, laid).
  DERIVED. THE GIVEN ROWS OF THIS SEAT. 6 by the template 'for every input the law returns true; each argument reads behind the call as it read before'; 0 by the template 'total and deterministic' (their statements: YtinkkdhlakfooaaTotals.lean).
  GIVEN WITH THE SEED: the statements are not yours to turn. If you find one false, say at which input.
  Laid BY PROGRAM, IN A SANDBOX (cutbox-rows.mjs): the forced cells as the released guide's own fill.sh prints them over the translation c461cacd1b19f7cb… (all of the seat's roots in one cut). By AI agents, Wed Nov 11 2026. No macro, syntax, notation, axiom, sorry.
-/
import Derived.Test.YtinkkdhlakfooaaChecked
import GoSem.Claim
import GoSem.ClaimJoined
import GoSem.ClaimMapViews
import Derived.JoinedTies
import Derived.KernelRfl
namespace Go.Proofs.Ytinkkdhlakfooaa
/- THE CELL 'sum', in the pinned program and in every row, IS THE sha256 OF THE DUMP (.gsa) THAT YtinkkdhlakfooaaProg.lean LOADS. Nothing in Lean hashes anything: it is a label: what it is worth is what the hold of that sum in a sandbox is worth. -/
noncomputable def Try.pinned : Pinned := { name := "ytinkkdhlakfooaa", sum := "c461cacd1b19f7cb6fc1a6330151f5a2edff34ee0776151fd89be41dea7370b9", checked := Try.checked }
namespace Rows
def none {H : Type} : Left H := { results := [], args := [] }

/-- 'rosarylaw4.ShelfPlays': WHATEVER THE INPUT: true; the input reads as it did. -/
def shelfPlaysSpec : ChangeSpec := { name := "shelfPlays", fn := fun _ => fun
  | [d1, d2, d3] => { results := [.lit (.bool true)], args := [d1, d2, d3] }
  | _ => none }
def shelfPlaysRow : OpenClaim := { program := "ytinkkdhlakfooaa", sum := "c461cacd1b19f7cb6fc1a6330151f5a2edff34ee0776151fd89be41dea7370b9", func := "rosary/rosarylaw4.ShelfPlays", spec := "shelfPlays", inPlace := ["slices.overlaps[rosary/api.Item]", "slices.overlaps[*rosary/shelf.node]"], recurses := true, apart := false }
def ShelfPlaysSaid : Prop := shelfPlaysRow.holds Try.pinned (OpenSpec.ofChange shelfPlaysSpec)

/-- ITS FALSE NEIGHBOUR: 'it returns false'. Refute it at one input. -/
def shelfPlaysWrong : ChangeSpec := { name := "shelfPlays", fn := fun _ => fun
  | [d1, d2, d3] => { results := [.lit (.bool false)], args := [d1, d2, d3] }
  | _ => none }
def ShelfPlaysWrongFalsely : Prop := shelfPlaysRow.holds Try.pinned (OpenSpec.ofChange shelfPlaysWrong)

/-- 'rosarylaw4.ShelfMany': WHATEVER THE INPUT: true; the input reads as it did. -/
def shelfManySpec : ChangeSpec := { name := "shelfMany", fn := fun _ => fun
  | [d1, d2, d3, d4] => { results := [.lit (.bool true)], args := [d1, d2, d3, d4] }
  | _ => none }
def shelfManyRow : OpenClaim := { program := "ytinkkdhlakfooaa", sum := "c461cacd1b19f7cb6fc1a6330151f5a2edff34ee0776151fd89be41dea7370b9", func := "rosary/rosarylaw4.ShelfMany", spec := "shelfMany", inPlace := ["slices.overlaps[rosary/api.Item]", "slices.overlaps[*rosary/shelf.node]"], recurses := true, apart := false }
def ShelfManySaid : Prop := shelfManyRow.holds Try.pinned (OpenSpec.ofChange shelfManySpec)

/-- ITS FALSE NEIGHBOUR: 'it returns false'. Refute it at one input. -/
def shelfManyWrong : ChangeSpec := { name := "shelfMany", fn := fun _ => fun
  | [d1, d2, d3, d4] => { results := [.lit (.bool false)], args := [d1, d2, d3, d4] }
  | _ => none }
def ShelfManyWrongFalsely : Prop := shelfManyRow.holds Try.pinned (OpenSpec.ofChange shelfManyWrong)

/-- 'rosarylaw4.ShelfFull': WHATEVER THE INPUT: true; the input reads as it did. -/
def shelfFullSpec : ChangeSpec := { name := "shelfFull", fn := fun _ => fun
  | [d1, d2] => { results := [.lit (.bool true)], args := [d1, d2] }
  | _ => none }
def shelfFullRow : OpenClaim := { program := "ytinkkdhlakfooaa", sum := "c461cacd1b19f7cb6fc1a6330151f5a2edff34ee0776151fd89be41dea7370b9", func := "rosary/rosarylaw4.ShelfFull", spec := "shelfFull", inPlace := ["slices.overlaps[rosary/api.Item]", "slices.overlaps[*rosary/shelf.node]"], recurses := true, apart := false }
def ShelfFullSaid : Prop := shelfFullRow.holds Try.pinned (OpenSpec.ofChange shelfFullSpec)

/-- ITS FALSE NEIGHBOUR: 'it returns false'. Refute it at one input. -/
def shelfFullWrong : ChangeSpec := { name := "shelfFull", fn := fun _ => fun
  | [d1, d2] => { results := [.lit (.bool false)], args := [d1, d2] }
  | _ => none }
def ShelfFullWrongFalsely : Prop := shelfFullRow.holds Try.pinned (OpenSpec.ofChange shelfFullWrong)

/-- 'rosarylaw4.ShelfOrders': WHATEVER THE INPUT: true; the input reads as it did. -/
def shelfOrdersSpec : ChangeSpec := { name := "shelfOrders", fn := fun _ => fun
  | [d1, d2] => { results := [.lit (.bool true)], args := [d1, d2] }
  | _ => none }
def shelfOrdersRow : OpenClaim := { program := "ytinkkdhlakfooaa", sum := "c461cacd1b19f7cb6fc1a6330151f5a2edff34ee0776151fd89be41dea7370b9", func := "rosary/rosarylaw4.ShelfOrders", spec := "shelfOrders", inPlace := ["slices.overlaps[rosary/api.Item]", "slices.overlaps[*rosary/shelf.node]"], recurses := true, apart := false }
def ShelfOrdersSaid : Prop := shelfOrdersRow.holds Try.pinned (OpenSpec.ofChange shelfOrdersSpec)

/-- ITS FALSE NEIGHBOUR: 'it returns false'. Refute it at one input. -/
def shelfOrdersWrong : ChangeSpec := { name := "shelfOrders", fn := fun _ => fun
  | [d1, d2] => { results := [.lit (.bool false)], args := [d1, d2] }
  | _ => none }
def ShelfOrdersWrongFalsely : Prop := shelfOrdersRow.holds Try.pinned (OpenSpec.ofChange shelfOrdersWrong)

/-- 'rosarylaw4.ShelfCopies': WHATEVER THE INPUT: true; the input reads as it did. -/
def shelfCopiesSpec : ChangeSpec := { name := "shelfCopies", fn := fun _ => fun
  | [d1, d2] => { results := [.lit (.bool true)], args := [d1, d2] }
  | _ => none }
def shelfCopiesRow : OpenClaim := { program := "ytinkkdhlakfooaa", sum := "c461cacd1b19f7cb6fc1a6330151f5a2edff34ee0776151fd89be41dea7370b9", func := "rosary/rosarylaw4.ShelfCopies", spec := "shelfCopies", inPlace := ["slices.overlaps[rosary/api.Item]", "slices.overlaps[*rosary/shelf.node]"], recurses := true, apart := false }
def ShelfCopiesSaid : Prop := shelfCopiesRow.holds Try.pinned (OpenSpec.ofChange shelfCopiesSpec)

/-- ITS FALSE NEIGHBOUR: 'it returns false'. Refute it at one input. -/
def shelfCopiesWrong : ChangeSpec := { name := "shelfCopies", fn := fun _ => fun
  | [d1, d2] => { results := [.lit (.bool false)], args := [d1, d2] }
  | _ => none }
def ShelfCopiesWrongFalsely : Prop := shelfCopiesRow.holds Try.pinned (OpenSpec.ofChange shelfCopiesWrong)

/-- 'rosarylaw4.ShelfAgain': WHATEVER THE INPUT: true; the input reads as it did. -/
def shelfAgainSpec : ChangeSpec := { name := "shelfAgain", fn := fun _ => fun
  | [d1, d2, d3] => { results := [.lit (.bool true)], args := [d1, d2, d3] }
  | _ => none }
def shelfAgainRow : OpenClaim := { program := "ytinkkdhlakfooaa", sum := "c461cacd1b19f7cb6fc1a6330151f5a2edff34ee0776151fd89be41dea7370b9", func := "rosary/rosarylaw4.ShelfAgain", spec := "shelfAgain", inPlace := ["slices.overlaps[rosary/api.Item]", "slices.overlaps[*rosary/shelf.node]"], recurses := true, apart := false }
def ShelfAgainSaid : Prop := shelfAgainRow.holds Try.pinned (OpenSpec.ofChange shelfAgainSpec)

/-- ITS FALSE NEIGHBOUR: 'it returns false'. Refute it at one input. -/
def shelfAgainWrong : ChangeSpec := { name := "shelfAgain", fn := fun _ => fun
  | [d1, d2, d3] => { results := [.lit (.bool false)], args := [d1, d2, d3] }
  | _ => none }
def ShelfAgainWrongFalsely : Prop := shelfAgainRow.holds Try.pinned (OpenSpec.ofChange shelfAgainWrong)

/- THE SECOND FORM. 'bulk': how many values and letters a reading holds, each counted each time it is reached (what is shared counts as often as it is met; a slice's spare places count too). A statement '..UptoSaid' is the law's where the arguments, and the package variables that the reading takes, are together of bulk at most 1048576: NARROWER than '..Said'. Prove '..Said' where nothing that the law and all that it calls make is longer than what came in: it says more and counts as full. Else prove '..UptoSaid'. A law counts once. -/
mutual
def uptoBulk {H : Type} : DataW H → Nat
  | .lit (.string bytes) => bytes.length + 1
  | .lit _ => 1
  | .nil => 1
  | .ptr d => uptoBulk d + 1
  | .slice elems spare => uptoBulkAll elems + uptoBulkAll spare + 1
  | .agg parts => uptoBulkAll parts + 1
  | .iface _ d => uptoBulk d + 1
  | .map entries => uptoBulkEntries entries + 1
  | .held _ => 1
def uptoBulkAll {H : Type} : List (DataW H) → Nat
  | [] => 0
  | d :: r => uptoBulk d + uptoBulkAll r
def uptoBulkEntries {H : Type} : List (Lit × DataW H) → Nat
  | [] => 0
  | x :: r => uptoBulkEntry x + uptoBulkEntries r
def uptoBulkEntry {H : Type} : Lit × DataW H → Nat
  | (.string bytes, d) => bytes.length + uptoBulk d + 1
  | (_, d) => uptoBulk d + 1
 end
def uptoSmall : (H : Type) → List (DataW H) → Bool := fun _ ds => decide (uptoBulkAll ds ≤ 1048576)
def OpenSpec.upto (s : _root_.Go.ChangeSpec) : _root_.Go.OpenSpec := { _root_.Go.OpenSpec.ofChange s with cond := some uptoSmall }

/-- 'rosarylaw4.ShelfPlays', WHERE WHAT IT READS IS OF BULK AT MOST 1048576: true; the input reads as it did. -/
def shelfPlaysUptoRow : OpenClaim := { program := "ytinkkdhlakfooaa", sum := "c461cacd1b19f7cb6fc1a6330151f5a2edff34ee0776151fd89be41dea7370b9", func := "rosary/rosarylaw4.ShelfPlays", spec := "shelfPlays", inPlace := ["slices.overlaps[rosary/api.Item]", "slices.overlaps[*rosary/shelf.node]"], recurses := true, apart := false, narrowed := true }
def ShelfPlaysUptoSaid : Prop := shelfPlaysUptoRow.holds Try.pinned (OpenSpec.upto shelfPlaysSpec)

/-- 'rosarylaw4.ShelfMany', WHERE WHAT IT READS IS OF BULK AT MOST 1048576: true; the input reads as it did. -/
def shelfManyUptoRow : OpenClaim := { program := "ytinkkdhlakfooaa", sum := "c461cacd1b19f7cb6fc1a6330151f5a2edff34ee0776151fd89be41dea7370b9", func := "rosary/rosarylaw4.ShelfMany", spec := "shelfMany", inPlace := ["slices.overlaps[rosary/api.Item]", "slices.overlaps[*rosary/shelf.node]"], recurses := true, apart := false, narrowed := true }
def ShelfManyUptoSaid : Prop := shelfManyUptoRow.holds Try.pinned (OpenSpec.upto shelfManySpec)

/-- 'rosarylaw4.ShelfFull', WHERE WHAT IT READS IS OF BULK AT MOST 1048576: true; the input reads as it did. -/
def shelfFullUptoRow : OpenClaim := { program := "ytinkkdhlakfooaa", sum := "c461cacd1b19f7cb6fc1a6330151f5a2edff34ee0776151fd89be41dea7370b9", func := "rosary/rosarylaw4.ShelfFull", spec := "shelfFull", inPlace := ["slices.overlaps[rosary/api.Item]", "slices.overlaps[*rosary/shelf.node]"], recurses := true, apart := false, narrowed := true }
def ShelfFullUptoSaid : Prop := shelfFullUptoRow.holds Try.pinned (OpenSpec.upto shelfFullSpec)

/-- 'rosarylaw4.ShelfOrders', WHERE WHAT IT READS IS OF BULK AT MOST 1048576: true; the input reads as it did. -/
def shelfOrdersUptoRow : OpenClaim := { program := "ytinkkdhlakfooaa", sum := "c461cacd1b19f7cb6fc1a6330151f5a2edff34ee0776151fd89be41dea7370b9", func := "rosary/rosarylaw4.ShelfOrders", spec := "shelfOrders", inPlace := ["slices.overlaps[rosary/api.Item]", "slices.overlaps[*rosary/shelf.node]"], recurses := true, apart := false, narrowed := true }
def ShelfOrdersUptoSaid : Prop := shelfOrdersUptoRow.holds Try.pinned (OpenSpec.upto shelfOrdersSpec)

/-- 'rosarylaw4.ShelfCopies', WHERE WHAT IT READS IS OF BULK AT MOST 1048576: true; the input reads as it did. -/
def shelfCopiesUptoRow : OpenClaim := { program := "ytinkkdhlakfooaa", sum := "c461cacd1b19f7cb6fc1a6330151f5a2edff34ee0776151fd89be41dea7370b9", func := "rosary/rosarylaw4.ShelfCopies", spec := "shelfCopies", inPlace := ["slices.overlaps[rosary/api.Item]", "slices.overlaps[*rosary/shelf.node]"], recurses := true, apart := false, narrowed := true }
def ShelfCopiesUptoSaid : Prop := shelfCopiesUptoRow.holds Try.pinned (OpenSpec.upto shelfCopiesSpec)

/-- 'rosarylaw4.ShelfAgain', WHERE WHAT IT READS IS OF BULK AT MOST 1048576: true; the input reads as it did. -/
def shelfAgainUptoRow : OpenClaim := { program := "ytinkkdhlakfooaa", sum := "c461cacd1b19f7cb6fc1a6330151f5a2edff34ee0776151fd89be41dea7370b9", func := "rosary/rosarylaw4.ShelfAgain", spec := "shelfAgain", inPlace := ["slices.overlaps[rosary/api.Item]", "slices.overlaps[*rosary/shelf.node]"], recurses := true, apart := false, narrowed := true }
def ShelfAgainUptoSaid : Prop := shelfAgainUptoRow.holds Try.pinned (OpenSpec.upto shelfAgainSpec)

end Rows
end Go.Proofs.Ytinkkdhlakfooaa
