/-
  No cell of these rows narrows 'for every input' (looked for: loops, veiled, ifaces, maps, wideKeys, modest, calm, conditions, laid).
  DERIVED. THE GIVEN ROWS OF THIS SEAT. 5 by the template 'for every input the law returns true; each argument reads behind the call as it read before'; 0 by the template 'total and deterministic' (their statements: YtnjodhglbapnlaaGreatTotals.lean).
  GIVEN WITH THE SEED: the statements are not yours to turn. If you find one false, say at which input.
  Laid BY PROGRAM, IN A SANDBOX (cutbox-rows.mjs): the forced cells as the released guide's own fill.sh prints them over the translation b7ccd633a4df694c… (all of the seat's roots in one cut). By AI agents, Wed Nov 11 2026. No macro, syntax, notation, axiom, sorry.
-/
import Derived.Test.YtnjodhglbapnlaaGreatChecked
import GoSem.Claim
import GoSem.ClaimJoined
import GoSem.ClaimMapViews
import Derived.JoinedTies
import Derived.KernelRfl
namespace Go.Proofs.YtnjodhglbapnlaaGreat
/- THE CELL 'sum', in the pinned program and in every row, IS THE sha256 OF THE DUMP (.gsa) THAT YtnjodhglbapnlaaGreatProg.lean LOADS. Nothing in Lean hashes anything: it is a label: what it is worth is what the hold of that sum in a sandbox is worth. -/
noncomputable def Tryz.pinned : Pinned := { name := "ytnjodhglbapnlaagreat", sum := "b7ccd633a4df694c4db0dbc676425918a91aa600b17ca41e2dc48ad5750033d9", checked := Tryz.checked }
namespace Rows
def none {H : Type} : Left H := { results := [], args := [] }

/-- 'rosarylaw15.GivePlays': WHATEVER THE INPUT: true; the input reads as it did. -/
def givePlaysSpec : ChangeSpec := { name := "givePlays", fn := fun _ => fun
  | [d1, d2, d3, d4, d5, d6, d7] => { results := [.lit (.bool true)], args := [d1, d2, d3, d4, d5, d6, d7] }
  | _ => none }
def givePlaysRow : OpenClaim := { program := "ytnjodhglbapnlaagreat", sum := "b7ccd633a4df694c4db0dbc676425918a91aa600b17ca41e2dc48ad5750033d9", func := "rosary/rosarylaw15.GivePlays", spec := "givePlays", inPlace := ["slices.overlaps[rosary/api.Item]", "slices.overlaps[*rosary/shelf.node]"], unfollowed := true, recurses := true, apart := false }
def GivePlaysSaid : Prop := givePlaysRow.holds Tryz.pinned (OpenSpec.ofChange givePlaysSpec)

/-- ITS FALSE NEIGHBOUR: 'it returns false'. Refute it at one input. -/
def givePlaysWrong : ChangeSpec := { name := "givePlays", fn := fun _ => fun
  | [d1, d2, d3, d4, d5, d6, d7] => { results := [.lit (.bool false)], args := [d1, d2, d3, d4, d5, d6, d7] }
  | _ => none }
def GivePlaysWrongFalsely : Prop := givePlaysRow.holds Tryz.pinned (OpenSpec.ofChange givePlaysWrong)

/-- 'rosarylaw15.GiveChunks': WHATEVER THE INPUT: true; the input reads as it did. -/
def giveChunksSpec : ChangeSpec := { name := "giveChunks", fn := fun _ => fun
  | [d1, d2, d3] => { results := [.lit (.bool true)], args := [d1, d2, d3] }
  | _ => none }
def giveChunksRow : OpenClaim := { program := "ytnjodhglbapnlaagreat", sum := "b7ccd633a4df694c4db0dbc676425918a91aa600b17ca41e2dc48ad5750033d9", func := "rosary/rosarylaw15.GiveChunks", spec := "giveChunks", inPlace := ["slices.overlaps[rosary/api.Item]", "slices.overlaps[*rosary/shelf.node]"], unfollowed := true, recurses := true, apart := false }
def GiveChunksSaid : Prop := giveChunksRow.holds Tryz.pinned (OpenSpec.ofChange giveChunksSpec)

/-- ITS FALSE NEIGHBOUR: 'it returns false'. Refute it at one input. -/
def giveChunksWrong : ChangeSpec := { name := "giveChunks", fn := fun _ => fun
  | [d1, d2, d3] => { results := [.lit (.bool false)], args := [d1, d2, d3] }
  | _ => none }
def GiveChunksWrongFalsely : Prop := giveChunksRow.holds Tryz.pinned (OpenSpec.ofChange giveChunksWrong)

/-- 'rosarylaw15.GiveStops': WHATEVER THE INPUT: true; the input reads as it did. -/
def giveStopsSpec : ChangeSpec := { name := "giveStops", fn := fun _ => fun
  | [d1, d2, d3, d4] => { results := [.lit (.bool true)], args := [d1, d2, d3, d4] }
  | _ => none }
def giveStopsRow : OpenClaim := { program := "ytnjodhglbapnlaagreat", sum := "b7ccd633a4df694c4db0dbc676425918a91aa600b17ca41e2dc48ad5750033d9", func := "rosary/rosarylaw15.GiveStops", spec := "giveStops", inPlace := ["slices.overlaps[rosary/api.Item]", "slices.overlaps[*rosary/shelf.node]"], unfollowed := true, recurses := true, apart := false }
def GiveStopsSaid : Prop := giveStopsRow.holds Tryz.pinned (OpenSpec.ofChange giveStopsSpec)

/-- ITS FALSE NEIGHBOUR: 'it returns false'. Refute it at one input. -/
def giveStopsWrong : ChangeSpec := { name := "giveStops", fn := fun _ => fun
  | [d1, d2, d3, d4] => { results := [.lit (.bool false)], args := [d1, d2, d3, d4] }
  | _ => none }
def GiveStopsWrongFalsely : Prop := giveStopsRow.holds Tryz.pinned (OpenSpec.ofChange giveStopsWrong)

/-- 'rosarylaw15.GiveOnce': WHATEVER THE INPUT: true; the input reads as it did. -/
def giveOnceSpec : ChangeSpec := { name := "giveOnce", fn := fun _ => fun
  | [d1, d2, d3, d4] => { results := [.lit (.bool true)], args := [d1, d2, d3, d4] }
  | _ => none }
def giveOnceRow : OpenClaim := { program := "ytnjodhglbapnlaagreat", sum := "b7ccd633a4df694c4db0dbc676425918a91aa600b17ca41e2dc48ad5750033d9", func := "rosary/rosarylaw15.GiveOnce", spec := "giveOnce", inPlace := ["slices.overlaps[rosary/api.Item]", "slices.overlaps[*rosary/shelf.node]"], unfollowed := true, recurses := true, apart := false }
def GiveOnceSaid : Prop := giveOnceRow.holds Tryz.pinned (OpenSpec.ofChange giveOnceSpec)

/-- ITS FALSE NEIGHBOUR: 'it returns false'. Refute it at one input. -/
def giveOnceWrong : ChangeSpec := { name := "giveOnce", fn := fun _ => fun
  | [d1, d2, d3, d4] => { results := [.lit (.bool false)], args := [d1, d2, d3, d4] }
  | _ => none }
def GiveOnceWrongFalsely : Prop := giveOnceRow.holds Tryz.pinned (OpenSpec.ofChange giveOnceWrong)

/-- 'rosarylaw15.GiveStrange': WHATEVER THE INPUT: true; the input reads as it did. -/
def giveStrangeSpec : ChangeSpec := { name := "giveStrange", fn := fun _ => fun
  | [d1, d2, d3] => { results := [.lit (.bool true)], args := [d1, d2, d3] }
  | _ => none }
def giveStrangeRow : OpenClaim := { program := "ytnjodhglbapnlaagreat", sum := "b7ccd633a4df694c4db0dbc676425918a91aa600b17ca41e2dc48ad5750033d9", func := "rosary/rosarylaw15.GiveStrange", spec := "giveStrange", inPlace := ["slices.overlaps[rosary/api.Item]", "slices.overlaps[*rosary/shelf.node]"], unfollowed := true, recurses := true, apart := false }
def GiveStrangeSaid : Prop := giveStrangeRow.holds Tryz.pinned (OpenSpec.ofChange giveStrangeSpec)

/-- ITS FALSE NEIGHBOUR: 'it returns false'. Refute it at one input. -/
def giveStrangeWrong : ChangeSpec := { name := "giveStrange", fn := fun _ => fun
  | [d1, d2, d3] => { results := [.lit (.bool false)], args := [d1, d2, d3] }
  | _ => none }
def GiveStrangeWrongFalsely : Prop := giveStrangeRow.holds Tryz.pinned (OpenSpec.ofChange giveStrangeWrong)

/- THE SECOND FORM. 'bulk': how many values and letters a reading holds, each counted each time it is reached (what is shared counts as often as it is met; a slice's spare places count too). A statement '..UptoSaid' is the law's where the arguments, and the package variables that the reading takes, are together of bulk at most 1048576: NARROWER than '..Said'. Prove '..Said' where nothing that the law and all that it calls make is longer than what came in: it says more and counts as full. Else prove '..UptoSaid'. A law counts once. -/
mutual
def uptoBulk {H : Type} : DataW H → Nat
  | .lit (.string bytes) => bytes.length + 1
  | .lit _ => 1
  | .nil => 1
  | .ptr d => uptoBulk d + 1
  | .slice elems spare => uptoBulkAll elems + uptoBulkAll spare + 1
  | .agg parts => uptoBulkAll parts + 1
  | .iface _ d => uptoBulk d + 1
  | .map entries => uptoBulkEntries entries + 1
  | .held _ => 1
def uptoBulkAll {H : Type} : List (DataW H) → Nat
  | [] => 0
  | d :: r => uptoBulk d + uptoBulkAll r
def uptoBulkEntries {H : Type} : List (Lit × DataW H) → Nat
  | [] => 0
  | x :: r => uptoBulkEntry x + uptoBulkEntries r
def uptoBulkEntry {H : Type} : Lit × DataW H → Nat
  | (.string bytes, d) => bytes.length + uptoBulk d + 1
  | (_, d) => uptoBulk d + 1
 end
def uptoSmall : (H : Type) → List (DataW H) → Bool := fun _ ds => decide (uptoBulkAll ds ≤ 1048576)
def OpenSpec.upto (s : _root_.Go.ChangeSpec) : _root_.Go.OpenSpec := { _root_.Go.OpenSpec.ofChange s with cond := some uptoSmall }

/-- 'rosarylaw15.GivePlays', WHERE WHAT IT READS IS OF BULK AT MOST 1048576: true; the input reads as it did. -/
def givePlaysUptoRow : OpenClaim := { program := "ytnjodhglbapnlaagreat", sum := "b7ccd633a4df694c4db0dbc676425918a91aa600b17ca41e2dc48ad5750033d9", func := "rosary/rosarylaw15.GivePlays", spec := "givePlays", inPlace := ["slices.overlaps[rosary/api.Item]", "slices.overlaps[*rosary/shelf.node]"], unfollowed := true, recurses := true, apart := false, narrowed := true }
def GivePlaysUptoSaid : Prop := givePlaysUptoRow.holds Tryz.pinned (OpenSpec.upto givePlaysSpec)

/-- 'rosarylaw15.GiveChunks', WHERE WHAT IT READS IS OF BULK AT MOST 1048576: true; the input reads as it did. -/
def giveChunksUptoRow : OpenClaim := { program := "ytnjodhglbapnlaagreat", sum := "b7ccd633a4df694c4db0dbc676425918a91aa600b17ca41e2dc48ad5750033d9", func := "rosary/rosarylaw15.GiveChunks", spec := "giveChunks", inPlace := ["slices.overlaps[rosary/api.Item]", "slices.overlaps[*rosary/shelf.node]"], unfollowed := true, recurses := true, apart := false, narrowed := true }
def GiveChunksUptoSaid : Prop := giveChunksUptoRow.holds Tryz.pinned (OpenSpec.upto giveChunksSpec)

/-- 'rosarylaw15.GiveStops', WHERE WHAT IT READS IS OF BULK AT MOST 1048576: true; the input reads as it did. -/
def giveStopsUptoRow : OpenClaim := { program := "ytnjodhglbapnlaagreat", sum := "b7ccd633a4df694c4db0dbc676425918a91aa600b17ca41e2dc48ad5750033d9", func := "rosary/rosarylaw15.GiveStops", spec := "giveStops", inPlace := ["slices.overlaps[rosary/api.Item]", "slices.overlaps[*rosary/shelf.node]"], unfollowed := true, recurses := true, apart := false, narrowed := true }
def GiveStopsUptoSaid : Prop := giveStopsUptoRow.holds Tryz.pinned (OpenSpec.upto giveStopsSpec)

/-- 'rosarylaw15.GiveOnce', WHERE WHAT IT READS IS OF BULK AT MOST 1048576: true; the input reads as it did. -/
def giveOnceUptoRow : OpenClaim := { program := "ytnjodhglbapnlaagreat", sum := "b7ccd633a4df694c4db0dbc676425918a91aa600b17ca41e2dc48ad5750033d9", func := "rosary/rosarylaw15.GiveOnce", spec := "giveOnce", inPlace := ["slices.overlaps[rosary/api.Item]", "slices.overlaps[*rosary/shelf.node]"], unfollowed := true, recurses := true, apart := false, narrowed := true }
def GiveOnceUptoSaid : Prop := giveOnceUptoRow.holds Tryz.pinned (OpenSpec.upto giveOnceSpec)

/-- 'rosarylaw15.GiveStrange', WHERE WHAT IT READS IS OF BULK AT MOST 1048576: true; the input reads as it did. -/
def giveStrangeUptoRow : OpenClaim := { program := "ytnjodhglbapnlaagreat", sum := "b7ccd633a4df694c4db0dbc676425918a91aa600b17ca41e2dc48ad5750033d9", func := "rosary/rosarylaw15.GiveStrange", spec := "giveStrange", inPlace := ["slices.overlaps[rosary/api.Item]", "slices.overlaps[*rosary/shelf.node]"], unfollowed := true, recurses := true, apart := false, narrowed := true }
def GiveStrangeUptoSaid : Prop := giveStrangeUptoRow.holds Tryz.pinned (OpenSpec.upto giveStrangeSpec)

end Rows
end Go.Proofs.YtnjodhglbapnlaaGreat
