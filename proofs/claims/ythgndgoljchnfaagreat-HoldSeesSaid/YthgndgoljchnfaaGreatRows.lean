/-
  No cell of these rows narrows 'for every input' (looked for: loops, veiled, ifaces, maps, wideKeys, modest, calm, conditions, laid).
  DERIVED. THE GIVEN ROWS OF THIS SEAT. 8 by the template 'for every input the law returns true; each argument reads behind the call as it read before'; 0 by the template 'total and deterministic' (their statements: YthgndgoljchnfaaGreatTotals.lean).
  GIVEN WITH THE SEED: the statements are not yours to turn. If you find one false, say at which input.
  Laid BY PROGRAM, IN A SANDBOX (cutbox-rows.mjs): the forced cells as the released guide's own fill.sh prints them over the translation b72ceedd08d32b1e… (all of the seat's roots in one cut). By AI agents, Wed Nov 11 2026. No macro, syntax, notation, axiom, sorry.
-/
import Derived.Test.YthgndgoljchnfaaGreatChecked
import GoSem.Claim
import GoSem.ClaimJoined
import GoSem.ClaimMapViews
import Derived.JoinedTies
import Derived.KernelRfl
namespace Go.Proofs.YthgndgoljchnfaaGreat
/- THE CELL 'sum', in the pinned program and in every row, IS THE sha256 OF THE DUMP (.gsa) THAT YthgndgoljchnfaaGreatProg.lean LOADS. Nothing in Lean hashes anything: it is a label: what it is worth is what the hold of that sum in a sandbox is worth. -/
noncomputable def Tryz.pinned : Pinned := { name := "ythgndgoljchnfaagreat", sum := "b72ceedd08d32b1e5a9689b7cd7379c311db5236c8990a1ee4c8731e4e403bdb", checked := Tryz.checked }
namespace Rows
def none {H : Type} : Left H := { results := [], args := [] }

/-- 'rosarylaw14.HoldScans': WHATEVER THE INPUT: true; the input reads as it did. -/
def holdScansSpec : ChangeSpec := { name := "holdScans", fn := fun _ => fun
  | [d1, d2, d3, d4, d5] => { results := [.lit (.bool true)], args := [d1, d2, d3, d4, d5] }
  | _ => none }
def holdScansRow : OpenClaim := { program := "ythgndgoljchnfaagreat", sum := "b72ceedd08d32b1e5a9689b7cd7379c311db5236c8990a1ee4c8731e4e403bdb", func := "rosary/rosarylaw14.HoldScans", spec := "holdScans", inPlace := ["slices.overlaps[rosary/api.Item]", "slices.overlaps[*rosary/shelf.node]"], unfollowed := true, recurses := true, apart := false }
def HoldScansSaid : Prop := holdScansRow.holds Tryz.pinned (OpenSpec.ofChange holdScansSpec)

/-- ITS FALSE NEIGHBOUR: 'it returns false'. Refute it at one input. -/
def holdScansWrong : ChangeSpec := { name := "holdScans", fn := fun _ => fun
  | [d1, d2, d3, d4, d5] => { results := [.lit (.bool false)], args := [d1, d2, d3, d4, d5] }
  | _ => none }
def HoldScansWrongFalsely : Prop := holdScansRow.holds Tryz.pinned (OpenSpec.ofChange holdScansWrong)

/-- 'rosarylaw14.HoldKeeps': WHATEVER THE INPUT: true; the input reads as it did. -/
def holdKeepsSpec : ChangeSpec := { name := "holdKeeps", fn := fun _ => fun
  | [d1, d2, d3] => { results := [.lit (.bool true)], args := [d1, d2, d3] }
  | _ => none }
def holdKeepsRow : OpenClaim := { program := "ythgndgoljchnfaagreat", sum := "b72ceedd08d32b1e5a9689b7cd7379c311db5236c8990a1ee4c8731e4e403bdb", func := "rosary/rosarylaw14.HoldKeeps", spec := "holdKeeps", inPlace := ["slices.overlaps[rosary/api.Item]", "slices.overlaps[*rosary/shelf.node]"], unfollowed := true, recurses := true, apart := false }
def HoldKeepsSaid : Prop := holdKeepsRow.holds Tryz.pinned (OpenSpec.ofChange holdKeepsSpec)

/-- ITS FALSE NEIGHBOUR: 'it returns false'. Refute it at one input. -/
def holdKeepsWrong : ChangeSpec := { name := "holdKeeps", fn := fun _ => fun
  | [d1, d2, d3] => { results := [.lit (.bool false)], args := [d1, d2, d3] }
  | _ => none }
def HoldKeepsWrongFalsely : Prop := holdKeepsRow.holds Tryz.pinned (OpenSpec.ofChange holdKeepsWrong)

/-- 'rosarylaw14.HoldShut': WHATEVER THE INPUT: true; the input reads as it did. -/
def holdShutSpec : ChangeSpec := { name := "holdShut", fn := fun _ => fun
  | [d1, d2, d3, d4] => { results := [.lit (.bool true)], args := [d1, d2, d3, d4] }
  | _ => none }
def holdShutRow : OpenClaim := { program := "ythgndgoljchnfaagreat", sum := "b72ceedd08d32b1e5a9689b7cd7379c311db5236c8990a1ee4c8731e4e403bdb", func := "rosary/rosarylaw14.HoldShut", spec := "holdShut", inPlace := ["slices.overlaps[rosary/api.Item]", "slices.overlaps[*rosary/shelf.node]"], unfollowed := true, recurses := true, apart := false }
def HoldShutSaid : Prop := holdShutRow.holds Tryz.pinned (OpenSpec.ofChange holdShutSpec)

/-- ITS FALSE NEIGHBOUR: 'it returns false'. Refute it at one input. -/
def holdShutWrong : ChangeSpec := { name := "holdShut", fn := fun _ => fun
  | [d1, d2, d3, d4] => { results := [.lit (.bool false)], args := [d1, d2, d3, d4] }
  | _ => none }
def HoldShutWrongFalsely : Prop := holdShutRow.holds Tryz.pinned (OpenSpec.ofChange holdShutWrong)

/-- 'rosarylaw14.HoldGives': WHATEVER THE INPUT: true; the input reads as it did. -/
def holdGivesSpec : ChangeSpec := { name := "holdGives", fn := fun _ => fun
  | [d1, d2, d3] => { results := [.lit (.bool true)], args := [d1, d2, d3] }
  | _ => none }
def holdGivesRow : OpenClaim := { program := "ythgndgoljchnfaagreat", sum := "b72ceedd08d32b1e5a9689b7cd7379c311db5236c8990a1ee4c8731e4e403bdb", func := "rosary/rosarylaw14.HoldGives", spec := "holdGives", inPlace := ["slices.overlaps[rosary/api.Item]", "slices.overlaps[*rosary/shelf.node]"], unfollowed := true, recurses := true, apart := false }
def HoldGivesSaid : Prop := holdGivesRow.holds Tryz.pinned (OpenSpec.ofChange holdGivesSpec)

/-- ITS FALSE NEIGHBOUR: 'it returns false'. Refute it at one input. -/
def holdGivesWrong : ChangeSpec := { name := "holdGives", fn := fun _ => fun
  | [d1, d2, d3] => { results := [.lit (.bool false)], args := [d1, d2, d3] }
  | _ => none }
def HoldGivesWrongFalsely : Prop := holdGivesRow.holds Tryz.pinned (OpenSpec.ofChange holdGivesWrong)

/-- 'rosarylaw14.HoldArcs': WHATEVER THE INPUT: true; the input reads as it did. -/
def holdArcsSpec : ChangeSpec := { name := "holdArcs", fn := fun _ => fun
  | [d1, d2] => { results := [.lit (.bool true)], args := [d1, d2] }
  | _ => none }
def holdArcsRow : OpenClaim := { program := "ythgndgoljchnfaagreat", sum := "b72ceedd08d32b1e5a9689b7cd7379c311db5236c8990a1ee4c8731e4e403bdb", func := "rosary/rosarylaw14.HoldArcs", spec := "holdArcs", inPlace := ["slices.overlaps[rosary/api.Item]", "slices.overlaps[*rosary/shelf.node]"], unfollowed := true, recurses := true, apart := false }
def HoldArcsSaid : Prop := holdArcsRow.holds Tryz.pinned (OpenSpec.ofChange holdArcsSpec)

/-- ITS FALSE NEIGHBOUR: 'it returns false'. Refute it at one input. -/
def holdArcsWrong : ChangeSpec := { name := "holdArcs", fn := fun _ => fun
  | [d1, d2] => { results := [.lit (.bool false)], args := [d1, d2] }
  | _ => none }
def HoldArcsWrongFalsely : Prop := holdArcsRow.holds Tryz.pinned (OpenSpec.ofChange holdArcsWrong)

/-- 'rosarylaw14.HoldSees': WHATEVER THE INPUT: true; the input reads as it did. -/
def holdSeesSpec : ChangeSpec := { name := "holdSees", fn := fun _ => fun
  | [d] => { results := [.lit (.bool true)], args := [d] }
  | _ => none }
def holdSeesRow : OpenClaim := { program := "ythgndgoljchnfaagreat", sum := "b72ceedd08d32b1e5a9689b7cd7379c311db5236c8990a1ee4c8731e4e403bdb", func := "rosary/rosarylaw14.HoldSees", spec := "holdSees", inPlace := ["slices.overlaps[rosary/api.Item]", "slices.overlaps[*rosary/shelf.node]"], unfollowed := true, recurses := true, apart := false }
def HoldSeesSaid : Prop := holdSeesRow.holds Tryz.pinned (OpenSpec.ofChange holdSeesSpec)

/-- ITS FALSE NEIGHBOUR: 'it returns false'. Refute it at one input. -/
def holdSeesWrong : ChangeSpec := { name := "holdSees", fn := fun _ => fun
  | [d] => { results := [.lit (.bool false)], args := [d] }
  | _ => none }
def HoldSeesWrongFalsely : Prop := holdSeesRow.holds Tryz.pinned (OpenSpec.ofChange holdSeesWrong)

/-- 'rosarylaw14.HoldTwo': WHATEVER THE INPUT: true; the input reads as it did. -/
def holdTwoSpec : ChangeSpec := { name := "holdTwo", fn := fun _ => fun
  | [d1, d2, d3] => { results := [.lit (.bool true)], args := [d1, d2, d3] }
  | _ => none }
def holdTwoRow : OpenClaim := { program := "ythgndgoljchnfaagreat", sum := "b72ceedd08d32b1e5a9689b7cd7379c311db5236c8990a1ee4c8731e4e403bdb", func := "rosary/rosarylaw14.HoldTwo", spec := "holdTwo", inPlace := ["slices.overlaps[rosary/api.Item]", "slices.overlaps[*rosary/shelf.node]"], unfollowed := true, recurses := true, apart := false }
def HoldTwoSaid : Prop := holdTwoRow.holds Tryz.pinned (OpenSpec.ofChange holdTwoSpec)

/-- ITS FALSE NEIGHBOUR: 'it returns false'. Refute it at one input. -/
def holdTwoWrong : ChangeSpec := { name := "holdTwo", fn := fun _ => fun
  | [d1, d2, d3] => { results := [.lit (.bool false)], args := [d1, d2, d3] }
  | _ => none }
def HoldTwoWrongFalsely : Prop := holdTwoRow.holds Tryz.pinned (OpenSpec.ofChange holdTwoWrong)

/-- 'rosarylaw14.HoldPoints': WHATEVER THE INPUT: true; the input reads as it did. -/
def holdPointsSpec : ChangeSpec := { name := "holdPoints", fn := fun _ => fun
  | [d1, d2, d3] => { results := [.lit (.bool true)], args := [d1, d2, d3] }
  | _ => none }
def holdPointsRow : OpenClaim := { program := "ythgndgoljchnfaagreat", sum := "b72ceedd08d32b1e5a9689b7cd7379c311db5236c8990a1ee4c8731e4e403bdb", func := "rosary/rosarylaw14.HoldPoints", spec := "holdPoints", inPlace := ["slices.overlaps[rosary/api.Item]", "slices.overlaps[*rosary/shelf.node]"], unfollowed := true, recurses := true, apart := false }
def HoldPointsSaid : Prop := holdPointsRow.holds Tryz.pinned (OpenSpec.ofChange holdPointsSpec)

/-- ITS FALSE NEIGHBOUR: 'it returns false'. Refute it at one input. -/
def holdPointsWrong : ChangeSpec := { name := "holdPoints", fn := fun _ => fun
  | [d1, d2, d3] => { results := [.lit (.bool false)], args := [d1, d2, d3] }
  | _ => none }
def HoldPointsWrongFalsely : Prop := holdPointsRow.holds Tryz.pinned (OpenSpec.ofChange holdPointsWrong)

/- THE SECOND FORM. 'bulk': how many values and letters a reading holds, each counted each time it is reached (what is shared counts as often as it is met; a slice's spare places count too). A statement '..UptoSaid' is the law's where the arguments, and the package variables that the reading takes, are together of bulk at most 1048576: NARROWER than '..Said'. Prove '..Said' where nothing that the law and all that it calls make is longer than what came in: it says more and counts as full. Else prove '..UptoSaid'. A law counts once. -/
mutual
def uptoBulk {H : Type} : DataW H → Nat
  | .lit (.string bytes) => bytes.length + 1
  | .lit _ => 1
  | .nil => 1
  | .ptr d => uptoBulk d + 1
  | .slice elems spare => uptoBulkAll elems + uptoBulkAll spare + 1
  | .agg parts => uptoBulkAll parts + 1
  | .iface _ d => uptoBulk d + 1
  | .map entries => uptoBulkEntries entries + 1
  | .held _ => 1
def uptoBulkAll {H : Type} : List (DataW H) → Nat
  | [] => 0
  | d :: r => uptoBulk d + uptoBulkAll r
def uptoBulkEntries {H : Type} : List (Lit × DataW H) → Nat
  | [] => 0
  | x :: r => uptoBulkEntry x + uptoBulkEntries r
def uptoBulkEntry {H : Type} : Lit × DataW H → Nat
  | (.string bytes, d) => bytes.length + uptoBulk d + 1
  | (_, d) => uptoBulk d + 1
 end
def uptoSmall : (H : Type) → List (DataW H) → Bool := fun _ ds => decide (uptoBulkAll ds ≤ 1048576)
def OpenSpec.upto (s : _root_.Go.ChangeSpec) : _root_.Go.OpenSpec := { _root_.Go.OpenSpec.ofChange s with cond := some uptoSmall }

/-- 'rosarylaw14.HoldScans', WHERE WHAT IT READS IS OF BULK AT MOST 1048576: true; the input reads as it did. -/
def holdScansUptoRow : OpenClaim := { program := "ythgndgoljchnfaagreat", sum := "b72ceedd08d32b1e5a9689b7cd7379c311db5236c8990a1ee4c8731e4e403bdb", func := "rosary/rosarylaw14.HoldScans", spec := "holdScans", inPlace := ["slices.overlaps[rosary/api.Item]", "slices.overlaps[*rosary/shelf.node]"], unfollowed := true, recurses := true, apart := false, narrowed := true }
def HoldScansUptoSaid : Prop := holdScansUptoRow.holds Tryz.pinned (OpenSpec.upto holdScansSpec)

/-- 'rosarylaw14.HoldKeeps', WHERE WHAT IT READS IS OF BULK AT MOST 1048576: true; the input reads as it did. -/
def holdKeepsUptoRow : OpenClaim := { program := "ythgndgoljchnfaagreat", sum := "b72ceedd08d32b1e5a9689b7cd7379c311db5236c8990a1ee4c8731e4e403bdb", func := "rosary/rosarylaw14.HoldKeeps", spec := "holdKeeps", inPlace := ["slices.overlaps[rosary/api.Item]", "slices.overlaps[*rosary/shelf.node]"], unfollowed := true, recurses := true, apart := false, narrowed := true }
def HoldKeepsUptoSaid : Prop := holdKeepsUptoRow.holds Tryz.pinned (OpenSpec.upto holdKeepsSpec)

/-- 'rosarylaw14.HoldShut', WHERE WHAT IT READS IS OF BULK AT MOST 1048576: true; the input reads as it did. -/
def holdShutUptoRow : OpenClaim := { program := "ythgndgoljchnfaagreat", sum := "b72ceedd08d32b1e5a9689b7cd7379c311db5236c8990a1ee4c8731e4e403bdb", func := "rosary/rosarylaw14.HoldShut", spec := "holdShut", inPlace := ["slices.overlaps[rosary/api.Item]", "slices.overlaps[*rosary/shelf.node]"], unfollowed := true, recurses := true, apart := false, narrowed := true }
def HoldShutUptoSaid : Prop := holdShutUptoRow.holds Tryz.pinned (OpenSpec.upto holdShutSpec)

/-- 'rosarylaw14.HoldGives', WHERE WHAT IT READS IS OF BULK AT MOST 1048576: true; the input reads as it did. -/
def holdGivesUptoRow : OpenClaim := { program := "ythgndgoljchnfaagreat", sum := "b72ceedd08d32b1e5a9689b7cd7379c311db5236c8990a1ee4c8731e4e403bdb", func := "rosary/rosarylaw14.HoldGives", spec := "holdGives", inPlace := ["slices.overlaps[rosary/api.Item]", "slices.overlaps[*rosary/shelf.node]"], unfollowed := true, recurses := true, apart := false, narrowed := true }
def HoldGivesUptoSaid : Prop := holdGivesUptoRow.holds Tryz.pinned (OpenSpec.upto holdGivesSpec)

/-- 'rosarylaw14.HoldArcs', WHERE WHAT IT READS IS OF BULK AT MOST 1048576: true; the input reads as it did. -/
def holdArcsUptoRow : OpenClaim := { program := "ythgndgoljchnfaagreat", sum := "b72ceedd08d32b1e5a9689b7cd7379c311db5236c8990a1ee4c8731e4e403bdb", func := "rosary/rosarylaw14.HoldArcs", spec := "holdArcs", inPlace := ["slices.overlaps[rosary/api.Item]", "slices.overlaps[*rosary/shelf.node]"], unfollowed := true, recurses := true, apart := false, narrowed := true }
def HoldArcsUptoSaid : Prop := holdArcsUptoRow.holds Tryz.pinned (OpenSpec.upto holdArcsSpec)

/-- 'rosarylaw14.HoldSees', WHERE WHAT IT READS IS OF BULK AT MOST 1048576: true; the input reads as it did. -/
def holdSeesUptoRow : OpenClaim := { program := "ythgndgoljchnfaagreat", sum := "b72ceedd08d32b1e5a9689b7cd7379c311db5236c8990a1ee4c8731e4e403bdb", func := "rosary/rosarylaw14.HoldSees", spec := "holdSees", inPlace := ["slices.overlaps[rosary/api.Item]", "slices.overlaps[*rosary/shelf.node]"], unfollowed := true, recurses := true, apart := false, narrowed := true }
def HoldSeesUptoSaid : Prop := holdSeesUptoRow.holds Tryz.pinned (OpenSpec.upto holdSeesSpec)

/-- 'rosarylaw14.HoldTwo', WHERE WHAT IT READS IS OF BULK AT MOST 1048576: true; the input reads as it did. -/
def holdTwoUptoRow : OpenClaim := { program := "ythgndgoljchnfaagreat", sum := "b72ceedd08d32b1e5a9689b7cd7379c311db5236c8990a1ee4c8731e4e403bdb", func := "rosary/rosarylaw14.HoldTwo", spec := "holdTwo", inPlace := ["slices.overlaps[rosary/api.Item]", "slices.overlaps[*rosary/shelf.node]"], unfollowed := true, recurses := true, apart := false, narrowed := true }
def HoldTwoUptoSaid : Prop := holdTwoUptoRow.holds Tryz.pinned (OpenSpec.upto holdTwoSpec)

/-- 'rosarylaw14.HoldPoints', WHERE WHAT IT READS IS OF BULK AT MOST 1048576: true; the input reads as it did. -/
def holdPointsUptoRow : OpenClaim := { program := "ythgndgoljchnfaagreat", sum := "b72ceedd08d32b1e5a9689b7cd7379c311db5236c8990a1ee4c8731e4e403bdb", func := "rosary/rosarylaw14.HoldPoints", spec := "holdPoints", inPlace := ["slices.overlaps[rosary/api.Item]", "slices.overlaps[*rosary/shelf.node]"], unfollowed := true, recurses := true, apart := false, narrowed := true }
def HoldPointsUptoSaid : Prop := holdPointsUptoRow.holds Tryz.pinned (OpenSpec.upto holdPointsSpec)

end Rows
end Go.Proofs.YthgndgoljchnfaaGreat
