/-
  No cell of these rows narrows 'for every input' (looked for: loops, veiled, ifaces, maps, wideKeys, modest, calm, conditions, laid).
  DERIVED. THE GIVEN ROWS OF THIS SEAT. 4 by the template 'for every input the law returns true; each argument reads behind the call as it read before'; 0 by the template 'total and deterministic' (their statements: YthjhfnbcfgkehaaTotals.lean).
  GIVEN WITH THE SEED: the statements are not yours to turn. If you find one false, say at which input.
  Laid BY PROGRAM, IN A SANDBOX (cutbox-rows.mjs): the forced cells as the released guide's own fill.sh prints them over the translation f2f6e94a6807b12f… (all of the seat's roots in one cut). By AI agents, Wed Nov 11 2026. No macro, syntax, notation, axiom, sorry.
-/
import Derived.Test.YthjhfnbcfgkehaaChecked
import GoSem.Claim
import GoSem.ClaimJoined
import GoSem.ClaimMapViews
import Derived.JoinedTies
import Derived.KernelRfl
namespace Go.Proofs.Ythjhfnbcfgkehaa
/- THE CELL 'sum', in the pinned program and in every row, IS THE sha256 OF THE DUMP (.gsa) THAT YthjhfnbcfgkehaaProg.lean LOADS. Nothing in Lean hashes anything: it is a label: what it is worth is what the hold of that sum in a sandbox is worth. -/
noncomputable def Try.pinned : Pinned := { name := "ythjhfnbcfgkehaa", sum := "f2f6e94a6807b12fa61446a0f854dc46bee5cc4a560c284be2be2299211e5914", checked := Try.checked }
namespace Rows
def none {H : Type} : Left H := { results := [], args := [] }

/-- 'rosarylaw11.ViewNewer': WHATEVER THE INPUT: true; the input reads as it did. -/
def viewNewerSpec : ChangeSpec := { name := "viewNewer", fn := fun _ => fun
  | [d1, d2, d3] => { results := [.lit (.bool true)], args := [d1, d2, d3] }
  | _ => none }
def viewNewerRow : OpenClaim := { program := "ythjhfnbcfgkehaa", sum := "f2f6e94a6807b12fa61446a0f854dc46bee5cc4a560c284be2be2299211e5914", func := "rosary/rosarylaw11.ViewNewer", spec := "viewNewer", inPlace := ["slices.overlaps[rosary/view.part]"], unfollowed := true, recurses := true, apart := false }
def ViewNewerSaid : Prop := viewNewerRow.holds Try.pinned (OpenSpec.ofChange viewNewerSpec)

/-- ITS FALSE NEIGHBOUR: 'it returns false'. Refute it at one input. -/
def viewNewerWrong : ChangeSpec := { name := "viewNewer", fn := fun _ => fun
  | [d1, d2, d3] => { results := [.lit (.bool false)], args := [d1, d2, d3] }
  | _ => none }
def ViewNewerWrongFalsely : Prop := viewNewerRow.holds Try.pinned (OpenSpec.ofChange viewNewerWrong)

/-- 'rosarylaw11.ViewCovers': WHATEVER THE INPUT: true; the input reads as it did. -/
def viewCoversSpec : ChangeSpec := { name := "viewCovers", fn := fun _ => fun
  | [d1, d2] => { results := [.lit (.bool true)], args := [d1, d2] }
  | _ => none }
def viewCoversRow : OpenClaim := { program := "ythjhfnbcfgkehaa", sum := "f2f6e94a6807b12fa61446a0f854dc46bee5cc4a560c284be2be2299211e5914", func := "rosary/rosarylaw11.ViewCovers", spec := "viewCovers", inPlace := ["slices.overlaps[rosary/view.part]"], unfollowed := true, recurses := true, apart := false }
def ViewCoversSaid : Prop := viewCoversRow.holds Try.pinned (OpenSpec.ofChange viewCoversSpec)

/-- ITS FALSE NEIGHBOUR: 'it returns false'. Refute it at one input. -/
def viewCoversWrong : ChangeSpec := { name := "viewCovers", fn := fun _ => fun
  | [d1, d2] => { results := [.lit (.bool false)], args := [d1, d2] }
  | _ => none }
def ViewCoversWrongFalsely : Prop := viewCoversRow.holds Try.pinned (OpenSpec.ofChange viewCoversWrong)

/-- 'rosarylaw11.ViewRounds': WHATEVER THE INPUT: true; the input reads as it did. -/
def viewRoundsSpec : ChangeSpec := { name := "viewRounds", fn := fun _ => fun
  | [d1, d2] => { results := [.lit (.bool true)], args := [d1, d2] }
  | _ => none }
def viewRoundsRow : OpenClaim := { program := "ythjhfnbcfgkehaa", sum := "f2f6e94a6807b12fa61446a0f854dc46bee5cc4a560c284be2be2299211e5914", func := "rosary/rosarylaw11.ViewRounds", spec := "viewRounds", inPlace := ["slices.overlaps[rosary/view.part]"], unfollowed := true, recurses := true, apart := false }
def ViewRoundsSaid : Prop := viewRoundsRow.holds Try.pinned (OpenSpec.ofChange viewRoundsSpec)

/-- ITS FALSE NEIGHBOUR: 'it returns false'. Refute it at one input. -/
def viewRoundsWrong : ChangeSpec := { name := "viewRounds", fn := fun _ => fun
  | [d1, d2] => { results := [.lit (.bool false)], args := [d1, d2] }
  | _ => none }
def ViewRoundsWrongFalsely : Prop := viewRoundsRow.holds Try.pinned (OpenSpec.ofChange viewRoundsWrong)

/-- 'rosarylaw11.ViewWhole': WHATEVER THE INPUT: true; the input reads as it did. -/
def viewWholeSpec : ChangeSpec := { name := "viewWhole", fn := fun _ => fun
  | [d1, d2] => { results := [.lit (.bool true)], args := [d1, d2] }
  | _ => none }
def viewWholeRow : OpenClaim := { program := "ythjhfnbcfgkehaa", sum := "f2f6e94a6807b12fa61446a0f854dc46bee5cc4a560c284be2be2299211e5914", func := "rosary/rosarylaw11.ViewWhole", spec := "viewWhole", inPlace := ["slices.overlaps[rosary/view.part]"], unfollowed := true, recurses := true, apart := false }
def ViewWholeSaid : Prop := viewWholeRow.holds Try.pinned (OpenSpec.ofChange viewWholeSpec)

/-- ITS FALSE NEIGHBOUR: 'it returns false'. Refute it at one input. -/
def viewWholeWrong : ChangeSpec := { name := "viewWhole", fn := fun _ => fun
  | [d1, d2] => { results := [.lit (.bool false)], args := [d1, d2] }
  | _ => none }
def ViewWholeWrongFalsely : Prop := viewWholeRow.holds Try.pinned (OpenSpec.ofChange viewWholeWrong)

/- THE SECOND FORM. 'bulk': how many values and letters a reading holds, each counted each time it is reached (what is shared counts as often as it is met; a slice's spare places count too). A statement '..UptoSaid' is the law's where the arguments, and the package variables that the reading takes, are together of bulk at most 1048576: NARROWER than '..Said'. Prove '..Said' where nothing that the law and all that it calls make is longer than what came in: it says more and counts as full. Else prove '..UptoSaid'. A law counts once. -/
mutual
def uptoBulk {H : Type} : DataW H → Nat
  | .lit (.string bytes) => bytes.length + 1
  | .lit _ => 1
  | .nil => 1
  | .ptr d => uptoBulk d + 1
  | .slice elems spare => uptoBulkAll elems + uptoBulkAll spare + 1
  | .agg parts => uptoBulkAll parts + 1
  | .iface _ d => uptoBulk d + 1
  | .map entries => uptoBulkEntries entries + 1
  | .held _ => 1
def uptoBulkAll {H : Type} : List (DataW H) → Nat
  | [] => 0
  | d :: r => uptoBulk d + uptoBulkAll r
def uptoBulkEntries {H : Type} : List (Lit × DataW H) → Nat
  | [] => 0
  | x :: r => uptoBulkEntry x + uptoBulkEntries r
def uptoBulkEntry {H : Type} : Lit × DataW H → Nat
  | (.string bytes, d) => bytes.length + uptoBulk d + 1
  | (_, d) => uptoBulk d + 1
 end
def uptoSmall : (H : Type) → List (DataW H) → Bool := fun _ ds => decide (uptoBulkAll ds ≤ 1048576)
def OpenSpec.upto (s : _root_.Go.ChangeSpec) : _root_.Go.OpenSpec := { _root_.Go.OpenSpec.ofChange s with cond := some uptoSmall }

/-- 'rosarylaw11.ViewNewer', WHERE WHAT IT READS IS OF BULK AT MOST 1048576: true; the input reads as it did. -/
def viewNewerUptoRow : OpenClaim := { program := "ythjhfnbcfgkehaa", sum := "f2f6e94a6807b12fa61446a0f854dc46bee5cc4a560c284be2be2299211e5914", func := "rosary/rosarylaw11.ViewNewer", spec := "viewNewer", inPlace := ["slices.overlaps[rosary/view.part]"], unfollowed := true, recurses := true, apart := false, narrowed := true }
def ViewNewerUptoSaid : Prop := viewNewerUptoRow.holds Try.pinned (OpenSpec.upto viewNewerSpec)

/-- 'rosarylaw11.ViewCovers', WHERE WHAT IT READS IS OF BULK AT MOST 1048576: true; the input reads as it did. -/
def viewCoversUptoRow : OpenClaim := { program := "ythjhfnbcfgkehaa", sum := "f2f6e94a6807b12fa61446a0f854dc46bee5cc4a560c284be2be2299211e5914", func := "rosary/rosarylaw11.ViewCovers", spec := "viewCovers", inPlace := ["slices.overlaps[rosary/view.part]"], unfollowed := true, recurses := true, apart := false, narrowed := true }
def ViewCoversUptoSaid : Prop := viewCoversUptoRow.holds Try.pinned (OpenSpec.upto viewCoversSpec)

/-- 'rosarylaw11.ViewRounds', WHERE WHAT IT READS IS OF BULK AT MOST 1048576: true; the input reads as it did. -/
def viewRoundsUptoRow : OpenClaim := { program := "ythjhfnbcfgkehaa", sum := "f2f6e94a6807b12fa61446a0f854dc46bee5cc4a560c284be2be2299211e5914", func := "rosary/rosarylaw11.ViewRounds", spec := "viewRounds", inPlace := ["slices.overlaps[rosary/view.part]"], unfollowed := true, recurses := true, apart := false, narrowed := true }
def ViewRoundsUptoSaid : Prop := viewRoundsUptoRow.holds Try.pinned (OpenSpec.upto viewRoundsSpec)

/-- 'rosarylaw11.ViewWhole', WHERE WHAT IT READS IS OF BULK AT MOST 1048576: true; the input reads as it did. -/
def viewWholeUptoRow : OpenClaim := { program := "ythjhfnbcfgkehaa", sum := "f2f6e94a6807b12fa61446a0f854dc46bee5cc4a560c284be2be2299211e5914", func := "rosary/rosarylaw11.ViewWhole", spec := "viewWhole", inPlace := ["slices.overlaps[rosary/view.part]"], unfollowed := true, recurses := true, apart := false, narrowed := true }
def ViewWholeUptoSaid : Prop := viewWholeUptoRow.holds Try.pinned (OpenSpec.upto viewWholeSpec)

end Rows
end Go.Proofs.Ythjhfnbcfgkehaa
