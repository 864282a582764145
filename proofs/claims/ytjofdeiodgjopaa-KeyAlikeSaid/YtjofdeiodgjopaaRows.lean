/-
  No cell of these rows narrows 'for every input' (looked for: loops, veiled, ifaces, maps, wideKeys, modest, calm, conditions, laid).
  DERIVED. THE GIVEN ROWS OF THIS SEAT. 7 by the template 'for every input the law returns true; each argument reads behind the call as it read before'; 0 by the template 'total and deterministic' (their statements: YtjofdeiodgjopaaTotals.lean).
  GIVEN WITH THE SEED: the statements are not yours to turn. If you find one false, say at which input.
  Laid BY PROGRAM, IN A SANDBOX (cutbox-rows.mjs): the forced cells as the released guide's own fill.sh prints them over the translation 466755c6e75c2dac… (all of the seat's roots in one cut). By AI agents, Wed Nov 11 2026. No macro, syntax, notation, axiom, sorry.
-/
import Derived.Test.YtjofdeiodgjopaaChecked
import GoSem.Claim
import GoSem.ClaimJoined
import GoSem.ClaimMapViews
import Derived.JoinedTies
import Derived.KernelRfl
namespace Go.Proofs.Ytjofdeiodgjopaa
/- THE CELL 'sum', in the pinned program and in every row, IS THE sha256 OF THE DUMP (.gsa) THAT YtjofdeiodgjopaaProg.lean LOADS. Nothing in Lean hashes anything: it is a label: what it is worth is what the hold of that sum in a sandbox is worth. -/
noncomputable def Try.pinned : Pinned := { name := "ytjofdeiodgjopaa", sum := "466755c6e75c2dac62a4b911ecaa565692232d78f99f34e426ecceb444c9825c", checked := Try.checked }
namespace Rows
def none {H : Type} : Left H := { results := [], args := [] }

/-- 'rosarylaw1.KeyTells': WHATEVER THE INPUT: true; the input reads as it did. -/
def keyTellsSpec : ChangeSpec := { name := "keyTells", fn := fun _ => fun
  | [d1, d2, d3] => { results := [.lit (.bool true)], args := [d1, d2, d3] }
  | _ => none }
def keyTellsRow : OpenClaim := { program := "ytjofdeiodgjopaa", sum := "466755c6e75c2dac62a4b911ecaa565692232d78f99f34e426ecceb444c9825c", func := "rosary/rosarylaw1.KeyTells", spec := "keyTells", apart := false }
def KeyTellsSaid : Prop := keyTellsRow.holds Try.pinned (OpenSpec.ofChange keyTellsSpec)

/-- ITS FALSE NEIGHBOUR: 'it returns false'. Refute it at one input. -/
def keyTellsWrong : ChangeSpec := { name := "keyTells", fn := fun _ => fun
  | [d1, d2, d3] => { results := [.lit (.bool false)], args := [d1, d2, d3] }
  | _ => none }
def KeyTellsWrongFalsely : Prop := keyTellsRow.holds Try.pinned (OpenSpec.ofChange keyTellsWrong)

/-- 'rosarylaw1.KeyOrder': WHATEVER THE INPUT: true; the input reads as it did. -/
def keyOrderSpec : ChangeSpec := { name := "keyOrder", fn := fun _ => fun
  | [d1, d2, d3] => { results := [.lit (.bool true)], args := [d1, d2, d3] }
  | _ => none }
def keyOrderRow : OpenClaim := { program := "ytjofdeiodgjopaa", sum := "466755c6e75c2dac62a4b911ecaa565692232d78f99f34e426ecceb444c9825c", func := "rosary/rosarylaw1.KeyOrder", spec := "keyOrder", apart := false }
def KeyOrderSaid : Prop := keyOrderRow.holds Try.pinned (OpenSpec.ofChange keyOrderSpec)

/-- ITS FALSE NEIGHBOUR: 'it returns false'. Refute it at one input. -/
def keyOrderWrong : ChangeSpec := { name := "keyOrder", fn := fun _ => fun
  | [d1, d2, d3] => { results := [.lit (.bool false)], args := [d1, d2, d3] }
  | _ => none }
def KeyOrderWrongFalsely : Prop := keyOrderRow.holds Try.pinned (OpenSpec.ofChange keyOrderWrong)

/-- 'rosarylaw1.KeyLess': WHATEVER THE INPUT: true; the input reads as it did. -/
def keyLessSpec : ChangeSpec := { name := "keyLess", fn := fun _ => fun
  | [d1, d2, d3] => { results := [.lit (.bool true)], args := [d1, d2, d3] }
  | _ => none }
def keyLessRow : OpenClaim := { program := "ytjofdeiodgjopaa", sum := "466755c6e75c2dac62a4b911ecaa565692232d78f99f34e426ecceb444c9825c", func := "rosary/rosarylaw1.KeyLess", spec := "keyLess", apart := false }
def KeyLessSaid : Prop := keyLessRow.holds Try.pinned (OpenSpec.ofChange keyLessSpec)

/-- ITS FALSE NEIGHBOUR: 'it returns false'. Refute it at one input. -/
def keyLessWrong : ChangeSpec := { name := "keyLess", fn := fun _ => fun
  | [d1, d2, d3] => { results := [.lit (.bool false)], args := [d1, d2, d3] }
  | _ => none }
def KeyLessWrongFalsely : Prop := keyLessRow.holds Try.pinned (OpenSpec.ofChange keyLessWrong)

/-- 'rosarylaw1.KeyBounds': WHATEVER THE INPUT: true; the input reads as it did. -/
def keyBoundsSpec : ChangeSpec := { name := "keyBounds", fn := fun _ => fun
  | [d1, d2] => { results := [.lit (.bool true)], args := [d1, d2] }
  | _ => none }
def keyBoundsRow : OpenClaim := { program := "ytjofdeiodgjopaa", sum := "466755c6e75c2dac62a4b911ecaa565692232d78f99f34e426ecceb444c9825c", func := "rosary/rosarylaw1.KeyBounds", spec := "keyBounds", apart := false }
def KeyBoundsSaid : Prop := keyBoundsRow.holds Try.pinned (OpenSpec.ofChange keyBoundsSpec)

/-- ITS FALSE NEIGHBOUR: 'it returns false'. Refute it at one input. -/
def keyBoundsWrong : ChangeSpec := { name := "keyBounds", fn := fun _ => fun
  | [d1, d2] => { results := [.lit (.bool false)], args := [d1, d2] }
  | _ => none }
def KeyBoundsWrongFalsely : Prop := keyBoundsRow.holds Try.pinned (OpenSpec.ofChange keyBoundsWrong)

/-- 'rosarylaw1.KeyAlike': WHATEVER THE INPUT: true; the input reads as it did. -/
def keyAlikeSpec : ChangeSpec := { name := "keyAlike", fn := fun _ => fun
  | [d1, d2, d3] => { results := [.lit (.bool true)], args := [d1, d2, d3] }
  | _ => none }
def keyAlikeRow : OpenClaim := { program := "ytjofdeiodgjopaa", sum := "466755c6e75c2dac62a4b911ecaa565692232d78f99f34e426ecceb444c9825c", func := "rosary/rosarylaw1.KeyAlike", spec := "keyAlike", apart := false }
def KeyAlikeSaid : Prop := keyAlikeRow.holds Try.pinned (OpenSpec.ofChange keyAlikeSpec)

/-- ITS FALSE NEIGHBOUR: 'it returns false'. Refute it at one input. -/
def keyAlikeWrong : ChangeSpec := { name := "keyAlike", fn := fun _ => fun
  | [d1, d2, d3] => { results := [.lit (.bool false)], args := [d1, d2, d3] }
  | _ => none }
def KeyAlikeWrongFalsely : Prop := keyAlikeRow.holds Try.pinned (OpenSpec.ofChange keyAlikeWrong)

/-- 'rosarylaw1.KeyPasts': WHATEVER THE INPUT: true; the input reads as it did. -/
def keyPastsSpec : ChangeSpec := { name := "keyPasts", fn := fun _ => fun
  | [d1, d2] => { results := [.lit (.bool true)], args := [d1, d2] }
  | _ => none }
def keyPastsRow : OpenClaim := { program := "ytjofdeiodgjopaa", sum := "466755c6e75c2dac62a4b911ecaa565692232d78f99f34e426ecceb444c9825c", func := "rosary/rosarylaw1.KeyPasts", spec := "keyPasts", apart := false }
def KeyPastsSaid : Prop := keyPastsRow.holds Try.pinned (OpenSpec.ofChange keyPastsSpec)

/-- ITS FALSE NEIGHBOUR: 'it returns false'. Refute it at one input. -/
def keyPastsWrong : ChangeSpec := { name := "keyPasts", fn := fun _ => fun
  | [d1, d2] => { results := [.lit (.bool false)], args := [d1, d2] }
  | _ => none }
def KeyPastsWrongFalsely : Prop := keyPastsRow.holds Try.pinned (OpenSpec.ofChange keyPastsWrong)

/-- 'rosarylaw1.KeySpreads': WHATEVER THE INPUT: true; the input reads as it did. -/
def keySpreadsSpec : ChangeSpec := { name := "keySpreads", fn := fun _ => fun
  | [d1, d2] => { results := [.lit (.bool true)], args := [d1, d2] }
  | _ => none }
def keySpreadsRow : OpenClaim := { program := "ytjofdeiodgjopaa", sum := "466755c6e75c2dac62a4b911ecaa565692232d78f99f34e426ecceb444c9825c", func := "rosary/rosarylaw1.KeySpreads", spec := "keySpreads", apart := false }
def KeySpreadsSaid : Prop := keySpreadsRow.holds Try.pinned (OpenSpec.ofChange keySpreadsSpec)

/-- ITS FALSE NEIGHBOUR: 'it returns false'. Refute it at one input. -/
def keySpreadsWrong : ChangeSpec := { name := "keySpreads", fn := fun _ => fun
  | [d1, d2] => { results := [.lit (.bool false)], args := [d1, d2] }
  | _ => none }
def KeySpreadsWrongFalsely : Prop := keySpreadsRow.holds Try.pinned (OpenSpec.ofChange keySpreadsWrong)

/- THE SECOND FORM. 'bulk': how many values and letters a reading holds, each counted each time it is reached (what is shared counts as often as it is met; a slice's spare places count too). A statement '..UptoSaid' is the law's where the arguments, and the package variables that the reading takes, are together of bulk at most 1048576: NARROWER than '..Said'. Prove '..Said' where nothing that the law and all that it calls make is longer than what came in: it says more and counts as full. Else prove '..UptoSaid'. A law counts once. -/
mutual
def uptoBulk {H : Type} : DataW H → Nat
  | .lit (.string bytes) => bytes.length + 1
  | .lit _ => 1
  | .nil => 1
  | .ptr d => uptoBulk d + 1
  | .slice elems spare => uptoBulkAll elems + uptoBulkAll spare + 1
  | .agg parts => uptoBulkAll parts + 1
  | .iface _ d => uptoBulk d + 1
  | .map entries => uptoBulkEntries entries + 1
  | .held _ => 1
def uptoBulkAll {H : Type} : List (DataW H) → Nat
  | [] => 0
  | d :: r => uptoBulk d + uptoBulkAll r
def uptoBulkEntries {H : Type} : List (Lit × DataW H) → Nat
  | [] => 0
  | x :: r => uptoBulkEntry x + uptoBulkEntries r
def uptoBulkEntry {H : Type} : Lit × DataW H → Nat
  | (.string bytes, d) => bytes.length + uptoBulk d + 1
  | (_, d) => uptoBulk d + 1
 end
def uptoSmall : (H : Type) → List (DataW H) → Bool := fun _ ds => decide (uptoBulkAll ds ≤ 1048576)
def OpenSpec.upto (s : _root_.Go.ChangeSpec) : _root_.Go.OpenSpec := { _root_.Go.OpenSpec.ofChange s with cond := some uptoSmall }

/-- 'rosarylaw1.KeyTells', WHERE WHAT IT READS IS OF BULK AT MOST 1048576: true; the input reads as it did. -/
def keyTellsUptoRow : OpenClaim := { program := "ytjofdeiodgjopaa", sum := "466755c6e75c2dac62a4b911ecaa565692232d78f99f34e426ecceb444c9825c", func := "rosary/rosarylaw1.KeyTells", spec := "keyTells", apart := false, narrowed := true }
def KeyTellsUptoSaid : Prop := keyTellsUptoRow.holds Try.pinned (OpenSpec.upto keyTellsSpec)

/-- 'rosarylaw1.KeyOrder', WHERE WHAT IT READS IS OF BULK AT MOST 1048576: true; the input reads as it did. -/
def keyOrderUptoRow : OpenClaim := { program := "ytjofdeiodgjopaa", sum := "466755c6e75c2dac62a4b911ecaa565692232d78f99f34e426ecceb444c9825c", func := "rosary/rosarylaw1.KeyOrder", spec := "keyOrder", apart := false, narrowed := true }
def KeyOrderUptoSaid : Prop := keyOrderUptoRow.holds Try.pinned (OpenSpec.upto keyOrderSpec)

/-- 'rosarylaw1.KeyLess', WHERE WHAT IT READS IS OF BULK AT MOST 1048576: true; the input reads as it did. -/
def keyLessUptoRow : OpenClaim := { program := "ytjofdeiodgjopaa", sum := "466755c6e75c2dac62a4b911ecaa565692232d78f99f34e426ecceb444c9825c", func := "rosary/rosarylaw1.KeyLess", spec := "keyLess", apart := false, narrowed := true }
def KeyLessUptoSaid : Prop := keyLessUptoRow.holds Try.pinned (OpenSpec.upto keyLessSpec)

/-- 'rosarylaw1.KeyBounds', WHERE WHAT IT READS IS OF BULK AT MOST 1048576: true; the input reads as it did. -/
def keyBoundsUptoRow : OpenClaim := { program := "ytjofdeiodgjopaa", sum := "466755c6e75c2dac62a4b911ecaa565692232d78f99f34e426ecceb444c9825c", func := "rosary/rosarylaw1.KeyBounds", spec := "keyBounds", apart := false, narrowed := true }
def KeyBoundsUptoSaid : Prop := keyBoundsUptoRow.holds Try.pinned (OpenSpec.upto keyBoundsSpec)

/-- 'rosarylaw1.KeyAlike', WHERE WHAT IT READS IS OF BULK AT MOST 1048576: true; the input reads as it did. -/
def keyAlikeUptoRow : OpenClaim := { program := "ytjofdeiodgjopaa", sum := "466755c6e75c2dac62a4b911ecaa565692232d78f99f34e426ecceb444c9825c", func := "rosary/rosarylaw1.KeyAlike", spec := "keyAlike", apart := false, narrowed := true }
def KeyAlikeUptoSaid : Prop := keyAlikeUptoRow.holds Try.pinned (OpenSpec.upto keyAlikeSpec)

/-- 'rosarylaw1.KeyPasts', WHERE WHAT IT READS IS OF BULK AT MOST 1048576: true; the input reads as it did. -/
def keyPastsUptoRow : OpenClaim := { program := "ytjofdeiodgjopaa", sum := "466755c6e75c2dac62a4b911ecaa565692232d78f99f34e426ecceb444c9825c", func := "rosary/rosarylaw1.KeyPasts", spec := "keyPasts", apart := false, narrowed := true }
def KeyPastsUptoSaid : Prop := keyPastsUptoRow.holds Try.pinned (OpenSpec.upto keyPastsSpec)

/-- 'rosarylaw1.KeySpreads', WHERE WHAT IT READS IS OF BULK AT MOST 1048576: true; the input reads as it did. -/
def keySpreadsUptoRow : OpenClaim := { program := "ytjofdeiodgjopaa", sum := "466755c6e75c2dac62a4b911ecaa565692232d78f99f34e426ecceb444c9825c", func := "rosary/rosarylaw1.KeySpreads", spec := "keySpreads", apart := false, narrowed := true }
def KeySpreadsUptoSaid : Prop := keySpreadsUptoRow.holds Try.pinned (OpenSpec.upto keySpreadsSpec)

end Rows
end Go.Proofs.Ytjofdeiodgjopaa
