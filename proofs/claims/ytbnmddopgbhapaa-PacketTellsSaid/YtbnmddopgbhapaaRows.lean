/-
  No cell of these rows narrows 'for every input' (looked for: loops, veiled, ifaces, maps, wideKeys, modest, calm, conditions, laid).
  DERIVED. THE GIVEN ROWS OF THIS SEAT. 7 by the template 'for every input the law returns true; each argument reads behind the call as it read before'; 0 by the template 'total and deterministic' (their statements: YtbnmddopgbhapaaTotals.lean).
  GIVEN WITH THE SEED: the statements are not yours to turn. If you find one false, say at which input.
  Laid BY PROGRAM, IN A SANDBOX (cutbox-rows.mjs): the forced cells as the released guide's own fill.sh prints them over the translation 29d8da5415e39da8… (all of the seat's roots in one cut). By AI agents, Wed Nov 11 2026. No macro, syntax, notation, axiom, sorry.
-/
import Derived.Test.YtbnmddopgbhapaaChecked
import GoSem.Claim
import GoSem.ClaimJoined
import GoSem.ClaimMapViews
import Derived.JoinedTies
import Derived.KernelRfl
namespace Go.Proofs.Ytbnmddopgbhapaa
/- THE CELL 'sum', in the pinned program and in every row, IS THE sha256 OF THE DUMP (.gsa) THAT YtbnmddopgbhapaaProg.lean LOADS. Nothing in Lean hashes anything: it is a label: what it is worth is what the hold of that sum in a sandbox is worth. -/
noncomputable def Try.pinned : Pinned := { name := "ytbnmddopgbhapaa", sum := "29d8da5415e39da8ea1913edfb6e09dfce78f9e27ede54cda53c65f584088e51", checked := Try.checked }
namespace Rows
def none {H : Type} : Left H := { results := [], args := [] }

/-- 'rosarylaw7.PacketTells': WHATEVER THE INPUT: true; the input reads as it did. -/
def packetTellsSpec : ChangeSpec := { name := "packetTells", fn := fun _ => fun
  | [d1, d2] => { results := [.lit (.bool true)], args := [d1, d2] }
  | _ => none }
def packetTellsRow : OpenClaim := { program := "ytbnmddopgbhapaa", sum := "29d8da5415e39da8ea1913edfb6e09dfce78f9e27ede54cda53c65f584088e51", func := "rosary/rosarylaw7.PacketTells", spec := "packetTells", inPlace := ["internal/abi.NoEscape"], unfollowed := true, recurses := true, apart := false }
def PacketTellsSaid : Prop := packetTellsRow.holds Try.pinned (OpenSpec.ofChange packetTellsSpec)

/-- ITS FALSE NEIGHBOUR: 'it returns false'. Refute it at one input. -/
def packetTellsWrong : ChangeSpec := { name := "packetTells", fn := fun _ => fun
  | [d1, d2] => { results := [.lit (.bool false)], args := [d1, d2] }
  | _ => none }
def PacketTellsWrongFalsely : Prop := packetTellsRow.holds Try.pinned (OpenSpec.ofChange packetTellsWrong)

/-- 'rosarylaw7.LetterCuts': WHATEVER THE INPUT: true; the input reads as it did. -/
def letterCutsSpec : ChangeSpec := { name := "letterCuts", fn := fun _ => fun
  | [d1, d2] => { results := [.lit (.bool true)], args := [d1, d2] }
  | _ => none }
def letterCutsRow : OpenClaim := { program := "ytbnmddopgbhapaa", sum := "29d8da5415e39da8ea1913edfb6e09dfce78f9e27ede54cda53c65f584088e51", func := "rosary/rosarylaw7.LetterCuts", spec := "letterCuts", inPlace := ["internal/abi.NoEscape"], unfollowed := true, recurses := true, apart := false }
def LetterCutsSaid : Prop := letterCutsRow.holds Try.pinned (OpenSpec.ofChange letterCutsSpec)

/-- ITS FALSE NEIGHBOUR: 'it returns false'. Refute it at one input. -/
def letterCutsWrong : ChangeSpec := { name := "letterCuts", fn := fun _ => fun
  | [d1, d2] => { results := [.lit (.bool false)], args := [d1, d2] }
  | _ => none }
def LetterCutsWrongFalsely : Prop := letterCutsRow.holds Try.pinned (OpenSpec.ofChange letterCutsWrong)

/-- 'rosarylaw7.LetterTwo': WHATEVER THE INPUT: true; the input reads as it did. -/
def letterTwoSpec : ChangeSpec := { name := "letterTwo", fn := fun _ => fun
  | [d1, d2] => { results := [.lit (.bool true)], args := [d1, d2] }
  | _ => none }
def letterTwoRow : OpenClaim := { program := "ytbnmddopgbhapaa", sum := "29d8da5415e39da8ea1913edfb6e09dfce78f9e27ede54cda53c65f584088e51", func := "rosary/rosarylaw7.LetterTwo", spec := "letterTwo", inPlace := ["internal/abi.NoEscape"], unfollowed := true, recurses := true, apart := false }
def LetterTwoSaid : Prop := letterTwoRow.holds Try.pinned (OpenSpec.ofChange letterTwoSpec)

/-- ITS FALSE NEIGHBOUR: 'it returns false'. Refute it at one input. -/
def letterTwoWrong : ChangeSpec := { name := "letterTwo", fn := fun _ => fun
  | [d1, d2] => { results := [.lit (.bool false)], args := [d1, d2] }
  | _ => none }
def LetterTwoWrongFalsely : Prop := letterTwoRow.holds Try.pinned (OpenSpec.ofChange letterTwoWrong)

/-- 'rosarylaw7.LetterKinds': WHATEVER THE INPUT: true; the input reads as it did. -/
def letterKindsSpec : ChangeSpec := { name := "letterKinds", fn := fun _ => fun
  | [d1, d2] => { results := [.lit (.bool true)], args := [d1, d2] }
  | _ => none }
def letterKindsRow : OpenClaim := { program := "ytbnmddopgbhapaa", sum := "29d8da5415e39da8ea1913edfb6e09dfce78f9e27ede54cda53c65f584088e51", func := "rosary/rosarylaw7.LetterKinds", spec := "letterKinds", inPlace := ["internal/abi.NoEscape"], unfollowed := true, recurses := true, apart := false }
def LetterKindsSaid : Prop := letterKindsRow.holds Try.pinned (OpenSpec.ofChange letterKindsSpec)

/-- ITS FALSE NEIGHBOUR: 'it returns false'. Refute it at one input. -/
def letterKindsWrong : ChangeSpec := { name := "letterKinds", fn := fun _ => fun
  | [d1, d2] => { results := [.lit (.bool false)], args := [d1, d2] }
  | _ => none }
def LetterKindsWrongFalsely : Prop := letterKindsRow.holds Try.pinned (OpenSpec.ofChange letterKindsWrong)

/-- 'rosarylaw7.PacketAcks': WHATEVER THE INPUT: true; the input reads as it did. -/
def packetAcksSpec : ChangeSpec := { name := "packetAcks", fn := fun _ => fun
  | [d] => { results := [.lit (.bool true)], args := [d] }
  | _ => none }
def packetAcksRow : OpenClaim := { program := "ytbnmddopgbhapaa", sum := "29d8da5415e39da8ea1913edfb6e09dfce78f9e27ede54cda53c65f584088e51", func := "rosary/rosarylaw7.PacketAcks", spec := "packetAcks", inPlace := ["internal/abi.NoEscape"], unfollowed := true, recurses := true, apart := false }
def PacketAcksSaid : Prop := packetAcksRow.holds Try.pinned (OpenSpec.ofChange packetAcksSpec)

/-- ITS FALSE NEIGHBOUR: 'it returns false'. Refute it at one input. -/
def packetAcksWrong : ChangeSpec := { name := "packetAcks", fn := fun _ => fun
  | [d] => { results := [.lit (.bool false)], args := [d] }
  | _ => none }
def PacketAcksWrongFalsely : Prop := packetAcksRow.holds Try.pinned (OpenSpec.ofChange packetAcksWrong)

/-- 'rosarylaw7.LetterLimits': WHATEVER THE INPUT: true; the input reads as it did. -/
def letterLimitsSpec : ChangeSpec := { name := "letterLimits", fn := fun _ => fun
  | [d] => { results := [.lit (.bool true)], args := [d] }
  | _ => none }
def letterLimitsRow : OpenClaim := { program := "ytbnmddopgbhapaa", sum := "29d8da5415e39da8ea1913edfb6e09dfce78f9e27ede54cda53c65f584088e51", func := "rosary/rosarylaw7.LetterLimits", spec := "letterLimits", inPlace := ["internal/abi.NoEscape"], unfollowed := true, recurses := true, apart := false }
def LetterLimitsSaid : Prop := letterLimitsRow.holds Try.pinned (OpenSpec.ofChange letterLimitsSpec)

/-- ITS FALSE NEIGHBOUR: 'it returns false'. Refute it at one input. -/
def letterLimitsWrong : ChangeSpec := { name := "letterLimits", fn := fun _ => fun
  | [d] => { results := [.lit (.bool false)], args := [d] }
  | _ => none }
def LetterLimitsWrongFalsely : Prop := letterLimitsRow.holds Try.pinned (OpenSpec.ofChange letterLimitsWrong)

/-- 'rosarylaw7.PacketCuts': WHATEVER THE INPUT: true; the input reads as it did. -/
def packetCutsSpec : ChangeSpec := { name := "packetCuts", fn := fun _ => fun
  | [d1, d2] => { results := [.lit (.bool true)], args := [d1, d2] }
  | _ => none }
def packetCutsRow : OpenClaim := { program := "ytbnmddopgbhapaa", sum := "29d8da5415e39da8ea1913edfb6e09dfce78f9e27ede54cda53c65f584088e51", func := "rosary/rosarylaw7.PacketCuts", spec := "packetCuts", inPlace := ["internal/abi.NoEscape"], unfollowed := true, recurses := true, apart := false }
def PacketCutsSaid : Prop := packetCutsRow.holds Try.pinned (OpenSpec.ofChange packetCutsSpec)

/-- ITS FALSE NEIGHBOUR: 'it returns false'. Refute it at one input. -/
def packetCutsWrong : ChangeSpec := { name := "packetCuts", fn := fun _ => fun
  | [d1, d2] => { results := [.lit (.bool false)], args := [d1, d2] }
  | _ => none }
def PacketCutsWrongFalsely : Prop := packetCutsRow.holds Try.pinned (OpenSpec.ofChange packetCutsWrong)

/- THE SECOND FORM. 'bulk': how many values and letters a reading holds, each counted each time it is reached (what is shared counts as often as it is met; a slice's spare places count too). A statement '..UptoSaid' is the law's where the arguments, and the package variables that the reading takes, are together of bulk at most 1048576: NARROWER than '..Said'. Prove '..Said' where nothing that the law and all that it calls make is longer than what came in: it says more and counts as full. Else prove '..UptoSaid'. A law counts once. -/
mutual
def uptoBulk {H : Type} : DataW H → Nat
  | .lit (.string bytes) => bytes.length + 1
  | .lit _ => 1
  | .nil => 1
  | .ptr d => uptoBulk d + 1
  | .slice elems spare => uptoBulkAll elems + uptoBulkAll spare + 1
  | .agg parts => uptoBulkAll parts + 1
  | .iface _ d => uptoBulk d + 1
  | .map entries => uptoBulkEntries entries + 1
  | .held _ => 1
def uptoBulkAll {H : Type} : List (DataW H) → Nat
  | [] => 0
  | d :: r => uptoBulk d + uptoBulkAll r
def uptoBulkEntries {H : Type} : List (Lit × DataW H) → Nat
  | [] => 0
  | x :: r => uptoBulkEntry x + uptoBulkEntries r
def uptoBulkEntry {H : Type} : Lit × DataW H → Nat
  | (.string bytes, d) => bytes.length + uptoBulk d + 1
  | (_, d) => uptoBulk d + 1
 end
def uptoSmall : (H : Type) → List (DataW H) → Bool := fun _ ds => decide (uptoBulkAll ds ≤ 1048576)
def OpenSpec.upto (s : _root_.Go.ChangeSpec) : _root_.Go.OpenSpec := { _root_.Go.OpenSpec.ofChange s with cond := some uptoSmall }

/-- 'rosarylaw7.PacketTells', WHERE WHAT IT READS IS OF BULK AT MOST 1048576: true; the input reads as it did. -/
def packetTellsUptoRow : OpenClaim := { program := "ytbnmddopgbhapaa", sum := "29d8da5415e39da8ea1913edfb6e09dfce78f9e27ede54cda53c65f584088e51", func := "rosary/rosarylaw7.PacketTells", spec := "packetTells", inPlace := ["internal/abi.NoEscape"], unfollowed := true, recurses := true, apart := false, narrowed := true }
def PacketTellsUptoSaid : Prop := packetTellsUptoRow.holds Try.pinned (OpenSpec.upto packetTellsSpec)

/-- 'rosarylaw7.LetterCuts', WHERE WHAT IT READS IS OF BULK AT MOST 1048576: true; the input reads as it did. -/
def letterCutsUptoRow : OpenClaim := { program := "ytbnmddopgbhapaa", sum := "29d8da5415e39da8ea1913edfb6e09dfce78f9e27ede54cda53c65f584088e51", func := "rosary/rosarylaw7.LetterCuts", spec := "letterCuts", inPlace := ["internal/abi.NoEscape"], unfollowed := true, recurses := true, apart := false, narrowed := true }
def LetterCutsUptoSaid : Prop := letterCutsUptoRow.holds Try.pinned (OpenSpec.upto letterCutsSpec)

/-- 'rosarylaw7.LetterTwo', WHERE WHAT IT READS IS OF BULK AT MOST 1048576: true; the input reads as it did. -/
def letterTwoUptoRow : OpenClaim := { program := "ytbnmddopgbhapaa", sum := "29d8da5415e39da8ea1913edfb6e09dfce78f9e27ede54cda53c65f584088e51", func := "rosary/rosarylaw7.LetterTwo", spec := "letterTwo", inPlace := ["internal/abi.NoEscape"], unfollowed := true, recurses := true, apart := false, narrowed := true }
def LetterTwoUptoSaid : Prop := letterTwoUptoRow.holds Try.pinned (OpenSpec.upto letterTwoSpec)

/-- 'rosarylaw7.LetterKinds', WHERE WHAT IT READS IS OF BULK AT MOST 1048576: true; the input reads as it did. -/
def letterKindsUptoRow : OpenClaim := { program := "ytbnmddopgbhapaa", sum := "29d8da5415e39da8ea1913edfb6e09dfce78f9e27ede54cda53c65f584088e51", func := "rosary/rosarylaw7.LetterKinds", spec := "letterKinds", inPlace := ["internal/abi.NoEscape"], unfollowed := true, recurses := true, apart := false, narrowed := true }
def LetterKindsUptoSaid : Prop := letterKindsUptoRow.holds Try.pinned (OpenSpec.upto letterKindsSpec)

/-- 'rosarylaw7.PacketAcks', WHERE WHAT IT READS IS OF BULK AT MOST 1048576: true; the input reads as it did. -/
def packetAcksUptoRow : OpenClaim := { program := "ytbnmddopgbhapaa", sum := "29d8da5415e39da8ea1913edfb6e09dfce78f9e27ede54cda53c65f584088e51", func := "rosary/rosarylaw7.PacketAcks", spec := "packetAcks", inPlace := ["internal/abi.NoEscape"], unfollowed := true, recurses := true, apart := false, narrowed := true }
def PacketAcksUptoSaid : Prop := packetAcksUptoRow.holds Try.pinned (OpenSpec.upto packetAcksSpec)

/-- 'rosarylaw7.LetterLimits', WHERE WHAT IT READS IS OF BULK AT MOST 1048576: true; the input reads as it did. -/
def letterLimitsUptoRow : OpenClaim := { program := "ytbnmddopgbhapaa", sum := "29d8da5415e39da8ea1913edfb6e09dfce78f9e27ede54cda53c65f584088e51", func := "rosary/rosarylaw7.LetterLimits", spec := "letterLimits", inPlace := ["internal/abi.NoEscape"], unfollowed := true, recurses := true, apart := false, narrowed := true }
def LetterLimitsUptoSaid : Prop := letterLimitsUptoRow.holds Try.pinned (OpenSpec.upto letterLimitsSpec)

/-- 'rosarylaw7.PacketCuts', WHERE WHAT IT READS IS OF BULK AT MOST 1048576: true; the input reads as it did. -/
def packetCutsUptoRow : OpenClaim := { program := "ytbnmddopgbhapaa", sum := "29d8da5415e39da8ea1913edfb6e09dfce78f9e27ede54cda53c65f584088e51", func := "rosary/rosarylaw7.PacketCuts", spec := "packetCuts", inPlace := ["internal/abi.NoEscape"], unfollowed := true, recurses := true, apart := false, narrowed := true }
def PacketCutsUptoSaid : Prop := packetCutsUptoRow.holds Try.pinned (OpenSpec.upto packetCutsSpec)

end Rows
end Go.Proofs.Ytbnmddopgbhapaa
