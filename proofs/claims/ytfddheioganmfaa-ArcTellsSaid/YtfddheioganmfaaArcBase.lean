/-
  Small words for every walk over arcs: a subtraction that goes round, as a plain function of natural numbers; where a point lies.
-/
import Derived.Test.YtfddheioganmfaaRows
import Derived.WalkKit
import Derived.WalkSpells
import Derived.WalkLawsBesides
import Derived.Deep.LoopGhost
import Derived.Deep.QuietTactic
import Derived.BigQuiet
import Derived.Laws.IdiomStrings
import Derived.Laws.BitsAllLaws
import Derived.Lib.Strings
import Derived.Lib.Hide
namespace Go.Proofs.Ytfddheioganmfaa
open Go.RowKit

/-- what the ring's subtraction answers -/
def sub64 (a b : Nat) : Nat := (a + 18446744073709551616 - b) % 18446744073709551616
/-- what the ring's addition answers -/
def add64 (a b : Nat) : Nat := (a + b) % 18446744073709551616
/-- does x lie in the arc from f to t? -/
def inB (f t x : Nat) : Bool := (f == t) || decide (sub64 x f < sub64 t f)
/-- is the arc one piece? -/
def oneB (f t : Nat) : Bool := (t == 0) || decide (f < t)
def pF (f _ k : Nat) : Nat := if k = 0 then f else 0
def pT (f t k : Nat) : Nat := if k = 0 then (if oneB f t then t else 0) else t
def pN (f t : Nat) : Nat := if oneB f t then 1 else 2
/-- does x lie in the piece from f to t? -/
def pieceB (f t x : Nat) : Bool := decide (f ≤ x) && ((t == 0) || decide (x < t))
def apartB (f t g u : Nat) : Bool := !inB f t g && !inB g u f
def withinB (f t g u : Nat) : Bool := (f == t) || (!(g == u) && (inB f t g && decide (sub64 u g ≤ sub64 t g)))
/-- the last point of a piece -/
def lastN (t : Nat) : Nat := sub64 t 1

theorem sub64_lt (a b : Nat) : sub64 a b < 18446744073709551616 := Nat.mod_lt _ (by omega)
theorem sub64_cases {a b : Nat} (ha : a < 18446744073709551616) (hb : b < 18446744073709551616) : (b ≤ a ∧ sub64 a b = a - b) ∨ (a < b ∧ sub64 a b = a + 18446744073709551616 - b) := by
  unfold sub64; omega
theorem sub_u64 {a b : Nat} (ha : a < 18446744073709551616) (hb : b < 18446744073709551616) : IntKind.u64.wrap ((a : Int) - (b : Int)) = ((sub64 a b : Nat) : Int) := by
  rw [IntKind.wrap_u64]; unfold sub64; omega
theorem add_u64 {a b : Nat} (_ha : a < 18446744073709551616) (_hb : b < 18446744073709551616) : IntKind.u64.wrap ((a : Int) + (b : Int)) = ((add64 a b : Nat) : Int) := by
  rw [IntKind.wrap_u64]; unfold add64; omega

theorem bcell {W w1 : World} (hb : Below W.heap.size W w1) : (∀ b o, b < W.heap.size → w1.cell? ⟨b, o, none⟩ = W.cell? ⟨b, o, none⟩) ∧ (∀ b o, b < W.heap.size → w1.frozen? ⟨b, o, none⟩ = W.frozen? ⟨b, o, none⟩) :=
  ⟨fun b o h => hb.cell (p := ⟨b, o, none⟩) h, fun b o h => hb.frozen (p := ⟨b, o, none⟩) h⟩
end Go.Proofs.Ytfddheioganmfaa
