/-
  What is done to a gate, as a statement is handed it.
-/
import Derived.Test.YtompbhkmaalioaaGateBase
import Derived.Deep.MidRow
namespace Go.Proofs.Ytompbhkmaalioaa
open Go.RowKit

/-- what is done: kind, node, how often, the arc -/
structure GOp where
  k : Int
  d : Int
  n : Int
  f : Nat
  t : Nat
abbrev GOp.cells (p : GOp) : Array Value := #[.int .i64 p.k, .int .i64 p.d, .int .i64 p.n, .int .u64 (p.f : Nat), .int .u64 (p.t : Nat)]
/-- what may be handed in -/
structure GOp.Fit (p : GOp) : Prop where
  f : p.f < 18446744073709551616
  t : p.t < 18446744073709551616
  d : -9223372036854775808 ≤ p.d ∧ p.d ≤ 9223372036854775807
/-- they lie one behind another -/
def GOpsAt (W : World) (A : Option Addr) (os : List GOp) : Prop := ∃ q o, ∀ i x, os[i]? = some x → A = some ⟨q, o, none⟩ ∧ q < W.heap.size ∧ W.rangeAt q (o + i * 5) x.cells.toList ∧ x.Fit
theorem GOpsAt.below {W w : World} {A : Option Addr} {os : List GOp} (h : GOpsAt W A os) (hb : Below W.heap.size W w) : GOpsAt w A os := by
  obtain ⟨q, o, h⟩ := h
  refine ⟨q, o, fun i x hx => ?_⟩
  obtain ⟨h1, h2, h3, h4⟩ := h i x hx
  exact ⟨h1, Nat.lt_of_lt_of_le h2 hb.size, fun j v hj => (hb.cell (p := ⟨q, o + i * 5 + j, none⟩) h2).trans (h3 j v hj), h4⟩
end Go.Proofs.Ytompbhkmaalioaa
