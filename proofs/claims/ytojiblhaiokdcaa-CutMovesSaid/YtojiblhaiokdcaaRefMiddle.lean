/-
  The walk of the document's own Middle.
-/
import Derived.Test.YtojiblhaiokdcaaRefWalk
namespace Go.Proofs.Ytojiblhaiokdcaa
open Go.RowKit

/-- what Middle answers -/
def midV : Option Nat → Value
  | some m => .tuple #[.int .u64 (m : Nat), .bool true]
  | none => .tuple #[.int .u64 0, .bool false]
theorem midL_start {a : List Item} (h : 0 < a.length) : midL a = midScan (adr (a[(a.length + 1) / 2 - 1]'(by omega))) (a.drop ((a.length + 1) / 2)) := by
  unfold midL
  rw [List.drop_eq_getElem_cons (show (a.length + 1) / 2 - 1 < a.length by omega)]
  rw [show (a.length + 1) / 2 - 1 + 1 = (a.length + 1) / 2 by omega]
theorem midL_start' {a : List Item} {n : Nat} (hn : a.length = n) (h : 0 < n) : ∃ h : (n + 1) / 2 - 1 < a.length, midL a = midScan (adr (a[(n + 1) / 2 - 1])) (a.drop ((n + 1) / 2)) := by
  subst hn
  exact ⟨by omega, midL_start h⟩
theorem midScan_step {a : List Item} {i p : Nat} (h : i < a.length) : midScan p (a.drop i) = if adr (a[i]) = p then midScan p (a.drop (i + 1)) else some (adr (a[i])) := by
  rw [List.drop_eq_getElem_cons h, midScan]
end Go.Proofs.Ytojiblhaiokdcaa
