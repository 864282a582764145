/-
  The walk of 'alive', the first call of every statement of chapter 2.
-/
import Derived.Test.YthjhfnbcfgkehaaArcWithin
namespace Go.Proofs.Ythjhfnbcfgkehaa
open Go.RowKit

theorem in_1 (w : World) : Calls Try.prog 10 #[.agg #[.int .u64 9, .int .u64 3], .int .u64 1] w fun e w' => e = .returned (.bool true) ∧ Below w.heap.size w w' := by
  have h := in_any 9 3 1 w (by omega) (by omega) (by omega)
  have e : inB 9 3 1 = true := by decide +kernel
  rw [e] at h
  exact h
theorem in_3 (w : World) : Calls Try.prog 10 #[.agg #[.int .u64 9, .int .u64 3], .int .u64 3] w fun e w' => e = .returned (.bool false) ∧ Below w.heap.size w w' := by
  have h := in_any 9 3 3 w (by omega) (by omega) (by omega)
  have e : inB 9 3 3 = false := by decide +kernel
  rw [e] at h
  exact h
theorem whole_0 (w : World) : Calls Try.prog 16 #[.agg #[.int .u64 0, .int .u64 0]] w fun e w' => e = .returned (.bool true) ∧ Below w.heap.size w w' := whole_any 0 0 w

end Go.Proofs.Ythjhfnbcfgkehaa
