/-
  The walks of the document's own answers to chapter 2, and of the calls of package arc that only reckon.
-/
import Derived.Test.YthjhfnbcfgkehaaArcPlain
namespace Go.Proofs.Ythjhfnbcfgkehaa
open Go.RowKit

theorem nat_beq (a b : Nat) : ((a : Int) == (b : Int)) = (a == b) := by
  rw [Bool.eq_iff_iff, beq_iff_eq, beq_iff_eq]; omega
theorem below2 (w : World) (o1 o2 : Obj) : Below w.heap.size w ((w.alloc o1).alloc o2) := ((Below.refl _ _).alloc (Nat.le_refl _) o1).alloc (by simp) o2

set_option maxHeartbeats 400000 in
theorem whole_any (f t : Nat) (w : World) :
    Calls Try.prog 16 #[.agg #[.int .u64 f, .int .u64 t]] w fun e w' => e = .returned (.bool (f == t)) ∧ Below w.heap.size w w' := by
  have b1 := nat_beq f t
  generalize (f == t) = b at *
  go_enter Try.func16, Try.ntmps16
  go_wp2
  go_ret
  exact ⟨rfl, (Below.refl _ _).alloc (Nat.le_refl _) _⟩

set_option maxHeartbeats 400000 in
theorem size_any (f t : Nat) (w : World) (hf : f < 18446744073709551616) (ht : t < 18446744073709551616) :
    Calls Try.prog 24 #[.agg #[.int .u64 f, .int .u64 t]] w fun e w' => e = .returned (.int .u64 (sub64 t f : Nat)) ∧ Below w.heap.size w w' := by
  have e2 := sub_u64 ht hf
  clear hf ht
  generalize sub64 t f = b at *
  go_enter Try.func24, Try.ntmps24
  go_wp2
  go_ret
  exact ⟨rfl, (Below.refl _ _).alloc (Nat.le_refl _) _⟩

end Go.Proofs.Ythjhfnbcfgkehaa
