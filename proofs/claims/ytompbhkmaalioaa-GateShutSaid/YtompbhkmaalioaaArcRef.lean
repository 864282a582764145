/-
  The walks of the document's own answers to chapter 2, and of the calls of package arc that only reckon.
-/
import Derived.Test.YtompbhkmaalioaaArcPlain
namespace Go.Proofs.Ytompbhkmaalioaa
open Go.RowKit

theorem nat_beq (a b : Nat) : ((a : Int) == (b : Int)) = (a == b) := by
  rw [Bool.eq_iff_iff, beq_iff_eq, beq_iff_eq]; omega
theorem below2 (w : World) (o1 o2 : Obj) : Below w.heap.size w ((w.alloc o1).alloc o2) := ((Below.refl _ _).alloc (Nat.le_refl _) o1).alloc (by simp) o2

set_option maxHeartbeats 400000 in
theorem refIn_any (f t x : Nat) (w : World) (hf : f < 18446744073709551616) (ht : t < 18446744073709551616) (hx : x < 18446744073709551616) :
    Calls Try.prog 22 #[.agg #[.int .u64 f, .int .u64 t], .int .u64 x] w fun e w' => e = .returned (.bool (inB f t x)) ∧ Below w.heap.size w w' := by
  have e1 := sub_u64 hx hf
  have e2 := sub_u64 ht hf
  clear hf ht hx
  by_cases h : f = t
  · have b1 : ((f : Int) == (t : Int)) = true := by rw [beq_iff_eq]; omega
    have e : inB f t x = true := by simp [inB, h]
    rw [e]
    clear h e e1 e2
    go_enter Try.func22, Try.ntmps22
    go_wp2
    go_ret
    exact ⟨rfl, (Below.refl _ _).alloc (Nat.le_refl _) _⟩
  · have b1 : ((f : Int) == (t : Int)) = false := by rw [beq_eq_false_iff_ne]; omega
    have e : inB f t x = decide (sub64 x f < sub64 t f) := by simp [inB, h]
    rw [e]
    clear h e
    generalize sub64 x f = a at *
    generalize sub64 t f = b at *
    go_enter Try.func22, Try.ntmps22
    go_wp2
    go_ret
    exact ⟨rfl, (Below.refl _ _).alloc (Nat.le_refl _) _⟩

end Go.Proofs.Ytompbhkmaalioaa
