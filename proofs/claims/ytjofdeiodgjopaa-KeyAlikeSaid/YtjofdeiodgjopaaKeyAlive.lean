/-
  The walk of 'alive', the first call of every statement of chapter 1.
-/
import Derived.Test.YtjofdeiodgjopaaKeyFirst
namespace Go.Proofs.Ytjofdeiodgjopaa
open Go.RowKit

theorem addr_a (w : World) : Calls Try.prog 15 #[.string ⟨#[97]⟩] w fun e w' => e = .returned (.int .u64 6989586621679009792) ∧ w = w' := by
  have h := addr_any ⟨#[97]⟩ w (by unfold maxLen; decide)
  have e : ((addrN ⟨#[97]⟩ : Nat) : Int) = 6989586621679009792 := by decide +kernel
  rwa [e] at h
theorem first_a (w : World) : Calls Try.prog 18 #[.int .u64 6989586621679009792] w fun e w' => e = .returned (.string ⟨#[97]⟩) ∧ Below w.heap.size w w' := by
  have h := first_any 6989586621679009792 w (by omega)
  have e : txt (firstN 6989586621679009792) = ⟨#[97]⟩ := by decide +kernel
  rwa [e] at h
theorem less_a (w : World) : Calls Try.prog 17 #[.string ⟨#[97]⟩, .string ⟨#[97, 98]⟩] w fun e w' => e = .returned (.bool true) ∧ w = w' := by
  have h := less_any ⟨#[97]⟩ ⟨#[97, 98]⟩ w
  have e : Op.bytesLess (ByteArray.toList ⟨#[97]⟩) (ByteArray.toList ⟨#[97, 98]⟩) = true := by decide +kernel
  rwa [e] at h
theorem right_a (w : World) : Calls Try.prog 11 #[.string ⟨#[]⟩] w fun e w' => e = .returned (.int .i64 3) ∧ w = w' := by
  have h := right_any ⟨#[]⟩ w (by unfold maxLen; decide)
  have e : rightN ⟨#[]⟩ = 3 := by decide +kernel
  rwa [e] at h
theorem past_a (w : World) : Calls Try.prog 20 #[.string ⟨#[97]⟩] w fun e w' => e = .returned (.string ⟨#[97, 0]⟩) ∧ w = w' := by
  have h := past_any ⟨#[97]⟩ w (by decide)
  have e : ((⟨#[97]⟩ : ByteArray) ++ ⟨#[0]⟩) = ⟨#[97, 0]⟩ := by decide +kernel
  rwa [e] at h

set_option maxHeartbeats 400000 in
theorem alive_any (w : World) :
    Calls Try.prog 10 #[] w fun e w' => e = .returned (.bool true) ∧ Below w.heap.size w w' := by
  go_enter Try.func10, Try.ntmps10
  go_wp2_with (first
    | (go_at_call 15; refine (addr_a _).mono ?_; rintro e w' ⟨rfl, rfl⟩)
    | (go_at_call 18; refine (first_a _).mono ?_; rintro e w' ⟨rfl, hb⟩)
    | (go_at_call 17; refine (less_a _).mono ?_; rintro e w' ⟨rfl, rfl⟩)
    | (go_at_call 11; refine (right_a _).mono ?_; rintro e w' ⟨rfl, rfl⟩)
    | (go_at_call 20; refine (past_a _).mono ?_; rintro e w' ⟨rfl, rfl⟩))
  go_ret
  exact ⟨rfl, hb⟩

end Go.Proofs.Ytjofdeiodgjopaa
