/-
  What may just be may be; one more may not: the law.
-/
import Derived.Test.YtbnmddopgbhapaaLetLawF
namespace Go.Proofs.Ytbnmddopgbhapaa
open Go.RowKit

set_option maxRecDepth 20000 in
theorem letterLimits_any (n : Int) (W : World) (_h0 : -9223372036854775808 ≤ n) (_h1 : n ≤ 9223372036854775807) :
    Calls Try.prog 8 #[.int .i64 n] W fun e w' => e = .returned (.bool true) ∧ Below W.heap.size W w' := by
  have CA := Lib.hid alive_any
  by_cases a : n < 0
  · have d : decide (n < 0) = true := decide_eq_true a
    go_enter Try.func8, Try.ntmps8
    go_wp2_with (go_at_call 11; ((with_reducible refine (CA.out _).mono ?_); rintro e w1 ⟨rfl, hb⟩; have HB := Lib.hid hb; clear hb))
    go_ret
    exact ⟨rfl, HB.out⟩
  · have d : decide (n < 0) = false := decide_eq_false a
    by_cases c : 400 < n
    · have d2 : decide (400 < n) = true := decide_eq_true c
      go_enter Try.func8, Try.ntmps8
      go_wp2_with (go_at_call 11; ((with_reducible refine (CA.out _).mono ?_); rintro e w1 ⟨rfl, hb⟩; have HB := Lib.hid hb; clear hb))
      go_ret
      exact ⟨rfl, HB.out⟩
    · obtain ⟨m, rfl⟩ := Int.eq_ofNat_of_zero_le (by omega : 0 ≤ n)
      exact lim_in m (by omega) W
end Go.Proofs.Ytbnmddopgbhapaa
