/-
  The statements' own small functions: deep, key.
-/
import Derived.Test.YtojiblhaiokdcaaBookAll
import Derived.Test.YtojiblhaiokdcaaKeyPlain
namespace Go.Proofs.Ytojiblhaiokdcaa
open Go.RowKit

/-- how often a number can be divided by 4 till it is below 4 -/
def log4 (n : Nat) : Nat := if h : n < 4 then 0 else log4 (n / 4) + 1
termination_by n
decreasing_by omega
theorem log4_small {n : Nat} (h : n < 4) : log4 n = 0 := by rw [log4, dif_pos h]
theorem log4_step {n : Nat} (h : 4 ≤ n) : log4 n = log4 (n / 4) + 1 := by rw [log4, dif_neg (by omega)]
theorem log4_le : ∀ (j n : Nat), 4 ^ j ≤ n → j ≤ log4 n
  | 0, n, _ => Nat.zero_le _
  | j + 1, n, h => by
    have h1 : 4 ^ j * 4 ≤ n := by rw [← Nat.pow_succ]; exact h
    have h2 : 1 ≤ 4 ^ j := Nat.pow_pos (by omega)
    rw [log4_step (by omega)]
    have := log4_le j (n / 4) (by omega)
    omega
theorem log4_lt (n : Nat) : log4 n ≤ n := by
  induction n using Nat.strongRecOn with
  | ind n ih =>
    by_cases h : n < 4
    · rw [log4_small h]; omega
    · rw [log4_step (by omega)]
      have := ih (n / 4) (by omega)
      omega
def deepN (n : Nat) : Nat := if n = 0 then 0 else log4 n + 1
theorem deepN_le {d n : Nat} (h : 4 ^ d ≤ n) : d + 1 ≤ deepN n := by
  have h2 : 1 ≤ 4 ^ d := Nat.pow_pos (by omega)
  rw [deepN, if_neg (by omega)]
  have := log4_le d n h
  omega

/-- the key of a number -/
def keyL (k : Nat) : List UInt8 := [107, UInt8.ofNat (k / 256), UInt8.ofNat k]
theorem keyL_cells (k : Nat) (hk : k < 65536) : #[Value.int .u8 107, .int .u8 ((k : Int) / 256), .int .u8 ((k : Int) % 256)] = ((keyL k).map cell8).toArray := by
  simp [keyL, cell8]
  omega
theorem keyL_inj {j k : Nat} (hj : j < 65536) (hk : k < 65536) (h : keyL j = keyL k) : j = k := by
  simp only [keyL, List.cons.injEq, true_and, and_true] at h
  have h1 := congrArg UInt8.toNat h.1
  have h2 := congrArg UInt8.toNat h.2
  simp at h1 h2
  omega
theorem keyL_less {j k : Nat} (hj : j < 65536) (hk : k < 65536) : Op.bytesLess (keyL j) (keyL k) = decide (j < k) := by
  rw [Bool.eq_iff_iff, decide_eq_true_iff]
  simp only [keyL, less_cons_iff, less_nil, true_and, Nat.lt_irrefl, false_or, and_false, or_false, Bool.false_eq_true, ← UInt8.toNat_inj, UInt8.toNat_ofNat']
  omega
end Go.Proofs.Ytojiblhaiokdcaa
