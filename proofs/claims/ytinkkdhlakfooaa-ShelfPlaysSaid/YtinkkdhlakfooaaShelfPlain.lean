/-
  The statements' own small functions: deep, key.
-/
import Derived.Test.YtinkkdhlakfooaaBook
import Derived.Test.YtinkkdhlakfooaaKeyPlain
namespace Go.Proofs.Ytinkkdhlakfooaa
open Go.RowKit

/-- how often a number can be divided by 4 till it is below 4 -/
def log4 (n : Nat) : Nat := if h : n < 4 then 0 else log4 (n / 4) + 1
termination_by n
decreasing_by omega
theorem log4_small {n : Nat} (h : n < 4) : log4 n = 0 := by rw [log4, dif_pos h]
theorem log4_step {n : Nat} (h : 4 ≤ n) : log4 n = log4 (n / 4) + 1 := by rw [log4, dif_neg (by omega)]
theorem log4_le : ∀ (j n : Nat), 4 ^ j ≤ n → j ≤ log4 n
  | 0, n, _ => Nat.zero_le _
  | j + 1, n, h => by
    have h1 : 4 ^ j * 4 ≤ n := by rw [← Nat.pow_succ]; exact h
    have h2 : 1 ≤ 4 ^ j := Nat.pow_pos (by omega)
    rw [log4_step (by omega)]
    have := log4_le j (n / 4) (by omega)
    omega
theorem log4_lt (n : Nat) : log4 n ≤ n := by
  induction n using Nat.strongRecOn with
  | ind n ih =>
    by_cases h : n < 4
    · rw [log4_small h]; omega
    · rw [log4_step (by omega)]
      have := ih (n / 4) (by omega)
      omega
def deepN (n : Nat) : Nat := if n = 0 then 0 else log4 n + 1
theorem deepN_le {d n : Nat} (h : 4 ^ d ≤ n) : d + 1 ≤ deepN n := by
  have h2 : 1 ≤ 4 ^ d := Nat.pow_pos (by omega)
  rw [deepN, if_neg (by omega)]
  have := log4_le d n h
  omega

theorem deep_any (n : Nat) (W : World) (hn : n ≤ 1000000) :
    Calls Try.prog 21 #[.int .i64 (n : Nat)] W fun e w' => e = .returned (.int .i64 (deepN n : Nat)) ∧ W = w' := by
  rcases Nat.eq_zero_or_pos n with rfl | hpos
  · go_enter Try.func21, Try.ntmps21
    go_wp2
    go_ret
    exact ⟨rfl, rfl⟩
  · have hd0 : ((n : Int) == 0) = false := by simp; omega
    go_enter Try.func21, Try.ntmps21
    go_wp2
    go_loopg [0, 3] (n + 1) (fun gh s0 s3 wx => ∃ (m d : Nat), m + 1 = gh ∧ 1 ≤ d ∧ d + log4 m = 1 + log4 n ∧ m ≤ n ∧ s0 = .int .i64 m ∧ s3 = .int .i64 d ∧ W = wx)
    case atStart => exact ⟨n, 1, rfl, by omega, rfl, by omega, rfl, rfl, rfl⟩
    case round =>
      obtain ⟨m, d, hg, hd1, hs, hm, rfl, rfl, rfl⟩ := hrel
      have hl := log4_lt n
      by_cases h4 : 4 ≤ m
      · have hd : decide ((4 : Int) ≤ (m : Int)) = true := by simp; omega
        have hs4 := log4_step h4
        go_wp2
        go_roundg (m / 4 + 1)
        case measure => omega
        case rel => exact ⟨m / 4, d + 1, rfl, by omega, by omega, by omega, by go_num, by go_num, rfl⟩
      · have hd : decide ((4 : Int) ≤ (m : Int)) = false := by simp; omega
        have hs4 := log4_small (show m < 4 by omega)
        have e : deepN n = d := by rw [deepN, if_neg (by omega)]; omega
        have E := Lib.hid e
        clear e
        go_wp2
        go_ret
        exact ⟨by rw [E.out]; rfl, rfl⟩

/-- the key of a number -/
def keyL (k : Nat) : List UInt8 := [107, UInt8.ofNat (k / 256), UInt8.ofNat k]
theorem keyL_cells (k : Nat) (hk : k < 65536) : #[Value.int .u8 107, .int .u8 ((k : Int) / 256), .int .u8 ((k : Int) % 256)] = ((keyL k).map cell8).toArray := by
  simp [keyL, cell8]
  omega
set_option maxRecDepth 100000 in
set_option maxHeartbeats 1000000 in
theorem key_any (k : Nat) (W : World) (hk : k < 65536) :
    Calls Try.prog 26 #[.int .i64 (k : Nat)] W fun e w' => e = .returned (.string (txt (keyL k))) ∧ Below W.heap.size W w' := by
  have hcv := conv_lit (keyL k) W 3 rfl (by simp [keyL]) _ (keyL_cells k hk)
  go_enter Try.func26, Try.ntmps26
  go_wp2
  go_ret
  exact ⟨rfl, (Below.refl _ _).alloc (Nat.le_refl _) _⟩
theorem keyL_inj {j k : Nat} (hj : j < 65536) (hk : k < 65536) (h : keyL j = keyL k) : j = k := by
  simp only [keyL, List.cons.injEq, true_and, and_true] at h
  have h1 := congrArg UInt8.toNat h.1
  have h2 := congrArg UInt8.toNat h.2
  simp at h1 h2
  omega
theorem keyL_less {j k : Nat} (hj : j < 65536) (hk : k < 65536) : Op.bytesLess (keyL j) (keyL k) = decide (j < k) := by
  rw [Bool.eq_iff_iff, decide_eq_true_iff]
  simp only [keyL, less_cons_iff, less_nil, true_and, Nat.lt_irrefl, false_or, and_false, or_false, Bool.false_eq_true, ← UInt8.toNat_inj, UInt8.toNat_ofNat']
  omega
end Go.Proofs.Ytinkkdhlakfooaa
