/-
  Plain facts on numbers written as bytes, the greatest first, and read back. No program is named here.
-/
import Derived.Test.YtfemdfidfomchaaBase
import Derived.Test.YtfemdfidfomchaaKeyPlain
namespace Go.Proofs.Ytfemdfidfomchaa

/-- the last n bytes of x, after k of them are written -/
def wrote (n x k : Nat) : List UInt8 := (wideN n x).take k ++ List.replicate (n - k) (0 : UInt8)
theorem wrote_zero (n x : Nat) : wrote n x 0 = List.replicate n (0 : UInt8) := by simp [wrote]
theorem wrote_all (n x : Nat) : wrote n x n = wideN n x := by
  rw [wrote, Nat.sub_self, List.replicate_zero, List.append_nil, List.take_of_length_le (by rw [wideN_length]; exact Nat.le_refl _)]
theorem wrote_length (n x k : Nat) (h : k ≤ n) : (wrote n x k).length = n := by
  rw [wrote, List.length_append, List.length_take, wideN_length, List.length_replicate]; omega
theorem wrote_set (n x k : Nat) (h : k < n) : (wrote n x k).set k (UInt8.ofNat (x / 256 ^ (n - 1 - k))) = wrote n x (k + 1) := by
  obtain ⟨m, hm⟩ : ∃ m, n - k = m + 1 := ⟨n - k - 1, by omega⟩
  have e : n - (k + 1) = m := by omega
  have ht : ((wideN n x).take k).length = k := by rw [List.length_take, wideN_length]; omega
  rw [wrote, wrote, hm, e, List.replicate_succ, List.set_append_right _ _ (by omega), ht, Nat.sub_self, List.set_cons_zero, List.take_add_one, wideN_get n x k h]
  simp
theorem pow_shift (k : Nat) : 2 ^ (8 * k) = 256 ^ k := by rw [Nat.pow_mul]
/-- the number of the first n bytes of what was written -/
theorem accN_append : ∀ (n : Nat) (a b : List UInt8), n ≤ a.length → accN (a ++ b) n = accN a n
  | 0, _, _, _ => rfl
  | n + 1, a, b, h => by
    rw [accN, accN, accN_append n a b (by omega)]
    congr 1
    unfold byteAt
    rw [List.getElem?_append_left (by omega)]
theorem accN_wide (n x : Nat) (rest : List UInt8) : accN (wideN n x ++ rest) n = x % 256 ^ n := by
  rw [accN_append n _ _ (by rw [wideN_length]; exact Nat.le_refl _), accN_val, valN_wide]
theorem accN_snoc (l : List UInt8) (k : Nat) : accN l (k + 1) = accN l k * 256 + byteAt l k := rfl
theorem accN_take : ∀ (l : List UInt8) (n m : Nat), n ≤ m → accN (l.take m) n = accN l n
  | _, 0, _, _ => rfl
  | l, n + 1, m, h => by
    rw [accN, accN, accN_take l n m (by omega)]
    congr 1
    unfold byteAt
    rw [List.getElem?_take_of_lt (by omega)]
/-- the order of the written is the order of the numbers -/
theorem less_wide (n x y : Nat) (hx : x < 256 ^ n) (hy : y < 256 ^ n) : Op.bytesLess (wideN n x) (wideN n y) = decide (x < y) := by
  have vx := valN_wide n x
  have vy := valN_wide n y
  rw [Nat.mod_eq_of_lt hx] at vx
  rw [Nat.mod_eq_of_lt hy] at vy
  by_cases h : x < y
  · rw [decide_eq_true h]
    exact val_less n _ _ (by rw [vx, vy]; exact h)
  · rw [decide_eq_false h]
    cases hb : Op.bytesLess (wideN n x) (wideN n y) with
    | false => rfl
    | true =>
      have := less_val n _ _ hb
      rw [vx, vy] at this
      obtain rfl : x = y := by omega
      rw [less_irrefl] at hb
      exact hb.symm
theorem wide_inj (n x y : Nat) (hx : x < 256 ^ n) (hy : y < 256 ^ n) (h : wideN n x = wideN n y) : x = y := by
  have vx := valN_wide n x
  have vy := valN_wide n y
  rw [Nat.mod_eq_of_lt hx] at vx
  rw [Nat.mod_eq_of_lt hy] at vy
  rw [← vx, h, vy]
end Go.Proofs.Ytfemdfidfomchaa
