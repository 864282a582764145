/-
  The walks of key.First and of the document's own answers Addr, Wide, First.
-/
import Derived.Test.YtfemdfidfomchaaKeyWalks
namespace Go.Proofs.Ytfemdfidfomchaa
open Go.RowKit


/-- one byte more comes up -/
theorem first_step {x k v : Nat} {out : List UInt8} (h8 : k ≤ 8) (hne : v ≠ 0) (h : v = x * 256 ^ k % 256 ^ 8 ∧ out ++ stripN (wideN (8 - k) x) = firstN x) :
    k < 8 ∧ v * 256 % 256 ^ 8 = x * 256 ^ (k + 1) % 256 ^ 8 ∧ (out ++ [UInt8.ofNat (v / 256 ^ 7)]) ++ stripN (wideN (8 - (k + 1)) x) = firstN x := by
  obtain ⟨hv, ho⟩ := h
  have hk : k < 8 := by
    rcases Nat.lt_or_ge k 8 with h | h
    · exact h
    · obtain rfl : k = 8 := by omega
      rw [Nat.mul_mod_left] at hv
      exact absurd hv hne
  obtain ⟨m, hm⟩ : ∃ m, k + m = 7 := ⟨7 - k, by omega⟩
  have e1 : 8 - k = m + 1 := by omega
  have e2 : 8 - (k + 1) = m := by omega
  have e3 : (256 : Nat) ^ 8 = 256 ^ (m + 1) * 256 ^ k := by rw [← Nat.pow_add]; congr 1; omega
  have e4 : (256 : Nat) ^ 7 = 256 ^ m * 256 ^ k := by rw [← Nat.pow_add]; congr 1; omega
  have hp : 0 < (256 : Nat) ^ k := Nat.pow_pos (by omega)
  have hv' : v = x % 256 ^ (m + 1) * 256 ^ k := by rw [hv, e3, Nat.mul_mod_mul_right]
  refine ⟨hk, ?_, ?_⟩
  · rw [hv, Nat.mod_mul_mod, Nat.mul_assoc, ← Nat.pow_succ]
  · rw [e1, stripN_wide_pos m x (fun e => hne (by rw [hv', e, Nat.zero_mul]))] at ho
    rw [e2, ← ho, List.append_assoc]
    congr 2
    have e5 : v / 256 ^ 7 = x / 256 ^ m % 256 := by
      rw [hv', e4, Nat.mul_div_mul_right _ _ hp, Nat.pow_succ, Nat.mod_mul_right_div_self]
    rw [e5]
    show UInt8.ofNat (x / 256 ^ m % 256) :: _ = _
    congr 1
    apply UInt8.toNat_inj.1
    simp
theorem first_none {x k : Nat} {out : List UInt8} (h8 : k ≤ 8) (h : 0 = x * 256 ^ k % 256 ^ 8 ∧ out ++ stripN (wideN (8 - k) x) = firstN x) : out = firstN x := by
  obtain ⟨hv, ho⟩ := h
  obtain ⟨m, hm⟩ : ∃ m, m + k = 8 := ⟨8 - k, by omega⟩
  have e1 : 8 - k = m := by omega
  have e3 : (256 : Nat) ^ 8 = 256 ^ m * 256 ^ k := by rw [← Nat.pow_add]; congr 1; omega
  have hp : 0 < (256 : Nat) ^ k := Nat.pow_pos (by omega)
  rw [e3, Nat.mul_mod_mul_right] at hv
  have h0 : x % 256 ^ m = 0 := by
    rcases Nat.mul_eq_zero.1 hv.symm with h | h
    · exact h
    · omega
  rw [e1, stripN_wide_zero m x h0, List.append_nil] at ho
  exact ho
theorem cell_of_nat {v : Nat} (h : v < 256) : Value.int .u8 (v : Int) = cell8 (UInt8.ofNat v) := by
  unfold cell8
  rw [show (UInt8.ofNat v).toNat = v by simp; omega]



theorem wide_set (x m d : Nat) (h8 : m + 1 ≤ 8) (hd : d = x / 256 ^ (8 - (m + 1)) % 256) :
    List.replicate m (0 : UInt8) ++ wideN (8 - m) x = (List.replicate (m + 1) (0 : UInt8) ++ wideN (8 - (m + 1)) x).set m (UInt8.ofNat d) := by
  obtain ⟨k, hk⟩ : ∃ k, 8 - (m + 1) = k := ⟨_, rfl⟩
  have e : 8 - m = k + 1 := by omega
  rw [hk] at hd
  rw [hk, e, List.replicate_succ', List.append_assoc, List.set_append_right _ _ (by simp)]
  simp only [List.length_replicate, Nat.sub_self, List.singleton_append, List.set_cons_zero, wideN]
  congr 2
  apply UInt8.toNat_inj.1
  rw [hd]
  simp



end Go.Proofs.Ytfemdfidfomchaa
