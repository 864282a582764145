/-
  The walks of package key, and of the document's own answers to it: what each call answers, as a plain function of lists of bytes.
-/
import Derived.Test.YtfpoapmbpbkibaaBase
import Derived.Test.YtfpoapmbpbkibaaKeyPlain
namespace Go.Proofs.Ytfpoapmbpbkibaa
open Go.RowKit

def rightN (s : ByteArray) : Int := if s.size = 0 ∨ 16 < s.size then 3 else 0
def valueN (s : ByteArray) : Int := if 16 < s.size then 4 else 0
def addrN (s : ByteArray) : Nat := accN s.data.toList 8

theorem addrN_lt (s : ByteArray) : addrN s < 18446744073709551616 := accN_lt _ 8







/-- what stands in the point's variable when k bytes have been laid into it -/
def partN (l : List UInt8) (k : Nat) : Nat := accN l k * 256 ^ (8 - k)
theorem partN_lt (l : List UInt8) {k : Nat} (h : k ≤ 8) : partN l k < 18446744073709551616 := by
  have h1 := accN_lt l k
  have h2 : 256 ^ k * 256 ^ (8 - k) = 18446744073709551616 := by rw [← Nat.pow_add, show k + (8 - k) = 8 by omega]
  rw [← h2]
  exact Nat.mul_lt_mul_of_pos_right h1 (Nat.pow_pos (by omega))
theorem part_step {l : List UInt8} {k : Nat} (hk : k < 8) (hl : k < l.length) :
    bits .or .u64 (partN l k : Int) (IntKind.u64.wrap (IntKind.u64.wrap ((l[k]).toNat : Int) * 2 ^ (8 * (7 - k)))) = (partN l (k + 1) : Int) := by
  have hb : (l[k]).toNat < 256 := (l[k]).toNat_lt
  have e1 : IntKind.u64.wrap ((l[k]).toNat : Int) = ((l[k]).toNat : Int) := by rw [IntKind.wrap_u64]; omega
  have hp : 2 ^ (8 * (7 - k)) ≤ 2 ^ 56 := Nat.pow_le_pow_right (by omega) (by omega)
  have hm : (l[k]).toNat * 2 ^ (8 * (7 - k)) < 18446744073709551616 := by
    have : (l[k]).toNat * 2 ^ (8 * (7 - k)) ≤ 255 * 2 ^ 56 := Nat.mul_le_mul (by omega) hp
    omega
  have e2 : ((l[k]).toNat : Int) * 2 ^ (8 * (7 - k)) = (((l[k]).toNat * 2 ^ (8 * (7 - k)) : Nat) : Int) := by simp
  rw [e1, e2]
  have e3 : IntKind.u64.wrap (((l[k]).toNat * 2 ^ (8 * (7 - k)) : Nat) : Int) = (((l[k]).toNat * 2 ^ (8 * (7 - k)) : Nat) : Int) := by rw [IntKind.wrap_u64]; omega
  rw [e3, u64_or_nat _ _ (partN_lt l (by omega)) hm]
  unfold partN
  rw [or_step hk hb, accN, byteAt_get hl, show 8 - (k + 1) = 7 - k by omega]


end Go.Proofs.Ytfpoapmbpbkibaa
