/-
  The mixing of 64 bits (P1001) is one to one.
-/
import Derived.Test.YtfpoapmbpbkibaaBase
namespace Go.Proofs.Ytfpoapmbpbkibaa

/-- the mixing -/
def mixB (v : BitVec 64) : BitVec 64 :=
  let x := v + 11400714819323198485#64
  let y := (x ^^^ (x >>> 30)) * 13787848793156543929#64
  let z := (y ^^^ (y >>> 27)) * 10723151780598845931#64
  z ^^^ (z >>> 31)
theorem shift_zero (z : BitVec 64) (n : Nat) (hn : 22 ≤ n) (h : z = z >>> n) : z = 0#64 := by
  have h2 : z = z >>> (n + n + n) := by
    rw [BitVec.shiftRight_add, BitVec.shiftRight_add, ← h, ← h]
    exact h
  rw [h2]
  apply BitVec.eq_of_toNat_eq
  rw [BitVec.toNat_ushiftRight, Nat.shiftRight_eq_div_pow]
  have h3 := z.isLt
  have h4 : 2 ^ 64 ≤ 2 ^ (n + n + n) := Nat.pow_le_pow_right (by decide) (by omega)
  rw [Nat.div_eq_of_lt (by omega)]
  rfl
theorem xs_inj (x y : BitVec 64) (n : Nat) (hn : 22 ≤ n) (h : x ^^^ (x >>> n) = y ^^^ (y >>> n)) : x = y := by
  have h1 : x ^^^ y = (x ^^^ y) >>> n := by
    rw [BitVec.ushiftRight_xor_distrib]
    have h2 : x ^^^ x >>> n ^^^ x >>> n ^^^ y = y ^^^ y >>> n ^^^ x >>> n ^^^ y := congrArg (fun z => z ^^^ (x >>> n) ^^^ y) h
    have e1 : x ^^^ x >>> n ^^^ x >>> n ^^^ y = x ^^^ y := by rw [BitVec.xor_assoc x, BitVec.xor_self, BitVec.xor_zero]
    have e2 : y ^^^ y >>> n ^^^ x >>> n ^^^ y = x >>> n ^^^ y >>> n := by
      rw [BitVec.xor_assoc y, BitVec.xor_comm y, BitVec.xor_assoc, BitVec.xor_self, BitVec.xor_zero, BitVec.xor_comm]
    rw [e1, e2] at h2
    exact h2
  have h3 := shift_zero _ n hn h1
  have h4 := congrArg (fun z => z ^^^ y) h3
  simp only [BitVec.xor_assoc, BitVec.xor_self, BitVec.xor_zero, BitVec.zero_xor] at h4
  exact h4
theorem mul_inj (x y c d : BitVec 64) (hcd : c * d = 1#64) (h : x * c = y * c) : x = y := by
  have h2 := congrArg (fun z => z * d) h
  simp only [BitVec.mul_assoc, hcd, BitVec.mul_one] at h2
  exact h2
theorem mix_inj (v w : BitVec 64) (h : mixB v = mixB w) : v = w := by
  unfold mixB at h
  have h1 := xs_inj _ _ 31 (by decide) h
  have h2 := mul_inj _ _ _ 3573116690164977347#64 (by decide) h1
  have h3 := xs_inj _ _ 27 (by decide) h2
  have h4 := mul_inj _ _ _ 10871156337175269513#64 (by decide) h3
  have h5 := xs_inj _ _ 30 (by decide) h4
  have h6 : v + 11400714819323198485#64 - 11400714819323198485#64 = w + 11400714819323198485#64 - 11400714819323198485#64 := congrArg (fun z => z - 11400714819323198485#64) h5
  rw [BitVec.add_sub_cancel, BitVec.add_sub_cancel] at h6
  exact h6
/-- a number and itself, shifted -/
def xsI (a p : Int) : Int := bits BinOp.xor IntKind.u64 a (a / p)
/-- the mixing as the calls do it -/
def mixI (v : Int) : Int :=
  xsI (IntKind.u64.wrap (xsI (IntKind.u64.wrap (xsI (IntKind.u64.wrap (v + 11400714819323198485)) 1073741824 * 13787848793156543929)) 134217728 * 10723151780598845931)) 2147483648
theorem wrap_ofInt (x : Int) : IntKind.u64.wrap x = ((BitVec.ofInt 64 x).toNat : Int) := by
  rw [IntKind.wrap_u64, BitVec.toNat_ofInt]
  omega
theorem xsI_eq (u : BitVec 64) (n : Nat) : xsI ((u.toNat : Nat) : Int) ((2 ^ n : Nat) : Int) = ((u ^^^ (u >>> n)).toNat : Int) := by
  have h0 : ((u.toNat : Nat) : Int) / ((2 ^ n : Nat) : Int) = (((u >>> n).toNat : Nat) : Int) := by
    rw [BitVec.toNat_ushiftRight, Nat.shiftRight_eq_div_pow]
    exact (Int.natCast_ediv _ _).symm
  unfold xsI
  rw [h0]
  have h1 : ∀ w : BitVec 64, BitVec.ofInt 64 ((w.toNat : Nat) : Int) = w := fun w => by simp
  show IntKind.u64.wrap _ = _
  have h2 : ((BitVec.ofInt IntKind.u64.bits ((u.toNat : Nat) : Int) ^^^ BitVec.ofInt IntKind.u64.bits (((u >>> n).toNat : Nat) : Int)).toNat : Int) = ((u ^^^ (u >>> n)).toNat : Int) := by
    show ((BitVec.ofInt 64 ((u.toNat : Nat) : Int) ^^^ BitVec.ofInt 64 (((u >>> n).toNat : Nat) : Int)).toNat : Int) = _
    rw [h1, h1]
  rw [h2, IntKind.wrap_u64]
  have := (u ^^^ (u >>> n)).isLt
  omega
theorem mixI_eq (v : Int) : mixI v = ((mixB (BitVec.ofInt 64 v)).toNat : Int) := by
  have a1 : IntKind.u64.wrap (v + 11400714819323198485) = ((BitVec.ofInt 64 v + 11400714819323198485#64).toNat : Int) := by
    rw [wrap_ofInt, BitVec.ofInt_add]
    rfl
  have mm : ∀ (u c : BitVec 64), IntKind.u64.wrap ((u.toNat : Int) * (c.toNat : Int)) = ((u * c).toNat : Int) := fun u c => by
    rw [IntKind.wrap_u64, BitVec.toNat_mul, ← Int.natCast_mul]
    exact (Int.natCast_emod _ _).symm
  unfold mixI mixB
  rw [a1, show (1073741824 : Int) = ((2 ^ 30 : Nat) : Int) from rfl, show (134217728 : Int) = ((2 ^ 27 : Nat) : Int) from rfl, show (2147483648 : Int) = ((2 ^ 31 : Nat) : Int) from rfl, xsI_eq,
    show (13787848793156543929 : Int) = ((13787848793156543929#64).toNat : Int) from rfl, show (10723151780598845931 : Int) = ((10723151780598845931#64).toNat : Int) from rfl, mm, xsI_eq, mm, xsI_eq]
theorem mixI_inj (v w : Int) (hv : 0 ≤ v) (hv2 : v < 18446744073709551616) (hw : 0 ≤ w) (hw2 : w < 18446744073709551616) (h : mixI v = mixI w) : v = w := by
  rw [mixI_eq, mixI_eq] at h
  have h1 := mix_inj _ _ (BitVec.eq_of_toNat_eq (Int.ofNat.inj h))
  have h2 := congrArg BitVec.toNat h1
  rw [BitVec.toNat_ofInt, BitVec.toNat_ofInt] at h2
  omega
theorem mixI_range (v : Int) : 0 ≤ mixI v ∧ mixI v < 18446744073709551616 := by
  rw [mixI_eq]
  have := (mixB (BitVec.ofInt 64 v)).isLt
  omega
/-- a seat of a node: the k-th -/
def seatI (id salt : Int) (k : Int) : Int :=
  mixI (IntKind.u64.wrap (IntKind.u64.wrap (IntKind.u64.wrap (IntKind.u64.wrap id * 1000003) + IntKind.u64.wrap (IntKind.u64.wrap salt * 7919)) + k))
def seatsI (id salt : Int) (n : Nat) : List Int := (List.range n).map fun k => seatI id salt (k : Nat)
theorem seatsI_length (id salt : Int) (n : Nat) : (seatsI id salt n).length = n := by simp [seatsI]
theorem seatsI_snoc (id salt : Int) (n : Nat) : seatsI id salt (n + 1) = seatsI id salt n ++ [seatI id salt (n : Nat)] := by simp [seatsI, List.range_succ]
end Go.Proofs.Ytfpoapmbpbkibaa
