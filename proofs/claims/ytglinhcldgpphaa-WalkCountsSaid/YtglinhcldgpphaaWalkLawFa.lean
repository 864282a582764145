/-
  WalkCounts, whatever the place that is asked for.
-/
import Derived.Test.YtglinhcldgpphaaWalkLawF
namespace Go.Proofs.Ytglinhcldgpphaa
open Go.RowKit

set_option maxRecDepth 100000 in
set_option maxHeartbeats 4000000 in
theorem walkCounts_any {SH : ShP} {SQ : SqP} (L : ShelfLaws SH) (KW : WalkLaws SH SQ) (A : Option Addr) (c : Nat) (zs : List Item) (k : ByteArray) (n : Int) (f t : Nat) (W : World) (hA : ItemsAt W A zs) (hz : zs.length ≤ 9223372036854775807) (hk : k.size ≤ maxLen) (hn0 : -9223372036854775808 ≤ n) (hn1 : n ≤ 9223372036854775807) (hf : f < 18446744073709551616) (ht : t < 18446744073709551616) :
    Calls Try.prog 3 #[.slice A zs.length c, .string k, .int .i64 n, .agg #[.int .u64 (f : Nat), .int .u64 (t : Nat)]] W fun e w' => e = .returned (.bool true) ∧ Below W.heap.size W w' := by
  have CA : Hid (∀ w, Calls Try.prog 12 #[] w fun e w' => e = .returned (.bool true) ∧ Below w.heap.size w w') := fun w => walkAlive_any L KW w w (Below.refl _ _)
  have HBX : Hid (Below W.heap.size W (W.alloc (.cells #[.int .u64 (f : Nat), .int .u64 (t : Nat)] 25))) := (Below.refl _ _).alloc (Nat.le_refl _) _
  unfold maxLen at hk
  by_cases c0 : 60 < zs.length
  · obtain ⟨nz, hnz⟩ : ∃ x, zs.length = x := ⟨_, rfl⟩
    rw [hnz] at c0 hz ⊢
    have d0 : decide ((60 : Int) < (nz : Int)) = true := by simp; omega
    clear hA hf ht hnz
    go_enter Try.func3, Try.ntmps3
    go_wp2_with (go_at_call 12; (with_reducible refine (CA.out _).mono ?_); rintro e w1 ⟨rfl, h1⟩)
    go_ret
    exact ⟨rfl, acc HBX.out h1⟩
  by_cases c1 : 40 < k.size
  · obtain ⟨nz, hnz⟩ : ∃ x, zs.length = x := ⟨_, rfl⟩
    rw [hnz] at c0 hz ⊢
    have d0 : decide ((60 : Int) < (nz : Int)) = false := by simp; omega
    have d1 : decide ((40 : Int) < (k.size : Int)) = true := by simp; omega
    clear hA hf ht hnz
    go_enter Try.func3, Try.ntmps3
    go_wp2_with (go_at_call 12; (with_reducible refine (CA.out _).mono ?_); rintro e w1 ⟨rfl, h1⟩)
    go_ret
    exact ⟨rfl, acc HBX.out h1⟩
  by_cases c2 : n < 0
  · exact walkCountsNeg L KW A c zs _ rfl k n f t W hA (by omega) (by omega) hn0 hn1 hf ht c2
  by_cases c3 : ((fillL zs).length : Int) ≤ n
  · exact walkCountsHigh L KW A c zs _ rfl k n f t W hA (by omega) (by omega) hn0 hn1 hf ht c3
  · obtain ⟨i, rfl⟩ := Int.eq_ofNat_of_zero_le (show 0 ≤ n by omega)
    have hi : i < (fillL zs).length := by omega
    exact walkCountsIn L KW A c zs _ rfl k (i : Nat) f t W hA (by omega) (by omega) hn0 hn1 hf ht i hi ((fillL zs)[i]).1 ((fillL zs)[i]).2 rfl rfl
end Go.Proofs.Ytglinhcldgpphaa
