/-
  The walk of the statement PackTells of chapter 3, both ways put together.
-/
import Derived.Test.YtalccnmbpohllaaPackLawF
namespace Go.Proofs.Ytalccnmbpohllaa
open Go.RowKit

theorem packTells_walk (v : Int) (s : ByteArray) (x : Nat) (b : ByteArray) (A : Option Addr) (c : Nat) (zs : List Int) (w : World) (hs : s.size ≤ 9223372036854775807) (hb : b.size ≤ 9223372036854775807) (hn : zs.length ≤ 9223372036854775807)
    (hv0 : -9223372036854775808 ≤ v) (hv1 : v ≤ 9223372036854775807) (hx : x < 18446744073709551616) (hL : IntsAt w A .i64 zs)
    (hlw : ∀ i, i < zs.length → -9223372036854775808 ≤ zs.getD i 0 ∧ zs.getD i 0 ≤ 9223372036854775807) :
    Calls Try.prog 3 #[.int .i64 v, .string s, .int .u64 x, .string b, .slice A zs.length c] w fun e w' => e = .returned (.bool true) ∧ Below w.heap.size w w' := by
  by_cases h : 400 < s.size ∨ 600 < b.size ∨ 40 < zs.length
  · exact packTells_many v s x b A c zs.length w h hs hb hn
  · exact packTells_few v s x b A c zs w (by omega) (by omega) (by omega) hv0 hv1 hx hL hlw

end Go.Proofs.Ytalccnmbpohllaa
