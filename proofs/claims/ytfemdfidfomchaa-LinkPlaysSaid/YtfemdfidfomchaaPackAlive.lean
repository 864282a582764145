/-
  The walk of the first call of chapter 3's statements.
-/
import Derived.Test.YtfemdfidfomchaaPackNum
namespace Go.Proofs.Ytfemdfidfomchaa
open Go.RowKit

def aN : ByteArray := numT 258
def aT : ByteArray := textT ⟨#[97, 98]⟩
def aX : ByteArray := txt (wideN 8 7)
def a0 : Option ByteArray := some (aN ++ aT ++ aX)
def a1 : Option ByteArray := restO a0 2
def a2 : Option ByteArray := restT a1
def a3 : Option ByteArray := restO a2 8
theorem a_num : numO a0 2 = 258 := by kernel_rfl
theorem a_text : textO a1 = ⟨#[97, 98]⟩ := by kernel_rfl
theorem a_wide : numO a2 8 = 7 := by kernel_rfl
theorem a_end : (a3.isSome && noneB (a3.getD ByteArray.empty)) = true := by decide +kernel
theorem a_size : sizeO a0 = 13 := by kernel_rfl
theorem a_size1 : sizeO a1 ≤ 13 := a_size ▸ sizeO_rest _ _
theorem a_size2 : sizeO a2 ≤ 13 := Nat.le_trans (sizeO_restT _) a_size1
theorem a_eq : (aN.toList == [1, 2]) = true := by decide +kernel
end Go.Proofs.Ytfemdfidfomchaa
