/-
  The walk of the first call of chapter 3's statements.
-/
import Derived.Test.YtbnmddopgbhapaaGreatPackNum
namespace Go.Proofs.YtbnmddopgbhapaaGreat
open Go.RowKit

theorem rend_any (g : Nat) (o : Option ByteArray) (W : World) (hR : RdO W g o) :
    Calls Tryz.prog 67 #[.pointer (some ⟨g, 0, none⟩)] W fun e w' => e = .returned (.bool (o.isSome && noneB (o.getD ByteArray.empty))) ∧ W = w' := end_any g _ _ W hR
theorem rbad_any (g : Nat) (o : Option ByteArray) (W : World) (hR : RdO W g o) :
    Calls Tryz.prog 86 #[.pointer (some ⟨g, 0, none⟩)] W fun e w' => e = .returned (.bool (!o.isSome)) ∧ W = w' := bad_any g _ _ W hR

def aN : ByteArray := numT 258
def aT : ByteArray := textT ⟨#[97, 98]⟩
def aX : ByteArray := txt (wideN 8 7)
def a0 : Option ByteArray := some (aN ++ aT ++ aX)
def a1 : Option ByteArray := restO a0 2
def a2 : Option ByteArray := restT a1
def a3 : Option ByteArray := restO a2 8
theorem a_num : numO a0 2 = 258 := by kernel_rfl
theorem a_text : textO a1 = ⟨#[97, 98]⟩ := by kernel_rfl
theorem a_wide : numO a2 8 = 7 := by kernel_rfl
theorem a_end : (a3.isSome && noneB (a3.getD ByteArray.empty)) = true := by decide +kernel
theorem a_size : sizeO a0 = 13 := by kernel_rfl
theorem a_size1 : sizeO a1 ≤ 13 := a_size ▸ sizeO_rest _ _
theorem a_size2 : sizeO a2 ≤ 13 := Nat.le_trans (sizeO_restT _) a_size1
theorem a_eq : (aN.toList == [1, 2]) = true := by decide +kernel
theorem a_c1 (W : World) : Calls Tryz.prog 128 #[.int .i64 258] W fun e w' => e = .returned (.tuple #[.string aN, .bool true]) ∧ Below W.heap.size W w' := num_any 258 W (by omega) (by omega)
theorem a_c2 (W : World) : Calls Tryz.prog 124 #[.string ⟨#[97, 98]⟩] W fun e w' => e = .returned (.tuple #[.string aT, .bool true]) ∧ Below W.heap.size W w' := text_any _ W (by decide)
theorem a_c3 (W : World) : Calls Tryz.prog 112 #[.int .u64 7] W fun e w' => e = .returned (.string aX) ∧ Below W.heap.size W w' := wide_any 7 W (by omega)
theorem a_c4 (W : World) : Calls Tryz.prog 65 #[.string (aN ++ aT ++ aX)] W fun e w' => e = .returned (.pointer (some ⟨W.heap.size, 0, none⟩)) ∧ Below W.heap.size W w' ∧ RdO w' W.heap.size a0 := from_any _ W
theorem a_c5 (g : Nat) (W : World) (hR : RdO W g a0) : Calls Tryz.prog 133 #[.pointer (some ⟨g, 0, none⟩)] W fun e w' => e = .returned (.int .i64 258) ∧ RdO w' g a1 ∧ Gr g W w' := by
  have h := rnum_any g a0 W hR (by rw [a_size]; omega)
  rw [a_num] at h
  exact h
theorem a_c6 (g : Nat) (W : World) (hR : RdO W g a1) : Calls Tryz.prog 123 #[.pointer (some ⟨g, 0, none⟩)] W fun e w' => e = .returned (.string ⟨#[97, 98]⟩) ∧ RdO w' g a2 ∧ Gr g W w' := by
  have h := rtext_any g a1 W hR (Nat.le_trans a_size1 (by omega))
  rw [a_text] at h
  exact h
theorem a_c7 (g : Nat) (W : World) (hR : RdO W g a2) : Calls Tryz.prog 111 #[.pointer (some ⟨g, 0, none⟩)] W fun e w' => e = .returned (.int .u64 7) ∧ RdO w' g a3 ∧ Gr g W w' := by
  have h := rwide_any g a2 W hR (Nat.le_trans a_size2 (by omega))
  rw [a_wide] at h
  exact h
theorem a_c8 (g : Nat) (W : World) (hR : RdO W g a3) : Calls Tryz.prog 67 #[.pointer (some ⟨g, 0, none⟩)] W fun e w' => e = .returned (.bool true) ∧ W = w' := by
  have h := rend_any g a3 W hR
  rw [a_end] at h
  exact h

end Go.Proofs.YtbnmddopgbhapaaGreat
