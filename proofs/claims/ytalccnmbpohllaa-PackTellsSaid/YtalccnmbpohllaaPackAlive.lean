/-
  The walk of the first call of chapter 3's statements.
-/
import Derived.Test.YtalccnmbpohllaaPackNum
namespace Go.Proofs.Ytalccnmbpohllaa
open Go.RowKit

theorem rend_any (g : Nat) (o : Option ByteArray) (W : World) (hR : RdO W g o) :
    Calls Try.prog 24 #[.pointer (some ⟨g, 0, none⟩)] W fun e w' => e = .returned (.bool (o.isSome && noneB (o.getD ByteArray.empty))) ∧ W = w' := end_any g _ _ W hR
theorem rbad_any (g : Nat) (o : Option ByteArray) (W : World) (hR : RdO W g o) :
    Calls Try.prog 23 #[.pointer (some ⟨g, 0, none⟩)] W fun e w' => e = .returned (.bool (!o.isSome)) ∧ W = w' := bad_any g _ _ W hR

def aN : ByteArray := numT 258
def aT : ByteArray := textT ⟨#[97, 98]⟩
def aX : ByteArray := txt (wideN 8 7)
def a0 : Option ByteArray := some (aN ++ aT ++ aX)
def a1 : Option ByteArray := restO a0 2
def a2 : Option ByteArray := restT a1
def a3 : Option ByteArray := restO a2 8
theorem a_num : numO a0 2 = 258 := by kernel_rfl
theorem a_text : textO a1 = ⟨#[97, 98]⟩ := by kernel_rfl
theorem a_wide : numO a2 8 = 7 := by kernel_rfl
theorem a_end : (a3.isSome && noneB (a3.getD ByteArray.empty)) = true := by decide +kernel
theorem a_size : sizeO a0 = 13 := by kernel_rfl
theorem a_size1 : sizeO a1 ≤ 13 := a_size ▸ sizeO_rest _ _
theorem a_size2 : sizeO a2 ≤ 13 := Nat.le_trans (sizeO_restT _) a_size1
theorem a_eq : (aN.toList == [1, 2]) = true := by decide +kernel
theorem a_c1 (W : World) : Calls Try.prog 10 #[.int .i64 258] W fun e w' => e = .returned (.tuple #[.string aN, .bool true]) ∧ Below W.heap.size W w' := num_any 258 W (by omega) (by omega)
theorem a_c2 (W : World) : Calls Try.prog 11 #[.string ⟨#[97, 98]⟩] W fun e w' => e = .returned (.tuple #[.string aT, .bool true]) ∧ Below W.heap.size W w' := text_any _ W (by decide)
theorem a_c3 (W : World) : Calls Try.prog 14 #[.int .u64 7] W fun e w' => e = .returned (.string aX) ∧ Below W.heap.size W w' := wide_any 7 W (by omega)
theorem a_c4 (W : World) : Calls Try.prog 16 #[.string (aN ++ aT ++ aX)] W fun e w' => e = .returned (.pointer (some ⟨W.heap.size, 0, none⟩)) ∧ Below W.heap.size W w' ∧ RdO w' W.heap.size a0 := from_any _ W
theorem a_c5 (g : Nat) (W : World) (hR : RdO W g a0) : Calls Try.prog 17 #[.pointer (some ⟨g, 0, none⟩)] W fun e w' => e = .returned (.int .i64 258) ∧ RdO w' g a1 ∧ Gr g W w' := by
  have h := rnum_any g a0 W hR (by rw [a_size]; omega)
  rw [a_num] at h
  exact h
theorem a_c6 (g : Nat) (W : World) (hR : RdO W g a1) : Calls Try.prog 19 #[.pointer (some ⟨g, 0, none⟩)] W fun e w' => e = .returned (.string ⟨#[97, 98]⟩) ∧ RdO w' g a2 ∧ Gr g W w' := by
  have h := rtext_any g a1 W hR (Nat.le_trans a_size1 (by omega))
  rw [a_text] at h
  exact h
theorem a_c7 (g : Nat) (W : World) (hR : RdO W g a2) : Calls Try.prog 21 #[.pointer (some ⟨g, 0, none⟩)] W fun e w' => e = .returned (.int .u64 7) ∧ RdO w' g a3 ∧ Gr g W w' := by
  have h := rwide_any g a2 W hR (Nat.le_trans a_size2 (by omega))
  rw [a_wide] at h
  exact h
theorem a_c8 (g : Nat) (W : World) (hR : RdO W g a3) : Calls Try.prog 24 #[.pointer (some ⟨g, 0, none⟩)] W fun e w' => e = .returned (.bool true) ∧ W = w' := by
  have h := rend_any g a3 W hR
  rw [a_end] at h
  exact h

set_option maxHeartbeats 1000000 in
theorem alive_any (w : World) :
    Calls Try.prog 9 #[] w fun e w' => e = .returned (.bool true) ∧ Below w.heap.size w w' := by
  have C4 := Lib.hid a_c4
  have C5 := Lib.hid a_c5
  have C6 := Lib.hid a_c6
  have C7 := Lib.hid a_c7
  have C8 := Lib.hid a_c8
  have C1 := Lib.hid a_c1
  have C2 := Lib.hid a_c2
  have C3 := Lib.hid a_c3
  have hE := a_eq
  have hN : aN.size ≤ 2 := by decide +kernel
  have hT : aT.size ≤ 3 := by decide +kernel
  have hX : aX.size ≤ 8 := by decide +kernel
  have hNX : (aN ++ aT).size ≤ 5 := by decide +kernel
  generalize a0 = o0 at *
  generalize a1 = o1 at *
  generalize a2 = o2 at *
  generalize a3 = o3 at *
  generalize aN = N at *
  generalize aT = T at *
  generalize aX = X at *
  go_enter Try.func9, Try.ntmps9
  go_wp2_with (first
    | (go_at_call 10; ((with_reducible refine (C1.out _).mono ?_); rintro e w1 ⟨rfl, hb1⟩))
    | (go_at_call 11; ((with_reducible refine (C2.out _).mono ?_); rintro e w2 ⟨rfl, hb2⟩))
    | (go_at_call 14; ((with_reducible refine (C3.out _).mono ?_); rintro e w3 ⟨rfl, hb3⟩))
    | (go_at_call 16; ((with_reducible refine (C4.out _).mono ?_); rintro e w4 ⟨rfl, hb4, hR4⟩; have HR4 := Lib.hid hR4; clear hR4))
    | (go_at_call 17; ((with_reducible refine (C5.out _ _ HR4.out).mono ?_); rintro e w5 ⟨rfl, hR5, hg5⟩; have HR5 := Lib.hid hR5; have HG5 := Lib.hid hg5; clear hR5 hg5))
    | (go_at_call 19; ((with_reducible refine (C6.out _ _ HR5.out).mono ?_); rintro e w6 ⟨rfl, hR6, hg6⟩; have HR6 := Lib.hid hR6; have HG6 := Lib.hid hg6; clear hR6 hg6))
    | (go_at_call 21; ((with_reducible refine (C7.out _ _ HR6.out).mono ?_); rintro e w7 ⟨rfl, hR7, hg7⟩; have HR7 := Lib.hid hR7; have HG7 := Lib.hid hg7; clear hR7 hg7))
    | (go_at_call 24; ((with_reducible refine (C8.out _ _ HR7.out).mono ?_); rintro e w8 ⟨rfl, rfl⟩)))
  go_ret
  have h1 := acc hb1 hb2
  have h2 := acc h1 hb3
  have h3 := acc h2 hb4
  exact ⟨rfl, Gr.acc h3 (HG5.out.trans (HG6.out.trans HG7.out)) h2.size⟩

end Go.Proofs.Ytalccnmbpohllaa
