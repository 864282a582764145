/-
  The walk of the statement PackNothing of chapter 3.
-/
import Derived.Test.YtalccnmbpohllaaPackAlive
namespace Go.Proofs.Ytalccnmbpohllaa
open Go.RowKit

def eE : Option ByteArray := some ByteArray.empty
def eN : Option ByteArray := none
theorem e_c4 (W : World) : Calls Try.prog 16 #[.string ⟨#[]⟩] W fun e w' => e = .returned (.pointer (some ⟨W.heap.size, 0, none⟩)) ∧ Below W.heap.size W w' ∧ RdO w' W.heap.size eE := from_any _ W
theorem e_num (g : Nat) (W : World) (hR : RdO W g eE) : Calls Try.prog 17 #[.pointer (some ⟨g, 0, none⟩)] W fun e w' => e = .returned (.int .i64 0) ∧ RdO w' g eN ∧ Gr g W w' := rnum_any g eE W hR (by decide)
theorem e_text (g : Nat) (W : World) (hR : RdO W g eE) : Calls Try.prog 19 #[.pointer (some ⟨g, 0, none⟩)] W fun e w' => e = .returned (.string ⟨#[]⟩) ∧ RdO w' g eN ∧ Gr g W w' := rtext_any g eE W hR (by decide)
theorem e_wide (g : Nat) (W : World) (hR : RdO W g eE) : Calls Try.prog 21 #[.pointer (some ⟨g, 0, none⟩)] W fun e w' => e = .returned (.int .u64 0) ∧ RdO w' g eN ∧ Gr g W w' := rwide_any g eE W hR (by decide)
theorem e_end (g : Nat) (W : World) (hR : RdO W g eE) : Calls Try.prog 24 #[.pointer (some ⟨g, 0, none⟩)] W fun e w' => e = .returned (.bool true) ∧ W = w' := by
  have h := rend_any g eE W hR
  rw [show (eE.isSome && noneB (eE.getD ByteArray.empty)) = true by decide +kernel] at h
  exact h
theorem e_bad (g : Nat) (W : World) (hR : RdO W g eE) : Calls Try.prog 23 #[.pointer (some ⟨g, 0, none⟩)] W fun e w' => e = .returned (.bool false) ∧ W = w' := rbad_any g eE W hR
theorem n_end (g : Nat) (W : World) (hR : RdO W g eN) : Calls Try.prog 24 #[.pointer (some ⟨g, 0, none⟩)] W fun e w' => e = .returned (.bool false) ∧ W = w' := rend_any g eN W hR
theorem n_bad (g : Nat) (W : World) (hR : RdO W g eN) : Calls Try.prog 23 #[.pointer (some ⟨g, 0, none⟩)] W fun e w' => e = .returned (.bool true) ∧ W = w' := rbad_any g eN W hR

set_option maxHeartbeats 1000000 in
theorem packNothing_walk (k : Int) (w : World) (_h0 : -9223372036854775808 ≤ k) (_h1 : k ≤ 9223372036854775807) :
    Calls Try.prog 7 #[.int .i64 k] w fun e w' => e = .returned (.bool true) ∧ Below w.heap.size w w' := by
  have C0 := Lib.hid alive_any
  have C4 := Lib.hid e_c4
  have C5 := Lib.hid e_num
  have C6 := Lib.hid e_text
  have C7 := Lib.hid e_wide
  have C8 := Lib.hid e_end
  have C9 := Lib.hid e_bad
  have D8 := Lib.hid n_end
  have D9 := Lib.hid n_bad
  generalize eE = o0 at *
  generalize eN = o1 at *
  clear _h0 _h1
  go_enter Try.func7, Try.ntmps7
  go_wp2_with (first
    | (go_at_call 9; ((with_reducible refine (C0.out _).mono ?_); rintro e w1 ⟨rfl, hb1⟩; have HB1 := Lib.hid hb1; clear hb1))
    | (go_at_call 16; ((with_reducible refine (C4.out _).mono ?_); rintro e w4 ⟨rfl, hb4, hR4⟩; have HR4 := Lib.hid hR4; have HB4 := Lib.hid (acc HB1.out hb4); have HZ := Lib.hid HB1.out.size; clear hR4 hb4))
    | (go_at_call 24; ((with_reducible refine (D8.out _ _ HR5.out).mono ?_); rintro e w9 ⟨rfl, rfl⟩))
    | (go_at_call 23; ((with_reducible refine (D9.out _ _ HR5.out).mono ?_); rintro e w9 ⟨rfl, rfl⟩))
    | (go_at_call 24; ((with_reducible refine (C8.out _ _ HR4.out).mono ?_); rintro e w9 ⟨rfl, rfl⟩))
    | (go_at_call 23; ((with_reducible refine (C9.out _ _ HR4.out).mono ?_); rintro e w9 ⟨rfl, rfl⟩))
    | (go_at_call 17; ((with_reducible refine (C5.out _ _ HR4.out).mono ?_); rintro e w5 ⟨rfl, hR5, hg5⟩; have HR5 := Lib.hid hR5; have HG5 := Lib.hid hg5; clear hR5 hg5))
    | (go_at_call 19; ((with_reducible refine (C6.out _ _ HR4.out).mono ?_); rintro e w5 ⟨rfl, hR5, hg5⟩; have HR5 := Lib.hid hR5; have HG5 := Lib.hid hg5; clear hR5 hg5))
    | (go_at_call 21; ((with_reducible refine (C7.out _ _ HR4.out).mono ?_); rintro e w5 ⟨rfl, hR5, hg5⟩; have HR5 := Lib.hid hR5; have HG5 := Lib.hid hg5; clear hR5 hg5)))
  all_goals go_ret
  all_goals first
    | exact ⟨rfl, Gr.acc HB4.out HG5.out HZ.out⟩
    | exact ⟨rfl, HB4.out⟩

end Go.Proofs.Ytalccnmbpohllaa
