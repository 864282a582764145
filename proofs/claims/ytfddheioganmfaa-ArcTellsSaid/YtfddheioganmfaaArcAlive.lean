/-
  The walk of 'alive', the first call of every statement of chapter 2.
-/
import Derived.Test.YtfddheioganmfaaArcWithin
namespace Go.Proofs.Ytfddheioganmfaa
open Go.RowKit

theorem in_1 (w : World) : Calls Try.prog 14 #[.agg #[.int .u64 9, .int .u64 3], .int .u64 1] w fun e w' => e = .returned (.bool true) ∧ Below w.heap.size w w' := by
  have h := in_any 9 3 1 w (by omega) (by omega) (by omega)
  have e : inB 9 3 1 = true := by decide +kernel
  rw [e] at h
  exact h
theorem in_3 (w : World) : Calls Try.prog 14 #[.agg #[.int .u64 9, .int .u64 3], .int .u64 3] w fun e w' => e = .returned (.bool false) ∧ Below w.heap.size w w' := by
  have h := in_any 9 3 3 w (by omega) (by omega) (by omega)
  have e : inB 9 3 3 = false := by decide +kernel
  rw [e] at h
  exact h
theorem split_1 (w : World) : Calls Try.prog 12 #[.agg #[.int .u64 9, .int .u64 3], .int .u64 1] w fun e w' => e = .returned (.tuple #[.agg #[.int .u64 9, .int .u64 1], .agg #[.int .u64 1, .int .u64 3], .bool true]) ∧ Below w.heap.size w w' := by
  have h := split_any 9 3 1 w (by omega) (by omega) (by omega)
  have e : mayB 9 3 1 = true := by decide +kernel
  rw [e] at h
  exact h
theorem whole_0 (w : World) : Calls Try.prog 15 #[.agg #[.int .u64 0, .int .u64 0]] w fun e w' => e = .returned (.bool true) ∧ Below w.heap.size w w' := whole_any 0 0 w

set_option maxHeartbeats 400000 in
theorem alive_any (w : World) :
    Calls Try.prog 11 #[] w fun e w' => e = .returned (.bool true) ∧ Below w.heap.size w w' := by
  have c1 := Lib.hid in_1
  have c2 := Lib.hid in_3
  have c3 := Lib.hid split_1
  have c4 := Lib.hid whole_0
  go_enter Try.func11, Try.ntmps11
  go_wp2_with (first
    | (go_at_call 12; ((with_reducible refine (c3.out _).mono ?_); rintro e w1 ⟨rfl, hb1⟩))
    | (go_at_call 14; ((with_reducible refine (c1.out _).mono ?_); rintro e w2 ⟨rfl, hb2⟩; obtain ⟨hc2, hf2⟩ := bcell hb2; have hz : w1.heap.size < w2.heap.size := (by have := hb2.size; simp at this; omega); have hz1 : w1.heap.size + 1 < w2.heap.size := (by have := hb2.size; simp at this; omega)))
    | (go_at_call 14; ((with_reducible refine (c2.out _).mono ?_); rintro e w3 ⟨rfl, hb3⟩; obtain ⟨hc3, hf3⟩ := bcell hb3))
    | (go_at_call 15; ((with_reducible refine (c4.out _).mono ?_); rintro e w4 ⟨rfl, hb4⟩)))
  go_ret
  have z1 := hb1.size
  have z3 := hb3.size
  exact ⟨rfl, (((((hb1.alloc z1 _).alloc (by simp; omega) _).trans (hb2.mono (by simp; omega))).trans (hb3.mono (by omega))).trans (hb4.mono (by omega)))⟩
end Go.Proofs.Ytfddheioganmfaa
