/-
  The walks of the document's own answers to chapter 2, and of the calls of package arc that only reckon.
-/
import Derived.Test.YtfddheioganmfaaArcBase
namespace Go.Proofs.Ytfddheioganmfaa
open Go.RowKit

theorem nat_beq (a b : Nat) : ((a : Int) == (b : Int)) = (a == b) := by
  rw [Bool.eq_iff_iff, beq_iff_eq, beq_iff_eq]; omega
theorem below2 (w : World) (o1 o2 : Obj) : Below w.heap.size w ((w.alloc o1).alloc o2) := ((Below.refl _ _).alloc (Nat.le_refl _) o1).alloc (by simp) o2

set_option maxHeartbeats 400000 in
theorem refIn_any (f t x : Nat) (w : World) (hf : f < 18446744073709551616) (ht : t < 18446744073709551616) (hx : x < 18446744073709551616) :
    Calls Try.prog 13 #[.agg #[.int .u64 f, .int .u64 t], .int .u64 x] w fun e w' => e = .returned (.bool (inB f t x)) ∧ Below w.heap.size w w' := by
  have e1 := sub_u64 hx hf
  have e2 := sub_u64 ht hf
  clear hf ht hx
  by_cases h : f = t
  · have b1 : ((f : Int) == (t : Int)) = true := by rw [beq_iff_eq]; omega
    have e : inB f t x = true := by simp [inB, h]
    rw [e]
    clear h e e1 e2
    go_enter Try.func13, Try.ntmps13
    go_wp2
    go_ret
    exact ⟨rfl, (Below.refl _ _).alloc (Nat.le_refl _) _⟩
  · have b1 : ((f : Int) == (t : Int)) = false := by rw [beq_eq_false_iff_ne]; omega
    have e : inB f t x = decide (sub64 x f < sub64 t f) := by simp [inB, h]
    rw [e]
    clear h e
    generalize sub64 x f = a at *
    generalize sub64 t f = b at *
    go_enter Try.func13, Try.ntmps13
    go_wp2
    go_ret
    exact ⟨rfl, (Below.refl _ _).alloc (Nat.le_refl _) _⟩

set_option maxHeartbeats 400000 in
theorem whole_any (f t : Nat) (w : World) :
    Calls Try.prog 15 #[.agg #[.int .u64 f, .int .u64 t]] w fun e w' => e = .returned (.bool (f == t)) ∧ Below w.heap.size w w' := by
  have b1 := nat_beq f t
  generalize (f == t) = b at *
  go_enter Try.func15, Try.ntmps15
  go_wp2
  go_ret
  exact ⟨rfl, (Below.refl _ _).alloc (Nat.le_refl _) _⟩

set_option maxHeartbeats 400000 in
theorem size_any (f t : Nat) (w : World) (hf : f < 18446744073709551616) (ht : t < 18446744073709551616) :
    Calls Try.prog 16 #[.agg #[.int .u64 f, .int .u64 t]] w fun e w' => e = .returned (.int .u64 (sub64 t f : Nat)) ∧ Below w.heap.size w w' := by
  have e2 := sub_u64 ht hf
  clear hf ht
  generalize sub64 t f = b at *
  go_enter Try.func16, Try.ntmps16
  go_wp2
  go_ret
  exact ⟨rfl, (Below.refl _ _).alloc (Nat.le_refl _) _⟩

set_option maxHeartbeats 400000 in
theorem last_any (f t : Nat) (w : World) (ht : t < 18446744073709551616) :
    Calls Try.prog 23 #[.agg #[.int .u64 f, .int .u64 t]] w fun e w' => e = .returned (.int .u64 (lastN t : Nat)) ∧ Below w.heap.size w w' := by
  have e2 : IntKind.u64.wrap ((t : Int) - 1) = ((sub64 t 1 : Nat) : Int) := sub_u64 ht (show 1 < 18446744073709551616 by omega)
  clear ht
  unfold lastN
  generalize sub64 t 1 = b at *
  go_enter Try.func23, Try.ntmps23
  go_wp2
  go_ret
  exact ⟨rfl, (Below.refl _ _).alloc (Nat.le_refl _) _⟩

set_option maxHeartbeats 400000 in
theorem refApart_any (f t g u : Nat) (w : World) (hf : f < 18446744073709551616) (ht : t < 18446744073709551616) (hg : g < 18446744073709551616) (hu : u < 18446744073709551616) :
    Calls Try.prog 18 #[.agg #[.int .u64 f, .int .u64 t], .agg #[.int .u64 g, .int .u64 u]] w fun e w' => e = .returned (.bool (apartB f t g u)) ∧ Below w.heap.size w w' := by
  have C1 := Lib.hid fun W => refIn_any f t g W hf ht hg
  have C2 := Lib.hid fun W => refIn_any g u f W hg hu hf
  clear hf ht hg hu
  unfold apartB
  generalize inB f t g = p at *
  generalize inB g u f = q at *
  go_enter Try.func18, Try.ntmps18
  cases p
  all_goals
    go_wp2_with (first
      | (go_at_call 13; ((with_reducible refine (C1.out _).mono ?_); rintro e w1 ⟨rfl, hb1⟩; obtain ⟨hc1, hf1⟩ := bcell hb1))
      | (go_at_call 13; ((with_reducible refine (C2.out _).mono ?_); rintro e w2 ⟨rfl, hb2⟩)))
  · go_ret
    exact ⟨by simp, (below2 w _ _).trans ((hb1.mono (by simp; omega)).trans (hb2.mono (by have := hb1.size; simp at this; omega)))⟩
  · go_ret
    exact ⟨by simp, (below2 w _ _).trans (hb1.mono (by simp; omega))⟩

set_option maxHeartbeats 400000 in
theorem refWithin_any (f t g u : Nat) (w : World) (hf : f < 18446744073709551616) (ht : t < 18446744073709551616) (hg : g < 18446744073709551616) (hu : u < 18446744073709551616) :
    Calls Try.prog 20 #[.agg #[.int .u64 f, .int .u64 t], .agg #[.int .u64 g, .int .u64 u]] w fun e w' => e = .returned (.bool (withinB f t g u)) ∧ Below w.heap.size w w' := by
  have C1 := Lib.hid fun W => refIn_any f t g W hf ht hg
  have e1 := sub_u64 hu hg
  have e2 := sub_u64 ht hg
  clear hf ht hg hu
  unfold withinB
  generalize inB f t g = p at *
  generalize sub64 u g = a at *
  generalize sub64 t g = b at *
  have b1 := nat_beq f t
  have b2 := nat_beq g u
  generalize (f == t) = x1 at *
  generalize (g == u) = x2 at *
  cases x1
  · cases x2
    · cases p
      · go_enter Try.func20, Try.ntmps20
        go_wp2_with (go_at_call 13; ((with_reducible refine (C1.out _).mono ?_); rintro e w1 ⟨rfl, hb1⟩; obtain ⟨hc1, hf1⟩ := bcell hb1))
        go_ret
        exact ⟨by simp, (below2 w _ _).trans (hb1.mono (by simp; omega))⟩
      · go_enter Try.func20, Try.ntmps20
        go_wp2_with (go_at_call 13; ((with_reducible refine (C1.out _).mono ?_); rintro e w1 ⟨rfl, hb1⟩; obtain ⟨hc1, hf1⟩ := bcell hb1))
        go_ret
        exact ⟨by simp, (below2 w _ _).trans (hb1.mono (by simp; omega))⟩
    · go_enter Try.func20, Try.ntmps20
      go_wp2
      go_ret
      exact ⟨by simp, below2 w _ _⟩
  · go_enter Try.func20, Try.ntmps20
    go_wp2
    go_ret
    exact ⟨by simp, below2 w _ _⟩
end Go.Proofs.Ytfddheioganmfaa
