/-
  The walks of arc.Apart, arc.Split, arc.Join.
-/
import Derived.Test.YtojiblhaiokdcaaArcIn
import Derived.RegionTactic
import Derived.ChangeAlike
namespace Go.Proofs.Ytojiblhaiokdcaa
open Go.RowKit

theorem below3 (w : World) (o1 o2 o3 : Obj) : Below w.heap.size w (((w.alloc o1).alloc o2).alloc o3) := (below2 w o1 o2).alloc (by simp; omega) o3
/-- may the arc be cut there? -/
def mayB (f t x : Nat) : Bool := !(x == f) && inB f t x
def arcOf (b : Bool) (f t : Nat) : Value := .agg #[.int .u64 ((if b then f else 0 : Nat)), .int .u64 ((if b then t else 0 : Nat))]
theorem arcOf_yes (f t : Nat) : arcOf true f t = .agg #[.int .u64 f, .int .u64 t] := rfl
theorem arcOf_no (f t : Nat) : arcOf false f t = .agg #[.int .u64 0, .int .u64 0] := rfl

set_option maxHeartbeats 400000 in
theorem arcSplit_any (f t x : Nat) (w : World) (hf : f < 18446744073709551616) (ht : t < 18446744073709551616) (hx : x < 18446744073709551616) :
    Calls Try.prog 21 #[.agg #[.int .u64 f, .int .u64 t], .int .u64 x] w fun e w' => e = .returned (.tuple #[arcOf (mayB f t x) f x, arcOf (mayB f t x) x t, .bool (mayB f t x)]) ∧ Below w.heap.size w w' := by
  have C1 := Lib.hid fun W => in_any f t x W hf ht hx
  clear hf ht hx
  unfold mayB
  generalize inB f t x = p at *
  have b1 := nat_beq x f
  generalize (x == f) = q at *
  cases q
  · cases p
    · go_enter Try.func21, Try.ntmps21
      go_wp2_with (go_at_call 37; ((with_reducible refine (C1.out _).mono ?_); rintro e w1 ⟨rfl, hb1⟩; obtain ⟨hc1, hf1⟩ := bcell hb1))
      exact bodyPost_ret (v := .tuple #[.agg #[.int .u64 0, .int .u64 0], .agg #[.int .u64 0, .int .u64 0], .bool false]) (by simp [results, Try.results21, go_sem, hc1]) rfl ⟨rfl, by have hb := (below3 w _ _ _).trans (hb1.mono (by simp; omega)); exact (((hb.setCell (by simp) _).setCell (by simp) _).setCell (by simp; omega) _).setCell (by simp; omega) _⟩
    · go_enter Try.func21, Try.ntmps21
      go_wp2_with (go_at_call 37; ((with_reducible refine (C1.out _).mono ?_); rintro e w1 ⟨rfl, hb1⟩; obtain ⟨hc1, hf1⟩ := bcell hb1))
      have hs0 := hb1.size
      simp at hs0
      go_region
      go_wp2
      refine bodyPost_ret (v := .tuple #[.agg #[.int .u64 f, .int .u64 x], .agg #[.int .u64 x, .int .u64 t], .bool true]) (by simp [results, Try.results21, go_sem, hc1]) rfl ⟨rfl, ?_⟩
      have hb := (below3 w _ _ _).trans (hb1.mono (by simp; omega))
      exact ((((hb.setCell (by simp) _).setCell (by simp) _).setCell (by simp; omega) _).setCell (by simp; omega) _).drew
  · go_enter Try.func21, Try.ntmps21
    go_wp2
    exact bodyPost_ret (v := .tuple #[.agg #[.int .u64 0, .int .u64 0], .agg #[.int .u64 0, .int .u64 0], .bool false]) (by simp [results, Try.results21, go_sem]) rfl ⟨rfl, below3 w _ _ _⟩

/-- may the two be put together? -/
def joinB (f t g u : Nat) : Bool := (t == g) && apartB f t g u

end Go.Proofs.Ytojiblhaiokdcaa
