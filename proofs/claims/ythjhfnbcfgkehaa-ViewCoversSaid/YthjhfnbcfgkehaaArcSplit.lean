/-
  The walks of arc.Apart, arc.Split, arc.Join.
-/
import Derived.Test.YthjhfnbcfgkehaaArcIn
import Derived.RegionTactic
import Derived.ChangeAlike
namespace Go.Proofs.Ythjhfnbcfgkehaa
open Go.RowKit

set_option maxHeartbeats 400000 in
theorem apart_any (f t g u : Nat) (w : World) (hf : f < 18446744073709551616) (ht : t < 18446744073709551616) (hg : g < 18446744073709551616) (hu : u < 18446744073709551616) :
    Calls Try.prog 12 #[.agg #[.int .u64 f, .int .u64 t], .agg #[.int .u64 g, .int .u64 u]] w fun e w' => e = .returned (.bool (apartB f t g u)) ∧ Below w.heap.size w w' := by
  have C1 := Lib.hid fun W => in_any f t g W hf ht hg
  have C2 := Lib.hid fun W => in_any g u f W hg hu hf
  clear hf ht hg hu
  unfold apartB
  generalize inB f t g = p at *
  generalize inB g u f = q at *
  go_enter Try.func12, Try.ntmps12
  cases p
  all_goals
    go_wp2_with (first
      | (go_at_call 10; ((with_reducible refine (C1.out _).mono ?_); rintro e w1 ⟨rfl, hb1⟩; obtain ⟨hc1, hf1⟩ := bcell hb1))
      | (go_at_call 10; ((with_reducible refine (C2.out _).mono ?_); rintro e w2 ⟨rfl, hb2⟩)))
  · go_ret
    exact ⟨by simp, (below2 w _ _).trans ((hb1.mono (by simp; omega)).trans (hb2.mono (by have := hb1.size; simp at this; omega)))⟩
  · go_ret
    exact ⟨by simp, (below2 w _ _).trans (hb1.mono (by simp; omega))⟩

theorem below3 (w : World) (o1 o2 o3 : Obj) : Below w.heap.size w (((w.alloc o1).alloc o2).alloc o3) := (below2 w o1 o2).alloc (by simp; omega) o3
/-- may the arc be cut there? -/
def mayB (f t x : Nat) : Bool := !(x == f) && inB f t x
def arcOf (b : Bool) (f t : Nat) : Value := .agg #[.int .u64 ((if b then f else 0 : Nat)), .int .u64 ((if b then t else 0 : Nat))]
theorem arcOf_yes (f t : Nat) : arcOf true f t = .agg #[.int .u64 f, .int .u64 t] := rfl
theorem arcOf_no (f t : Nat) : arcOf false f t = .agg #[.int .u64 0, .int .u64 0] := rfl

/-- may the two be put together? -/
def joinB (f t g u : Nat) : Bool := (t == g) && apartB f t g u

end Go.Proofs.Ythjhfnbcfgkehaa
