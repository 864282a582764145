/-
  What a gate keeps: what is shut, and the pointers with their ages (no program is met here).
-/
import Derived.Test.YtompbhkmaalioaaArcIn
namespace Go.Proofs.Ytompbhkmaalioaa
open Go.RowKit

/-- a pointer: its arc, its node, how old it is -/
structure GP where
  f : Nat
  t : Nat
  n : Int
  g : Nat
/-- a gate: is something shut, what; the pointers; how many ticks went by -/
structure GS where
  shut : Bool
  f : Nat
  t : Nat
  l : List GP
  k : Nat
abbrev G0 : GS := ⟨false, 0, 0, [], 0⟩
def agedL (l : List GP) : List GP := (l.map fun p => (⟨p.f, p.t, p.n, p.g + 1⟩ : GP)).filter fun p => decide (p.g < 40)
def GS.freeze (s : GS) (f t : Nat) : GS := if s.shut then s else ⟨true, f, t, s.l, s.k⟩
def GS.thaw (s : GS) : GS := ⟨false, 0, 0, s.l, s.k⟩
def GS.point (s : GS) (f t : Nat) (n : Int) : GS := ⟨s.shut, s.f, s.t, s.l ++ [⟨f, t, n, 0⟩], s.k⟩
def GS.tick (s : GS) : GS := ⟨s.shut, s.f, s.t, agedL s.l, s.k + 1⟩
def GS.frozen (s : GS) (x : Nat) : Bool := s.shut && inB s.f s.t x
/-- the pointer that was set last, of those over x -/
def overL (l : List GP) (x : Nat) : Option Int := (l.reverse.find? fun p => inB p.f p.t x).map (·.n)
def whereV (o : Option Int) : Value := .tuple #[.int .i64 (o.getD 0), .bool o.isSome]
def GS.arcV (s : GS) : Value := .tuple #[.agg (if s.shut then #[.int .u64 (s.f : Nat), .int .u64 (s.t : Nat)] else #[.int .u64 0, .int .u64 0]), .bool s.shut]
theorem overL_snoc (l : List GP) (p : GP) (x : Nat) : overL (l ++ [p]) x = if inB p.f p.t x then some p.n else overL l x := by
  unfold overL
  rw [List.reverse_append, List.reverse_singleton, List.singleton_append, List.find?_cons]
  cases inB p.f p.t x <;> rfl
theorem overL_nil (x : Nat) : overL [] x = none := rfl
theorem agedL_nil : agedL [] = [] := rfl
theorem agedL_append (a b : List GP) : agedL (a ++ b) = agedL a ++ agedL b := by simp [agedL]
theorem agedL_one (f t : Nat) (n : Int) (g : Nat) : agedL [⟨f, t, n, g⟩] = if g + 1 < 40 then [⟨f, t, n, g + 1⟩] else [] := by
  unfold agedL
  by_cases h : g + 1 < 40 <;> simp [h]
theorem agedL_len (l : List GP) : (agedL l).length ≤ l.length := by
  unfold agedL
  have := List.length_filter_le (fun p : GP => decide (p.g < 40)) (l.map fun p => (⟨p.f, p.t, p.n, p.g + 1⟩ : GP))
  rw [List.length_map] at this
  exact this
/-- a pointer by itself, some ticks later -/
def oneL (f t : Nat) (n : Int) (k : Nat) : List GP := if k < 40 then [⟨f, t, n, k⟩] else []
theorem oneL_tick (f t : Nat) (n : Int) (k : Nat) : agedL (oneL f t n k) = oneL f t n (k + 1) := by
  unfold oneL
  by_cases h : k < 40
  · rw [if_pos h, agedL_one]
  · rw [if_neg h, if_neg (by omega)]
    rfl
end Go.Proofs.Ytompbhkmaalioaa
