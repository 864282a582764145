/-
  The document's Pick.
-/
import Derived.Test.YtfpoapmbpbkibaaSeatRef
namespace Go.Proofs.Ytfpoapmbpbkibaa
open Go.RowKit Pb

def farI (a b : Int) : Int := IntKind.u64.wrap (b - a)
theorem farI_range (a b : Int) : 0 ≤ farI a b ∧ farI a b < 18446744073709551616 := by unfold farI; rw [IntKind.wrap_u64]; omega
/-- how far it is to the next one of all -/
def roomI (p : Int) : List Int → Int
  | [] => 0
  | t :: r => r.foldl (fun m x => if farI p x < m then farI p x else m) (farI p t)
theorem roomI_nil (p x : Int) : roomI p ([] ++ [x]) = farI p x := rfl
theorem roomI_snoc (p x : Int) (ts : List Int) (h : ts ≠ []) : roomI p (ts ++ [x]) = if farI p x < roomI p ts then farI p x else roomI p ts := by
  cases ts with
  | nil => exact absurd rfl h
  | cons t r => show List.foldl _ _ (r ++ [x]) = _; rw [List.foldl_append]; rfl
def freeI (p : Int) (ts : List Int) : Bool := ts.all fun x => !(farI p x == 0)
theorem freeI_snoc (p x : Int) (ts : List Int) : freeI p (ts ++ [x]) = (freeI p ts && !(farI p x == 0)) := by simp [freeI]
/-- what is known of a seat: the room, where, whether any -/
def pickStep (ts : List Int) (s : Int × Int × Bool) (p : Int) : Int × Int × Bool :=
  if freeI p ts && (!s.2.2 || decide (s.1 < roomI p ts)) then (roomI p ts, p, true) else s
def pickS (ts l : List Int) : Int × Int × Bool := l.foldl (pickStep ts) (0, 0, false)
theorem pickS_snoc (ts l : List Int) (p : Int) : pickS ts (l ++ [p]) = pickStep ts (pickS ts l) p := by simp [pickS, List.foldl_append]
def pickI (id salt : Int) (ts : List Int) : Int × Bool := if ts = [] then (seatI id salt 0, true) else (pickS ts (seatsI id salt 4)).2
def pickV (id salt : Int) (ts : List Int) : Value := .tuple #[.int .u64 (pickI id salt ts).1, .bool (pickI id salt ts).2]
theorem take_snoc_at (l : List Int) (i : Nat) (h : i < l.length) : l.take (i + 1) = l.take i ++ [l[i]] := by
  rw [List.take_succ_eq_append_getElem h]

end Go.Proofs.Ytfpoapmbpbkibaa
