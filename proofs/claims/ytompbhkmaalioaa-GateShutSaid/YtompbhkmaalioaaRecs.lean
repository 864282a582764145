/-
  A row of records: the cells of a list's elements, one behind the other. (Taken out of LinkBase.)
-/
import Derived.Test.YtompbhkmaalioaaRowOps
namespace Go.Proofs.Ytompbhkmaalioaa
open Go.RowKit

/-- the cells of a list's elements, one behind the other -/
def rowC {α : Type} (enc : α → Array Value) (l : List α) : List Value := l.flatMap fun x => (enc x).toList
theorem rowC_nil {α : Type} (enc : α → Array Value) : rowC enc [] = [] := rfl
theorem rowC_cons {α : Type} (enc : α → Array Value) (x : α) (l : List α) : rowC enc (x :: l) = (enc x).toList ++ rowC enc l := rfl
theorem rowC_append {α : Type} (enc : α → Array Value) (l m : List α) : rowC enc (l ++ m) = rowC enc l ++ rowC enc m := by simp [rowC]
theorem rowC_one1 {α : Type} (enc : α → Array Value) (x : α) : rowC enc [x] = (enc x).toList := by simp [rowC]
theorem rowC_length {α : Type} {enc : α → Array Value} {k : Nat} (h : ∀ x, (enc x).size = k) : ∀ l : List α, (rowC enc l).length = l.length * k
  | [] => by simp [rowC_nil]
  | x :: l => by rw [rowC_cons, List.length_append, rowC_length h l, Array.length_toList, h, List.length_cons, Nat.add_mul]; omega
theorem rowC_get {α : Type} {enc : α → Array Value} {k : Nat} (h : ∀ x, (enc x).size = k) : ∀ (l : List α) (i j : Nat) (x : α), l[i]? = some x → j < k → (rowC enc l)[i * k + j]? = (enc x)[j]?
  | y :: l, 0, j, x, hx, hj => by
    simp at hx
    subst hx
    rw [Nat.zero_mul, Nat.zero_add, rowC_cons, List.getElem?_append_left (by rw [Array.length_toList, h]; exact hj), Array.getElem?_toList]
  | y :: l, i + 1, j, x, hx, hj => by
    rw [rowC_cons, Nat.add_mul, List.getElem?_append_right (by rw [Array.length_toList, h]; omega), show i * k + 1 * k + j - (enc y).toList.length = i * k + j by rw [Array.length_toList, h]; omega, rowC_get h l i j x (by simpa using hx) hj]
  | [], i, j, x, hx, hj => by cases hx
theorem rowC_take {α : Type} {enc : α → Array Value} {k : Nat} (h : ∀ x, (enc x).size = k) (l : List α) (n : Nat) : (rowC enc l).take (n * k) = rowC enc (l.take n) := by
  induction l generalizing n with
  | nil => simp [rowC]
  | cons p l ih =>
    cases n with
    | zero => simp [rowC]
    | succ n => rw [show (n + 1) * k = (enc p).toList.length + n * k by rw [Array.length_toList, h, Nat.add_mul]; omega, rowC_cons, List.take_length_add_append, ih, List.take_succ_cons, rowC_cons]
theorem rowC_drop {α : Type} {enc : α → Array Value} {k : Nat} (h : ∀ x, (enc x).size = k) (l : List α) (n : Nat) : (rowC enc l).drop (n * k) = rowC enc (l.drop n) := by
  induction l generalizing n with
  | nil => simp [rowC]
  | cons p l ih =>
    cases n with
    | zero => simp
    | succ n => rw [show (n + 1) * k = (enc p).toList.length + n * k by rw [Array.length_toList, h, Nat.add_mul]; omega, rowC_cons, List.drop_length_add_append, ih, List.drop_succ_cons]
theorem rowC_all {α : Type} {enc : α → Array Value} {l : List α} (h : ∀ x ∈ l, (enc x).all (·.oneCell') = true) : ∀ u ∈ rowC enc l, u.oneCell' = true := by
  intro u hu
  obtain ⟨p, hp1, hp⟩ := List.mem_flatMap.1 hu
  exact Array.all_eq_true_iff_forall_mem.1 (h p hp1) u (by simpa using hp)
end Go.Proofs.Ytompbhkmaalioaa
