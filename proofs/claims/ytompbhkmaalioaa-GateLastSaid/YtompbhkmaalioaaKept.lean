/-
  Blocks that stay, whatever is done beside them.
-/
import Derived.Test.YtompbhkmaalioaaPackKeep
import Derived.Test.YtompbhkmaalioaaItems
namespace Go.Proofs.Ytompbhkmaalioaa
open Go.RowKit

/-- blocks of P stay -/
def Kept (P : List Nat) (w w' : World) : Prop := ∃ G, Touch G w w' ∧ ∀ q ∈ P, q ∉ G
theorem Kept.below {P : List Nat} {w w' : World} (h : Below w.heap.size w w') : Kept P w w' := ⟨[], Touch.ofBelow h, by simp⟩
theorem Kept.row {P : List Nat} {a b : World} (h : Kept P a b) {base e size n : Nat} {v : Value} {xs : List Value} (hr : a.ownsRow base e size v n xs) (hP : ∀ q, v.ownBlock = some q → q ∈ P) : b.ownsRow base e size v n xs := by
  obtain ⟨G, t, n⟩ := h
  exact t.row hr (fun q hq => n q (hP q hq))
theorem Kept.size {P : List Nat} {a b : World} (h : Kept P a b) : a.heap.size ≤ b.heap.size := by
  obtain ⟨G, t, n⟩ := h
  exact t.size
theorem Kept.block {P : List Nat} {a b : World} (h : Kept P a b) {q : Nat} (hP : q ∈ P) (hq : q < a.heap.size) : b.heap[q]? = a.heap[q]? := by
  obtain ⟨G, t, n⟩ := h
  exact t.block q hq (n q hP)
theorem Kept.cell {P : List Nat} {a b : World} (h : Kept P a b) {p : Addr} (hP : p.block ∈ P) (hq : p.block < a.heap.size) : b.cell? p = a.cell? p := World.cell?_of_block (w := a) (h.block hP hq)
theorem Kept.trans {P : List Nat} {a b c : World} (h : Kept P a b) (k : Kept P b c) : Kept P a c := by
  obtain ⟨G, t, n⟩ := h
  obtain ⟨H, u, m⟩ := k
  exact ⟨G ++ H, (t.mono (fun x hx => List.mem_append_left _ hx)).trans u (fun x hx => .inl (List.mem_append_right _ hx)), fun q hq z => (List.mem_append.1 z).elim (n q hq) (m q hq)⟩
theorem Kept.less {P Q : List Nat} {a b : World} (h : Kept P a b) (hQ : ∀ q ∈ Q, q ∈ P) : Kept Q a b := by
  obtain ⟨G, t, n⟩ := h
  exact ⟨G, t, fun q hq => n q (hQ q hq)⟩
end Go.Proofs.Ytompbhkmaalioaa
