/-
  Items as a list of two texts each: in memory, in their order; what a shelf of them answers. What a call leaves: all blocks but those that it names.
-/
import Derived.Test.YtompbhkmaalioaaPackKeep
import Derived.Test.YtompbhkmaalioaaKeyPlain
namespace Go.Proofs.Ytompbhkmaalioaa
open Go.RowKit

abbrev Item := ByteArray × ByteArray
def itemCells (l : List Item) : List Value := l.flatMap fun x => [Value.string x.1, Value.string x.2]
theorem itemCells_nil : itemCells [] = [] := rfl
theorem itemCells_cons (x : Item) (l : List Item) : itemCells (x :: l) = Value.string x.1 :: Value.string x.2 :: itemCells l := rfl
theorem itemCells_append (a b : List Item) : itemCells (a ++ b) = itemCells a ++ itemCells b := by simp [itemCells]
theorem itemCells_length : ∀ l : List Item, (itemCells l).length = l.length * 2
  | [] => rfl
  | x :: l => by rw [itemCells_cons, List.length_cons, List.length_cons, itemCells_length l, List.length_cons]; omega
theorem itemCells_get0 : ∀ (l : List Item) (i : Nat) (h : i < l.length), (itemCells l)[i * 2]? = some (.string (l[i]).1)
  | x :: l, 0, _ => rfl
  | x :: l, i + 1, h => by
    rw [show (i + 1) * 2 = i * 2 + 1 + 1 by omega, itemCells_cons, List.getElem?_cons_succ, List.getElem?_cons_succ, itemCells_get0 l i (by simpa using h)]
    rfl
theorem itemCells_get1 : ∀ (l : List Item) (i : Nat) (h : i < l.length), (itemCells l)[i * 2 + 1]? = some (.string (l[i]).2)
  | x :: l, 0, _ => rfl
  | x :: l, i + 1, h => by
    rw [show (i + 1) * 2 + 1 = i * 2 + 1 + 1 + 1 by omega, itemCells_cons, List.getElem?_cons_succ, List.getElem?_cons_succ, itemCells_get1 l i (by simpa using h)]
    rfl
theorem itemCells_take (l : List Item) (n : Nat) : (itemCells l).take (n * 2) = itemCells (l.take n) := by
  induction l generalizing n with
  | nil => simp [itemCells]
  | cons x l ih =>
    cases n with
    | zero => rfl
    | succ n => rw [show (n + 1) * 2 = n * 2 + 1 + 1 by omega, itemCells_cons, List.take_succ_cons, List.take_succ_cons, ih, List.take_succ_cons, itemCells_cons]
theorem itemCells_drop (l : List Item) (n : Nat) : (itemCells l).drop (n * 2) = itemCells (l.drop n) := by
  induction l generalizing n with
  | nil => simp [itemCells]
  | cons x l ih =>
    cases n with
    | zero => rfl
    | succ n => rw [show (n + 1) * 2 = n * 2 + 1 + 1 by omega, itemCells_cons, List.drop_succ_cons, List.drop_succ_cons, ih, List.drop_succ_cons]

/-- all that was there stays, but for the blocks that F names -/
structure Touch (F : List Nat) (w w1 : World) : Prop where
  os : w1.os = w.os
  tape : w1.tape = w.tape
  output : w1.output = w.output
  size : w.heap.size ≤ w1.heap.size
  block : ∀ k, k < w.heap.size → k ∉ F → w1.heap[k]? = w.heap[k]?
theorem Touch.refl (F : List Nat) (w : World) : Touch F w w := ⟨rfl, rfl, rfl, Nat.le_refl _, fun _ _ _ => rfl⟩
/-- two steps; the second one may turn what the first one named, and what is new -/
theorem Touch.trans {F G : List Nat} {a b c : World} (h : Touch F a b) (k : Touch G b c) (hG : ∀ x, x ∈ G → x ∈ F ∨ a.heap.size ≤ x) : Touch F a c :=
  ⟨k.os.trans h.os, k.tape.trans h.tape, k.output.trans h.output, Nat.le_trans h.size k.size, fun i hi hn =>
    (k.block i (Nat.lt_of_lt_of_le hi h.size) (fun hx => by rcases hG i hx with h1 | h1; exact hn h1; omega)).trans (h.block i hi hn)⟩
theorem Touch.mono {F G : List Nat} {a b : World} (h : Touch F a b) (hG : ∀ x, x ∈ F → x ∈ G) : Touch G a b := ⟨h.os, h.tape, h.output, h.size, fun k hk hn => h.block k hk (fun hx => hn (hG k hx))⟩
theorem Touch.drew {F : List Nat} {a b : World} (h : Touch F a b) : Touch F a b.drew := ⟨h.os, h.tape, h.output, h.size, h.block⟩
theorem Touch.drewN {F : List Nat} {a b : World} (h : Touch F a b) (n : Nat) : Touch F a (b.drewN n) := ⟨h.os, h.tape, h.output, h.size, h.block⟩
theorem Touch.alloc {F : List Nat} {a b : World} (h : Touch F a b) (o : Obj) : Touch F a (b.alloc o) :=
  ⟨h.os, h.tape, h.output, by have := h.size; simp; omega, fun k hk hn => (Below.heap_alloc _ _ _ (Nat.lt_of_lt_of_le hk h.size)).trans (h.block k hk hn)⟩
theorem Touch.set {F : List Nat} {a b : World} (h : Touch F a b) {p : Addr} (hp : p.block ∈ F ∨ a.heap.size ≤ p.block) (u : Value) : Touch F a (b.setCell p u) :=
  ⟨h.os, h.tape, h.output, by have := h.size; simpa [World.setCell] using this, fun k hk hn =>
    (Below.heap_setCell _ _ _ _ (fun e => by rcases hp with h1 | h1; exact hn (e ▸ h1); omega)).trans (h.block k hk hn)⟩
theorem Touch.grown {F : List Nat} {row : Option Nat} {a b c : World} (h : Touch F a b) (hg : b.grownBy c row) (hr : ∀ k, row = some k → k ∈ F ∨ a.heap.size ≤ k) : Touch F a c :=
  ⟨hg.os.trans h.os, hg.tape.trans h.tape, hg.output.trans h.output, Nat.le_trans h.size hg.size, fun i hi hn =>
    (hg.block i (Nat.lt_of_lt_of_le hi h.size) (fun e => by rcases hr i e.symm with h1 | h1; exact hn h1; omega)).trans (h.block i hi hn)⟩
theorem Touch.below {F : List Nat} {a b : World} {B : Nat} (h : Touch F a b) (hB : B ≤ a.heap.size) (hF : ∀ x, x ∈ F → B ≤ x) : Below B a b :=
  ⟨h.os, h.tape, h.output, h.size, fun k hk => h.block k (by omega) (fun hx => by have := hF k hx; omega)⟩
theorem Touch.ofBelow {F : List Nat} {a b : World} (h : Below a.heap.size a b) : Touch F a b := ⟨h.os, h.tape, h.output, h.size, fun k hk _ => h.block k hk⟩
theorem Touch.acc {F : List Nat} {w a b : World} (hB : Below w.heap.size w a) (h : Touch F a b) (hF : ∀ x, x ∈ F → w.heap.size ≤ x) : Below w.heap.size w b := hB.trans (h.below hB.size hF)
theorem Touch.cell {F : List Nat} {a b : World} (h : Touch F a b) {p : Addr} (hp : p.block < a.heap.size) (hn : p.block ∉ F) : b.cell? p = a.cell? p := World.cell?_of_block (w := a) (h.block p.block hp hn)
theorem Touch.frozen {F : List Nat} {a b : World} (h : Touch F a b) {p : Addr} (hp : p.block < a.heap.size) (hn : p.block ∉ F) : b.frozen? p = a.frozen? p := World.frozen?_of_block (w := a) (h.block p.block hp hn)
/-- a row whose block nobody names stays -/
theorem Touch.row {F : List Nat} {a b : World} {base e size n : Nat} {v : Value} {xs : List Value} (h : Touch F a b) (hr : a.ownsRow base e size v n xs) (hn : ∀ q, v.ownBlock = some q → q ∉ F) : b.ownsRow base e size v n xs := by
  refine ⟨hr.1, ?_⟩
  rcases hr.2 with h0 | ⟨g, cap, cur, hv, hb, hh, r⟩
  · exact .inl h0
  · have hlt : g < a.heap.size := by
      have := hr.lt g (by rw [hv]; rfl)
      exact this.2
    exact .inr ⟨g, cap, cur, hv, hb, by rw [h.block g hlt (hn g (by rw [hv]; rfl))]; exact hh, r⟩

/-! ### A shelf as its items, rising -/
def lessB (a b : ByteArray) : Bool := Op.bytesLess a.toList b.toList
/-- where a key lies, or would lie -/
def placeN : List Item → ByteArray → Nat
  | [], _ => 0
  | x :: l, k => if lessB x.1 k then placeN l k + 1 else 0
theorem placeN_le : ∀ (l : List Item) (k : ByteArray), placeN l k ≤ l.length
  | [], _ => Nat.le_refl _
  | x :: l, k => by
    rw [placeN]
    have := placeN_le l k
    split
    · rw [List.length_cons]; omega
    · exact Nat.zero_le _
theorem placeN_step : ∀ (l : List Item) (k : ByteArray) (i : Nat) (h : i < l.length), i ≤ placeN l k → (lessB (l[i]).1 k = true ↔ i + 1 ≤ placeN l k)
  | x :: l, k, 0, _, _ => by
    rw [placeN]
    cases hx : lessB x.1 k with
    | true =>
      refine ⟨fun _ => ?_, fun _ => hx⟩
      rw [if_pos rfl]; omega
    | false =>
      refine ⟨fun h => ?_, fun h => ?_⟩
      · have h' : lessB x.1 k = true := h
        rw [hx] at h'; cases h'
      · simp at h
  | x :: l, k, i + 1, h, hi => by
    rw [placeN] at hi ⊢
    cases hx : lessB x.1 k with
    | true =>
      rw [hx] at hi
      have := placeN_step l k i (by simpa using h) (by simpa using hi)
      simpa using this
    | false =>
      rw [hx] at hi
      simp at hi
/-- is the key there? -/
def hasN (l : List Item) (k : ByteArray) : Bool := match l[placeN l k]? with
  | some x => x.1.toList == k.toList
  | none => false
def putN (l : List Item) (k v : ByteArray) : List Item := l.take (placeN l k) ++ (k, v) :: l.drop (if hasN l k then placeN l k + 1 else placeN l k)
def delN (l : List Item) (k : ByteArray) : List Item := if hasN l k then l.take (placeN l k) ++ l.drop (placeN l k + 1) else l
theorem hasN_lt {l : List Item} {k : ByteArray} (h : hasN l k = true) : placeN l k < l.length := by
  unfold hasN at h
  split at h
  · rename_i x e
    exact (List.getElem?_eq_some_iff.1 e).1
  · cases h
end Go.Proofs.Ytompbhkmaalioaa
