/-
  Items as a list of two texts each: in memory, in their order; what a shelf of them answers. What a call leaves: all blocks but those that it names.
  Plain facts on a shelf as its rising list: a key's place left, at and right of an item that stands in it; put and struck there. No program is named here.
  What the document's ways tell, as plain lists: a range's items, an arc's in its order, where it is cut in the middle. No program is named here.
  Words on items that a hold's laws speak in: what is there under a key, what is left beside an arc, several items put in (as ShelfLaws, CutFactz, RefPut have them; no program is met here).
  What a hold has: which points are owned, as of which epoch; its items; what is shut, and where pointers lead; the room that is kept (no program is met here).
-/
import Derived.Test.YthgndgoljchnfaaGreatHg02
import Derived.Test.YthgndgoljchnfaaGreatHg01
namespace Go.Proofs.YthgndgoljchnfaaGreat
open Go.RowKit

abbrev Item := ByteArray × ByteArray
def itemCells (l : List Item) : List Value := l.flatMap fun x => [Value.string x.1, Value.string x.2]
theorem itemCells_cons (x : Item) (l : List Item) : itemCells (x :: l) = Value.string x.1 :: Value.string x.2 :: itemCells l := rfl
theorem itemCells_append (a b : List Item) : itemCells (a ++ b) = itemCells a ++ itemCells b := by simp [itemCells]
theorem itemCells_length : ∀ l : List Item, (itemCells l).length = l.length * 2
  | [] => rfl
  | x :: l => by rw [itemCells_cons, List.length_cons, List.length_cons, itemCells_length l, List.length_cons]; omega
theorem itemCells_get0 : ∀ (l : List Item) (i : Nat) (h : i < l.length), (itemCells l)[i * 2]? = some (.string (l[i]).1)
  | x :: l, 0, _ => rfl
  | x :: l, i + 1, h => by
    rw [show (i + 1) * 2 = i * 2 + 1 + 1 by omega, itemCells_cons, List.getElem?_cons_succ, List.getElem?_cons_succ, itemCells_get0 l i (by simpa using h)]
    rfl
theorem itemCells_get1 : ∀ (l : List Item) (i : Nat) (h : i < l.length), (itemCells l)[i * 2 + 1]? = some (.string (l[i]).2)
  | x :: l, 0, _ => rfl
  | x :: l, i + 1, h => by
    rw [show (i + 1) * 2 + 1 = i * 2 + 1 + 1 + 1 by omega, itemCells_cons, List.getElem?_cons_succ, List.getElem?_cons_succ, itemCells_get1 l i (by simpa using h)]
    rfl
theorem itemCells_take (l : List Item) (n : Nat) : (itemCells l).take (n * 2) = itemCells (l.take n) := by
  induction l generalizing n with
  | nil => simp [itemCells]
  | cons x l ih =>
    cases n with
    | zero => rfl
    | succ n => rw [show (n + 1) * 2 = n * 2 + 1 + 1 by omega, itemCells_cons, List.take_succ_cons, List.take_succ_cons, ih, List.take_succ_cons, itemCells_cons]
theorem itemCells_drop (l : List Item) (n : Nat) : (itemCells l).drop (n * 2) = itemCells (l.drop n) := by
  induction l generalizing n with
  | nil => simp [itemCells]
  | cons x l ih =>
    cases n with
    | zero => rfl
    | succ n => rw [show (n + 1) * 2 = n * 2 + 1 + 1 by omega, itemCells_cons, List.drop_succ_cons, List.drop_succ_cons, ih, List.drop_succ_cons]

/-- a slice of items that somebody owns: the list, at a block of its own (or none) -/
def Row (W : World) (v : Value) (l : List Item) : Prop := W.ownsRow 0 31 2 v l.length (itemCells l)

/-! ### What a call leaves -/
/-- all that was there stays, but for the blocks that F names -/
structure Touch (F : List Nat) (w w1 : World) : Prop where
  os : w1.os = w.os
  tape : w1.tape = w.tape
  output : w1.output = w.output
  size : w.heap.size ≤ w1.heap.size
  block : ∀ k, k < w.heap.size → k ∉ F → w1.heap[k]? = w.heap[k]?
theorem Touch.refl (F : List Nat) (w : World) : Touch F w w := ⟨rfl, rfl, rfl, Nat.le_refl _, fun _ _ _ => rfl⟩
/-- two steps; the second one may turn what the first one named, and what is new -/
theorem Touch.trans {F G : List Nat} {a b c : World} (h : Touch F a b) (k : Touch G b c) (hG : ∀ x, x ∈ G → x ∈ F ∨ a.heap.size ≤ x) : Touch F a c :=
  ⟨k.os.trans h.os, k.tape.trans h.tape, k.output.trans h.output, Nat.le_trans h.size k.size, fun i hi hn =>
    (k.block i (Nat.lt_of_lt_of_le hi h.size) (fun hx => by rcases hG i hx with h1 | h1; exact hn h1; omega)).trans (h.block i hi hn)⟩
theorem Touch.mono {F G : List Nat} {a b : World} (h : Touch F a b) (hG : ∀ x, x ∈ F → x ∈ G) : Touch G a b := ⟨h.os, h.tape, h.output, h.size, fun k hk hn => h.block k hk (fun hx => hn (hG k hx))⟩
theorem Touch.drew {F : List Nat} {a b : World} (h : Touch F a b) : Touch F a b.drew := ⟨h.os, h.tape, h.output, h.size, h.block⟩
theorem Touch.drewN {F : List Nat} {a b : World} (h : Touch F a b) (n : Nat) : Touch F a (b.drewN n) := ⟨h.os, h.tape, h.output, h.size, h.block⟩
theorem Touch.alloc {F : List Nat} {a b : World} (h : Touch F a b) (o : Obj) : Touch F a (b.alloc o) :=
  ⟨h.os, h.tape, h.output, by have := h.size; simp; omega, fun k hk hn => (Below.heap_alloc _ _ _ (Nat.lt_of_lt_of_le hk h.size)).trans (h.block k hk hn)⟩
theorem Touch.set {F : List Nat} {a b : World} (h : Touch F a b) {p : Addr} (hp : p.block ∈ F ∨ a.heap.size ≤ p.block) (u : Value) : Touch F a (b.setCell p u) :=
  ⟨h.os, h.tape, h.output, by have := h.size; simpa [World.setCell] using this, fun k hk hn =>
    (Below.heap_setCell _ _ _ _ (fun e => by rcases hp with h1 | h1; exact hn (e ▸ h1); omega)).trans (h.block k hk hn)⟩
theorem Touch.grown {F : List Nat} {row : Option Nat} {a b c : World} (h : Touch F a b) (hg : b.grownBy c row) (hr : ∀ k, row = some k → k ∈ F ∨ a.heap.size ≤ k) : Touch F a c :=
  ⟨hg.os.trans h.os, hg.tape.trans h.tape, hg.output.trans h.output, Nat.le_trans h.size hg.size, fun i hi hn =>
    (hg.block i (Nat.lt_of_lt_of_le hi h.size) (fun e => by rcases hr i e.symm with h1 | h1; exact hn h1; omega)).trans (h.block i hi hn)⟩
theorem Touch.below {F : List Nat} {a b : World} {B : Nat} (h : Touch F a b) (hB : B ≤ a.heap.size) (hF : ∀ x, x ∈ F → B ≤ x) : Below B a b :=
  ⟨h.os, h.tape, h.output, h.size, fun k hk => h.block k (by omega) (fun hx => by have := hF k hx; omega)⟩
theorem Touch.ofBelow {F : List Nat} {a b : World} (h : Below a.heap.size a b) : Touch F a b := ⟨h.os, h.tape, h.output, h.size, fun k hk _ => h.block k hk⟩
theorem Touch.acc {F : List Nat} {w a b : World} (hB : Below w.heap.size w a) (h : Touch F a b) (hF : ∀ x, x ∈ F → w.heap.size ≤ x) : Below w.heap.size w b := hB.trans (h.below hB.size hF)
theorem Touch.cell {F : List Nat} {a b : World} (h : Touch F a b) {p : Addr} (hp : p.block < a.heap.size) (hn : p.block ∉ F) : b.cell? p = a.cell? p := World.cell?_of_block (w := a) (h.block p.block hp hn)
theorem Touch.frozen {F : List Nat} {a b : World} (h : Touch F a b) {p : Addr} (hp : p.block < a.heap.size) (hn : p.block ∉ F) : b.frozen? p = a.frozen? p := World.frozen?_of_block (w := a) (h.block p.block hp hn)
/-- a row whose block nobody names stays -/
theorem Touch.row {F : List Nat} {a b : World} {base e size n : Nat} {v : Value} {xs : List Value} (h : Touch F a b) (hr : a.ownsRow base e size v n xs) (hn : ∀ q, v.ownBlock = some q → q ∉ F) : b.ownsRow base e size v n xs := by
  refine ⟨hr.1, ?_⟩
  rcases hr.2 with h0 | ⟨g, cap, cur, hv, hb, hh, r⟩
  · exact .inl h0
  · have hlt : g < a.heap.size := by
      have := hr.lt g (by rw [hv]; rfl)
      exact this.2
    exact .inr ⟨g, cap, cur, hv, hb, by rw [h.block g hlt (hn g (by rw [hv]; rfl))]; exact hh, r⟩

/-! ### A shelf as its items, rising -/
def lessB (a b : ByteArray) : Bool := Op.bytesLess a.toList b.toList
/-- where a key lies, or would lie -/
def placeN : List Item → ByteArray → Nat
  | [], _ => 0
  | x :: l, k => if lessB x.1 k then placeN l k + 1 else 0
theorem placeN_le : ∀ (l : List Item) (k : ByteArray), placeN l k ≤ l.length
  | [], _ => Nat.le_refl _
  | x :: l, k => by
    rw [placeN]
    have := placeN_le l k
    split
    · rw [List.length_cons]; omega
    · exact Nat.zero_le _
/-- is the key there? -/
def hasN (l : List Item) (k : ByteArray) : Bool := match l[placeN l k]? with
  | some x => x.1.toList == k.toList
  | none => false
def putN (l : List Item) (k v : ByteArray) : List Item := l.take (placeN l k) ++ (k, v) :: l.drop (if hasN l k then placeN l k + 1 else placeN l k)
def delN (l : List Item) (k : ByteArray) : List Item := if hasN l k then l.take (placeN l k) ++ l.drop (placeN l k + 1) else l
theorem hasN_lt {l : List Item} {k : ByteArray} (h : hasN l k = true) : placeN l k < l.length := by
  unfold hasN at h
  split at h
  · rename_i x e
    exact (List.getElem?_eq_some_iff.1 e).1
  · cases h
end Go.Proofs.YthgndgoljchnfaaGreat
namespace Go.Proofs.YthgndgoljchnfaaGreat
open Go.RowKit

theorem lessB_irrefl (a : ByteArray) : lessB a a = false := less_irrefl _
theorem lessB_asymm {a b : ByteArray} (h : lessB a b = true) : lessB b a = false := less_asymm _ _ h
theorem lessB_trans {a b c : ByteArray} (h : lessB a b = true) (k : lessB b c = true) : lessB a c = true := less_trans _ _ _ h k
theorem toList_inj {a b : ByteArray} (h : a.toList = b.toList) : a = b := ByteArray.ext (Array.ext' (by rw [← Lib.toList_data, ← Lib.toList_data]; exact h))
theorem lessB_total {a b : ByteArray} (h : a ≠ b) : lessB a b = true ∨ lessB b a = true := less_total _ _ (fun e => h (toList_inj e))
/-- rising: each key below all behind it -/
def Rising (l : List Item) : Prop := l.Pairwise fun x y => lessB x.1 y.1 = true
theorem Rising.nil : Rising [] := List.Pairwise.nil
theorem rising_append {a b : List Item} : Rising (a ++ b) ↔ Rising a ∧ Rising b ∧ ∀ x ∈ a, ∀ y ∈ b, lessB x.1 y.1 = true := List.pairwise_append
theorem rising_cons {x : Item} {b : List Item} : Rising (x :: b) ↔ (∀ y ∈ b, lessB x.1 y.1 = true) ∧ Rising b := List.pairwise_cons
/-- all of a lies below the key -/
def Under (a : List Item) (k : ByteArray) : Prop := ∀ x ∈ a, lessB x.1 k = true
theorem placeN_under : ∀ {a : List Item} {k : ByteArray} (_ : Under a k) (b : List Item), placeN (a ++ b) k = a.length + placeN b k
  | [], k, _, b => by simp
  | x :: a, k, h, b => by
    rw [List.cons_append, placeN, if_pos (h x (by simp)), placeN_under (fun y hy => h y (by simp [hy])) b, List.length_cons]
    omega
theorem placeN_stop (a : List Item) {x : Item} {k : ByteArray} (h : lessB x.1 k = false) (b : List Item) : placeN (a ++ x :: b) k = placeN a k := by
  induction a with
  | nil => simp [placeN, h]
  | cons y a ih => rw [List.cons_append, placeN, placeN, ih]
theorem hasN_under {a : List Item} {k : ByteArray} (h : Under a k) (b : List Item) : hasN (a ++ b) k = hasN b k := by
  unfold hasN
  rw [placeN_under h, List.getElem?_append_right (by omega), show a.length + placeN b k - a.length = placeN b k by omega]
theorem hasN_left (a : List Item) {x : Item} {k : ByteArray} (h : lessB k x.1 = true) (b : List Item) : hasN (a ++ x :: b) k = hasN a k := by
  unfold hasN
  rw [placeN_stop a (lessB_asymm h)]
  by_cases hp : placeN a k < a.length
  · rw [List.getElem?_append_left hp]
  · have e : placeN a k = a.length := by have := placeN_le a k; omega
    rw [e, List.getElem?_append_right (Nat.le_refl _), Nat.sub_self, List.getElem?_eq_none (l := a) (Nat.le_refl _)]
    simp only [List.getElem?_cons_zero]
    rw [beq_eq_false_iff_ne]
    intro e2
    rw [toList_inj e2, lessB_irrefl] at h
    cases h
theorem hasN_at_key {a : List Item} {x : Item} (h : Under a x.1) (b : List Item) : hasN (a ++ x :: b) x.1 = true := by
  rw [hasN_under h]
  unfold hasN
  rw [placeN, lessB_irrefl]
  simp
theorem putN_under {a : List Item} {k v : ByteArray} (h : Under a k) (b : List Item) : putN (a ++ b) k v = a ++ putN b k v := by
  unfold putN
  rw [hasN_under h, placeN_under h, List.take_length_add_append, List.append_assoc]
  congr 3
  split
  · rw [show a.length + placeN b k + 1 = a.length + (placeN b k + 1) by omega, List.drop_length_add_append]
  · rw [List.drop_length_add_append]
theorem putN_left (a : List Item) {x : Item} {k v : ByteArray} (h : lessB k x.1 = true) (b : List Item) : putN (a ++ x :: b) k v = putN a k v ++ x :: b := by
  have hp := placeN_le a k
  unfold putN
  rw [hasN_left a h, placeN_stop a (lessB_asymm h), List.take_append_of_le_length hp, List.append_assoc, List.cons_append]
  congr 2
  split
  · rename_i hh
    have := hasN_lt hh
    rw [List.drop_append_of_le_length (by omega)]
  · rw [List.drop_append_of_le_length hp]
theorem putN_key {a : List Item} {x : Item} {v : ByteArray} (h : Under a x.1) (b : List Item) : putN (a ++ x :: b) x.1 v = a ++ (x.1, v) :: b := by
  rw [putN_under h]
  congr 1
  have e := hasN_at_key (a := []) (x := x) (fun y hy => by cases hy) b
  rw [List.nil_append] at e
  unfold putN
  rw [e, if_pos rfl, placeN, lessB_irrefl]
  simp
theorem delN_under {a : List Item} {k : ByteArray} (h : Under a k) (b : List Item) : delN (a ++ b) k = a ++ delN b k := by
  unfold delN
  rw [hasN_under h, placeN_under h, List.take_length_add_append]
  split
  · rw [show a.length + placeN b k + 1 = a.length + (placeN b k + 1) by omega, List.drop_length_add_append, List.append_assoc]
  · rfl
theorem delN_left (a : List Item) {x : Item} {k : ByteArray} (h : lessB k x.1 = true) (b : List Item) : delN (a ++ x :: b) k = delN a k ++ x :: b := by
  have hp := placeN_le a k
  unfold delN
  rw [hasN_left a h, placeN_stop a (lessB_asymm h), List.take_append_of_le_length hp]
  split
  · rename_i hh
    have := hasN_lt hh
    rw [List.drop_append_of_le_length (by omega), List.append_assoc]
  · rfl
theorem delN_key {a : List Item} {x : Item} (h : Under a x.1) (b : List Item) : delN (a ++ x :: b) x.1 = a ++ b := by
  rw [delN_under h]
  congr 1
  have e := hasN_at_key (a := []) (x := x) (fun y hy => by cases hy) b
  rw [List.nil_append] at e
  unfold delN
  rw [e, if_pos rfl, placeN, lessB_irrefl]
  simp
theorem putN_length (l : List Item) (k v : ByteArray) : (putN l k v).length = if hasN l k then l.length else l.length + 1 := by
  have hp := placeN_le l k
  unfold putN
  rw [List.length_append, List.length_cons, List.length_take, List.length_drop, Nat.min_eq_left hp]
  split
  · rename_i hh
    have := hasN_lt hh
    omega
  · omega
theorem delN_length (l : List Item) (k : ByteArray) : (delN l k).length = if hasN l k then l.length - 1 else l.length := by
  have hp := placeN_le l k
  unfold delN
  split
  · rename_i hh
    have := hasN_lt hh
    rw [List.length_append, List.length_take, List.length_drop, Nat.min_eq_left hp]
    omega
  · rfl
/-- a rising list at a key: what lies below it, and what does not -/
theorem rising_split : ∀ {l : List Item} (_ : Rising l) (k : ByteArray), ∃ a b, l = a ++ b ∧ Under a k ∧ ∀ y ∈ b, lessB y.1 k = false
  | [], _, k => ⟨[], [], rfl, (fun x hx => by cases hx), (fun x hx => by cases hx)⟩
  | x :: l, h, k => by
    obtain ⟨h1, h2⟩ := rising_cons.1 h
    cases e : lessB x.1 k with
    | true =>
      obtain ⟨a, b, rfl, ha, hb⟩ := rising_split h2 k
      exact ⟨x :: a, b, rfl, (fun y hy => by rcases List.mem_cons.1 hy with rfl | hy; exact e; exact ha y hy), hb⟩
    | false =>
      refine ⟨[], x :: l, rfl, (fun y hy => by cases hy), (fun y hy => ?_)⟩
      rcases List.mem_cons.1 hy with rfl | hy
      · exact e
      · cases e2 : lessB y.1 k with
        | false => rfl
        | true => rw [lessB_trans (h1 y hy) e2] at e; cases e
/-- the three ways a key lies to a rising list: in it, or between its items -/
theorem rising_cases {l : List Item} (h : Rising l) (k : ByteArray) : (∃ a v b, l = a ++ (k, v) :: b ∧ Under a k ∧ (∀ y ∈ b, lessB k y.1 = true)) ∨ (∃ a b, l = a ++ b ∧ Under a k ∧ (∀ y ∈ b, lessB k y.1 = true)) := by
  obtain ⟨a, b, rfl, ha, hb⟩ := rising_split h k
  cases b with
  | nil => exact .inr ⟨a, [], rfl, ha, (fun y hy => by cases hy)⟩
  | cons x b =>
    obtain ⟨_, h2, _⟩ := rising_append.1 h
    have h3 := (rising_cons.1 h2).1
    by_cases e : x.1 = k
    · left
      refine ⟨a, x.2, b, by rw [← e], ha, fun y hy => by rw [← e]; exact h3 y hy⟩
    · right
      have z : lessB k x.1 = true := by
        rcases lessB_total e with z | z
        · rw [hb x (by simp)] at z; cases z
        · exact z
      refine ⟨a, x :: b, rfl, ha, fun y hy => ?_⟩
      rcases List.mem_cons.1 hy with rfl | hy
      · exact z
      · exact lessB_trans z (h3 y hy)
theorem over_none {b : List Item} {k : ByteArray} (h : ∀ y ∈ b, lessB k y.1 = true) : hasN b k = false ∧ (∀ v, putN b k v = (k, v) :: b) ∧ delN b k = b := by
  cases b with
  | nil => exact ⟨rfl, fun _ => rfl, rfl⟩
  | cons x b =>
    have z := h x (by simp)
    have e1 := hasN_left [] z b
    have e2 := fun v => putN_left [] (v := v) z b
    have e3 := delN_left [] z b
    exact ⟨e1, e2, e3⟩
theorem Rising.put {l : List Item} (h : Rising l) (k v : ByteArray) : Rising (putN l k v) := by
  rcases rising_cases h k with ⟨a, u, b, rfl, ha, hb⟩ | ⟨a, b, rfl, ha, hb⟩
  · obtain ⟨h1, h2, h3⟩ := rising_append.1 h
    rw [show putN (a ++ (k, u) :: b) k v = a ++ (k, v) :: b from putN_key (x := (k, u)) ha b]
    refine rising_append.2 ⟨h1, rising_cons.2 ⟨hb, (rising_cons.1 h2).2⟩, fun x hx y hy => ?_⟩
    rcases List.mem_cons.1 hy with rfl | hy
    · exact ha x hx
    · exact h3 x hx y (by simp [hy])
  · obtain ⟨h1, h2, h3⟩ := rising_append.1 h
    rw [putN_under ha, (over_none hb).2.1]
    refine rising_append.2 ⟨h1, rising_cons.2 ⟨hb, h2⟩, fun x hx y hy => ?_⟩
    rcases List.mem_cons.1 hy with rfl | hy
    · exact ha x hx
    · exact h3 x hx y hy
theorem Rising.del {l : List Item} (h : Rising l) (k : ByteArray) : Rising (delN l k) := by
  rcases rising_cases h k with ⟨a, u, b, rfl, ha, hb⟩ | ⟨a, b, rfl, ha, hb⟩
  · obtain ⟨h1, h2, h3⟩ := rising_append.1 h
    rw [show delN (a ++ (k, u) :: b) k = a ++ b from delN_key (x := (k, u)) ha b]
    exact rising_append.2 ⟨h1, (rising_cons.1 h2).2, fun x hx y hy => h3 x hx y (by simp [hy])⟩
  · rw [delN_under ha, (over_none hb).2.2]
    exact h
/-- which keys are there behind put and del -/
theorem hasN_iff {l : List Item} (h : Rising l) (k : ByteArray) : hasN l k = true ↔ ∃ x ∈ l, x.1 = k := by
  rcases rising_cases h k with ⟨a, u, b, rfl, ha, hb⟩ | ⟨a, b, rfl, ha, hb⟩
  · exact ⟨fun _ => ⟨(k, u), by simp, rfl⟩, fun _ => hasN_at_key (x := (k, u)) ha b⟩
  · rw [hasN_under ha, (over_none hb).1]
    refine ⟨(fun e => by cases e), ?_⟩
    rintro ⟨x, hx, rfl⟩
    rcases List.mem_append.1 hx with z | z
    · have := ha x z; rw [lessB_irrefl] at this; cases this
    · have := hb x z; rw [lessB_irrefl] at this; cases this
theorem mem_putN {l : List Item} (h : Rising l) (k v : ByteArray) (x : Item) : x ∈ putN l k v ↔ x = (k, v) ∨ (x ∈ l ∧ x.1 ≠ k) := by
  have nu : ∀ {a : List Item}, Under a k → ∀ {x}, x ∈ a → x.1 ≠ k := fun ha x hx e => by
    have := ha x hx; rw [e, lessB_irrefl] at this; cases this
  have no : ∀ {b : List Item}, (∀ y ∈ b, lessB k y.1 = true) → ∀ {x}, x ∈ b → x.1 ≠ k := fun hb x hx e => by
    have := hb x hx; rw [e, lessB_irrefl] at this; cases this
  rcases rising_cases h k with ⟨a, u, b, rfl, ha, hb⟩ | ⟨a, b, rfl, ha, hb⟩
  · rw [show putN (a ++ (k, u) :: b) k v = a ++ (k, v) :: b from putN_key (x := (k, u)) ha b]
    simp only [List.mem_append, List.mem_cons]
    constructor
    · rintro (z | z | z)
      · exact .inr ⟨.inl z, nu ha z⟩
      · exact .inl z
      · exact .inr ⟨.inr (.inr z), no hb z⟩
    · rintro (z | ⟨z | z | z, hn⟩)
      · exact .inr (.inl z)
      · exact .inl z
      · exact absurd (by rw [z]) hn
      · exact .inr (.inr z)
  · rw [putN_under ha, (over_none hb).2.1]
    simp only [List.mem_append, List.mem_cons]
    constructor
    · rintro (z | z | z)
      · exact .inr ⟨.inl z, nu ha z⟩
      · exact .inl z
      · exact .inr ⟨.inr z, no hb z⟩
    · rintro (z | ⟨z | z, _⟩)
      · exact .inr (.inl z)
      · exact .inl z
      · exact .inr (.inr z)
/-- two rising lists with the same items are one -/
theorem rising_ext : ∀ {a b : List Item} (_ : Rising a) (_ : Rising b) (_ : ∀ x, x ∈ a ↔ x ∈ b), a = b
  | [], [], _, _, _ => rfl
  | [], y :: b, _, _, h => by have := (h y).2 (by simp); cases this
  | x :: a, [], _, _, h => by have := (h x).1 (by simp); cases this
  | x :: a, y :: b, ha, hb, h => by
    obtain ⟨a1, a2⟩ := rising_cons.1 ha
    obtain ⟨b1, b2⟩ := rising_cons.1 hb
    have e : x = y := by
      rcases List.mem_cons.1 ((h x).1 (by simp)) with z | z
      · exact z
      · rcases List.mem_cons.1 ((h y).2 (by simp)) with w | w
        · exact w.symm
        · have := lessB_asymm (b1 x z)
          rw [a1 y w] at this
          cases this
    subst e
    rw [rising_ext a2 b2 (fun z => ?_)]
    have hz := h z
    simp only [List.mem_cons] at hz
    constructor
    · intro q
      rcases hz.1 (.inr q) with rfl | r
      · have := a1 z q; rw [lessB_irrefl] at this; cases this
      · exact r
    · intro q
      rcases hz.2 (.inr q) with rfl | r
      · have := b1 z q; rw [lessB_irrefl] at this; cases this
      · exact r
end Go.Proofs.YthgndgoljchnfaaGreat
namespace Go.Proofs.YthgndgoljchnfaaGreat
open Go.RowKit

def adr (x : Item) : Nat := addrN x.1
theorem adr_lt (x : Item) : adr x < 18446744073709551616 := addrN_lt _
theorem adr_val (x : Item) : adr x = valN 8 x.1.toList := by rw [adr, addrN, accN_val, Lib.toList_data]
theorem less_adr {a b : Item} (h : lessB a.1 b.1 = true) : adr a ≤ adr b := by rw [adr_val, adr_val]; exact less_val 8 _ _ h
def rangeL (l : List Item) (f t : ByteArray) : List Item := l.filter fun x => !lessB x.1 f && (t.size == 0 || lessB x.1 t)
/-- does it lie in the arc, and behind the ring's end or not? -/
def inA (f t : Nat) (late : Bool) (x : Item) : Bool := inB f t (adr x) && (decide (f ≤ adr x) != late)
def arcL (l : List Item) (f t : Nat) : List Item := l.filter (inA f t false) ++ l.filter (inA f t true)
/-! ### The ring turned so that it begins at a point -/
def rot (l : List Item) (f : Nat) : List Item := (l.filter fun x => decide (f ≤ adr x)) ++ l.filter fun x => decide (adr x < f)
def dst (f : Nat) (x : Item) : Nat := sub64 (adr x) f
theorem arcL_rot (l : List Item) (f t : Nat) : arcL l f t = (rot l f).filter fun x => inB f t (adr x) := by
  unfold arcL rot
  rw [List.filter_append, List.filter_filter, List.filter_filter]
  congr 1
  · refine List.filter_congr fun x _ => ?_
    simp [inA]
  · refine List.filter_congr fun x _ => ?_
    unfold inA
    by_cases h : f ≤ adr x
    · simp [h, Nat.not_lt.2 h]
    · simp [h, Nat.lt_of_not_le h]
theorem filter_none {l : List Item} {p : Item → Bool} (h : ∀ x ∈ l, p x = false) : l.filter p = [] := List.filter_eq_nil_iff.2 fun x hx => by rw [h x hx]; simp
end Go.Proofs.YthgndgoljchnfaaGreat
namespace Go.Proofs.YthgndgoljchnfaaGreat
open Go.RowKit

def getI (l : List Item) (k : ByteArray) : ByteArray := match l[placeN l k]? with
  | some x => if x.1.toList == k.toList then x.2 else ByteArray.empty
  | none => ByteArray.empty
def leftI (l : List Item) (f t : Nat) : List Item := l.filter fun x => !inB f t (adr x)
def putEI (most : Int) (l : List Item) (k v : ByteArray) : Int :=
  if rightN k ≠ 0 then rightN k else if valueN v ≠ 0 then valueN v else if hasN l k = false ∧ most ≤ l.length then 5 else 0
def putSI (most : Int) (l : List Item) (k v : ByteArray) : List Item := if putEI most l k v = 0 then putN l k v else l
def putsEI (most : Int) : List Item → List Item → Int
  | _, [] => 0
  | l, x :: ms => if putEI most l x.1 x.2 = 0 then putsEI most (putSI most l x.1 x.2) ms else putEI most l x.1 x.2
def putsSI (most : Int) : List Item → List Item → List Item
  | l, [] => l
  | l, x :: ms => if putEI most l x.1 x.2 = 0 then putsSI most (putSI most l x.1 x.2) ms else l
theorem right_size {x : Item} (h : rightN x.1 = 0 ∧ valueN x.2 = 0) : x.1.size ≤ maxLen ∧ x.2.size ≤ maxLen := by
  obtain ⟨h1, h2⟩ := h
  unfold rightN at h1
  unfold valueN at h2
  unfold maxLen
  split at h1
  · cases h1
  · split at h2
    · cases h2
    · omega
end Go.Proofs.YthgndgoljchnfaaGreat
namespace Go.Proofs.YthgndgoljchnfaaGreat
open Go.RowKit

/-- a hold: its node, how many items at most, how many are kept room for; the epoch at each point; the items; the gate; how many times arcs came or went -/
structure HO where
  nd : Int
  most : Int
  kept : Nat
  own : Nat → Option Int
  its : List Item
  g : GS
  k : Nat
def HO.new (nd most : Int) : HO := ⟨nd, min (max most 0) 200, 0, fun _ => none, [], G0, 0⟩
/-- may an arc be owned? -/
def HO.may (s : HO) (f t : Nat) (e : Int) : Prop := 0 ≤ e ∧ ∀ x, x < 18446744073709551616 → inB f t x = true → s.own x = none
/-- it is owned -/
def HO.take (s : HO) (f t : Nat) (e : Int) : HO := ⟨s.nd, s.most, s.kept, fun x => if inB f t x = true then some e else s.own x, s.its, s.g, s.k + 1⟩
/-- the greatest epoch of those at points that q tells of -/
def Greatest (own : Nat → Option Int) (q : Nat → Prop) (e : Int) : Prop := (∀ x y, x < 18446744073709551616 → q x → own x = some y → y ≤ e) ∧ ∃ x, x < 18446744073709551616 ∧ q x ∧ own x = some e
/-- what is told -/
structure TL where
  er : Int
  val : ByteArray
  its : List Item
  more : Bool
  nx : ByteArray
  nd : Int
abbrev TL.err (e : Int) : TL := ⟨e, ⟨#[]⟩, [], false, ⟨#[]⟩, 0⟩
/-- what is asked -/
structure AK where
  op : Int
  key : ByteArray
  val : ByteArray
  tt : ByteArray
  most : Int
/-- up to where what is owned, and not frozen, goes on from x -/
def Upto (s : HO) (x stop : Nat) : Prop := x < stop ∧ stop ≤ 18446744073709551616 ∧ (∀ y, x ≤ y → y < stop → s.own y ≠ none ∧ s.g.frozen y = false) ∧ (stop < 18446744073709551616 → s.own stop = none ∨ s.g.frozen stop = true)
/-- what a scan tells, up to stop -/
def scanT (s : HO) (a : AK) (stop : Nat) : TL :=
  if a.tt.size ≠ 0 ∧ lessB a.key a.tt = false then TL.err 0
  else
    let l := (rangeL s.its a.key a.tt).filter fun x => decide (adr x < stop)
    match l[a.most.toNat]? with
    | some y => ⟨0, ⟨#[]⟩, l.take a.most.toNat, true, y.1, 0⟩
    | none => if stop < 18446744073709551616 ∧ (a.tt.size = 0 ∨ lessB (txt (firstN stop)) a.tt = true) then ⟨0, ⟨#[]⟩, l, true, txt (firstN stop), 0⟩ else ⟨0, ⟨#[]⟩, l, false, ⟨#[]⟩, 0⟩
/-- an answer ahead of any look at the items -/
def HO.bar (s : HO) (a : AK) : Option TL :=
  if a.op < 1 ∨ 4 < a.op ∨ (a.op = 4 ∧ (a.most < 0 ∨ 40 < a.most)) then some (TL.err 1)
  else if 16 < a.key.size ∨ (a.key.size = 0 ∧ a.op ≠ 4) then some (TL.err 3)
  else if s.own (addrN a.key) = none then some ⟨8, ⟨#[]⟩, [], false, ⟨#[]⟩, (overL s.g.l (addrN a.key)).getD (-1)⟩
  else if s.g.frozen (addrN a.key) = true then some (TL.err 7)
  else none
/-- what Put answers there -/
def HO.putE (s : HO) (k v : ByteArray) : Int := if valueN v ≠ 0 then valueN v else if hasN s.its k = false ∧ s.most ≤ (s.its.length : Int) + s.kept then 5 else 0
def HO.with (s : HO) (l : List Item) : HO := ⟨s.nd, s.most, s.kept, s.own, l, s.g, s.k⟩
/-- what is told, and what it has behind it -/
def Did (s : HO) (a : AK) (t : TL) (s' : HO) : Prop :=
  match s.bar a with
  | some b => t = b ∧ s' = s
  | none =>
    (a.op = 1 ∧ t = (if hasN s.its a.key = true then ⟨0, getI s.its a.key, [], false, ⟨#[]⟩, 0⟩ else TL.err 6) ∧ s' = s) ∨
    (a.op = 2 ∧ t = TL.err (s.putE a.key a.val) ∧ s' = if s.putE a.key a.val = 0 then s.with (putN s.its a.key a.val) else s) ∨
    (a.op = 3 ∧ t = TL.err (if hasN s.its a.key = true then 0 else 6) ∧ s' = s.with (delN s.its a.key)) ∨
    (a.op = 4 ∧ (∃ stop, Upto s (addrN a.key) stop ∧ t = scanT s a stop) ∧ s' = s)
/-- what is frozen goes -/
def HO.lose (s : HO) (to_ : Int) : HO := ⟨s.nd, s.most, s.kept, fun x => if inB s.g.f s.g.t x = true then none else s.own x, leftI s.its s.g.f s.g.t, ⟨false, 0, 0, s.g.l ++ [⟨s.g.f, s.g.t, to_, 0⟩], s.g.k⟩, s.k + 1⟩
end Go.Proofs.YthgndgoljchnfaaGreat
