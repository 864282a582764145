/-
  Letters as they lie in memory (LR), packets of them, what waits and what was kept, as cells; a row that may begin in the middle of a block (OwnAt), and append onto it; a link in memory (LNX, LN). (Written by tools/genLKBase.py.)
-/
import Derived.Test.YtfemdfidfomchaaLetLV
import Derived.Test.YtfemdfidfomchaaBagOwn
import Derived.Test.YtfemdfidfomchaaHeldTill
namespace Go.Proofs.Ytfemdfidfomchaa
open Go.RowKit

/-- a letter, with the values of its two lists -/
structure LR where
  l : LV
  a : Value
  b : Value
abbrev LR.cells (r : LR) : Array Value := #[.int .i64 r.l.k, .int .i64 r.l.f, .int .i64 r.l.t, .int .i64 r.l.i, .int .i64 r.l.op, .string r.l.key, .string r.l.val, .string r.l.kto, .int .i64 r.l.most, .int .i64 r.l.er, .string r.l.tv, r.a, .bool r.l.more, .string r.l.nx, .int .i64 r.l.tn, .int .u64 (r.l.af : Nat), .int .u64 (r.l.au : Nat), .int .i64 r.l.ep, r.b, .int .i64 r.l.n, .int .i64 r.l.nd]
/-- what waits: a letter, and its tick -/
abbrev wE (x : LR × Nat) : Array Value := #[.int .i64 x.1.l.k, .int .i64 x.1.l.f, .int .i64 x.1.l.t, .int .i64 x.1.l.i, .int .i64 x.1.l.op, .string x.1.l.key, .string x.1.l.val, .string x.1.l.kto, .int .i64 x.1.l.most, .int .i64 x.1.l.er, .string x.1.l.tv, x.1.a, .bool x.1.l.more, .string x.1.l.nx, .int .i64 x.1.l.tn, .int .u64 (x.1.l.af : Nat), .int .u64 (x.1.l.au : Nat), .int .i64 x.1.l.ep, x.1.b, .int .i64 x.1.l.n, .int .i64 x.1.l.nd, .int .i64 (x.2 : Nat)]
/-- what was kept: a number, and a letter -/
abbrev kE (x : Nat × LR) : Array Value := #[.int .i64 (x.1 : Nat), .int .i64 x.2.l.k, .int .i64 x.2.l.f, .int .i64 x.2.l.t, .int .i64 x.2.l.i, .int .i64 x.2.l.op, .string x.2.l.key, .string x.2.l.val, .string x.2.l.kto, .int .i64 x.2.l.most, .int .i64 x.2.l.er, .string x.2.l.tv, x.2.a, .bool x.2.l.more, .string x.2.l.nx, .int .i64 x.2.l.tn, .int .u64 (x.2.l.af : Nat), .int .u64 (x.2.l.au : Nat), .int .i64 x.2.l.ep, x.2.b, .int .i64 x.2.l.n, .int .i64 x.2.l.nd]
/-- a packet -/
structure PR where
  f : Int
  t : Int
  s : Int
  a : Int
  r : LR
abbrev PR.cells (p : PR) : Array Value := #[.int .i64 p.f, .int .i64 p.t, .int .i64 p.s, .int .i64 p.a, .int .i64 p.r.l.k, .int .i64 p.r.l.f, .int .i64 p.r.l.t, .int .i64 p.r.l.i, .int .i64 p.r.l.op, .string p.r.l.key, .string p.r.l.val, .string p.r.l.kto, .int .i64 p.r.l.most, .int .i64 p.r.l.er, .string p.r.l.tv, p.r.a, .bool p.r.l.more, .string p.r.l.nx, .int .i64 p.r.l.tn, .int .u64 (p.r.l.af : Nat), .int .u64 (p.r.l.au : Nat), .int .i64 p.r.l.ep, p.r.b, .int .i64 p.r.l.n, .int .i64 p.r.l.nd]
abbrev ltCells (k i : Int) : Array Value := #[.int .i64 k, .int .i64 0, .int .i64 0, .int .i64 i, .int .i64 0, .string ⟨#[]⟩, .string ⟨#[]⟩, .string ⟨#[]⟩, .int .i64 0, .int .i64 0, .string ⟨#[]⟩, .slice none 0 0, .bool false, .string ⟨#[]⟩, .int .i64 0, .int .u64 0, .int .u64 0, .int .i64 0, .slice none 0 0, .int .i64 0, .int .i64 0]
abbrev lpCells (f t s a k i : Int) : Array Value := #[.int .i64 f, .int .i64 t, .int .i64 s, .int .i64 a, .int .i64 k, .int .i64 0, .int .i64 0, .int .i64 i, .int .i64 0, .string ⟨#[]⟩, .string ⟨#[]⟩, .string ⟨#[]⟩, .int .i64 0, .int .i64 0, .string ⟨#[]⟩, .slice none 0 0, .bool false, .string ⟨#[]⟩, .int .i64 0, .int .u64 0, .int .u64 0, .int .i64 0, .slice none 0 0, .int .i64 0, .int .i64 0]
abbrev LV.light (k i : Int) : LV := ⟨k, 0, 0, i, 0, ⟨#[]⟩, ⟨#[]⟩, ⟨#[]⟩, 0, 0, ⟨#[]⟩, [], false, ⟨#[]⟩, 0, 0, 0, 0, [], 0, 0⟩
abbrev LR.light (k i : Int) : LR := ⟨LV.light k i, .slice none 0 0, .slice none 0 0⟩
theorem light_cells (k i : Int) : (LR.light k i).cells = ltCells k i := rfl
theorem lp_cells (f t s a k i : Int) : (PR.mk f t s a (LR.light k i)).cells = lpCells f t s a k i := rfl
abbrev PR.zero : PR := ⟨0, 0, 0, 0, LR.light 0 0⟩
/-- the lists' values are slices -/
def sliceB : Value → Bool
  | .slice _ _ _ => true
  | _ => false
def LR.sl (r : LR) : Prop := (∃ A n c, r.a = .slice A n c) ∧ ∃ A n c, r.b = .slice A n c
theorem LR.one {r : LR} (h : r.sl) : r.cells.all (·.oneCell') = true := by
  obtain ⟨⟨A, n, c, h1⟩, B, m, d, h2⟩ := h
  simp [LR.cells, Value.oneCell', h1, h2]
theorem wE_one {x : LR × Nat} (h : x.1.sl) : (wE x).all (·.oneCell') = true := by
  obtain ⟨⟨A, n, c, h1⟩, B, m, d, h2⟩ := h
  simp [wE, Value.oneCell', h1, h2]
theorem kE_one {x : Nat × LR} (h : x.2.sl) : (kE x).all (·.oneCell') = true := by
  obtain ⟨⟨A, n, c, h1⟩, B, m, d, h2⟩ := h
  simp [kE, Value.oneCell', h1, h2]
theorem PR.one {p : PR} (h : p.r.sl) : p.cells.all (·.oneCell') = true := by
  obtain ⟨⟨A, n, c, h1⟩, B, m, d, h2⟩ := h
  simp [PR.cells, Value.oneCell', h1, h2]

/-! ### Rows -/
/-- the cells of a list's elements, one behind the other -/
def rowC {α : Type} (enc : α → Array Value) (l : List α) : List Value := l.flatMap fun x => (enc x).toList
theorem rowC_nil {α : Type} (enc : α → Array Value) : rowC enc [] = [] := rfl
theorem rowC_cons {α : Type} (enc : α → Array Value) (x : α) (l : List α) : rowC enc (x :: l) = (enc x).toList ++ rowC enc l := rfl
theorem rowC_append {α : Type} (enc : α → Array Value) (l m : List α) : rowC enc (l ++ m) = rowC enc l ++ rowC enc m := by simp [rowC]
theorem rowC_one1 {α : Type} (enc : α → Array Value) (x : α) : rowC enc [x] = (enc x).toList := by simp [rowC]
theorem rowC_length {α : Type} {enc : α → Array Value} {k : Nat} (h : ∀ x, (enc x).size = k) : ∀ l : List α, (rowC enc l).length = l.length * k
  | [] => by simp [rowC_nil]
  | x :: l => by rw [rowC_cons, List.length_append, rowC_length h l, Array.length_toList, h, List.length_cons, Nat.add_mul]; omega
theorem rowC_get {α : Type} {enc : α → Array Value} {k : Nat} (h : ∀ x, (enc x).size = k) : ∀ (l : List α) (i j : Nat) (x : α), l[i]? = some x → j < k → (rowC enc l)[i * k + j]? = (enc x)[j]?
  | y :: l, 0, j, x, hx, hj => by
    simp at hx
    subst hx
    rw [Nat.zero_mul, Nat.zero_add, rowC_cons, List.getElem?_append_left (by rw [Array.length_toList, h]; exact hj), Array.getElem?_toList]
  | y :: l, i + 1, j, x, hx, hj => by
    rw [rowC_cons, Nat.add_mul, List.getElem?_append_right (by rw [Array.length_toList, h]; omega), show i * k + 1 * k + j - (enc y).toList.length = i * k + j by rw [Array.length_toList, h]; omega, rowC_get h l i j x (by simpa using hx) hj]
  | [], i, j, x, hx, hj => by cases hx
theorem rowC_take {α : Type} {enc : α → Array Value} {k : Nat} (h : ∀ x, (enc x).size = k) (l : List α) (n : Nat) : (rowC enc l).take (n * k) = rowC enc (l.take n) := by
  induction l generalizing n with
  | nil => simp [rowC]
  | cons p l ih =>
    cases n with
    | zero => simp [rowC]
    | succ n => rw [show (n + 1) * k = (enc p).toList.length + n * k by rw [Array.length_toList, h, Nat.add_mul]; omega, rowC_cons, List.take_length_add_append, ih, List.take_succ_cons, rowC_cons]
theorem rowC_drop {α : Type} {enc : α → Array Value} {k : Nat} (h : ∀ x, (enc x).size = k) (l : List α) (n : Nat) : (rowC enc l).drop (n * k) = rowC enc (l.drop n) := by
  induction l generalizing n with
  | nil => simp [rowC]
  | cons p l ih =>
    cases n with
    | zero => simp
    | succ n => rw [show (n + 1) * k = (enc p).toList.length + n * k by rw [Array.length_toList, h, Nat.add_mul]; omega, rowC_cons, List.drop_length_add_append, ih, List.drop_succ_cons]
theorem rowC_all {α : Type} {enc : α → Array Value} {l : List α} (h : ∀ x ∈ l, (enc x).all (·.oneCell') = true) : ∀ u ∈ rowC enc l, u.oneCell' = true := by
  intro u hu
  obtain ⟨p, hp1, hp⟩ := List.mem_flatMap.1 hu
  exact Array.all_eq_true_iff_forall_mem.1 (h p hp1) u (by simpa using hp)
theorem wE_size (x : LR × Nat) : (wE x).size = 22 := rfl
theorem kE_size (x : Nat × LR) : (kE x).size = 22 := rfl
theorem lE_size (x : LR) : x.cells.size = 21 := rfl
theorem pE_size (x : PR) : x.cells.size = 25 := rfl

/-! ### A row that begins anywhere in a block -/
def OwnAt (w : World) (e : TypeId) (size : Nat) (v : Value) (n : Nat) (xs : List Value) : Prop :=
  xs.length = n * size ∧ ((v = .slice none 0 0 ∧ n = 0) ∨ ∃ q o c cur, v = .slice (some ⟨q, o, none⟩) n c ∧ w.heap[q]? = some (.cells cur e (0, 0)) ∧ n ≤ c ∧ c ≤ maxLen ∧ o + c * size ≤ cur.size ∧ (cur.toList.drop o).take (n * size) = xs)
theorem OwnAt.nil (w : World) (e : TypeId) (size : Nat) : OwnAt w e size (.slice none 0 0) 0 [] := ⟨by simp, .inl ⟨rfl, rfl⟩⟩
theorem OwnAt.lt {w : World} {e : TypeId} {size n : Nat} {v : Value} {xs : List Value} (h : OwnAt w e size v n xs) : ∀ q, v.ownBlock = some q → q < w.heap.size := by
  intro q hq
  rcases h.2 with ⟨rfl, _⟩ | ⟨q', o, c, cur, rfl, hh, _⟩
  · cases hq
  · injection hq with hq
    subst hq
    exact (Array.getElem?_eq_some_iff.1 hh).1
theorem OwnAt.shape {w : World} {e : TypeId} {size n : Nat} {v : Value} {xs : List Value} (h : OwnAt w e size v n xs) : ∃ A c, v = .slice A n c ∧ n ≤ c ∧ c ≤ maxLen := by
  rcases h.2 with ⟨rfl, rfl⟩ | ⟨q', o, c, cur, rfl, hh, h1, h2, _⟩
  · exact ⟨none, 0, rfl, Nat.le_refl _, by unfold maxLen; omega⟩
  · exact ⟨_, c, rfl, h1, h2⟩
theorem OwnAt.at_ {w : World} {e : TypeId} {size n c : Nat} {A : Option Addr} {xs : List Value} (h : OwnAt w e size (.slice A n c) n xs) (hn : 0 < n) : ∃ q o, A = some ⟨q, o, none⟩ := by
  rcases h.2 with ⟨h0, h1⟩ | ⟨q', o, c, cur, h0, _⟩
  · omega
  · injection h0 with h0
    exact ⟨_, _, h0⟩
theorem OwnAt.block {w w1 : World} {e : TypeId} {size n : Nat} {v : Value} {xs : List Value} (h : OwnAt w e size v n xs) (hb : ∀ q, v.ownBlock = some q → w1.heap[q]? = w.heap[q]?) : OwnAt w1 e size v n xs := by
  refine ⟨h.1, ?_⟩
  rcases h.2 with ⟨rfl, rfl⟩ | ⟨q', o, c, cur, rfl, hh, h1, h2, h3, h4⟩
  · exact .inl ⟨rfl, rfl⟩
  · exact .inr ⟨q', o, c, cur, rfl, (hb q' rfl).trans hh, h1, h2, h3, h4⟩
theorem OwnAt.touch {w w1 : World} {e : TypeId} {size n : Nat} {v : Value} {xs : List Value} {F : List Nat} (h : OwnAt w e size v n xs) (t : Touch F w w1) (hn : ∀ q, v.ownBlock = some q → q ∉ F) : OwnAt w1 e size v n xs :=
  h.block fun q hq => t.block q (h.lt q hq) (hn q hq)
theorem OwnAt.below {w w1 : World} {e : TypeId} {size n : Nat} {v : Value} {xs : List Value} (h : OwnAt w e size v n xs) (t : Below w.heap.size w w1) : OwnAt w1 e size v n xs := h.touch (Touch.ofBelow (F := []) t) (by simp)
theorem OwnAt.cells {w : World} {e : TypeId} {size n q o c : Nat} {xs : List Value} (h : OwnAt w e size (.slice (some ⟨q, o, none⟩) n c) n xs) : ∀ j u, xs[j]? = some u → w.cell? ⟨q, o + j, none⟩ = some u := by
  intro j u hu
  rcases h.2 with ⟨h0, _⟩ | ⟨q', o', c', cur, h0, hh, h1, h2, h3, h4⟩
  · cases h0
  · injection h0 with h0 _ _
    injection h0 with h0
    injection h0 with ha hb _
    subst ha hb
    refine bg_cell hh ?_
    have hj : j < n * size := by rw [← h.1]; exact (List.getElem?_eq_some_iff.1 hu).1
    rw [← h4, List.getElem?_take, if_pos hj, List.getElem?_drop, Array.getElem?_toList] at hu
    exact hu
theorem OwnAt.cellAt {w : World} {e : TypeId} {size n q o c : Nat} {xs : List Value} (h : OwnAt w e size (.slice (some ⟨q, o, none⟩) n c) n xs) (j : Nat) (hj : j < xs.length) : w.cell? ⟨q, o + j, none⟩ = xs[j]? := by
  rw [h.cells j _ (List.getElem?_eq_getElem hj), List.getElem?_eq_getElem hj]
theorem OwnAt.drop {w : World} {e : TypeId} {size n q o c k : Nat} {xs : List Value} (h : OwnAt w e size (.slice (some ⟨q, o, none⟩) n c) n xs) (hk : k ≤ n) : OwnAt w e size (.slice (some ⟨q, o + k * size, none⟩) (n - k) (c - k)) (n - k) (xs.drop (k * size)) := by
  have hm : k * size ≤ n * size := Nat.mul_le_mul_right _ hk
  refine ⟨by rw [List.length_drop, h.1, ← Nat.sub_mul], ?_⟩
  rcases h.2 with ⟨h0, _⟩ | ⟨q', o', c', cur, h0, hh, h1, h2, h3, h4⟩
  · cases h0
  · injection h0 with h0 _ hc
    injection h0 with h0
    injection h0 with ha hb _
    subst ha hb hc
    have hc2 : k * size ≤ c * size := Nat.mul_le_mul_right _ (by omega)
    refine .inr ⟨q, _, _, cur, rfl, hh, by omega, by omega, by rw [Nat.sub_mul]; omega, ?_⟩
    rw [← h4, List.drop_take, List.drop_drop, Nat.sub_mul]
theorem OwnAt.empty {w : World} {e : TypeId} {size n q o c : Nat} {xs : List Value} (h : OwnAt w e size (.slice (some ⟨q, o, none⟩) n c) n xs) : OwnAt w e size (.slice (some ⟨q, o, none⟩) 0 0) 0 [] := by
  refine ⟨by simp, ?_⟩
  rcases h.2 with ⟨h0, _⟩ | ⟨q', o', c', cur, h0, hh, h1, h2, h3, h4⟩
  · cases h0
  · injection h0 with h0 _ hc
    injection h0 with h0
    injection h0 with ha hb _
    subst ha hb hc
    exact .inr ⟨q, o, 0, cur, rfl, hh, Nat.le_refl _, by unfold maxLen; omega, by have := Nat.zero_le (c * size); omega, by simp⟩
/-- one cell of it is written -/
theorem OwnAt.set {w : World} {e : TypeId} {size n q o c : Nat} {xs : List Value} (h : OwnAt w e size (.slice (some ⟨q, o, none⟩) n c) n xs) (j : Nat) (u : Value) : OwnAt (w.setCell ⟨q, o + j, none⟩ u) e size (.slice (some ⟨q, o, none⟩) n c) n (xs.set j u) := by
  refine ⟨by rw [List.length_set]; exact h.1, ?_⟩
  rcases h.2 with ⟨h0, _⟩ | ⟨q', o', c', cur, h0, hh, h1, h2, h3, h4⟩
  · cases h0
  · injection h0 with h0 _ hc
    injection h0 with h0
    injection h0 with ha hb _
    subst ha hb hc
    have hc2 : n * size ≤ c * size := Nat.mul_le_mul_right _ h1
    refine .inr ⟨q, o, c, cur.setIfInBounds (o + j) u, rfl, ?_, h1, h2, by simpa using h3, ?_⟩
    · simp [World.setCell, Array.getElem?_modify, hh]
    · rw [Array.toList_setIfInBounds, List.drop_set, if_neg (by omega), Nat.add_sub_cancel_left, List.take_set, h4]
theorem ownAt_of_row {w : World} {base e size n : Nat} {v : Value} {xs : List Value} (h : w.ownsRow base e size v n xs) : OwnAt w e size v n xs := by
  refine ⟨h.1, ?_⟩
  rcases h.2 with ⟨rfl, rfl⟩ | ⟨g, cap, cur, rfl, hb, hg, hn, hc, hs, ht⟩
  · exact .inl ⟨rfl, rfl⟩
  · exact .inr ⟨g, 0, cap, cur, rfl, hg, hn, hc, by omega, by simpa using ht⟩
theorem run_append_at {P : Program} (w : World) (t ty e : TypeId) (i : TypeInfo) (z : Value) (size bytes : Nat) (ht : P.underlying t = some (.slice e)) (hi : P.info? e = some i) (hz : i.zero = some z)
    (hsize : i.size = size) (hby : i.bytes = bytes) (hzs : z.cells.size = size)
    (v : Value) (n : Nat) (xs : List Value) (hown : OwnAt w e size v n xs) (a : Addr) (m c : Nat) (news : List Value) (hm : 0 < m) (hl : news.length = m * size) (hnews : ∀ j u, news[j]? = some u → w.cell? (a.add j) = some u) (h1 : ∀ u ∈ news, u.oneCell' = true)
    (h63 : n + m ≤ maxLen) (hbytes : (n + m) * bytes ≤ 140737488355328) :
    ∃ v' w', (Builtin.append_ #[t, t] ty #[v, .slice (some a) m c]).run P w = .ok v' w' ∧ OwnAt w' e size v' (n + m) (xs ++ news) ∧ w.grownBy w' v.ownBlock ∧ SameOrNew w v v' := by
  subst hsize hby
  have hsmall : n + m ≤ 9223372036854775807 := by simp only [maxLen] at h63; omega
  have hlen : (xs ++ news).length = (n + m) * i.size := by rw [List.length_append, hown.1, hl, Nat.add_mul]
  have grown : ∀ (old : Nat), old < n + m → ∀ (row : Option Nat),
      OwnAt (w.drew.alloc (.cells (xs.toArray ++ news.toArray ++ Builtin.zeroCells z.cells (grownCap w (n + m) old e - (n + m))) e)) e i.size
        (.slice (some ⟨w.heap.size, 0, none⟩) (n + m) (grownCap w (n + m) old e)) (n + m) (xs ++ news) ∧
      w.grownBy (w.drew.alloc (.cells (xs.toArray ++ news.toArray ++ Builtin.zeroCells z.cells (grownCap w (n + m) old e - (n + m))) e)) row := by
    intro old ho row
    have hge := grownCap_ge w (n + m) old e
    have hcm : grownCap w (n + m) old e ≤ maxLen := grownCap_le_maxLen w (n + m) old e h63
    refine ⟨⟨hlen, .inr ⟨w.heap.size, 0, _, _, rfl, heap_alloc_new w.drew _, hge, hcm, ?_, ?_⟩⟩, ⟨rfl, rfl, rfl, by simp, fun k hk _ => Below.heap_alloc w.drew _ k hk⟩⟩
    · simp only [Array.size_append, List.size_toArray, size_zeroCells, hzs, hown.1, hl, ← Nat.add_mul]
      rw [Nat.zero_add]
      refine Nat.le_of_eq ?_
      congr 1
      omega
    · rw [List.drop_zero]
      simp only [Array.toList_append, List.append_assoc]
      rw [← List.append_assoc, ← hlen]
      exact List.take_left
  rcases hown.2 with ⟨rfl, rfl⟩ | ⟨g, o, cap, cur, rfl, hg, hnc, hcm, hcs, htake⟩
  · have hx : xs = [] := List.eq_nil_of_length_eq_zero (by simpa using hown.1)
    subst hx
    have hr := run_append_nil (P := P) w t ty e i z ht hi hz a m c news hl hnews (by omega) (by omega) (by have hb := hbytes; simp only [Nat.zero_add] at hb; omega)
    have hgr := grown 0 (by omega) (Value.ownBlock (.slice none 0 0))
    simp only [Nat.zero_add, List.nil_append, Array.empty_append] at hgr ⊢
    exact ⟨_, _, hr, hgr.1, hgr.2, fun q hq => .inr (by injection hq with hq; have h9 : w.heap.size = q := hq; omega)⟩
  · by_cases hroom : n + m ≤ cap
    · have hfit : o + n * i.size + news.length ≤ cur.size := by
        have h9 : (n + m) * i.size ≤ cap * i.size := Nat.mul_le_mul_right _ hroom
        rw [Nat.add_mul] at h9
        rw [hl]; omega
      have hf := run_firstCells_some (P := P) w i.size m a m c news hl hnews
      have hst := run_storeCells_at P g (o + n * i.size) e news 0 cur w hg (by simpa using hfit) h1
      simp only [Nat.add_zero] at hst
      refine ⟨.slice (some ⟨g, o, none⟩) (n + m) cap, _, by simp [Builtin.append_, run_underlying ht, sizeOf, typeInfo, hi, Builtin.lenOf, hroom, hf, Addr.add_lit, hst]; rfl, ⟨hlen, .inr ⟨g, o, cap, _, rfl, setRow_heap w g cur _ e _ hg, hroom, hcm, ?_, ?_⟩⟩, grown_setRow _ _ _, fun q hq => .inl hq⟩
      · simp only [List.size_toArray, List.length_append, List.length_take, List.length_drop, Array.length_toList]
        omega
      · have e1 : (cur.toList.take (o + n * i.size)).length = o + n * i.size := by rw [List.length_take, Array.length_toList]; omega
        rw [List.toList_toArray, List.drop_append_of_le_length (by rw [e1]; omega), List.drop_take, Nat.add_sub_cancel_left, htake, ← List.append_assoc, ← hlen]
        exact List.take_left
    · have holds : ∀ j u, xs[j]? = some u → w.cell? ((⟨g, o, none⟩ : Addr).add j) = some u := fun j u hj => by rw [Go.WideShapes.add_plain]; exact hown.cells j u hj
      have hr := run_append_grow (P := P) w t ty e i z ht hi hz ⟨g, o, none⟩ n cap xs hown.1 holds a m c news hl hnews (by omega) (by omega) (growslice_fits (by omega) hbytes)
      have hgr := grown cap (by omega) (Value.ownBlock (.slice (some ⟨g, o, none⟩) n cap))
      exact ⟨_, _, hr, hgr.1, hgr.2, fun q hq => .inr (by injection hq with hq; have h9 : w.heap.size = q := hq; omega)⟩
/-- append onto it, as one step of a region that draws -/
theorem step_append_at {P : Program} {ops : Array Oper} {o : Oper} {a : Act} {w : World} {K : Act → World → Prop} {Q : Exit → Act → World → Prop} {E : Prop} (hg : o.guard = none) (s x : Operand) (t : TypeId)
    (ho : o.op = .call { callee := .builtin .append, args := #[s, x], argTypes := #[t, t] })
    (e : TypeId) (i : TypeInfo) (z : Value) (size bytes : Nat) (ht : P.underlying t = some (.slice e)) (hi : P.info? e = some i) (hz : i.zero = some z)
    (hsize : i.size = size) (hby : i.bytes = bytes) (hzs : z.cells.size = size)
    (v : Value) (n : Nat) (xs : List Value) (hs : a.eval s = v) (hown : OwnAt w e size v n xs)
    (ad : Addr) (c : Nat) (news : List Value) (hx : a.eval x = .slice (some ad) 1 c) (hl : news.length = 1 * size) (hnews : ∀ j u, news[j]? = some u → w.cell? (ad.add j) = some u) (h1 : ∀ u ∈ news, u.oneCell' = true)
    (h63 : n + 1 ≤ maxLen) (hbytes : (n + 1) * bytes ≤ 140737488355328)
    (h : ∀ A c w', OwnAt w' e size (.slice A (n + 1) c) (n + 1) (xs ++ news) → w.grownBy w' v.ownBlock → SameOrNew w v (.slice A (n + 1) c) → K (a.put o.dst (.slice A (n + 1) c)) w') :
    if Region.wanted o (yielded ops a.tmps) = true then Oper.wp P o a w K Q else E := by
  obtain ⟨v', w', hr, h2, h3, h4⟩ := run_append_at (P := P) w t o.type e i z size bytes ht hi hz hsize hby hzs v n xs hown ad 1 c news (by decide) hl hnews h1 h63 hbytes
  obtain ⟨A, c, rfl, _, _⟩ := h2.shape
  exact step_append_run hg s x t t ho v (.slice (some ad) 1 _) hs hx hr (h A c w' h2 h3 h4)

/-! ### A link -/
structure LS where
  me : Int
  peer : Int
  sent : Nat
  waits : List (LR × Nat)
  came : Nat
  kept : List (Nat × LR)
  now : Nat
def lnCells (s : LS) (V K : Value) : Array Value := #[.bool true, .int .i64 s.me, .int .i64 s.peer, .int .i64 (s.sent : Nat), V, .int .i64 (s.came : Nat), K, .int .i64 (s.now : Nat)]
def LR.blocks (r : LR) : List Nat := r.a.ownBlock.toList ++ r.b.ownBlock.toList
/-- a letter's lists lie there, among the blocks L -/
structure LR.At (W : World) (L : List Nat) (r : LR) : Prop where
  a : SlAt W r.a r.l.ti
  b : SlAt W r.b r.l.li
  m : ∀ q ∈ r.blocks, q ∈ L
theorem slAt_touch {W W1 : World} {S : Value} {zs : List Item} {G : List Nat} (h : SlAt W S zs) (t : Touch G W W1) (hn : ∀ q, S.ownBlock = some q → q ∉ G) : SlAt W1 S zs := by
  obtain ⟨A, c, rfl, h2, h3, b, off, h⟩ := h
  refine ⟨A, c, rfl, h2, h3, b, off, fun i hi => ?_⟩
  obtain ⟨rfl, k1, k2, k3⟩ := h i hi
  have hb := hn b rfl
  exact ⟨rfl, Nat.lt_of_lt_of_le k1 t.size, (t.cell (p := ⟨b, off + i * 2, none⟩) k1 hb).trans k2, (t.cell (p := ⟨b, off + i * 2 + 1, none⟩) k1 hb).trans k3⟩
theorem LR.At.sl {W : World} {L : List Nat} {r : LR} (h : r.At W L) : r.sl := by
  obtain ⟨⟨A, c, h1, _⟩, ⟨B, d, h2, _⟩, _⟩ := h
  exact ⟨⟨_, _, _, h1⟩, _, _, _, h2⟩
theorem LR.At.touch {W W1 : World} {L G : List Nat} {r : LR} (h : r.At W L) (t : Touch G W W1) (hn : ∀ q ∈ L, q ∉ G) : r.At W1 L :=
  ⟨slAt_touch h.a t fun q hq => hn q (h.m q (by simp [LR.blocks, hq])), slAt_touch h.b t fun q hq => hn q (h.m q (by simp [LR.blocks, hq])), h.m⟩
theorem LR.At.below {W W1 : World} {L : List Nat} {r : LR} (h : r.At W L) (t : Below W.heap.size W W1) : r.At W1 L := ⟨h.a.below t, h.b.below t, h.m⟩
theorem LR.At.mono {W : World} {L M : List Nat} {r : LR} (h : r.At W L) (hm : ∀ q ∈ L, q ∈ M) : r.At W M := ⟨h.a, h.b, fun q hq => hm q (h.m q hq)⟩
theorem light_at (W : World) (L : List Nat) (k i : Int) : (LR.light k i).At W L := ⟨SlAt.nil W, SlAt.nil W, fun q hq => by simp [LR.blocks, Value.ownBlock] at hq⟩
theorem light_sl (k i : Int) : (LR.light k i).sl := ⟨⟨_, _, _, rfl⟩, _, _, _, rfl⟩
/-- the link at block g: V, K: the values of its two lists; L: the blocks of its letters' lists -/
structure LNX (W : World) (g : Nat) (s : LS) (V K : Value) (L : List Nat) : Prop where
  hg : W.heap[g]? = some (.cells (lnCells s V K) 76)
  v : OwnAt W 80 22 V s.waits.length (rowC wE s.waits)
  k : W.ownsRow 0 110 22 K s.kept.length (rowC kE s.kept)
  gv : ∀ q, V.ownBlock = some q → q ≠ g
  gk : ∀ q, K.ownBlock = some q → q ≠ g
  vk : ∀ q, V.ownBlock = some q → K.ownBlock ≠ some q
  lw : ∀ x ∈ s.waits, x.1.At W L
  lk : ∀ x ∈ s.kept, x.2.At W L
  lt : ∀ q ∈ L, q < W.heap.size
  lf : ∀ q ∈ L, q ≠ g ∧ V.ownBlock ≠ some q ∧ K.ownBlock ≠ some q
def fr (g : Nat) (V K : Value) : List Nat := g :: (V.ownBlock.toList ++ K.ownBlock.toList)
theorem mem_fr {g q : Nat} {V K : Value} : q ∈ fr g V K ↔ q = g ∨ V.ownBlock = some q ∨ K.ownBlock = some q := by
  simp [fr, Option.mem_toList]
theorem LNX.glt {W : World} {g : Nat} {s : LS} {V K : Value} {L : List Nat} (h : LNX W g s V K L) : g < W.heap.size := bg_lt h.hg
theorem LNX.flt {W : World} {g : Nat} {s : LS} {V K : Value} {L : List Nat} (h : LNX W g s V K L) : ∀ q ∈ fr g V K, q < W.heap.size := by
  intro q hq
  rcases mem_fr.1 hq with rfl | e | e
  · exact h.glt
  · exact h.v.lt q e
  · exact (h.k.lt q e).2
theorem LNX.touch {W W1 : World} {g : Nat} {s : LS} {V K : Value} {L G : List Nat} (h : LNX W g s V K L) (t : Touch G W W1) (hf : ∀ q ∈ fr g V K, q ∉ G) (hl : ∀ q ∈ L, q ∉ G) : LNX W1 g s V K L where
  hg := (t.block g h.glt (hf g (by simp [fr]))).trans h.hg
  v := h.v.touch t fun q hq => hf q (mem_fr.2 (.inr (.inl hq)))
  k := t.row h.k fun q hq => hf q (mem_fr.2 (.inr (.inr hq)))
  gv := h.gv
  gk := h.gk
  vk := h.vk
  lw := fun x hx => (h.lw x hx).touch t hl
  lk := fun x hx => (h.lk x hx).touch t hl
  lt := fun q hq => Nat.lt_of_lt_of_le (h.lt q hq) t.size
  lf := h.lf
theorem LNX.below {W W1 : World} {g : Nat} {s : LS} {V K : Value} {L : List Nat} (h : LNX W g s V K L) (t : Below W.heap.size W W1) : LNX W1 g s V K L := h.touch (Touch.ofBelow (F := []) t) (by simp) (by simp)
theorem LNX.drewN {W : World} {g : Nat} {s : LS} {V K : Value} {L : List Nat} (h : LNX W g s V K L) (n : Nat) : LNX (W.drewN n) g s V K L := h.below (below_drewN (Below.refl _ _) n)
/-- more blocks of lists -/
theorem LNX.more {W : World} {g : Nat} {s : LS} {V K : Value} {L M : List Nat} (h : LNX W g s V K L) (hm : ∀ q ∈ L, q ∈ M) (lt : ∀ q ∈ M, q < W.heap.size) (lf : ∀ q ∈ M, q ≠ g ∧ V.ownBlock ≠ some q ∧ K.ownBlock ≠ some q) : LNX W g s V K M where
  hg := h.hg
  v := h.v
  k := h.k
  gv := h.gv
  gk := h.gk
  vk := h.vk
  lw := fun x hx => (h.lw x hx).mono hm
  lk := fun x hx => (h.lk x hx).mono hm
  lt := lt
  lf := lf
theorem LNX.c0 {W : World} {g : Nat} {s : LS} {V K : Value} {L : List Nat} (h : LNX W g s V K L) : W.cell? ⟨g, 0, none⟩ = some (.bool true) := bg_cell h.hg rfl
theorem LNX.c1 {W : World} {g : Nat} {s : LS} {V K : Value} {L : List Nat} (h : LNX W g s V K L) : W.cell? ⟨g, 1, none⟩ = some (.int .i64 s.me) := bg_cell h.hg rfl
theorem LNX.c2 {W : World} {g : Nat} {s : LS} {V K : Value} {L : List Nat} (h : LNX W g s V K L) : W.cell? ⟨g, 2, none⟩ = some (.int .i64 s.peer) := bg_cell h.hg rfl
theorem LNX.c3 {W : World} {g : Nat} {s : LS} {V K : Value} {L : List Nat} (h : LNX W g s V K L) : W.cell? ⟨g, 3, none⟩ = some (.int .i64 (s.sent : Nat)) := bg_cell h.hg rfl
theorem LNX.c4 {W : World} {g : Nat} {s : LS} {V K : Value} {L : List Nat} (h : LNX W g s V K L) : W.cell? ⟨g, 4, none⟩ = some V := bg_cell h.hg rfl
theorem LNX.c5 {W : World} {g : Nat} {s : LS} {V K : Value} {L : List Nat} (h : LNX W g s V K L) : W.cell? ⟨g, 5, none⟩ = some (.int .i64 (s.came : Nat)) := bg_cell h.hg rfl
theorem LNX.c6 {W : World} {g : Nat} {s : LS} {V K : Value} {L : List Nat} (h : LNX W g s V K L) : W.cell? ⟨g, 6, none⟩ = some K := bg_cell h.hg rfl
theorem LNX.c7 {W : World} {g : Nat} {s : LS} {V K : Value} {L : List Nat} (h : LNX W g s V K L) : W.cell? ⟨g, 7, none⟩ = some (.int .i64 (s.now : Nat)) := bg_cell h.hg rfl
theorem LNX.free {W : World} {g : Nat} {s : LS} {V K : Value} {L : List Nat} (h : LNX W g s V K L) (i : Nat) : W.frozen? ⟨g, i, none⟩ = false := by simp [World.frozen?, h.hg]
theorem lnx_set {W : World} {g : Nat} {s' : LS} {V' K' : Value} {L : List Nat} {cs : Array Value} (hg : W.heap[g]? = some (.cells cs 76)) (i : Nat) (u : Value) (e : cs.setIfInBounds i u = lnCells s' V' K')
    (hv : OwnAt W 80 22 V' s'.waits.length (rowC wE s'.waits)) (hk : W.ownsRow 0 110 22 K' s'.kept.length (rowC kE s'.kept)) (gv : ∀ q, V'.ownBlock = some q → q ≠ g) (gk : ∀ q, K'.ownBlock = some q → q ≠ g) (vk : ∀ q, V'.ownBlock = some q → K'.ownBlock ≠ some q)
    (lw : ∀ x ∈ s'.waits, x.1.At W L) (lk : ∀ x ∈ s'.kept, x.2.At W L) (lt : ∀ q ∈ L, q < W.heap.size) (lf : ∀ q ∈ L, q ≠ g ∧ V'.ownBlock ≠ some q ∧ K'.ownBlock ≠ some q) : LNX (W.setCell ⟨g, i, none⟩ u) g s' V' K' L := by
  have t : Touch [g] W (W.setCell ⟨g, i, none⟩ u) := (Touch.refl _ _).set (.inl (by simp)) u
  refine ⟨?_, hv.touch t fun q hq => by simpa using gv q hq, t.row hk fun q hq => by simpa using gk q hq, gv, gk, vk, fun x hx => (lw x hx).touch t fun q hq => by simpa using (lf q hq).1, fun x hx => (lk x hx).touch t fun q hq => by simpa using (lf q hq).1, fun q hq => Nat.lt_of_lt_of_le (lt q hq) t.size, lf⟩
  simp [World.setCell, Array.getElem?_modify, hg, e]
theorem LNX.setSent {W : World} {g : Nat} {s : LS} {V K : Value} {L : List Nat} (h : LNX W g s V K L) (n : Nat) : LNX (W.setCell ⟨g, 3, none⟩ (.int .i64 (n : Nat))) g {s with sent := n} V K L :=
  lnx_set h.hg 3 _ rfl h.v h.k h.gv h.gk h.vk h.lw h.lk h.lt h.lf
theorem LNX.setCame {W : World} {g : Nat} {s : LS} {V K : Value} {L : List Nat} (h : LNX W g s V K L) (n : Nat) : LNX (W.setCell ⟨g, 5, none⟩ (.int .i64 (n : Nat))) g {s with came := n} V K L :=
  lnx_set h.hg 5 _ rfl h.v h.k h.gv h.gk h.vk h.lw h.lk h.lt h.lf
theorem LNX.setNow {W : World} {g : Nat} {s : LS} {V K : Value} {L : List Nat} (h : LNX W g s V K L) (n : Nat) : LNX (W.setCell ⟨g, 7, none⟩ (.int .i64 (n : Nat))) g {s with now := n} V K L :=
  lnx_set h.hg 7 _ rfl h.v h.k h.gv h.gk h.vk h.lw h.lk h.lt h.lf
/-- the list of what waits was written anew, or turned in its place -/
theorem lnx_setV {W w : World} {g n : Nat} {s : LS} {V K V' : Value} {L M : List Nat} {ws : List (LR × Nat)} (h : LNX W g s V K L) (t : Touch V.ownBlock.toList W w) (hn : ws.length = n) (ho : OwnAt w 80 22 V' n (rowC wE ws))
    (hs : ∀ q, V'.ownBlock = some q → V.ownBlock = some q ∨ W.heap.size ≤ q) (hL : ∀ q ∈ L, q ∈ M) (hM : ∀ q ∈ M, q ∈ L ∨ (W.heap.size ≤ q ∧ q < w.heap.size)) (hMV : ∀ q ∈ M, V'.ownBlock ≠ some q) (hw : ∀ x ∈ ws, x.1.At w M) : LNX (w.setCell ⟨g, 4, none⟩ V') g {s with waits := ws} V' K M := by
  subst hn
  have hgn : g ∉ V.ownBlock.toList := fun z => h.gv g (by simpa using z) rfl
  refine lnx_set ((t.block g h.glt hgn).trans h.hg) 4 _ rfl ho (t.row h.k fun q hq z => h.vk q (by simpa using z) hq) (fun q hq => ?_) h.gk (fun q hq z => ?_) hw (fun x hx => ((h.lk x hx).touch t fun q hq z => (h.lf q hq).2.1 (by simpa using z)).mono hL) (fun q hq => ?_) (fun q hq => ⟨?_, hMV q hq, fun z => ?_⟩)
  · rcases hs q hq with z | z
    · exact h.gv q z
    · have := h.glt; omega
  · rcases hs q hq with y | y
    · exact h.vk q y z
    · have := (h.k.lt q z).2; omega
  · rcases hM q hq with z | z
    · exact Nat.lt_of_lt_of_le (h.lt q z) t.size
    · exact z.2
  · rcases hM q hq with z | z
    · exact (h.lf q z).1
    · have := h.glt; omega
  · rcases hM q hq with y | y
    · exact (h.lf q y).2.2 z
    · have := (h.k.lt q z).2; omega
/-- the list of what was kept was -/
theorem lnx_setK {W w : World} {g n : Nat} {s : LS} {V K K' : Value} {L M : List Nat} {ks : List (Nat × LR)} (h : LNX W g s V K L) (t : Touch K.ownBlock.toList W w) (hn : ks.length = n) (ho : w.ownsRow 0 110 22 K' n (rowC kE ks))
    (hs : ∀ q, K'.ownBlock = some q → K.ownBlock = some q ∨ W.heap.size ≤ q) (hL : ∀ q ∈ L, q ∈ M) (hM : ∀ q ∈ M, q ∈ L ∨ (W.heap.size ≤ q ∧ q < w.heap.size)) (hMK : ∀ q ∈ M, K'.ownBlock ≠ some q) (hk : ∀ x ∈ ks, x.2.At w M) : LNX (w.setCell ⟨g, 6, none⟩ K') g {s with kept := ks} V K' M := by
  subst hn
  have hgn : g ∉ K.ownBlock.toList := fun z => h.gk g (by simpa using z) rfl
  refine lnx_set ((t.block g h.glt hgn).trans h.hg) 6 _ rfl (h.v.touch t fun q hq z => h.vk q hq (by simpa using z)) ho h.gv (fun q hq => ?_) (fun q hq z => ?_) (fun x hx => ((h.lw x hx).touch t fun q hq z => (h.lf q hq).2.2 (by simpa using z)).mono hL) hk (fun q hq => ?_) (fun q hq => ⟨?_, fun z => ?_, hMK q hq⟩)
  · rcases hs q hq with z | z
    · exact h.gk q z
    · have := h.glt; omega
  · rcases hs q z with y | y
    · exact h.vk q hq y
    · have := h.v.lt q hq; omega
  · rcases hM q hq with z | z
    · exact Nat.lt_of_lt_of_le (h.lt q z) t.size
    · exact z.2
  · rcases hM q hq with z | z
    · exact (h.lf q z).1
    · have := h.glt; omega
  · rcases hM q hq with y | y
    · exact (h.lf q y).2.1 z
    · have := h.v.lt q z; omega
/-- what a call that writes to a link leaves; O: blocks that it lets out -/
def LStep (W w : World) (g : Nat) (F L : List Nat) (s' : LS) (O : List Nat) : Prop :=
  Touch F W w ∧ ∃ V K L', LNX w g s' V K L' ∧ (∀ q ∈ fr g V K, q ∈ F ∨ W.heap.size ≤ q) ∧ (∀ q ∈ L', q ∈ L ∨ W.heap.size ≤ q) ∧ ∀ q ∈ O, q < w.heap.size ∧ q ∉ fr g V K
/-- what is asked of numbers, so that none runs over -/
structure LS.Ok (s : LS) : Prop where
  sent : s.sent ≤ 1000000
  waits : s.waits.length ≤ s.sent
  came : s.came ≤ 1000000
  now : s.now ≤ 1000000
  kept : s.kept.length ≤ 90000
  at_ : ∀ x ∈ s.waits, x.2 ≤ 1000000
end Go.Proofs.Ytfemdfidfomchaa
