/-
  Nodes in memory: a node's two cells and its two rows (NdX); a store of nodes, each with blocks of its own (Sto): what a step that turns one node, or lays a new one, leaves of it.
-/
import Derived.Test.YtojiblhaiokdcaaSlices
import Derived.Test.YtojiblhaiokdcaaRefShelf
namespace Go.Proofs.Ytojiblhaiokdcaa
open Go.RowKit

/-- a node: its items, and the blocks of the nodes below it -/
structure Nd where
  its : List Item
  ps : List Nat
def ptr (g : Nat) : Value := .pointer (some ⟨g, 0, none⟩)
def ptrCells (ps : List Nat) : List Value := ps.map ptr
theorem ptr_one : ∀ (ps : List Nat), ∀ u ∈ ptrCells ps, u.oneCell' = true := by
  intro ps u h
  obtain ⟨q, _, rfl⟩ := List.mem_map.1 h
  rfl
theorem ptrCells_length (ps : List Nat) : (ptrCells ps).length = ps.length := List.length_map ptr
theorem ptrCells_get (ps : List Nat) (i : Nat) (h : i < ps.length) : (ptrCells ps)[i]? = some (ptr ps[i]) := by
  rw [ptrCells, List.getElem?_map, List.getElem?_eq_getElem h]; rfl
/-- x put in at place i -/
def insAt {α : Type} (l : List α) (i : Nat) (x : α) : List α := l.take i ++ x :: l.drop i
/-- what stands at place i taken away -/
def remAt {α : Type} (l : List α) (i : Nat) : List α := l.take i ++ l.drop (i + 1)
theorem insAt_length {α : Type} (l : List α) (i : Nat) (x : α) (h : i ≤ l.length) : (insAt l i x).length = l.length + 1 := by
  simp [insAt]; omega
theorem remAt_length {α : Type} (l : List α) (i : Nat) (h : i < l.length) : (remAt l i).length = l.length - 1 := by
  simp [remAt]; omega
/-- the blocks of two rows -/
def blocks (v u : Value) : List Nat := v.ownBlock.toList ++ u.ownBlock.toList
theorem mem_blocks {v u : Value} {q : Nat} : q ∈ blocks v u ↔ v.ownBlock = some q ∨ u.ownBlock = some q := by simp [blocks]

/-- a node at block g: v the slice of its items, u that of the nodes below it -/
structure NdX (W : World) (g : Nat) (its : List Item) (ps : List Nat) (v u : Value) : Prop where
  lt : g < W.heap.size
  c0 : W.cell? ⟨g, 0, none⟩ = some v
  c1 : W.cell? ⟨g, 1, none⟩ = some u
  f0 : W.frozen? ⟨g, 0, none⟩ = false
  f1 : W.frozen? ⟨g, 1, none⟩ = false
  r0 : W.ownsRow 0 39 2 v its.length (itemCells its)
  r1 : W.ownsRow 0 63 1 u ps.length (ptrCells ps)
  n0 : ∀ q, v.ownBlock = some q → q ≠ g
  n1 : ∀ q, u.ownBlock = some q → q ≠ g
  ap : ∀ q, v.ownBlock = some q → u.ownBlock ≠ some q
theorem NdX.ltb {W : World} {g : Nat} {its : List Item} {ps : List Nat} {v u : Value} (h : NdX W g its ps v u) : ∀ q, q ∈ blocks v u → q < W.heap.size ∧ q ≠ g := by
  intro q hq
  rcases mem_blocks.1 hq with e | e
  · exact ⟨(h.r0.lt q e).2, h.n0 q e⟩
  · exact ⟨(h.r1.lt q e).2, h.n1 q e⟩
theorem NdX.touch {W W1 : World} {g : Nat} {its : List Item} {ps : List Nat} {v u : Value} {G : List Nat} (h : NdX W g its ps v u) (ht : Touch G W W1) (hg : g ∉ G) (hb : ∀ q, q ∈ blocks v u → q ∉ G) : NdX W1 g its ps v u :=
  ⟨Nat.lt_of_lt_of_le h.lt ht.size, (ht.cell (p := ⟨g, 0, none⟩) h.lt hg).trans h.c0, (ht.cell (p := ⟨g, 1, none⟩) h.lt hg).trans h.c1, (ht.frozen (p := ⟨g, 0, none⟩) h.lt hg).trans h.f0, (ht.frozen (p := ⟨g, 1, none⟩) h.lt hg).trans h.f1,
    ht.row h.r0 (fun q e => hb q (mem_blocks.2 (.inl e))), ht.row h.r1 (fun q e => hb q (mem_blocks.2 (.inr e))), h.n0, h.n1, h.ap⟩
theorem NdX.new {W W1 : World} {g : Nat} {its : List Item} {ps : List Nat} {v u : Value} (h : NdX W g its ps v u) (ht : Touch [] W W1) : NdX W1 g its ps v u := h.touch ht (by simp) (by simp)
theorem NdX.drew {W : World} {g : Nat} {its : List Item} {ps : List Nat} {v u : Value} (h : NdX W g its ps v u) : NdX W.drew g its ps v u := h.new ((Touch.refl _ _).drew)
/-- its items turned -/
theorem NdX.set0 {W w1 : World} {g : Nat} {its its' : List Item} {ps : List Nat} {v u v' : Value} (h : NdX W g its ps v u) (hg : W.grownBy w1 v.ownBlock) (ho : w1.ownsRow 0 39 2 v' its'.length (itemCells its')) (hs : SameOrNew W v v') :
    NdX (w1.setCell ⟨g, 0, none⟩ v') g its' ps v' u ∧ Touch (g :: blocks v u) W (w1.setCell ⟨g, 0, none⟩ v') ∧ ∀ q, q ∈ blocks v' u → q ∈ blocks v u ∨ W.heap.size ≤ q := by
  have hT : Touch (blocks v u) W w1 := (Touch.refl _ _).grown hg (fun k hk => .inl (mem_blocks.2 (.inl hk)))
  have hgn : g ∉ blocks v u := fun e => (h.ltb g e).2 rfl
  have e0 := (hT.cell (p := ⟨g, 0, none⟩) h.lt hgn).trans h.c0
  have e1 := (hT.cell (p := ⟨g, 1, none⟩) h.lt hgn).trans h.c1
  have f0 := (hT.frozen (p := ⟨g, 0, none⟩) h.lt hgn).trans h.f0
  have f1 := (hT.frozen (p := ⟨g, 1, none⟩) h.lt hgn).trans h.f1
  have r1 : w1.ownsRow 0 63 1 u ps.length (ptrCells ps) := h.r1.kept hg (by
    rcases u.ownBlock.eq_none_or_eq_some with e | ⟨q, e⟩
    · exact .inl e
    · exact .inr (fun e2 => h.ap q (e2.symm.trans e) e))
  have hset : Touch [g] w1 (w1.setCell ⟨g, 0, none⟩ v') := (Touch.refl _ _).set (.inl (by simp)) _
  have hv' : ∀ q, v'.ownBlock = some q → q ≠ g := fun q e => by
    rcases hs q e with e2 | e2
    · exact h.n0 q e2
    · have := h.lt; omega
  refine ⟨⟨?_, World.cell?_setCell_same _ _ _ e0, ?_, ?_, ?_, hset.row ho (fun q e => by simpa using hv' q e), hset.row r1 (fun q e => by simpa using h.n1 q e), hv', h.n1, ?_⟩, ?_, ?_⟩
  · simpa [World.setCell] using Nat.lt_of_lt_of_le h.lt hT.size
  · rw [World.cell?_setCell_other _ _ _ _ (by simp)]; exact e1
  · rw [World.frozen?_setCell]; exact f0
  · rw [World.frozen?_setCell]; exact f1
  · intro q e e2
    rcases hs q e with e3 | e3
    · exact h.ap q e3 e2
    · have := (h.r1.lt q e2).2; omega
  · exact (hT.mono (fun x hx => List.mem_cons_of_mem _ hx)).set (.inl (by simp)) _
  · intro q hq
    rcases mem_blocks.1 hq with e | e
    · rcases hs q e with e2 | e2
      · exact .inl (mem_blocks.2 (.inl e2))
      · exact .inr e2
    · exact .inl (mem_blocks.2 (.inr e))
/-- the nodes below it turned -/
theorem NdX.set1 {W w1 : World} {g : Nat} {its : List Item} {ps ps' : List Nat} {v u u' : Value} (h : NdX W g its ps v u) (hg : W.grownBy w1 u.ownBlock) (ho : w1.ownsRow 0 63 1 u' ps'.length (ptrCells ps')) (hs : SameOrNew W u u') :
    NdX (w1.setCell ⟨g, 1, none⟩ u') g its ps' v u' ∧ Touch (g :: blocks v u) W (w1.setCell ⟨g, 1, none⟩ u') ∧ ∀ q, q ∈ blocks v u' → q ∈ blocks v u ∨ W.heap.size ≤ q := by
  have hT : Touch (blocks v u) W w1 := (Touch.refl _ _).grown hg (fun k hk => .inl (mem_blocks.2 (.inr hk)))
  have hgn : g ∉ blocks v u := fun e => (h.ltb g e).2 rfl
  have e0 := (hT.cell (p := ⟨g, 0, none⟩) h.lt hgn).trans h.c0
  have e1 := (hT.cell (p := ⟨g, 1, none⟩) h.lt hgn).trans h.c1
  have f0 := (hT.frozen (p := ⟨g, 0, none⟩) h.lt hgn).trans h.f0
  have f1 := (hT.frozen (p := ⟨g, 1, none⟩) h.lt hgn).trans h.f1
  have r0 : w1.ownsRow 0 39 2 v its.length (itemCells its) := h.r0.kept hg (by
    rcases v.ownBlock.eq_none_or_eq_some with e | ⟨q, e⟩
    · exact .inl e
    · exact .inr (fun e2 => h.ap q e (e2.symm.trans e)))
  have hset : Touch [g] w1 (w1.setCell ⟨g, 1, none⟩ u') := (Touch.refl _ _).set (.inl (by simp)) _
  have hu' : ∀ q, u'.ownBlock = some q → q ≠ g := fun q e => by
    rcases hs q e with e2 | e2
    · exact h.n1 q e2
    · have := h.lt; omega
  refine ⟨⟨?_, ?_, World.cell?_setCell_same _ _ _ e1, ?_, ?_, hset.row r0 (fun q e => by simpa using h.n0 q e), hset.row ho (fun q e => by simpa using hu' q e), h.n0, hu', ?_⟩, ?_, ?_⟩
  · simpa [World.setCell] using Nat.lt_of_lt_of_le h.lt hT.size
  · rw [World.cell?_setCell_other _ _ _ _ (by simp)]; exact e0
  · rw [World.frozen?_setCell]; exact f0
  · rw [World.frozen?_setCell]; exact f1
  · intro q e e2
    rcases hs q e2 with e3 | e3
    · exact h.ap q e e3
    · have := (h.r0.lt q e).2; omega
  · exact (hT.mono (fun x hx => List.mem_cons_of_mem _ hx)).set (.inl (by simp)) _
  · intro q hq
    rcases mem_blocks.1 hq with e | e
    · exact .inl (mem_blocks.2 (.inl e))
    · rcases hs q e with e2 | e2
      · exact .inl (mem_blocks.2 (.inr e2))
      · exact .inr e2

/-! ### A store of nodes -/
abbrev NMap := Nat → Option Nd
def upd (m : NMap) (g : Nat) (nd : Nd) : NMap := fun x => if x = g then some nd else m x
theorem upd_same (m : NMap) (g : Nat) (nd : Nd) : upd m g nd g = some nd := by simp [upd]
theorem upd_other (m : NMap) {g x : Nat} (nd : Nd) (h : x ≠ g) : upd m g nd x = m x := by simp [upd, h]
/-- the store m in W; F: all blocks of it -/
def Sto (W : World) (m : NMap) (F : List Nat) : Prop :=
  ∃ vs us : Nat → Value, (∀ g nd, m g = some nd → NdX W g nd.its nd.ps (vs g) (us g) ∧ g ∈ F ∧ ∀ q, q ∈ blocks (vs g) (us g) → q ∈ F) ∧
    (∀ g nd g' nd', m g = some nd → m g' = some nd' → g ≠ g' → g' ∉ blocks (vs g) (us g) ∧ ∀ q, q ∈ blocks (vs g) (us g) → q ∉ blocks (vs g') (us g')) ∧ ∀ q, q ∈ F → q < W.heap.size
/-- from W with blocks F to w with blocks F': nothing else is turned, what F' has beside F is new -/
def Stp (W : World) (F : List Nat) (w : World) (F' : List Nat) : Prop := Touch F W w ∧ ∀ q, q ∈ F' → q ∈ F ∨ W.heap.size ≤ q
theorem Stp.refl (W : World) (F : List Nat) : Stp W F W F := ⟨Touch.refl _ _, fun _ h => .inl h⟩
theorem Stp.trans {a b c : World} {F G H : List Nat} (h : Stp a F b G) (k : Stp b G c H) : Stp a F c H :=
  ⟨h.1.trans k.1 h.2, fun q hq => by
    rcases k.2 q hq with e | e
    · exact h.2 q e
    · exact .inr (Nat.le_trans h.1.size e)⟩
theorem Stp.below {a b : World} {F : List Nat} (h : Below a.heap.size a b) : Stp a F b F := ⟨Touch.ofBelow h, fun _ h => .inl h⟩
theorem Stp.same {a b : World} {F : List Nat} (h : Touch F a b) : Stp a F b F := ⟨h, fun _ h => .inl h⟩
theorem Sto.lt {W : World} {m : NMap} {F : List Nat} (h : Sto W m F) : ∀ q, q ∈ F → q < W.heap.size := by
  obtain ⟨_, _, _, _, h3⟩ := h
  exact h3
theorem Sto.mem {W : World} {m : NMap} {F : List Nat} (h : Sto W m F) {g : Nat} {nd : Nd} (hm : m g = some nd) : g ∈ F := by
  obtain ⟨_, _, h1, _, _⟩ := h
  exact (h1 g nd hm).2.1
theorem Sto.touch {W W1 : World} {m : NMap} {F G : List Nat} (h : Sto W m F) (ht : Touch G W W1) (hG : ∀ q, q ∈ F → q ∉ G) : Sto W1 m F := by
  obtain ⟨vs, us, h1, h2, h3⟩ := h
  exact ⟨vs, us, fun g nd hm => ⟨(h1 g nd hm).1.touch ht (hG g (h1 g nd hm).2.1) (fun q hq => hG q ((h1 g nd hm).2.2 q hq)), (h1 g nd hm).2⟩, h2, fun q hq => Nat.lt_of_lt_of_le (h3 q hq) ht.size⟩
theorem Sto.new {W W1 : World} {m : NMap} {F : List Nat} (h : Sto W m F) (ht : Touch [] W W1) : Sto W1 m F := h.touch ht (by simp)
theorem Sto.below {W W1 : World} {m : NMap} {F : List Nat} (h : Sto W m F) (hb : Below W.heap.size W W1) : Sto W1 m F := h.new (Touch.ofBelow hb)
theorem Sto.drew {W : World} {m : NMap} {F : List Nat} (h : Sto W m F) : Sto W.drew m F := h.new ((Touch.refl _ _).drew)
theorem Sto.drewN {W : World} {m : NMap} {F : List Nat} (h : Sto W m F) (n : Nat) : Sto (W.drewN n) m F := h.new ((Touch.refl _ _).drewN n)
/-- what a step that turns node g alone leaves of a store -/
def Turns (W : World) (m : NMap) (F : List Nat) (g : Nat) (v u : Value) : Prop :=
  ∀ (w : World) (its' : List Item) (ps' : List Nat) (v' u' : Value), NdX w g its' ps' v' u' → Touch (g :: blocks v u) W w →
      (∀ q, q ∈ blocks v' u' → q ∈ blocks v u ∨ W.heap.size ≤ q) → Sto w (upd m g ⟨its', ps'⟩) (F ++ blocks v' u') ∧ Stp W F w (F ++ blocks v' u')
/-- a node of the store -/
theorem Sto.at {W : World} {m : NMap} {F : List Nat} (h : Sto W m F) {g : Nat} {nd : Nd} (hm : m g = some nd) :
    ∃ v u, NdX W g nd.its nd.ps v u ∧ (∀ q, q ∈ blocks v u → q ∈ F) ∧ Turns W m F g v u := by
  obtain ⟨vs, us, h1, h2, h3⟩ := h
  obtain ⟨a, b, c⟩ := h1 g nd hm
  refine ⟨vs g, us g, a, c, fun w its' ps' v' u' hn ht hb => ⟨⟨fun x => if x = g then v' else vs x, fun x => if x = g then u' else us x, ?_, ?_, ?_⟩, ?_, ?_⟩⟩
  · intro x nx hx
    by_cases e : x = g
    · subst e
      rw [upd_same] at hx
      injection hx with hx
      subst hx
      simp only [if_true]
      exact ⟨hn, by simp [b], fun q hq => by simp [hq]⟩
    · rw [upd_other _ _ e] at hx
      simp only [if_neg e]
      obtain ⟨a', b', c'⟩ := h1 x nx hx
      have hd := h2 g nd x nx hm hx (fun e2 => e e2.symm)
      refine ⟨a'.touch ht (by simp only [List.mem_cons, not_or]; exact ⟨e, hd.1⟩) (fun q hq => ?_), by simp [b'], fun q hq => by simp [c' q hq]⟩
      simp only [List.mem_cons, not_or]
      exact ⟨fun e2 => (h2 x nx g nd hx hm e).1 (e2 ▸ hq), fun h9 => hd.2 q h9 hq⟩
  · intro x nx y ny hx hy hxy
    by_cases e : x = g
    · subst e
      have ey : y ≠ x := fun e => hxy e.symm
      rw [upd_other _ _ ey] at hy
      simp only [if_true, if_neg ey]
      obtain ⟨a', b', c'⟩ := h1 y ny hy
      have hd := h2 x nd y ny hm hy hxy
      have hlt := h3 y b'
      refine ⟨fun hq => ?_, fun q hq hq2 => ?_⟩
      · rcases hb y hq with h9 | h9
        · exact hd.1 h9
        · omega
      · rcases hb q hq with h9 | h9
        · exact hd.2 q h9 hq2
        · have := (a'.ltb q hq2).1; omega
    · rw [upd_other _ _ e] at hx
      simp only [if_neg e]
      obtain ⟨a', b', c'⟩ := h1 x nx hx
      by_cases e2 : y = g
      · subst e2
        simp only [if_true]
        have hd := h2 x nx y nd hx hm e
        refine ⟨hd.1, fun q hq hq2 => ?_⟩
        rcases hb q hq2 with h9 | h9
        · exact hd.2 q hq h9
        · have := (a'.ltb q hq).1; omega
      · rw [upd_other _ _ e2] at hy
        simp only [if_neg e2]
        exact h2 x nx y ny hx hy hxy
  · intro q hq
    rcases List.mem_append.1 hq with h9 | h9
    · exact Nat.lt_of_lt_of_le (h3 q h9) ht.size
    · exact (hn.ltb q h9).1
  · exact ht.mono (fun q hq => by
      rcases List.mem_cons.1 hq with e | e
      · rw [e]; exact b
      · exact c q e)
  · intro q hq
    rcases List.mem_append.1 hq with h9 | h9
    · exact .inl h9
    · rcases hb q h9 with e | e
      · exact .inl (c q e)
      · exact .inr e
/-- a new node -/
theorem Sto.add {W w : World} {m : NMap} {F : List Nat} (h : Sto W m F) {g : Nat} {its : List Item} {ps : List Nat} {v u : Value} (hn : NdX w g its ps v u) (hb : Below W.heap.size W w) (hg : W.heap.size ≤ g) (hq : ∀ q, q ∈ blocks v u → W.heap.size ≤ q) :
    Sto w (upd m g ⟨its, ps⟩) (F ++ g :: blocks v u) ∧ Stp W F w (F ++ g :: blocks v u) := by
  obtain ⟨vs, us, h1, h2, h3⟩ := h
  have ht : Touch [] W w := Touch.ofBelow hb
  have hne : ∀ x nx, m x = some nx → x ≠ g := fun x nx hx e => by have := h3 x (h1 x nx hx).2.1; omega
  refine ⟨⟨fun x => if x = g then v else vs x, fun x => if x = g then u else us x, ?_, ?_, ?_⟩, ht.mono (by simp), ?_⟩
  · intro x nx hx
    by_cases e : x = g
    · subst e
      rw [upd_same] at hx
      injection hx with hx
      subst hx
      simp only [if_true]
      exact ⟨hn, by simp, fun q hq => by simp [hq]⟩
    · rw [upd_other _ _ e] at hx
      simp only [if_neg e]
      obtain ⟨a', b', c'⟩ := h1 x nx hx
      exact ⟨a'.new ht, by simp [b'], fun q hq => by simp [c' q hq]⟩
  · intro x nx y ny hx hy hxy
    by_cases e : x = g
    · subst e
      have ey : y ≠ x := fun e => hxy e.symm
      rw [upd_other _ _ ey] at hy
      simp only [if_true, if_neg ey]
      obtain ⟨a', b', c'⟩ := h1 y ny hy
      refine ⟨fun h9 => ?_, fun q h9 h10 => ?_⟩
      · have := hq y h9; have := h3 y b'; omega
      · have := hq q h9; have := (a'.ltb q h10).1; omega
    · rw [upd_other _ _ e] at hx
      simp only [if_neg e]
      obtain ⟨a', b', c'⟩ := h1 x nx hx
      by_cases e2 : y = g
      · subst e2
        simp only [if_true]
        refine ⟨fun h9 => by have := (a'.ltb y h9).1; omega, fun q h9 h10 => ?_⟩
        have := hq q h10; have := (a'.ltb q h9).1; omega
      · rw [upd_other _ _ e2] at hy
        simp only [if_neg e2]
        exact h2 x nx y ny hx hy hxy
  · intro q h9
    rcases List.mem_append.1 h9 with h10 | h10
    · exact Nat.lt_of_lt_of_le (h3 q h10) ht.size
    · rcases List.mem_cons.1 h10 with e | e
      · rw [e]; exact hn.lt
      · exact (hn.ltb q e).1
  · intro q h9
    rcases List.mem_append.1 h9 with h10 | h10
    · exact .inl h10
    · rcases List.mem_cons.1 h10 with e | e
      · exact .inr (by rw [e]; exact hg)
      · exact .inr (hq q e)
theorem Sto.empty (W : World) : Sto W (fun _ => none) [] :=
  ⟨fun _ => undef, fun _ => undef, ⟨fun g nd h => (by cases h), fun g nd g' nd' h => (by cases h), fun q h => (by cases h)⟩⟩
/-- two stores with no block in common -/
def joinM (m1 m2 : NMap) : NMap := fun x => if (m1 x).isSome then m1 x else m2 x
theorem joinM_left {m1 m2 : NMap} {g : Nat} {nd : Nd} (h : m1 g = some nd) : joinM m1 m2 g = some nd := by simp [joinM, h]
theorem joinM_right {W : World} {m1 m2 : NMap} {F1 F2 : List Nat} (h1 : Sto W m1 F1) (hd : ∀ q, q ∈ F1 → q ∉ F2) {g : Nat} (hg : g ∈ F2) : joinM m1 m2 g = m2 g := by
  cases e : m1 g with
  | none => simp [joinM, e]
  | some nd => exact absurd hg (hd g (h1.mem e))
theorem joinM_cases {m1 m2 : NMap} {g : Nat} {nd : Nd} (h : joinM m1 m2 g = some nd) : (m1 g = some nd ∧ (m1 g).isSome = true) ∨ ((m1 g).isSome = false ∧ m2 g = some nd) := by
  unfold joinM at h
  cases e : m1 g with
  | none => rw [e] at h; exact .inr ⟨rfl, h⟩
  | some x => rw [e] at h; exact .inl ⟨h, rfl⟩
theorem Sto.join {W : World} {m1 m2 : NMap} {F1 F2 : List Nat} (h1 : Sto W m1 F1) (h2 : Sto W m2 F2) (hd : ∀ q, q ∈ F1 → q ∉ F2) : Sto W (joinM m1 m2) (F1 ++ F2) := by
  obtain ⟨vs1, us1, a1, b1, c1⟩ := h1
  obtain ⟨vs2, us2, a2, b2, c2⟩ := h2
  refine ⟨fun x => if (m1 x).isSome then vs1 x else vs2 x, fun x => if (m1 x).isSome then us1 x else us2 x, ?_, ?_, ?_⟩
  · intro g nd h
    rcases joinM_cases h with ⟨e, e1⟩ | ⟨e1, e⟩
    · simp only [e1, if_true]
      obtain ⟨x, y, z⟩ := a1 g nd e
      exact ⟨x, by simp [y], fun q hq => by simp [z q hq]⟩
    · simp only [e1, Bool.false_eq_true, if_false]
      obtain ⟨x, y, z⟩ := a2 g nd e
      exact ⟨x, by simp [y], fun q hq => by simp [z q hq]⟩
  · intro g nd g' nd' h h' hne
    rcases joinM_cases h with ⟨e, e1⟩ | ⟨e1, e⟩ <;> rcases joinM_cases h' with ⟨e', e1'⟩ | ⟨e1', e'⟩
    · simp only [e1, e1', if_true]
      exact b1 g nd g' nd' e e' hne
    · simp only [e1, e1', if_true, Bool.false_eq_true, if_false]
      have x := a1 g nd e
      have y := a2 g' nd' e'
      exact ⟨fun h9 => hd g' (x.2.2 g' h9) y.2.1, fun q h9 h10 => hd q (x.2.2 q h9) (y.2.2 q h10)⟩
    · simp only [e1, e1', if_true, Bool.false_eq_true, if_false]
      have x := a2 g nd e
      have y := a1 g' nd' e'
      exact ⟨fun h9 => hd g' y.2.1 (x.2.2 g' h9), fun q h9 h10 => hd q (y.2.2 q h10) (x.2.2 q h9)⟩
    · simp only [e1, e1', Bool.false_eq_true, if_false]
      exact b2 g nd g' nd' e e' hne
  · intro q hq
    rcases List.mem_append.1 hq with h | h
    · exact c1 q h
    · exact c2 q h
theorem Sto.congr {W : World} {m m' : NMap} {F : List Nat} (h : Sto W m F) (e : ∀ x, m' x = m x) : Sto W m' F := by
  have : m' = m := funext e
  rw [this]; exact h
/-- a store of one node -/
theorem Sto.single {w : World} {g : Nat} {its : List Item} {ps : List Nat} {v u : Value} (hn : NdX w g its ps v u) : Sto w (upd (fun _ => none) g ⟨its, ps⟩) (g :: blocks v u) := by
  refine ⟨fun _ => v, fun _ => u, ?_, ?_, ?_⟩
  · intro x nx hx
    by_cases e : x = g
    · subst e
      rw [upd_same] at hx
      injection hx with hx
      subst hx
      exact ⟨hn, by simp, fun q hq => by simp [hq]⟩
    · rw [upd_other _ _ e] at hx
      cases hx
  · intro x nx y ny hx hy hxy
    by_cases e : x = g
    · by_cases e2 : y = g
      · exact absurd (e.trans e2.symm) hxy
      · rw [upd_other _ _ e2] at hy
        cases hy
    · rw [upd_other _ _ e] at hx
      cases hx
  · intro q hq
    rcases List.mem_cons.1 hq with e | e
    · rw [e]; exact hn.lt
    · exact (hn.ltb q e).1
/-- node g turned, and a new node beside it -/
theorem Turns.two {W : World} {m : NMap} {F : List Nat} {g : Nat} {v u : Value} (hS : Sto W m F) (h : Turns W m F g v u) {w : World} {its1 its2 : List Item} {ps1 ps2 : List Nat} {v1 u1 v2 u2 : Value} {g2 : Nat} (h1 : NdX w g its1 ps1 v1 u1)
    (h2 : NdX w g2 its2 ps2 v2 u2) (ht : Touch (g :: blocks v u) W w) (hb : ∀ q, q ∈ blocks v1 u1 → q < W.heap.size ∧ q ∈ blocks v u) (hg2 : W.heap.size ≤ g2) (hb2 : ∀ q, q ∈ blocks v2 u2 → W.heap.size ≤ q) :
    Sto w (upd (upd m g ⟨its1, ps1⟩) g2 ⟨its2, ps2⟩) ((F ++ blocks v1 u1) ++ (g2 :: blocks v2 u2)) ∧ Stp W F w ((F ++ blocks v1 u1) ++ (g2 :: blocks v2 u2)) := by
  obtain ⟨a, b⟩ := h w its1 ps1 v1 u1 h1 ht (fun q hq => .inl (hb q hq).2)
  have c := Sto.single h2
  have hn : m g2 = none := by
    cases e : m g2 with
    | none => rfl
    | some nd => have := hS.lt g2 (hS.mem e); omega
  have hlt : ∀ q, q ∈ F ++ blocks v1 u1 → q < W.heap.size := by
    intro q hq
    rcases List.mem_append.1 hq with e | e
    · exact hS.lt q e
    · exact (hb q e).1
  have hge : ∀ q, q ∈ g2 :: blocks v2 u2 → W.heap.size ≤ q := by
    intro q hq
    rcases List.mem_cons.1 hq with e | e
    · omega
    · exact hb2 q e
  refine ⟨(a.join c (fun q hq hq2 => by have := hlt q hq; have := hge q hq2; omega)).congr (fun x => ?_), b.1, fun q hq => ?_⟩
  · by_cases e : x = g2
    · subst e
      have hg : x ≠ g := by
        rintro rfl
        have := (h1.lt); have := hlt x (by
          have hm := a.mem (upd_same m x ⟨its1, ps1⟩)
          exact hm)
        omega
      simp [upd, joinM, hn, hg]
    · unfold joinM
      cases e2 : upd m g ⟨its1, ps1⟩ x with
      | none => simp [upd_other _ _ e, e2]
      | some nd => simp [upd_other _ _ e, e2]
  · rcases List.mem_append.1 hq with e | e
    · exact b.2 q e
    · exact .inr (hge q e)
end Go.Proofs.Ytojiblhaiokdcaa
