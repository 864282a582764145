/-
  Nodes in memory: a node's two cells and its two rows (NdX); a store of nodes, each with blocks of its own (Sto): what a step that turns one node, or lays a new one, leaves of it.
  The walks of a node's small methods: down, item.
-/
import Derived.Test.YthgndgoljchnfaaGreatHg16
import Derived.Test.YthgndgoljchnfaaGreatHg12
namespace Go.Proofs.YthgndgoljchnfaaGreat
open Go.RowKit

/-- a node: its items, and the blocks of the nodes below it -/
structure Nd where
  its : List Item
  ps : List Nat
def ptr (g : Nat) : Value := .pointer (some ⟨g, 0, none⟩)
def ptrCells (ps : List Nat) : List Value := ps.map ptr
theorem ptr_one : ∀ (ps : List Nat), ∀ u ∈ ptrCells ps, u.oneCell' = true := by
  intro ps u h
  obtain ⟨q, _, rfl⟩ := List.mem_map.1 h
  rfl
theorem ptrCells_length (ps : List Nat) : (ptrCells ps).length = ps.length := List.length_map ptr
theorem ptrCells_get (ps : List Nat) (i : Nat) (h : i < ps.length) : (ptrCells ps)[i]? = some (ptr ps[i]) := by
  rw [ptrCells, List.getElem?_map, List.getElem?_eq_getElem h]; rfl
/-- x put in at place i -/
def insAt {α : Type} (l : List α) (i : Nat) (x : α) : List α := l.take i ++ x :: l.drop i
/-- what stands at place i taken away -/
def remAt {α : Type} (l : List α) (i : Nat) : List α := l.take i ++ l.drop (i + 1)
theorem insAt_length {α : Type} (l : List α) (i : Nat) (x : α) (h : i ≤ l.length) : (insAt l i x).length = l.length + 1 := by
  simp [insAt]; omega
theorem remAt_length {α : Type} (l : List α) (i : Nat) (h : i < l.length) : (remAt l i).length = l.length - 1 := by
  simp [remAt]; omega
/-- the blocks of two rows -/
def blocks (v u : Value) : List Nat := v.ownBlock.toList ++ u.ownBlock.toList
theorem mem_blocks {v u : Value} {q : Nat} : q ∈ blocks v u ↔ v.ownBlock = some q ∨ u.ownBlock = some q := by simp [blocks]

/-- a node at block g: v the slice of its items, u that of the nodes below it -/
structure NdX (W : World) (g : Nat) (its : List Item) (ps : List Nat) (v u : Value) : Prop where
  lt : g < W.heap.size
  c0 : W.cell? ⟨g, 0, none⟩ = some v
  c1 : W.cell? ⟨g, 1, none⟩ = some u
  f0 : W.frozen? ⟨g, 0, none⟩ = false
  f1 : W.frozen? ⟨g, 1, none⟩ = false
  r0 : W.ownsRow 0 31 2 v its.length (itemCells its)
  r1 : W.ownsRow 0 101 1 u ps.length (ptrCells ps)
  n0 : ∀ q, v.ownBlock = some q → q ≠ g
  n1 : ∀ q, u.ownBlock = some q → q ≠ g
  ap : ∀ q, v.ownBlock = some q → u.ownBlock ≠ some q
theorem NdX.ltb {W : World} {g : Nat} {its : List Item} {ps : List Nat} {v u : Value} (h : NdX W g its ps v u) : ∀ q, q ∈ blocks v u → q < W.heap.size ∧ q ≠ g := by
  intro q hq
  rcases mem_blocks.1 hq with e | e
  · exact ⟨(h.r0.lt q e).2, h.n0 q e⟩
  · exact ⟨(h.r1.lt q e).2, h.n1 q e⟩
theorem NdX.touch {W W1 : World} {g : Nat} {its : List Item} {ps : List Nat} {v u : Value} {G : List Nat} (h : NdX W g its ps v u) (ht : Touch G W W1) (hg : g ∉ G) (hb : ∀ q, q ∈ blocks v u → q ∉ G) : NdX W1 g its ps v u :=
  ⟨Nat.lt_of_lt_of_le h.lt ht.size, (ht.cell (p := ⟨g, 0, none⟩) h.lt hg).trans h.c0, (ht.cell (p := ⟨g, 1, none⟩) h.lt hg).trans h.c1, (ht.frozen (p := ⟨g, 0, none⟩) h.lt hg).trans h.f0, (ht.frozen (p := ⟨g, 1, none⟩) h.lt hg).trans h.f1,
    ht.row h.r0 (fun q e => hb q (mem_blocks.2 (.inl e))), ht.row h.r1 (fun q e => hb q (mem_blocks.2 (.inr e))), h.n0, h.n1, h.ap⟩
theorem NdX.new {W W1 : World} {g : Nat} {its : List Item} {ps : List Nat} {v u : Value} (h : NdX W g its ps v u) (ht : Touch [] W W1) : NdX W1 g its ps v u := h.touch ht (by simp) (by simp)
theorem NdX.drew {W : World} {g : Nat} {its : List Item} {ps : List Nat} {v u : Value} (h : NdX W g its ps v u) : NdX W.drew g its ps v u := h.new ((Touch.refl _ _).drew)
/-- its items turned -/
theorem NdX.set0 {W w1 : World} {g : Nat} {its its' : List Item} {ps : List Nat} {v u v' : Value} (h : NdX W g its ps v u) (hg : W.grownBy w1 v.ownBlock) (ho : w1.ownsRow 0 31 2 v' its'.length (itemCells its')) (hs : SameOrNew W v v') :
    NdX (w1.setCell ⟨g, 0, none⟩ v') g its' ps v' u ∧ Touch (g :: blocks v u) W (w1.setCell ⟨g, 0, none⟩ v') ∧ ∀ q, q ∈ blocks v' u → q ∈ blocks v u ∨ W.heap.size ≤ q := by
  have hT : Touch (blocks v u) W w1 := (Touch.refl _ _).grown hg (fun k hk => .inl (mem_blocks.2 (.inl hk)))
  have hgn : g ∉ blocks v u := fun e => (h.ltb g e).2 rfl
  have e0 := (hT.cell (p := ⟨g, 0, none⟩) h.lt hgn).trans h.c0
  have e1 := (hT.cell (p := ⟨g, 1, none⟩) h.lt hgn).trans h.c1
  have f0 := (hT.frozen (p := ⟨g, 0, none⟩) h.lt hgn).trans h.f0
  have f1 := (hT.frozen (p := ⟨g, 1, none⟩) h.lt hgn).trans h.f1
  have r1 : w1.ownsRow 0 101 1 u ps.length (ptrCells ps) := h.r1.kept hg (by
    rcases u.ownBlock.eq_none_or_eq_some with e | ⟨q, e⟩
    · exact .inl e
    · exact .inr (fun e2 => h.ap q (e2.symm.trans e) e))
  have hset : Touch [g] w1 (w1.setCell ⟨g, 0, none⟩ v') := (Touch.refl _ _).set (.inl (by simp)) _
  have hv' : ∀ q, v'.ownBlock = some q → q ≠ g := fun q e => by
    rcases hs q e with e2 | e2
    · exact h.n0 q e2
    · have := h.lt; omega
  refine ⟨⟨?_, World.cell?_setCell_same _ _ _ e0, ?_, ?_, ?_, hset.row ho (fun q e => by simpa using hv' q e), hset.row r1 (fun q e => by simpa using h.n1 q e), hv', h.n1, ?_⟩, ?_, ?_⟩
  · simpa [World.setCell] using Nat.lt_of_lt_of_le h.lt hT.size
  · rw [World.cell?_setCell_other _ _ _ _ (by simp)]; exact e1
  · rw [World.frozen?_setCell]; exact f0
  · rw [World.frozen?_setCell]; exact f1
  · intro q e e2
    rcases hs q e with e3 | e3
    · exact h.ap q e3 e2
    · have := (h.r1.lt q e2).2; omega
  · exact (hT.mono (fun x hx => List.mem_cons_of_mem _ hx)).set (.inl (by simp)) _
  · intro q hq
    rcases mem_blocks.1 hq with e | e
    · rcases hs q e with e2 | e2
      · exact .inl (mem_blocks.2 (.inl e2))
      · exact .inr e2
    · exact .inl (mem_blocks.2 (.inr e))
/-- the nodes below it turned -/
theorem NdX.set1 {W w1 : World} {g : Nat} {its : List Item} {ps ps' : List Nat} {v u u' : Value} (h : NdX W g its ps v u) (hg : W.grownBy w1 u.ownBlock) (ho : w1.ownsRow 0 101 1 u' ps'.length (ptrCells ps')) (hs : SameOrNew W u u') :
    NdX (w1.setCell ⟨g, 1, none⟩ u') g its ps' v u' ∧ Touch (g :: blocks v u) W (w1.setCell ⟨g, 1, none⟩ u') ∧ ∀ q, q ∈ blocks v u' → q ∈ blocks v u ∨ W.heap.size ≤ q := by
  have hT : Touch (blocks v u) W w1 := (Touch.refl _ _).grown hg (fun k hk => .inl (mem_blocks.2 (.inr hk)))
  have hgn : g ∉ blocks v u := fun e => (h.ltb g e).2 rfl
  have e0 := (hT.cell (p := ⟨g, 0, none⟩) h.lt hgn).trans h.c0
  have e1 := (hT.cell (p := ⟨g, 1, none⟩) h.lt hgn).trans h.c1
  have f0 := (hT.frozen (p := ⟨g, 0, none⟩) h.lt hgn).trans h.f0
  have f1 := (hT.frozen (p := ⟨g, 1, none⟩) h.lt hgn).trans h.f1
  have r0 : w1.ownsRow 0 31 2 v its.length (itemCells its) := h.r0.kept hg (by
    rcases v.ownBlock.eq_none_or_eq_some with e | ⟨q, e⟩
    · exact .inl e
    · exact .inr (fun e2 => h.ap q e (e2.symm.trans e)))
  have hset : Touch [g] w1 (w1.setCell ⟨g, 1, none⟩ u') := (Touch.refl _ _).set (.inl (by simp)) _
  have hu' : ∀ q, u'.ownBlock = some q → q ≠ g := fun q e => by
    rcases hs q e with e2 | e2
    · exact h.n1 q e2
    · have := h.lt; omega
  refine ⟨⟨?_, ?_, World.cell?_setCell_same _ _ _ e1, ?_, ?_, hset.row r0 (fun q e => by simpa using h.n0 q e), hset.row ho (fun q e => by simpa using hu' q e), h.n0, hu', ?_⟩, ?_, ?_⟩
  · simpa [World.setCell] using Nat.lt_of_lt_of_le h.lt hT.size
  · rw [World.cell?_setCell_other _ _ _ _ (by simp)]; exact e0
  · rw [World.frozen?_setCell]; exact f0
  · rw [World.frozen?_setCell]; exact f1
  · intro q e e2
    rcases hs q e2 with e3 | e3
    · exact h.ap q e e3
    · have := (h.r0.lt q e).2; omega
  · exact (hT.mono (fun x hx => List.mem_cons_of_mem _ hx)).set (.inl (by simp)) _
  · intro q hq
    rcases mem_blocks.1 hq with e | e
    · exact .inl (mem_blocks.2 (.inl e))
    · rcases hs q e with e2 | e2
      · exact .inl (mem_blocks.2 (.inr e2))
      · exact .inr e2

/-! ### A store of nodes -/
abbrev NMap := Nat → Option Nd
def upd (m : NMap) (g : Nat) (nd : Nd) : NMap := fun x => if x = g then some nd else m x
theorem upd_same (m : NMap) (g : Nat) (nd : Nd) : upd m g nd g = some nd := by simp [upd]
theorem upd_other (m : NMap) {g x : Nat} (nd : Nd) (h : x ≠ g) : upd m g nd x = m x := by simp [upd, h]
/-- the store m in W; F: all blocks of it -/
def Sto (W : World) (m : NMap) (F : List Nat) : Prop :=
  ∃ vs us : Nat → Value, (∀ g nd, m g = some nd → NdX W g nd.its nd.ps (vs g) (us g) ∧ g ∈ F ∧ ∀ q, q ∈ blocks (vs g) (us g) → q ∈ F) ∧
    (∀ g nd g' nd', m g = some nd → m g' = some nd' → g ≠ g' → g' ∉ blocks (vs g) (us g) ∧ ∀ q, q ∈ blocks (vs g) (us g) → q ∉ blocks (vs g') (us g')) ∧ ∀ q, q ∈ F → q < W.heap.size
/-- from W with blocks F to w with blocks F': nothing else is turned, what F' has beside F is new -/
def Stp (W : World) (F : List Nat) (w : World) (F' : List Nat) : Prop := Touch F W w ∧ ∀ q, q ∈ F' → q ∈ F ∨ W.heap.size ≤ q
theorem Stp.refl (W : World) (F : List Nat) : Stp W F W F := ⟨Touch.refl _ _, fun _ h => .inl h⟩
theorem Stp.trans {a b c : World} {F G H : List Nat} (h : Stp a F b G) (k : Stp b G c H) : Stp a F c H :=
  ⟨h.1.trans k.1 h.2, fun q hq => by
    rcases k.2 q hq with e | e
    · exact h.2 q e
    · exact .inr (Nat.le_trans h.1.size e)⟩
theorem Stp.below {a b : World} {F : List Nat} (h : Below a.heap.size a b) : Stp a F b F := ⟨Touch.ofBelow h, fun _ h => .inl h⟩
theorem Stp.same {a b : World} {F : List Nat} (h : Touch F a b) : Stp a F b F := ⟨h, fun _ h => .inl h⟩
theorem Sto.lt {W : World} {m : NMap} {F : List Nat} (h : Sto W m F) : ∀ q, q ∈ F → q < W.heap.size := by
  obtain ⟨_, _, _, _, h3⟩ := h
  exact h3
theorem Sto.mem {W : World} {m : NMap} {F : List Nat} (h : Sto W m F) {g : Nat} {nd : Nd} (hm : m g = some nd) : g ∈ F := by
  obtain ⟨_, _, h1, _, _⟩ := h
  exact (h1 g nd hm).2.1
theorem Sto.touch {W W1 : World} {m : NMap} {F G : List Nat} (h : Sto W m F) (ht : Touch G W W1) (hG : ∀ q, q ∈ F → q ∉ G) : Sto W1 m F := by
  obtain ⟨vs, us, h1, h2, h3⟩ := h
  exact ⟨vs, us, fun g nd hm => ⟨(h1 g nd hm).1.touch ht (hG g (h1 g nd hm).2.1) (fun q hq => hG q ((h1 g nd hm).2.2 q hq)), (h1 g nd hm).2⟩, h2, fun q hq => Nat.lt_of_lt_of_le (h3 q hq) ht.size⟩
theorem Sto.new {W W1 : World} {m : NMap} {F : List Nat} (h : Sto W m F) (ht : Touch [] W W1) : Sto W1 m F := h.touch ht (by simp)
theorem Sto.below {W W1 : World} {m : NMap} {F : List Nat} (h : Sto W m F) (hb : Below W.heap.size W W1) : Sto W1 m F := h.new (Touch.ofBelow hb)
theorem Sto.drew {W : World} {m : NMap} {F : List Nat} (h : Sto W m F) : Sto W.drew m F := h.new ((Touch.refl _ _).drew)
theorem Sto.drewN {W : World} {m : NMap} {F : List Nat} (h : Sto W m F) (n : Nat) : Sto (W.drewN n) m F := h.new ((Touch.refl _ _).drewN n)
/-- what a step that turns node g alone leaves of a store -/
def NTurns (W : World) (m : NMap) (F : List Nat) (g : Nat) (v u : Value) : Prop :=
  ∀ (w : World) (its' : List Item) (ps' : List Nat) (v' u' : Value), NdX w g its' ps' v' u' → Touch (g :: blocks v u) W w →
      (∀ q, q ∈ blocks v' u' → q ∈ blocks v u ∨ W.heap.size ≤ q) → Sto w (upd m g ⟨its', ps'⟩) (F ++ blocks v' u') ∧ Stp W F w (F ++ blocks v' u')
/-- a node of the store -/
theorem Sto.at {W : World} {m : NMap} {F : List Nat} (h : Sto W m F) {g : Nat} {nd : Nd} (hm : m g = some nd) :
    ∃ v u, NdX W g nd.its nd.ps v u ∧ (∀ q, q ∈ blocks v u → q ∈ F) ∧ NTurns W m F g v u := by
  obtain ⟨vs, us, h1, h2, h3⟩ := h
  obtain ⟨a, b, c⟩ := h1 g nd hm
  refine ⟨vs g, us g, a, c, fun w its' ps' v' u' hn ht hb => ⟨⟨fun x => if x = g then v' else vs x, fun x => if x = g then u' else us x, ?_, ?_, ?_⟩, ?_, ?_⟩⟩
  · intro x nx hx
    by_cases e : x = g
    · subst e
      rw [upd_same] at hx
      injection hx with hx
      subst hx
      simp only [if_true]
      exact ⟨hn, by simp [b], fun q hq => by simp [hq]⟩
    · rw [upd_other _ _ e] at hx
      simp only [if_neg e]
      obtain ⟨a', b', c'⟩ := h1 x nx hx
      have hd := h2 g nd x nx hm hx (fun e2 => e e2.symm)
      refine ⟨a'.touch ht (by simp only [List.mem_cons, not_or]; exact ⟨e, hd.1⟩) (fun q hq => ?_), by simp [b'], fun q hq => by simp [c' q hq]⟩
      simp only [List.mem_cons, not_or]
      exact ⟨fun e2 => (h2 x nx g nd hx hm e).1 (e2 ▸ hq), fun h9 => hd.2 q h9 hq⟩
  · intro x nx y ny hx hy hxy
    by_cases e : x = g
    · subst e
      have ey : y ≠ x := fun e => hxy e.symm
      rw [upd_other _ _ ey] at hy
      simp only [if_true, if_neg ey]
      obtain ⟨a', b', c'⟩ := h1 y ny hy
      have hd := h2 x nd y ny hm hy hxy
      have hlt := h3 y b'
      refine ⟨fun hq => ?_, fun q hq hq2 => ?_⟩
      · rcases hb y hq with h9 | h9
        · exact hd.1 h9
        · omega
      · rcases hb q hq with h9 | h9
        · exact hd.2 q h9 hq2
        · have := (a'.ltb q hq2).1; omega
    · rw [upd_other _ _ e] at hx
      simp only [if_neg e]
      obtain ⟨a', b', c'⟩ := h1 x nx hx
      by_cases e2 : y = g
      · subst e2
        simp only [if_true]
        have hd := h2 x nx y nd hx hm e
        refine ⟨hd.1, fun q hq hq2 => ?_⟩
        rcases hb q hq2 with h9 | h9
        · exact hd.2 q hq h9
        · have := (a'.ltb q hq).1; omega
      · rw [upd_other _ _ e2] at hy
        simp only [if_neg e2]
        exact h2 x nx y ny hx hy hxy
  · intro q hq
    rcases List.mem_append.1 hq with h9 | h9
    · exact Nat.lt_of_lt_of_le (h3 q h9) ht.size
    · exact (hn.ltb q h9).1
  · exact ht.mono (fun q hq => by
      rcases List.mem_cons.1 hq with e | e
      · rw [e]; exact b
      · exact c q e)
  · intro q hq
    rcases List.mem_append.1 hq with h9 | h9
    · exact .inl h9
    · rcases hb q h9 with e | e
      · exact .inl (c q e)
      · exact .inr e
/-- a new node -/
theorem Sto.add {W w : World} {m : NMap} {F : List Nat} (h : Sto W m F) {g : Nat} {its : List Item} {ps : List Nat} {v u : Value} (hn : NdX w g its ps v u) (hb : Below W.heap.size W w) (hg : W.heap.size ≤ g) (hq : ∀ q, q ∈ blocks v u → W.heap.size ≤ q) :
    Sto w (upd m g ⟨its, ps⟩) (F ++ g :: blocks v u) ∧ Stp W F w (F ++ g :: blocks v u) := by
  obtain ⟨vs, us, h1, h2, h3⟩ := h
  have ht : Touch [] W w := Touch.ofBelow hb
  have hne : ∀ x nx, m x = some nx → x ≠ g := fun x nx hx e => by have := h3 x (h1 x nx hx).2.1; omega
  refine ⟨⟨fun x => if x = g then v else vs x, fun x => if x = g then u else us x, ?_, ?_, ?_⟩, ht.mono (by simp), ?_⟩
  · intro x nx hx
    by_cases e : x = g
    · subst e
      rw [upd_same] at hx
      injection hx with hx
      subst hx
      simp only [if_true]
      exact ⟨hn, by simp, fun q hq => by simp [hq]⟩
    · rw [upd_other _ _ e] at hx
      simp only [if_neg e]
      obtain ⟨a', b', c'⟩ := h1 x nx hx
      exact ⟨a'.new ht, by simp [b'], fun q hq => by simp [c' q hq]⟩
  · intro x nx y ny hx hy hxy
    by_cases e : x = g
    · subst e
      have ey : y ≠ x := fun e => hxy e.symm
      rw [upd_other _ _ ey] at hy
      simp only [if_true, if_neg ey]
      obtain ⟨a', b', c'⟩ := h1 y ny hy
      refine ⟨fun h9 => ?_, fun q h9 h10 => ?_⟩
      · have := hq y h9; have := h3 y b'; omega
      · have := hq q h9; have := (a'.ltb q h10).1; omega
    · rw [upd_other _ _ e] at hx
      simp only [if_neg e]
      obtain ⟨a', b', c'⟩ := h1 x nx hx
      by_cases e2 : y = g
      · subst e2
        simp only [if_true]
        refine ⟨fun h9 => by have := (a'.ltb y h9).1; omega, fun q h9 h10 => ?_⟩
        have := hq q h10; have := (a'.ltb q h9).1; omega
      · rw [upd_other _ _ e2] at hy
        simp only [if_neg e2]
        exact h2 x nx y ny hx hy hxy
  · intro q h9
    rcases List.mem_append.1 h9 with h10 | h10
    · exact Nat.lt_of_lt_of_le (h3 q h10) ht.size
    · rcases List.mem_cons.1 h10 with e | e
      · rw [e]; exact hn.lt
      · exact (hn.ltb q e).1
  · intro q h9
    rcases List.mem_append.1 h9 with h10 | h10
    · exact .inl h10
    · rcases List.mem_cons.1 h10 with e | e
      · exact .inr (by rw [e]; exact hg)
      · exact .inr (hq q e)
theorem Sto.empty (W : World) : Sto W (fun _ => none) [] :=
  ⟨fun _ => undef, fun _ => undef, ⟨fun g nd h => (by cases h), fun g nd g' nd' h => (by cases h), fun q h => (by cases h)⟩⟩
/-- two stores with no block in common -/
def joinM (m1 m2 : NMap) : NMap := fun x => if (m1 x).isSome then m1 x else m2 x
theorem joinM_left {m1 m2 : NMap} {g : Nat} {nd : Nd} (h : m1 g = some nd) : joinM m1 m2 g = some nd := by simp [joinM, h]
theorem joinM_right {W : World} {m1 m2 : NMap} {F1 F2 : List Nat} (h1 : Sto W m1 F1) (hd : ∀ q, q ∈ F1 → q ∉ F2) {g : Nat} (hg : g ∈ F2) : joinM m1 m2 g = m2 g := by
  cases e : m1 g with
  | none => simp [joinM, e]
  | some nd => exact absurd hg (hd g (h1.mem e))
theorem joinM_cases {m1 m2 : NMap} {g : Nat} {nd : Nd} (h : joinM m1 m2 g = some nd) : (m1 g = some nd ∧ (m1 g).isSome = true) ∨ ((m1 g).isSome = false ∧ m2 g = some nd) := by
  unfold joinM at h
  cases e : m1 g with
  | none => rw [e] at h; exact .inr ⟨rfl, h⟩
  | some x => rw [e] at h; exact .inl ⟨h, rfl⟩
theorem Sto.join {W : World} {m1 m2 : NMap} {F1 F2 : List Nat} (h1 : Sto W m1 F1) (h2 : Sto W m2 F2) (hd : ∀ q, q ∈ F1 → q ∉ F2) : Sto W (joinM m1 m2) (F1 ++ F2) := by
  obtain ⟨vs1, us1, a1, b1, c1⟩ := h1
  obtain ⟨vs2, us2, a2, b2, c2⟩ := h2
  refine ⟨fun x => if (m1 x).isSome then vs1 x else vs2 x, fun x => if (m1 x).isSome then us1 x else us2 x, ?_, ?_, ?_⟩
  · intro g nd h
    rcases joinM_cases h with ⟨e, e1⟩ | ⟨e1, e⟩
    · simp only [e1, if_true]
      obtain ⟨x, y, z⟩ := a1 g nd e
      exact ⟨x, by simp [y], fun q hq => by simp [z q hq]⟩
    · simp only [e1, Bool.false_eq_true, if_false]
      obtain ⟨x, y, z⟩ := a2 g nd e
      exact ⟨x, by simp [y], fun q hq => by simp [z q hq]⟩
  · intro g nd g' nd' h h' hne
    rcases joinM_cases h with ⟨e, e1⟩ | ⟨e1, e⟩ <;> rcases joinM_cases h' with ⟨e', e1'⟩ | ⟨e1', e'⟩
    · simp only [e1, e1', if_true]
      exact b1 g nd g' nd' e e' hne
    · simp only [e1, e1', if_true, Bool.false_eq_true, if_false]
      have x := a1 g nd e
      have y := a2 g' nd' e'
      exact ⟨fun h9 => hd g' (x.2.2 g' h9) y.2.1, fun q h9 h10 => hd q (x.2.2 q h9) (y.2.2 q h10)⟩
    · simp only [e1, e1', if_true, Bool.false_eq_true, if_false]
      have x := a2 g nd e
      have y := a1 g' nd' e'
      exact ⟨fun h9 => hd g' y.2.1 (x.2.2 g' h9), fun q h9 h10 => hd q (y.2.2 q h10) (x.2.2 q h9)⟩
    · simp only [e1, e1', Bool.false_eq_true, if_false]
      exact b2 g nd g' nd' e e' hne
  · intro q hq
    rcases List.mem_append.1 hq with h | h
    · exact c1 q h
    · exact c2 q h
theorem Sto.congr {W : World} {m m' : NMap} {F : List Nat} (h : Sto W m F) (e : ∀ x, m' x = m x) : Sto W m' F := by
  have : m' = m := funext e
  rw [this]; exact h
/-- a store of one node -/
theorem Sto.single {w : World} {g : Nat} {its : List Item} {ps : List Nat} {v u : Value} (hn : NdX w g its ps v u) : Sto w (upd (fun _ => none) g ⟨its, ps⟩) (g :: blocks v u) := by
  refine ⟨fun _ => v, fun _ => u, ?_, ?_, ?_⟩
  · intro x nx hx
    by_cases e : x = g
    · subst e
      rw [upd_same] at hx
      injection hx with hx
      subst hx
      exact ⟨hn, by simp, fun q hq => by simp [hq]⟩
    · rw [upd_other _ _ e] at hx
      cases hx
  · intro x nx y ny hx hy hxy
    by_cases e : x = g
    · by_cases e2 : y = g
      · exact absurd (e.trans e2.symm) hxy
      · rw [upd_other _ _ e2] at hy
        cases hy
    · rw [upd_other _ _ e] at hx
      cases hx
  · intro q hq
    rcases List.mem_cons.1 hq with e | e
    · rw [e]; exact hn.lt
    · exact (hn.ltb q e).1
/-- node g turned, and a new node beside it -/
theorem NTurns.two {W : World} {m : NMap} {F : List Nat} {g : Nat} {v u : Value} (hS : Sto W m F) (h : NTurns W m F g v u) {w : World} {its1 its2 : List Item} {ps1 ps2 : List Nat} {v1 u1 v2 u2 : Value} {g2 : Nat} (h1 : NdX w g its1 ps1 v1 u1)
    (h2 : NdX w g2 its2 ps2 v2 u2) (ht : Touch (g :: blocks v u) W w) (hb : ∀ q, q ∈ blocks v1 u1 → q < W.heap.size ∧ q ∈ blocks v u) (hg2 : W.heap.size ≤ g2) (hb2 : ∀ q, q ∈ blocks v2 u2 → W.heap.size ≤ q) :
    Sto w (upd (upd m g ⟨its1, ps1⟩) g2 ⟨its2, ps2⟩) ((F ++ blocks v1 u1) ++ (g2 :: blocks v2 u2)) ∧ Stp W F w ((F ++ blocks v1 u1) ++ (g2 :: blocks v2 u2)) := by
  obtain ⟨a, b⟩ := h w its1 ps1 v1 u1 h1 ht (fun q hq => .inl (hb q hq).2)
  have c := Sto.single h2
  have hn : m g2 = none := by
    cases e : m g2 with
    | none => rfl
    | some nd => have := hS.lt g2 (hS.mem e); omega
  have hlt : ∀ q, q ∈ F ++ blocks v1 u1 → q < W.heap.size := by
    intro q hq
    rcases List.mem_append.1 hq with e | e
    · exact hS.lt q e
    · exact (hb q e).1
  have hge : ∀ q, q ∈ g2 :: blocks v2 u2 → W.heap.size ≤ q := by
    intro q hq
    rcases List.mem_cons.1 hq with e | e
    · omega
    · exact hb2 q e
  refine ⟨(a.join c (fun q hq hq2 => by have := hlt q hq; have := hge q hq2; omega)).congr (fun x => ?_), b.1, fun q hq => ?_⟩
  · by_cases e : x = g2
    · subst e
      have hg : x ≠ g := by
        rintro rfl
        have := (h1.lt); have := hlt x (by
          have hm := a.mem (upd_same m x ⟨its1, ps1⟩)
          exact hm)
        omega
      simp [upd, joinM, hn, hg]
    · unfold joinM
      cases e2 : upd m g ⟨its1, ps1⟩ x with
      | none => simp [upd_other _ _ e, e2]
      | some nd => simp [upd_other _ _ e, e2]
  · rcases List.mem_append.1 hq with e | e
    · exact b.2 q e
    · exact .inr (hge q e)
end Go.Proofs.YthgndgoljchnfaaGreat
namespace Go.Proofs.YthgndgoljchnfaaGreat
open Go.RowKit

theorem below_drewN {B : Nat} {a b : World} (h : Below B a b) (n : Nat) : Below B a (b.drewN n) := ⟨h.os, h.tape, h.output, h.size, h.block⟩
theorem row_at {W : World} {e s n : Nat} {v : Value} {xs : List Value} (h : W.ownsRow 0 e s v n xs) (hn : 0 < n) : ∃ q c, v = .slice (some ⟨q, 0, none⟩) n c ∧ n ≤ c ∧ c ≤ maxLen := by
  rcases h.2 with ⟨_, h1⟩ | ⟨g, cap, cur, h0, _, _, h2, h3, _⟩
  · omega
  · exact ⟨g, cap, h0, h2, h3⟩
set_option maxHeartbeats 1000000 in
theorem down_none (g i : Nat) {its : List Item} {v u : Value} (W : World) (h : NdX W g its [] v u) :
    Calls Tryz.prog 101 #[ptr g, .int .i64 (i : Nat)] W fun e w' => e = .returned (.pointer none) ∧ W = w' := by
  obtain ⟨A, c, rfl⟩ := own_slice h.r1
  have c1 : W.cell? ⟨g, 1, none⟩ = some (.slice A 0 c) := h.c1
  clear h
  unfold ptr
  go_enter Tryz.func101, Tryz.ntmps101
  go_wp2
  go_ret
  exact ⟨rfl, rfl⟩
set_option maxHeartbeats 1000000 in
theorem down_some (g i : Nat) {its : List Item} {ps : List Nat} {v u : Value} (W : World) (h : NdX W g its ps v u) (hi : i < ps.length) (hp : ps.length ≤ 100000) :
    Calls Tryz.prog 101 #[ptr g, .int .i64 (i : Nat)] W fun e w' => e = .returned (ptr ps[i]) ∧ W = w' := by
  obtain ⟨q, c, rfl, h2, h3⟩ := row_at h.r1 (by omega)
  have c1 := h.c1
  have hx : W.cell? ⟨q, i, none⟩ = some (ptr ps[i]) := by rw [h.r1.cellAt i (by omega)]; exact ptrCells_get ps i hi
  obtain ⟨n, hn⟩ : ∃ n, ps.length = n := ⟨_, rfl⟩
  have b1 : ((n : Int) == 0) = false := by simp; omega
  have b2 : (i : Int) < (n : Int) := by omega
  generalize ps[i] = x at *
  rw [hn] at c1
  clear h h2 h3 hn hi hp
  unfold ptr at *
  go_enter Tryz.func101, Tryz.ntmps101
  go_wp2
  go_ret
  exact ⟨rfl, rfl⟩
set_option maxHeartbeats 1000000 in
theorem item_any (g i q c : Nat) {its : List Item} {ps : List Nat} {u : Value} (W : World) (h : NdX W g its ps (.slice (some ⟨q, 0, none⟩) its.length c) u) (hi : i < its.length) :
    Calls Tryz.prog 98 #[.agg #[ptr g, .int .i64 (i : Nat)]] W fun e w' => e = .returned (.pointer (some ⟨q, i * 2, none⟩)) ∧ Below W.heap.size W w' := by
  have hg := h.lt
  have c0 := h.c0
  obtain ⟨n, hn⟩ : ∃ n, its.length = n := ⟨_, rfl⟩
  have b2 : (i : Int) < (n : Int) := by omega
  rw [hn] at c0
  clear h hn hi
  unfold ptr at *
  go_enter Tryz.func98, Tryz.ntmps98
  go_wp2
  go_quiet (fail)
  go_wp2
  go_ret
  exact ⟨rfl, below_drewN ((Below.refl _ _).alloc (Nat.le_refl _) _) _⟩

/-- a node whose items are about to be laid anew: v0 the old slice, v' the new one -/
structure Set0 (W w1 : World) (g : Nat) (its' : List Item) (ps : List Nat) (v0 u0 v' : Value) : Prop where
  c : w1.cell? ⟨g, 0, none⟩ = some v0
  f : w1.frozen? ⟨g, 0, none⟩ = false
  nd : NdX (w1.setCell ⟨g, 0, none⟩ v') g its' ps v' u0
  t : Touch (g :: blocks v0 u0) W (w1.setCell ⟨g, 0, none⟩ v')
  b : ∀ q, q ∈ blocks v' u0 → q ∈ blocks v0 u0 ∨ W.heap.size ≤ q
theorem Set0.other {W w1 : World} {g : Nat} {its' : List Item} {ps : List Nat} {v0 u0 v' : Value} (h : Set0 W w1 g its' ps v0 u0 v') : w1.cell? ⟨g, 1, none⟩ = some u0 ∧ w1.frozen? ⟨g, 1, none⟩ = false := by
  have a := h.nd.c1
  have b := h.nd.f1
  rw [World.cell?_setCell_other _ _ _ _ (by simp)] at a
  rw [World.frozen?_setCell] at b
  exact ⟨a, b⟩
structure Set1 (W w1 : World) (g : Nat) (its : List Item) (ps' : List Nat) (v0 u0 u' : Value) : Prop where
  c : w1.cell? ⟨g, 1, none⟩ = some u0
  f : w1.frozen? ⟨g, 1, none⟩ = false
  nd : NdX (w1.setCell ⟨g, 1, none⟩ u') g its ps' v0 u'
  t : Touch (g :: blocks v0 u0) W (w1.setCell ⟨g, 1, none⟩ u')
  b : ∀ q, q ∈ blocks v0 u' → q ∈ blocks v0 u0 ∨ W.heap.size ≤ q
theorem Set0.of {W w1 : World} {g : Nat} {its its' : List Item} {ps : List Nat} {v u v' : Value} (h : NdX W g its ps v u) (hg : W.grownBy w1 v.ownBlock) (ho : w1.ownsRow 0 31 2 v' its'.length (itemCells its')) (hs : SameOrNew W v v') : Set0 W w1 g its' ps v u v' := by
  obtain ⟨a, b, c⟩ := h.set0 hg ho hs
  have hne : some g ≠ v.ownBlock := fun e => h.n0 g e.symm rfl
  exact ⟨hg.cell h.c0 hne, (World.frozen?_of_block (a := ⟨g, 0, none⟩) (hg.block g h.lt hne)).trans h.f0, a, b, c⟩
theorem Set1.of {W w1 : World} {g : Nat} {its : List Item} {ps ps' : List Nat} {v u u' : Value} (h : NdX W g its ps v u) (hg : W.grownBy w1 u.ownBlock) (ho : w1.ownsRow 0 101 1 u' ps'.length (ptrCells ps')) (hs : SameOrNew W u u') : Set1 W w1 g its ps' v u u' := by
  obtain ⟨a, b, c⟩ := h.set1 hg ho hs
  have hne : some g ≠ u.ownBlock := fun e => h.n1 g e.symm rfl
  exact ⟨hg.cell h.c1 hne, (World.frozen?_of_block (a := ⟨g, 1, none⟩) (hg.block g h.lt hne)).trans h.f1, a, b, c⟩
theorem Set0.from {W Wc w1 : World} {g : Nat} {its' : List Item} {ps : List Nat} {v0 u0 v' : Value} (h : Set0 Wc w1 g its' ps v0 u0 v') (ht : Touch [] W Wc) : Set0 W w1 g its' ps v0 u0 v' :=
  ⟨h.c, h.f, h.nd, (ht.mono (by simp)).trans h.t (fun _ hx => .inl hx), fun q hq => by
    rcases h.b q hq with e | e
    · exact .inl e
    · exact .inr (Nat.le_trans ht.size e)⟩
theorem Set1.from {W Wc w1 : World} {g : Nat} {its : List Item} {ps' : List Nat} {v0 u0 u' : Value} (h : Set1 Wc w1 g its ps' v0 u0 u') (ht : Touch [] W Wc) : Set1 W w1 g its ps' v0 u0 u' :=
  ⟨h.c, h.f, h.nd, (ht.mono (by simp)).trans h.t (fun _ hx => .inl hx), fun q hq => by
    rcases h.b q hq with e | e
    · exact .inl e
    · exact .inr (Nat.le_trans ht.size e)⟩
theorem Set0.then {W w1 V w2 : World} {g : Nat} {its its' : List Item} {ps ps' : List Nat} {v0 u0 v' u' : Value} (h : Set0 W w1 g its ps v0 u0 v') (hV : Touch [] (w1.setCell ⟨g, 0, none⟩ v') V) (k : Set1 V w2 g its' ps' v' u0 u') :
    Touch (g :: blocks v0 u0) W (w2.setCell ⟨g, 1, none⟩ u') ∧ ∀ q, q ∈ blocks v' u' → q ∈ blocks v0 u0 ∨ W.heap.size ≤ q := by
  have hs : W.heap.size ≤ V.heap.size := Nat.le_trans h.t.size hV.size
  have k' := k.from hV
  refine ⟨h.t.trans k'.t (fun x hx => ?_), fun q hq => ?_⟩
  · rcases List.mem_cons.1 hx with e | e
    · exact .inl (by rw [e]; simp)
    · rcases h.b x e with e2 | e2
      · exact .inl (List.mem_cons_of_mem _ e2)
      · exact .inr e2
  · rcases k.b q hq with e | e
    · exact h.b q e
    · exact .inr (Nat.le_trans hs e)
theorem itemCells_insAt (l : List Item) (i : Nat) (k v : ByteArray) : (itemCells l).take (i * 2) ++ ([Value.string k, Value.string v] ++ (itemCells l).drop (i * 2)) = itemCells (insAt l i (k, v)) := by
  rw [itemCells_take, itemCells_drop, insAt, itemCells_append, itemCells_cons]; rfl
theorem ptrCells_insAt (l : List Nat) (i b : Nat) : (ptrCells l).take (i * 1) ++ ([ptr b] ++ (ptrCells l).drop (i * 1)) = ptrCells (insAt l i b) := by
  simp [ptrCells, insAt]
theorem insItems_call (g i vb : Nat) (k v : ByteArray) {its : List Item} {ps : List Nat} {v0 u0 : Value} (W : World) (h : NdX W g its ps v0 u0) (hi : i ≤ its.length) (hn : its.length ≤ 1000) (hvb : W.heap[vb]? = some (.cells #[.string k, .string v] 31 (0, 0))) (hne : vb ∉ blocks v0 u0) :
    Calls Tryz.prog 129 #[v0, .int .i64 (i : Nat), .slice (some ⟨vb, 0, none⟩) 1 1] W fun e w1 => ∃ A c n, e = .returned (.slice A n c) ∧ Set0 W w1 g (insAt its i (k, v)) ps v0 u0 (.slice A n c) := by
  refine (insItems_any 0 vb its.length i v0 (itemCells its) [.string k, .string v] W h.r0 hi (by omega) (Nat.zero_le _) (fun e => hne (mem_blocks.2 (.inl e))) rfl hvb (by intro u hu; simp at hu; rcases hu with rfl | rfl <;> rfl) (items_one _)).mono ?_
  rintro e w1 ⟨v', rfl, ho, hg, hs⟩
  rw [itemCells_insAt] at ho
  obtain ⟨A, c, rfl⟩ := own_slice ho
  exact ⟨A, c, _, rfl, Set0.of h hg (by rw [insAt_length _ _ _ hi]; exact ho) hs⟩
theorem insNodes_call (g i vb b : Nat) {its : List Item} {ps : List Nat} {v0 u0 : Value} (W : World) (h : NdX W g its ps v0 u0) (hi : i ≤ ps.length) (hn : ps.length ≤ 1000) (hvb : W.heap[vb]? = some (.cells #[ptr b] 101 (0, 0))) (hne : vb ∉ blocks v0 u0) :
    Calls Tryz.prog 130 #[u0, .int .i64 (i : Nat), .slice (some ⟨vb, 0, none⟩) 1 1] W fun e w1 => ∃ A c n, e = .returned (.slice A n c) ∧ Set1 W w1 g its (insAt ps i b) v0 u0 (.slice A n c) := by
  refine (insNodes_any 0 vb ps.length i u0 (ptrCells ps) [ptr b] W h.r1 hi (by omega) (Nat.zero_le _) (fun e => hne (mem_blocks.2 (.inr e))) rfl hvb (by intro u hu; simp at hu; subst hu; rfl) (ptr_one _)).mono ?_
  rintro e w1 ⟨u', rfl, ho, hg, hs⟩
  rw [ptrCells_insAt] at ho
  obtain ⟨A, c, rfl⟩ := own_slice ho
  exact ⟨A, c, _, rfl, Set1.of h hg (by rw [insAt_length _ _ _ hi]; exact ho) hs⟩
theorem delItems_call (g i j q c : Nat) {its : List Item} {ps : List Nat} {u0 : Value} (W : World) (h : NdX W g its ps (.slice (some ⟨q, 0, none⟩) its.length c) u0) (hij : i < j) (hj : j ≤ its.length) (hn : its.length ≤ 1000) :
    Calls Tryz.prog 131 #[.slice (some ⟨q, 0, none⟩) its.length c, .int .i64 (i : Nat), .int .i64 (j : Nat)] W fun e w1 => ∃ n, e = .returned (.slice (some ⟨q, 0, none⟩) n c) ∧ Set0 W w1 g (its.take i ++ its.drop j) ps (.slice (some ⟨q, 0, none⟩) its.length c) u0 (.slice (some ⟨q, 0, none⟩) n c) := by
  refine (delItems_any q its.length c i j 0 (itemCells its) W h.r0 hij hj (by omega) (items_one _)).mono ?_
  rintro e w1 ⟨rfl, ho, hg⟩
  rw [itemCells_take, itemCells_drop, ← itemCells_append] at ho
  exact ⟨_, rfl, Set0.of h hg (by rw [List.length_append, List.length_take, List.length_drop, Nat.min_eq_left (by omega)]; exact ho) (fun q' e => .inl e)⟩
theorem delNodes_call (g i j q c : Nat) {its : List Item} {ps : List Nat} {v0 : Value} (W : World) (h : NdX W g its ps v0 (.slice (some ⟨q, 0, none⟩) ps.length c)) (hij : i < j) (hj : j ≤ ps.length) (hn : ps.length ≤ 1000) :
    Calls Tryz.prog 133 #[.slice (some ⟨q, 0, none⟩) ps.length c, .int .i64 (i : Nat), .int .i64 (j : Nat)] W fun e w1 => ∃ n, e = .returned (.slice (some ⟨q, 0, none⟩) n c) ∧ Set1 W w1 g its (ps.take i ++ ps.drop j) v0 (.slice (some ⟨q, 0, none⟩) ps.length c) (.slice (some ⟨q, 0, none⟩) n c) := by
  refine (delNodes_any q ps.length c i j 0 (ptrCells ps) W h.r1 hij hj (by omega) (ptr_one _)).mono ?_
  rintro e w1 ⟨rfl, ho, hg⟩
  have e1 : (ptrCells ps).take (i * 1) ++ (ptrCells ps).drop (j * 1) = ptrCells (ps.take i ++ ps.drop j) := by simp [ptrCells]
  rw [e1] at ho
  exact ⟨_, rfl, Set1.of h hg (by rw [List.length_append, List.length_take, List.length_drop, Nat.min_eq_left (by omega)]; exact ho) (fun q' e => .inl e)⟩
end Go.Proofs.YthgndgoljchnfaaGreat
