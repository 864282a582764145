/-
  The walk of a node's join.
-/
import Derived.Test.YtglinhcldgpphaaGreatNodeSplit
import Derived.Test.YtglinhcldgpphaaGreatAppendAny
namespace Go.Proofs.YtglinhcldgpphaaGreat
open Go.RowKit

theorem NdX.eq {W : World} {g : Nat} {its its' : List Item} {ps ps' : List Nat} {v u v' u' : Value} (h : NdX W g its ps v u) (k : NdX W g its' ps' v' u') : v = v' ∧ u = u' :=
  ⟨Option.some.inj (h.c0.symm.trans k.c0), Option.some.inj (h.c1.symm.trans k.c1)⟩
/-- two nodes of a store have no block in common -/
theorem Sto.apart {W : World} {m : NMap} {F : List Nat} (h : Sto W m F) {g g' : Nat} {nd nd' : Nd} (hm : m g = some nd) (hm' : m g' = some nd') (hne : g ≠ g') {v u v' u' : Value} (hn : NdX W g nd.its nd.ps v u) (hn' : NdX W g' nd'.its nd'.ps v' u') :
    g' ∉ blocks v u ∧ ∀ q, q ∈ blocks v u → q ∉ blocks v' u' := by
  obtain ⟨vs, us, h1, h2, h3⟩ := h
  obtain ⟨rfl, rfl⟩ := hn.eq (h1 g nd hm).1
  obtain ⟨rfl, rfl⟩ := hn'.eq (h1 g' nd' hm').1
  exact h2 g nd g' nd' hm hm' hne
theorem grown_same {a b c : World} {v v' : Value} (h : a.grownBy b v.ownBlock) (hs : SameOrNew a v v') (k : b.grownBy c v'.ownBlock) : a.grownBy c v.ownBlock :=
  ⟨k.os.trans h.os, k.tape.trans h.tape, k.output.trans h.output, Nat.le_trans h.size k.size, fun i hi hn => (k.block i (Nat.lt_of_lt_of_le hi h.size) (fun e => by
    rcases hs i e.symm with e2 | e2
    · exact hn e2.symm
    · omega)).trans (h.block i hi hn)⟩
theorem SameOrNew.trans {a b : World} {v v' v'' : Value} (h : SameOrNew a v v') (hs : a.heap.size ≤ b.heap.size) (k : SameOrNew b v' v'') : SameOrNew a v v'' := fun q hq => by
  rcases k q hq with e | e
  · exact h q e
  · exact .inr (Nat.le_trans hs e)

theorem joinItems (ia ib : List Item) (x : Item) : (itemCells ia ++ itemCells [x]) ++ itemCells ib = itemCells (ia ++ x :: ib) := by
  rw [← itemCells_append, ← itemCells_append, List.append_assoc]; rfl
theorem join_set0 {W V w1 w2 : World} {a : Nat} {ia ib : List Item} {pa : List Nat} {va ua v1 v2 : Value} {x : Item} (hN : NdX W a ia pa va ua) (T : Touch [] W V) (hg1 : V.grownBy w1 va.ownBlock) (hs1 : SameOrNew V va v1) (hg2 : w1.grownBy w2 v1.ownBlock) (hs2 : SameOrNew w1 v1 v2)
    (ho2 : w2.ownsRow 0 59 2 v2 (ia.length + 1 + ib.length) ((itemCells ia ++ itemCells [x]) ++ itemCells ib)) : Set0 W w2 a (ia ++ x :: ib) pa va ua v2 := by
  rw [joinItems] at ho2
  have e : (ia ++ x :: ib).length = ia.length + 1 + ib.length := by rw [List.length_append, List.length_cons]; omega
  exact (Set0.of (hN.new T) (grown_same hg1 hs1 hg2) (by rw [e]; exact ho2) (hs1.trans hg1.size hs2)).from T
/-- node a turned alone: its items -/
def Mid (W wx : World) (a : Nat) (its : List Item) (ps : List Nat) (va ua : Value) : Prop :=
  ∃ A c n, NdX wx a its ps (.slice A n c) ua ∧ Touch (a :: blocks va ua) W wx ∧ ∀ q, q ∈ blocks (.slice A n c) ua → q ∈ blocks va ua ∨ W.heap.size ≤ q
theorem Set0.mid {W w1 : World} {g n c : Nat} {A : Option Addr} {its' : List Item} {ps : List Nat} {v0 u0 : Value} (h : Set0 W w1 g its' ps v0 u0 (.slice A n c)) : Mid W (w1.setCell ⟨g, 0, none⟩ (.slice A n c)) g its' ps v0 u0 := ⟨A, c, n, h.nd, h.t, h.b⟩
theorem Mid.then {W V w2 : World} {g : Nat} {its : List Item} {ps' : List Nat} {v0 u0 v' u' : Value} (h : Touch (g :: blocks v0 u0) W V) (hb : ∀ q, q ∈ blocks v' u0 → q ∈ blocks v0 u0 ∨ W.heap.size ≤ q) (k : Set1 V w2 g its ps' v' u0 u') :
    Touch (g :: blocks v0 u0) W (w2.setCell ⟨g, 1, none⟩ u') ∧ ∀ q, q ∈ blocks v' u' → q ∈ blocks v0 u0 ∨ W.heap.size ≤ q := by
  refine ⟨h.trans k.t (fun x hx => ?_), fun q hq => ?_⟩
  · rcases List.mem_cons.1 hx with e | e
    · exact .inl (by rw [e]; simp)
    · rcases hb x e with e2 | e2
      · exact .inl (List.mem_cons_of_mem _ e2)
      · exact .inr e2
  · rcases k.b q hq with e | e
    · exact hb q e
    · exact .inr (Nat.le_trans h.size e)
end Go.Proofs.YtglinhcldgpphaaGreat
