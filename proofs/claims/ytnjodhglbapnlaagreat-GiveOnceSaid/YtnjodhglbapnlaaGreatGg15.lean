import Derived.Test.YtnjodhglbapnlaaGreatGg14
import Derived.Test.YtnjodhglbapnlaaGreatGg03
import Derived.Deep.RegionWith
set_option maxRecDepth 100000
set_option maxHeartbeats 16000000
namespace Go.Proofs.YtnjodhglbapnlaaGreat
open Go.RowKit
structure Nd where
 its : List Item
 ps : List Nat
def ptr (g : Nat) : Value := .pointer (some ⟨g, 0, none⟩)
def yaq (ps : List Nat) : List Value := ps.map ptr
theorem ygw : ∀ (ps : List Nat), ∀ u ∈ yaq ps, u.oneCell' = true := by
 intro ps u h
 obtain ⟨q, _, rfl⟩ := List.mem_map.1 h
 rfl
theorem ynr (ps : List Nat) : (yaq ps).length = ps.length := List.length_map ptr
theorem yvl (ps : List Nat) (i : Nat) (h : i < ps.length) : (yaq ps)[i]? = some (ptr ps[i]) := by
 rw [yaq, List.getElem?_map, List.getElem?_eq_getElem h]; rfl
def ya0 {α : Type} (l : List α) (i : Nat) (x : α) : List α := l.take i ++ x :: l.drop i
def yaj {α : Type} (l : List α) (i : Nat) : List α := l.take i ++ l.drop (i + 1)
theorem yke {α : Type} (l : List α) (i : Nat) (x : α) (h : i ≤ l.length) : (ya0 l i x).length = l.length + 1 := by
 simp [ya0]; omega
theorem yns {α : Type} (l : List α) (i : Nat) (h : i < l.length) : (yaj l i).length = l.length - 1 := by
 simp [yaj]; omega
def blocks (v u : Value) : List Nat := v.ownBlock.toList ++ u.ownBlock.toList
theorem ybb {v u : Value} {q : Nat} : q ∈ blocks v u ↔ v.ownBlock = some q ∨ u.ownBlock = some q := by simp [blocks]
structure NdX (W : World) (g : Nat) (its : List Item) (ps : List Nat) (v u : Value) : Prop where
 lt : g < W.heap.size
 c0 : W.cell? ⟨g, 0, none⟩ = some v
 c1 : W.cell? ⟨g, 1, none⟩ = some u
 f0 : W.frozen? ⟨g, 0, none⟩ = false
 f1 : W.frozen? ⟨g, 1, none⟩ = false
 r0 : W.ownsRow 0 96 2 v its.length (yaa its)
 r1 : W.ownsRow 0 209 1 u ps.length (yaq ps)
 n0 : ∀ q, v.ownBlock = some q → q ≠ g
 n1 : ∀ q, u.ownBlock = some q → q ≠ g
 ap : ∀ q, v.ownBlock = some q → u.ownBlock ≠ some q
theorem NdX.ltb {W : World} {g : Nat} {its : List Item} {ps : List Nat} {v u : Value} (h : NdX W g its ps v u) : ∀ q, q ∈ blocks v u → q < W.heap.size ∧ q ≠ g := by
 intro q hq
 rcases ybb.1 hq with e | e
 ·exact ⟨(h.r0.lt q e).2, h.n0 q e⟩
 ·exact ⟨(h.r1.lt q e).2, h.n1 q e⟩
theorem NdX.touch {W W1 : World} {g : Nat} {its : List Item} {ps : List Nat} {v u : Value} {G : List Nat} (h : NdX W g its ps v u) (ht : Touch G W W1) (hg : g ∉ G) (hb : ∀ q, q ∈ blocks v u → q ∉ G) : NdX W1 g its ps v u :=
 ⟨Nat.lt_of_lt_of_le h.lt ht.size, (ht.cell (p := ⟨g, 0, none⟩) h.lt hg).trans h.c0, (ht.cell (p := ⟨g, 1, none⟩) h.lt hg).trans h.c1, (ht.frozen (p := ⟨g, 0, none⟩) h.lt hg).trans h.f0, (ht.frozen (p := ⟨g, 1, none⟩) h.lt hg).trans h.f1,
  ht.row h.r0 (fun q e => hb q (ybb.2 (.inl e))), ht.row h.r1 (fun q e => hb q (ybb.2 (.inr e))), h.n0, h.n1, h.ap⟩
theorem NdX.new {W W1 : World} {g : Nat} {its : List Item} {ps : List Nat} {v u : Value} (h : NdX W g its ps v u) (ht : Touch [] W W1) : NdX W1 g its ps v u := h.touch ht (by simp) (by simp)
theorem NdX.drew {W : World} {g : Nat} {its : List Item} {ps : List Nat} {v u : Value} (h : NdX W g its ps v u) : NdX W.drew g its ps v u := h.new ((Touch.refl _ _).drew)
theorem NdX.set0 {W w1 : World} {g : Nat} {its its' : List Item} {ps : List Nat} {v u v' : Value} (h : NdX W g its ps v u) (hg : W.grownBy w1 v.ownBlock) (ho : w1.ownsRow 0 96 2 v' its'.length (yaa its')) (hs : yax W v v') :
  NdX (w1.setCell ⟨g, 0, none⟩ v') g its' ps v' u ∧ Touch (g :: blocks v u) W (w1.setCell ⟨g, 0, none⟩ v') ∧ ∀ q, q ∈ blocks v' u → q ∈ blocks v u ∨ W.heap.size ≤ q := by
 have hT : Touch (blocks v u) W w1 := (Touch.refl _ _).grown hg (fun k hk => .inl (ybb.2 (.inl hk)))
 have hgn : g ∉ blocks v u := fun e => (h.ltb g e).2 rfl
 have e0 := (hT.cell (p := ⟨g, 0, none⟩) h.lt hgn).trans h.c0
 have e1 := (hT.cell (p := ⟨g, 1, none⟩) h.lt hgn).trans h.c1
 have f0 := (hT.frozen (p := ⟨g, 0, none⟩) h.lt hgn).trans h.f0
 have f1 := (hT.frozen (p := ⟨g, 1, none⟩) h.lt hgn).trans h.f1
 have r1 : w1.ownsRow 0 209 1 u ps.length (yaq ps) := h.r1.kept hg (by
  rcases u.ownBlock.eq_none_or_eq_some with e | ⟨q, e⟩
  ·exact .inl e
  ·exact .inr (fun e2 => h.ap q (e2.symm.trans e) e))
 have hset : Touch [g] w1 (w1.setCell ⟨g, 0, none⟩ v') := (Touch.refl _ _).set (.inl (by simp)) _
 have hv' : ∀ q, v'.ownBlock = some q → q ≠ g := fun q e => by
  rcases hs q e with e2 | e2
  ·exact h.n0 q e2
  ·have := h.lt; omega
 refine ⟨⟨?_, World.cell?_setCell_same _ _ _ e0, ?_, ?_, ?_, hset.row ho (fun q e => by simpa using hv' q e), hset.row r1 (fun q e => by simpa using h.n1 q e), hv', h.n1, ?_⟩, ?_, ?_⟩
 ·simpa [World.setCell] using Nat.lt_of_lt_of_le h.lt hT.size
 ·rw [World.cell?_setCell_other _ _ _ _ (by simp)]; exact e1
 ·rw [World.frozen?_setCell]; exact f0
 ·rw [World.frozen?_setCell]; exact f1
 ·intro q e e2
  rcases hs q e with e3 | e3
  ·exact h.ap q e3 e2
  ·have := (h.r1.lt q e2).2; omega
 ·exact (hT.mono (fun x hx => List.mem_cons_of_mem _ hx)).set (.inl (by simp)) _
 ·intro q hq
  rcases ybb.1 hq with e | e
  ·rcases hs q e with e2 | e2
   ·exact .inl (ybb.2 (.inl e2))
   ·exact .inr e2
  ·exact .inl (ybb.2 (.inr e))
theorem NdX.set1 {W w1 : World} {g : Nat} {its : List Item} {ps ps' : List Nat} {v u u' : Value} (h : NdX W g its ps v u) (hg : W.grownBy w1 u.ownBlock) (ho : w1.ownsRow 0 209 1 u' ps'.length (yaq ps')) (hs : yax W u u') :
  NdX (w1.setCell ⟨g, 1, none⟩ u') g its ps' v u' ∧ Touch (g :: blocks v u) W (w1.setCell ⟨g, 1, none⟩ u') ∧ ∀ q, q ∈ blocks v u' → q ∈ blocks v u ∨ W.heap.size ≤ q := by
 have hT : Touch (blocks v u) W w1 := (Touch.refl _ _).grown hg (fun k hk => .inl (ybb.2 (.inr hk)))
 have hgn : g ∉ blocks v u := fun e => (h.ltb g e).2 rfl
 have e0 := (hT.cell (p := ⟨g, 0, none⟩) h.lt hgn).trans h.c0
 have e1 := (hT.cell (p := ⟨g, 1, none⟩) h.lt hgn).trans h.c1
 have f0 := (hT.frozen (p := ⟨g, 0, none⟩) h.lt hgn).trans h.f0
 have f1 := (hT.frozen (p := ⟨g, 1, none⟩) h.lt hgn).trans h.f1
 have r0 : w1.ownsRow 0 96 2 v its.length (yaa its) := h.r0.kept hg (by
  rcases v.ownBlock.eq_none_or_eq_some with e | ⟨q, e⟩
  ·exact .inl e
  ·exact .inr (fun e2 => h.ap q e (e2.symm.trans e)))
 have hset : Touch [g] w1 (w1.setCell ⟨g, 1, none⟩ u') := (Touch.refl _ _).set (.inl (by simp)) _
 have hu' : ∀ q, u'.ownBlock = some q → q ≠ g := fun q e => by
  rcases hs q e with e2 | e2
  ·exact h.n1 q e2
  ·have := h.lt; omega
 refine ⟨⟨?_, ?_, World.cell?_setCell_same _ _ _ e1, ?_, ?_, hset.row r0 (fun q e => by simpa using h.n0 q e), hset.row ho (fun q e => by simpa using hu' q e), h.n0, hu', ?_⟩, ?_, ?_⟩
 ·simpa [World.setCell] using Nat.lt_of_lt_of_le h.lt hT.size
 ·rw [World.cell?_setCell_other _ _ _ _ (by simp)]; exact e0
 ·rw [World.frozen?_setCell]; exact f0
 ·rw [World.frozen?_setCell]; exact f1
 ·intro q e e2
  rcases hs q e2 with e3 | e3
  ·exact h.ap q e e3
  ·have := (h.r0.lt q e).2; omega
 ·exact (hT.mono (fun x hx => List.mem_cons_of_mem _ hx)).set (.inl (by simp)) _
 ·intro q hq
  rcases ybb.1 hq with e | e
  ·exact .inl (ybb.2 (.inl e))
  ·rcases hs q e with e2 | e2
   ·exact .inl (ybb.2 (.inr e2))
   ·exact .inr e2
abbrev NMap := Nat → Option Nd
def upd (m : NMap) (g : Nat) (nd : Nd) : NMap := fun x => if x = g then some nd else m x
theorem upd_same (m : NMap) (g : Nat) (nd : Nd) : upd m g nd g = some nd := by simp [upd]
theorem ya3 (m : NMap) {g x : Nat} (nd : Nd) (h : x ≠ g) : upd m g nd x = m x := by simp [upd, h]
def Sto (W : World) (m : NMap) (F : List Nat) : Prop :=
 ∃ vs us : Nat → Value, (∀ g nd, m g = some nd → NdX W g nd.its nd.ps (vs g) (us g) ∧ g ∈ F ∧ ∀ q, q ∈ blocks (vs g) (us g) → q ∈ F) ∧
  (∀ g nd g' nd', m g = some nd → m g' = some nd' → g ≠ g' → g' ∉ blocks (vs g) (us g) ∧ ∀ q, q ∈ blocks (vs g) (us g) → q ∉ blocks (vs g') (us g')) ∧ ∀ q, q ∈ F → q < W.heap.size
def Stp (W : World) (F : List Nat) (w : World) (F' : List Nat) : Prop := Touch F W w ∧ ∀ q, q ∈ F' → q ∈ F ∨ W.heap.size ≤ q
theorem Stp.refl (W : World) (F : List Nat) : Stp W F W F := ⟨Touch.refl _ _, fun _ h => .inl h⟩
theorem Stp.trans {a b c : World} {F G H : List Nat} (h : Stp a F b G) (k : Stp b G c H) : Stp a F c H :=
 ⟨h.1.trans k.1 h.2, fun q hq => by
  rcases k.2 q hq with e | e
  ·exact h.2 q e
  ·exact .inr (Nat.le_trans h.1.size e)⟩
theorem Stp.same {a b : World} {F : List Nat} (h : Touch F a b) : Stp a F b F := ⟨h, fun _ h => .inl h⟩
theorem Sto.lt {W : World} {m : NMap} {F : List Nat} (h : Sto W m F) : ∀ q, q ∈ F → q < W.heap.size := by
 obtain ⟨_, _, _, _, h3⟩ := h
 exact h3
theorem Sto.mem {W : World} {m : NMap} {F : List Nat} (h : Sto W m F) {g : Nat} {nd : Nd} (hm : m g = some nd) : g ∈ F := by
 obtain ⟨_, _, h1, _, _⟩ := h
 exact (h1 g nd hm).2.1
theorem Sto.touch {W W1 : World} {m : NMap} {F G : List Nat} (h : Sto W m F) (ht : Touch G W W1) (hG : ∀ q, q ∈ F → q ∉ G) : Sto W1 m F := by
 obtain ⟨vs, us, h1, h2, h3⟩ := h
 exact ⟨vs, us, fun g nd hm => ⟨(h1 g nd hm).1.touch ht (hG g (h1 g nd hm).2.1) (fun q hq => hG q ((h1 g nd hm).2.2 q hq)), (h1 g nd hm).2⟩, h2, fun q hq => Nat.lt_of_lt_of_le (h3 q hq) ht.size⟩
theorem Sto.new {W W1 : World} {m : NMap} {F : List Nat} (h : Sto W m F) (ht : Touch [] W W1) : Sto W1 m F := h.touch ht (by simp)
theorem Sto.below {W W1 : World} {m : NMap} {F : List Nat} (h : Sto W m F) (hb : Below W.heap.size W W1) : Sto W1 m F := h.new (Touch.ofBelow hb)
theorem Sto.drew {W : World} {m : NMap} {F : List Nat} (h : Sto W m F) : Sto W.drew m F := h.new ((Touch.refl _ _).drew)
theorem Sto.drewN {W : World} {m : NMap} {F : List Nat} (h : Sto W m F) (n : Nat) : Sto (W.drewN n) m F := h.new ((Touch.refl _ _).drewN n)
def ye1 (W : World) (m : NMap) (F : List Nat) (g : Nat) (v u : Value) : Prop :=
 ∀ (w : World) (its' : List Item) (ps' : List Nat) (v' u' : Value), NdX w g its' ps' v' u' → Touch (g :: blocks v u) W w →
   (∀ q, q ∈ blocks v' u' → q ∈ blocks v u ∨ W.heap.size ≤ q) → Sto w (upd m g ⟨its', ps'⟩) (F ++ blocks v' u') ∧ Stp W F w (F ++ blocks v' u')
theorem Sto.at {W : World} {m : NMap} {F : List Nat} (h : Sto W m F) {g : Nat} {nd : Nd} (hm : m g = some nd) :
  ∃ v u, NdX W g nd.its nd.ps v u ∧ (∀ q, q ∈ blocks v u → q ∈ F) ∧ ye1 W m F g v u := by
 obtain ⟨vs, us, h1, h2, h3⟩ := h
 obtain ⟨a, b, c⟩ := h1 g nd hm
 refine ⟨vs g, us g, a, c, fun w its' ps' v' u' hn ht hb => ⟨⟨fun x => if x = g then v' else vs x, fun x => if x = g then u' else us x, ?_, ?_, ?_⟩, ?_, ?_⟩⟩
 ·intro x nx hx
  by_cases e : x = g
  ·subst e
   rw [upd_same] at hx
   injection hx with hx
   subst hx
   simp only [if_true]
   exact ⟨hn, by simp [b], fun q hq => by simp [hq]⟩
  ·rw [ya3 _ _ e] at hx
   simp only [if_neg e]
   obtain ⟨a', b', c'⟩ := h1 x nx hx
   have hd := h2 g nd x nx hm hx (fun e2 => e e2.symm)
   refine ⟨a'.touch ht (by simp only [List.mem_cons, not_or]; exact ⟨e, hd.1⟩) (fun q hq => ?_), by simp [b'], fun q hq => by simp [c' q hq]⟩
   simp only [List.mem_cons, not_or]
   exact ⟨fun e2 => (h2 x nx g nd hx hm e).1 (e2 ▸ hq), fun h9 => hd.2 q h9 hq⟩
 ·intro x nx y ny hx hy hxy
  by_cases e : x = g
  ·subst e
   have ey : y ≠ x := fun e => hxy e.symm
   rw [ya3 _ _ ey] at hy
   simp only [if_true, if_neg ey]
   obtain ⟨a', b', c'⟩ := h1 y ny hy
   have hd := h2 x nd y ny hm hy hxy
   have hlt := h3 y b'
   refine ⟨fun hq => ?_, fun q hq hq2 => ?_⟩
   ·rcases hb y hq with h9 | h9
    ·exact hd.1 h9
    ·omega
   ·rcases hb q hq with h9 | h9
    ·exact hd.2 q h9 hq2
    ·have := (a'.ltb q hq2).1; omega
  ·rw [ya3 _ _ e] at hx
   simp only [if_neg e]
   obtain ⟨a', b', c'⟩ := h1 x nx hx
   by_cases e2 : y = g
   ·subst e2
    simp only [if_true]
    have hd := h2 x nx y nd hx hm e
    refine ⟨hd.1, fun q hq hq2 => ?_⟩
    rcases hb q hq2 with h9 | h9
    ·exact hd.2 q hq h9
    ·have := (a'.ltb q hq).1; omega
   ·rw [ya3 _ _ e2] at hy
    simp only [if_neg e2]
    exact h2 x nx y ny hx hy hxy
 ·intro q hq
  rcases List.mem_append.1 hq with h9 | h9
  ·exact Nat.lt_of_lt_of_le (h3 q h9) ht.size
  ·exact (hn.ltb q h9).1
 ·exact ht.mono (fun q hq => by
   rcases List.mem_cons.1 hq with e | e
   ·rw [e]; exact b
   ·exact c q e)
 ·intro q hq
  rcases List.mem_append.1 hq with h9 | h9
  ·exact .inl h9
  ·rcases hb q h9 with e | e
   ·exact .inl (c q e)
   ·exact .inr e
theorem Sto.add {W w : World} {m : NMap} {F : List Nat} (h : Sto W m F) {g : Nat} {its : List Item} {ps : List Nat} {v u : Value} (hn : NdX w g its ps v u) (hb : Below W.heap.size W w) (hg : W.heap.size ≤ g) (hq : ∀ q, q ∈ blocks v u → W.heap.size ≤ q) :
  Sto w (upd m g ⟨its, ps⟩) (F ++ g :: blocks v u) ∧ Stp W F w (F ++ g :: blocks v u) := by
 obtain ⟨vs, us, h1, h2, h3⟩ := h
 have ht : Touch [] W w := Touch.ofBelow hb
 have hne : ∀ x nx, m x = some nx → x ≠ g := fun x nx hx e => by have := h3 x (h1 x nx hx).2.1; omega
 refine ⟨⟨fun x => if x = g then v else vs x, fun x => if x = g then u else us x, ?_, ?_, ?_⟩, ht.mono (by simp), ?_⟩
 ·intro x nx hx
  by_cases e : x = g
  ·subst e
   rw [upd_same] at hx
   injection hx with hx
   subst hx
   simp only [if_true]
   exact ⟨hn, by simp, fun q hq => by simp [hq]⟩
  ·rw [ya3 _ _ e] at hx
   simp only [if_neg e]
   obtain ⟨a', b', c'⟩ := h1 x nx hx
   exact ⟨a'.new ht, by simp [b'], fun q hq => by simp [c' q hq]⟩
 ·intro x nx y ny hx hy hxy
  by_cases e : x = g
  ·subst e
   have ey : y ≠ x := fun e => hxy e.symm
   rw [ya3 _ _ ey] at hy
   simp only [if_true, if_neg ey]
   obtain ⟨a', b', c'⟩ := h1 y ny hy
   refine ⟨fun h9 => ?_, fun q h9 h10 => ?_⟩
   ·have := hq y h9; have := h3 y b'; omega
   ·have := hq q h9; have := (a'.ltb q h10).1; omega
  ·rw [ya3 _ _ e] at hx
   simp only [if_neg e]
   obtain ⟨a', b', c'⟩ := h1 x nx hx
   by_cases e2 : y = g
   ·subst e2
    simp only [if_true]
    refine ⟨fun h9 => by have := (a'.ltb y h9).1; omega, fun q h9 h10 => ?_⟩
    have := hq q h10; have := (a'.ltb q h9).1; omega
   ·rw [ya3 _ _ e2] at hy
    simp only [if_neg e2]
    exact h2 x nx y ny hx hy hxy
 ·intro q h9
  rcases List.mem_append.1 h9 with h10 | h10
  ·exact Nat.lt_of_lt_of_le (h3 q h10) ht.size
  ·rcases List.mem_cons.1 h10 with e | e
   ·rw [e]; exact hn.lt
   ·exact (hn.ltb q e).1
 ·intro q h9
  rcases List.mem_append.1 h9 with h10 | h10
  ·exact .inl h10
  ·rcases List.mem_cons.1 h10 with e | e
   ·exact .inr (by rw [e]; exact hg)
   ·exact .inr (hq q e)
theorem Sto.empty (W : World) : Sto W (fun _ => none) [] :=
 ⟨fun _ => undef, fun _ => undef, ⟨fun g nd h => (by cases h), fun g nd g' nd' h => (by cases h), fun q h => (by cases h)⟩⟩
def ydl (m1 m2 : NMap) : NMap := fun x => if (m1 x).isSome then m1 x else m2 x
theorem ynt {m1 m2 : NMap} {g : Nat} {nd : Nd} (h : m1 g = some nd) : ydl m1 m2 g = some nd := by simp [ydl, h]
theorem yvm {W : World} {m1 m2 : NMap} {F1 F2 : List Nat} (h1 : Sto W m1 F1) (hd : ∀ q, q ∈ F1 → q ∉ F2) {g : Nat} (hg : g ∈ F2) : ydl m1 m2 g = m2 g := by
 cases e : m1 g with
 | none => simp [ydl, e]
 | some nd => exact absurd hg (hd g (h1.mem e))
theorem ykf {m1 m2 : NMap} {g : Nat} {nd : Nd} (h : ydl m1 m2 g = some nd) : (m1 g = some nd ∧ (m1 g).isSome = true) ∨ ((m1 g).isSome = false ∧ m2 g = some nd) := by
 unfold ydl at h
 cases e : m1 g with
 | none => rw [e] at h; exact .inr ⟨rfl, h⟩
 | some x => rw [e] at h; exact .inl ⟨h, rfl⟩
theorem Sto.join {W : World} {m1 m2 : NMap} {F1 F2 : List Nat} (h1 : Sto W m1 F1) (h2 : Sto W m2 F2) (hd : ∀ q, q ∈ F1 → q ∉ F2) : Sto W (ydl m1 m2) (F1 ++ F2) := by
 obtain ⟨vs1, us1, a1, b1, c1⟩ := h1
 obtain ⟨vs2, us2, a2, b2, c2⟩ := h2
 refine ⟨fun x => if (m1 x).isSome then vs1 x else vs2 x, fun x => if (m1 x).isSome then us1 x else us2 x, ?_, ?_, ?_⟩
 ·intro g nd h
  rcases ykf h with ⟨e, e1⟩ | ⟨e1, e⟩
  ·simp only [e1, if_true]
   obtain ⟨x, y, z⟩ := a1 g nd e
   exact ⟨x, by simp [y], fun q hq => by simp [z q hq]⟩
  ·simp only [e1, Bool.false_eq_true, if_false]
   obtain ⟨x, y, z⟩ := a2 g nd e
   exact ⟨x, by simp [y], fun q hq => by simp [z q hq]⟩
 ·intro g nd g' nd' h h' hne
  rcases ykf h with ⟨e, e1⟩ | ⟨e1, e⟩ <;> rcases ykf h' with ⟨e', e1'⟩ | ⟨e1', e'⟩
  ·simp only [e1, e1', if_true]
   exact b1 g nd g' nd' e e' hne
  ·simp only [e1, e1', if_true, Bool.false_eq_true, if_false]
   have x := a1 g nd e
   have y := a2 g' nd' e'
   exact ⟨fun h9 => hd g' (x.2.2 g' h9) y.2.1, fun q h9 h10 => hd q (x.2.2 q h9) (y.2.2 q h10)⟩
  ·simp only [e1, e1', if_true, Bool.false_eq_true, if_false]
   have x := a2 g nd e
   have y := a1 g' nd' e'
   exact ⟨fun h9 => hd g' y.2.1 (x.2.2 g' h9), fun q h9 h10 => hd q (y.2.2 q h10) (x.2.2 q h9)⟩
  ·simp only [e1, e1', Bool.false_eq_true, if_false]
   exact b2 g nd g' nd' e e' hne
 ·intro q hq
  rcases List.mem_append.1 hq with h | h
  ·exact c1 q h
  ·exact c2 q h
theorem Sto.congr {W : World} {m m' : NMap} {F : List Nat} (h : Sto W m F) (e : ∀ x, m' x = m x) : Sto W m' F := by
 have : m' = m := funext e
 rw [this]; exact h
theorem Sto.single {w : World} {g : Nat} {its : List Item} {ps : List Nat} {v u : Value} (hn : NdX w g its ps v u) : Sto w (upd (fun _ => none) g ⟨its, ps⟩) (g :: blocks v u) := by
 refine ⟨fun _ => v, fun _ => u, ?_, ?_, ?_⟩
 ·intro x nx hx
  by_cases e : x = g
  ·subst e
   rw [upd_same] at hx
   injection hx with hx
   subst hx
   exact ⟨hn, by simp, fun q hq => by simp [hq]⟩
  ·rw [ya3 _ _ e] at hx
   cases hx
 ·intro x nx y ny hx hy hxy
  by_cases e : x = g
  ·by_cases e2 : y = g
   ·exact absurd (e.trans e2.symm) hxy
   ·rw [ya3 _ _ e2] at hy
    cases hy
  ·rw [ya3 _ _ e] at hx
   cases hx
 ·intro q hq
  rcases List.mem_cons.1 hq with e | e
  ·rw [e]; exact hn.lt
  ·exact (hn.ltb q e).1
theorem ye1.two {W : World} {m : NMap} {F : List Nat} {g : Nat} {v u : Value} (hS : Sto W m F) (h : ye1 W m F g v u) {w : World} {its1 its2 : List Item} {ps1 ps2 : List Nat} {v1 u1 v2 u2 : Value} {g2 : Nat} (h1 : NdX w g its1 ps1 v1 u1)
  (h2 : NdX w g2 its2 ps2 v2 u2) (ht : Touch (g :: blocks v u) W w) (hb : ∀ q, q ∈ blocks v1 u1 → q < W.heap.size ∧ q ∈ blocks v u) (hg2 : W.heap.size ≤ g2) (hb2 : ∀ q, q ∈ blocks v2 u2 → W.heap.size ≤ q) :
  Sto w (upd (upd m g ⟨its1, ps1⟩) g2 ⟨its2, ps2⟩) ((F ++ blocks v1 u1) ++ (g2 :: blocks v2 u2)) ∧ Stp W F w ((F ++ blocks v1 u1) ++ (g2 :: blocks v2 u2)) := by
 obtain ⟨a, b⟩ := h w its1 ps1 v1 u1 h1 ht (fun q hq => .inl (hb q hq).2)
 have c := Sto.single h2
 have hn : m g2 = none := by
  cases e : m g2 with
  | none => rfl
  | some nd => have := hS.lt g2 (hS.mem e); omega
 have hlt : ∀ q, q ∈ F ++ blocks v1 u1 → q < W.heap.size := by
  intro q hq
  rcases List.mem_append.1 hq with e | e
  ·exact hS.lt q e
  ·exact (hb q e).1
 have hge : ∀ q, q ∈ g2 :: blocks v2 u2 → W.heap.size ≤ q := by
  intro q hq
  rcases List.mem_cons.1 hq with e | e
  ·omega
  ·exact hb2 q e
 refine ⟨(a.join c (fun q hq hq2 => by have := hlt q hq; have := hge q hq2; omega)).congr (fun x => ?_), b.1, fun q hq => ?_⟩
 ·by_cases e : x = g2
  ·subst e
   have hg : x ≠ g := by
    rintro rfl
    have := (h1.lt); have := hlt x (by
     have hm := a.mem (upd_same m x ⟨its1, ps1⟩)
     exact hm)
    omega
   simp [upd, ydl, hn, hg]
  ·unfold ydl
   cases e2 : upd m g ⟨its1, ps1⟩ x with
   | none => simp [ya3 _ _ e, e2]
   | some nd => simp [ya3 _ _ e, e2]
 ·rcases List.mem_append.1 hq with e | e
  ·exact b.2 q e
  ·exact .inr (hge q e)
theorem below_drewN {B : Nat} {a b : World} (h : Below B a b) (n : Nat) : Below B a (b.drewN n) := ⟨h.os, h.tape, h.output, h.size, h.block⟩
theorem ybs {W : World} {e s n : Nat} {v : Value} {xs : List Value} (h : W.ownsRow 0 e s v n xs) (hn : 0 < n) : ∃ q c, v = .slice (some ⟨q, 0, none⟩) n c ∧ n ≤ c ∧ c ≤ maxLen := by
 rcases h.2 with ⟨_, h1⟩ | ⟨g, cap, cur, h0, _, _, h2, h3, _⟩
 ·omega
 ·exact ⟨g, cap, h0, h2, h3⟩
theorem yvn (g i : Nat) {its : List Item} {v u : Value} (W : World) (h : NdX W g its [] v u) :
  Calls Tryz.prog 192 #[ptr g, .int .i64 (i : Nat)] W fun e w' => e = .returned (.pointer none) ∧ W = w' := by
 obtain ⟨A, c, rfl⟩ := yav h.r1
 have c1 : W.cell? ⟨g, 1, none⟩ = some (.slice A 0 c) := h.c1
 clear h
 unfold ptr
 go_enter Tryz.func192, Tryz.ntmps192
 go_wp2
 go_ret
 exact ⟨rfl, rfl⟩
theorem yvo (g i : Nat) {its : List Item} {ps : List Nat} {v u : Value} (W : World) (h : NdX W g its ps v u) (hi : i < ps.length) (hp : ps.length ≤ 100000) :
  Calls Tryz.prog 192 #[ptr g, .int .i64 (i : Nat)] W fun e w' => e = .returned (ptr ps[i]) ∧ W = w' := by
 obtain ⟨q, c, rfl, h2, h3⟩ := ybs h.r1 (by omega)
 have c1 := h.c1
 have hx : W.cell? ⟨q, i, none⟩ = some (ptr ps[i]) := by rw [h.r1.cellAt i (by omega)]; exact yvl ps i hi
 obtain ⟨n, hn⟩ : ∃ n, ps.length = n := ⟨_, rfl⟩
 have b1 : ((n : Int) == 0) = false := by simp; omega
 have b2 : (i : Int) < (n : Int) := by omega
 generalize ps[i] = x at *
 rw [hn] at c1
 clear h h2 h3 hn hi hp
 unfold ptr at *
 go_enter Tryz.func192, Tryz.ntmps192
 go_wp2
 go_ret
 exact ⟨rfl, rfl⟩
theorem ynu (g i q c : Nat) {its : List Item} {ps : List Nat} {u : Value} (W : World) (h : NdX W g its ps (.slice (some ⟨q, 0, none⟩) its.length c) u) (hi : i < its.length) :
  Calls Tryz.prog 183 #[.agg #[ptr g, .int .i64 (i : Nat)]] W fun e w' => e = .returned (.pointer (some ⟨q, i * 2, none⟩)) ∧ Below W.heap.size W w' := by
 have hg := h.lt
 have c0 := h.c0
 obtain ⟨n, hn⟩ : ∃ n, its.length = n := ⟨_, rfl⟩
 have b2 : (i : Int) < (n : Int) := by omega
 rw [hn] at c0
 clear h hn hi
 unfold ptr at *
 go_enter Tryz.func183, Tryz.ntmps183
 go_wp2
 go_quiet (fail)
 go_wp2
 go_ret
 exact ⟨rfl, below_drewN ((Below.refl _ _).alloc (Nat.le_refl _) _) _⟩
structure Set0 (W w1 : World) (g : Nat) (its' : List Item) (ps : List Nat) (v0 u0 v' : Value) : Prop where
 c : w1.cell? ⟨g, 0, none⟩ = some v0
 f : w1.frozen? ⟨g, 0, none⟩ = false
 nd : NdX (w1.setCell ⟨g, 0, none⟩ v') g its' ps v' u0
 t : Touch (g :: blocks v0 u0) W (w1.setCell ⟨g, 0, none⟩ v')
 b : ∀ q, q ∈ blocks v' u0 → q ∈ blocks v0 u0 ∨ W.heap.size ≤ q
theorem Set0.other {W w1 : World} {g : Nat} {its' : List Item} {ps : List Nat} {v0 u0 v' : Value} (h : Set0 W w1 g its' ps v0 u0 v') : w1.cell? ⟨g, 1, none⟩ = some u0 ∧ w1.frozen? ⟨g, 1, none⟩ = false := by
 have a := h.nd.c1
 have b := h.nd.f1
 rw [World.cell?_setCell_other _ _ _ _ (by simp)] at a
 rw [World.frozen?_setCell] at b
 exact ⟨a, b⟩
structure Set1 (W w1 : World) (g : Nat) (its : List Item) (ps' : List Nat) (v0 u0 u' : Value) : Prop where
 c : w1.cell? ⟨g, 1, none⟩ = some u0
 f : w1.frozen? ⟨g, 1, none⟩ = false
 nd : NdX (w1.setCell ⟨g, 1, none⟩ u') g its ps' v0 u'
 t : Touch (g :: blocks v0 u0) W (w1.setCell ⟨g, 1, none⟩ u')
 b : ∀ q, q ∈ blocks v0 u' → q ∈ blocks v0 u0 ∨ W.heap.size ≤ q
theorem Set0.of {W w1 : World} {g : Nat} {its its' : List Item} {ps : List Nat} {v u v' : Value} (h : NdX W g its ps v u) (hg : W.grownBy w1 v.ownBlock) (ho : w1.ownsRow 0 96 2 v' its'.length (yaa its')) (hs : yax W v v') : Set0 W w1 g its' ps v u v' := by
 obtain ⟨a, b, c⟩ := h.set0 hg ho hs
 have hne : some g ≠ v.ownBlock := fun e => h.n0 g e.symm rfl
 exact ⟨hg.cell h.c0 hne, (World.frozen?_of_block (a := ⟨g, 0, none⟩) (hg.block g h.lt hne)).trans h.f0, a, b, c⟩
theorem Set1.of {W w1 : World} {g : Nat} {its : List Item} {ps ps' : List Nat} {v u u' : Value} (h : NdX W g its ps v u) (hg : W.grownBy w1 u.ownBlock) (ho : w1.ownsRow 0 209 1 u' ps'.length (yaq ps')) (hs : yax W u u') : Set1 W w1 g its ps' v u u' := by
 obtain ⟨a, b, c⟩ := h.set1 hg ho hs
 have hne : some g ≠ u.ownBlock := fun e => h.n1 g e.symm rfl
 exact ⟨hg.cell h.c1 hne, (World.frozen?_of_block (a := ⟨g, 1, none⟩) (hg.block g h.lt hne)).trans h.f1, a, b, c⟩
theorem Set0.from {W Wc w1 : World} {g : Nat} {its' : List Item} {ps : List Nat} {v0 u0 v' : Value} (h : Set0 Wc w1 g its' ps v0 u0 v') (ht : Touch [] W Wc) : Set0 W w1 g its' ps v0 u0 v' :=
 ⟨h.c, h.f, h.nd, (ht.mono (by simp)).trans h.t (fun _ hx => .inl hx), fun q hq => by
  rcases h.b q hq with e | e
  ·exact .inl e
  ·exact .inr (Nat.le_trans ht.size e)⟩
theorem Set1.from {W Wc w1 : World} {g : Nat} {its : List Item} {ps' : List Nat} {v0 u0 u' : Value} (h : Set1 Wc w1 g its ps' v0 u0 u') (ht : Touch [] W Wc) : Set1 W w1 g its ps' v0 u0 u' :=
 ⟨h.c, h.f, h.nd, (ht.mono (by simp)).trans h.t (fun _ hx => .inl hx), fun q hq => by
  rcases h.b q hq with e | e
  ·exact .inl e
  ·exact .inr (Nat.le_trans ht.size e)⟩
theorem Set0.then {W w1 V w2 : World} {g : Nat} {its its' : List Item} {ps ps' : List Nat} {v0 u0 v' u' : Value} (h : Set0 W w1 g its ps v0 u0 v') (hV : Touch [] (w1.setCell ⟨g, 0, none⟩ v') V) (k : Set1 V w2 g its' ps' v' u0 u') :
  Touch (g :: blocks v0 u0) W (w2.setCell ⟨g, 1, none⟩ u') ∧ ∀ q, q ∈ blocks v' u' → q ∈ blocks v0 u0 ∨ W.heap.size ≤ q := by
 have hs : W.heap.size ≤ V.heap.size := Nat.le_trans h.t.size hV.size
 have k' := k.from hV
 refine ⟨h.t.trans k'.t (fun x hx => ?_), fun q hq => ?_⟩
 ·rcases List.mem_cons.1 hx with e | e
  ·exact .inl (by rw [e]; simp)
  ·rcases h.b x e with e2 | e2
   ·exact .inl (List.mem_cons_of_mem _ e2)
   ·exact .inr e2
 ·rcases k.b q hq with e | e
  ·exact h.b q e
  ·exact .inr (Nat.le_trans hs e)
theorem yvp (l : List Item) (i : Nat) (k v : ByteArray) : (yaa l).take (i * 2) ++ ([Value.string k, Value.string v] ++ (yaa l).drop (i * 2)) = yaa (ya0 l i (k, v)) := by
 rw [yhj, yhk, ya0, yc0, yb4]; rfl
theorem yvq (l : List Nat) (i b : Nat) : (yaq l).take (i * 1) ++ ([ptr b] ++ (yaq l).drop (i * 1)) = yaq (ya0 l i b) := by
 simp [yaq, ya0]
theorem ynv (g i vb : Nat) (k v : ByteArray) {its : List Item} {ps : List Nat} {v0 u0 : Value} (W : World) (h : NdX W g its ps v0 u0) (hi : i ≤ its.length) (hn : its.length ≤ 1000) (hvb : W.heap[vb]? = some (.cells #[.string k, .string v] 96 (0, 0))) (hne : vb ∉ blocks v0 u0) :
  Calls Tryz.prog 219 #[v0, .int .i64 (i : Nat), .slice (some ⟨vb, 0, none⟩) 1 1] W fun e w1 => ∃ A c n, e = .returned (.slice A n c) ∧ Set0 W w1 g (ya0 its i (k, v)) ps v0 u0 (.slice A n c) := by
 refine (yvi 0 vb its.length i v0 (yaa its) [.string k, .string v] W h.r0 hi (by omega) (Nat.zero_le _) (fun e => hne (ybb.2 (.inl e))) rfl hvb (by intro u hu; simp at hu; rcases hu with rfl | rfl <;> rfl) (ybc _)).mono ?_
 rintro e w1 ⟨v', rfl, ho, hg, hs⟩
 rw [yvp] at ho
 obtain ⟨A, c, rfl⟩ := yav ho
 exact ⟨A, c, _, rfl, Set0.of h hg (by rw [yke _ _ _ hi]; exact ho) hs⟩
theorem yvr (g i vb b : Nat) {its : List Item} {ps : List Nat} {v0 u0 : Value} (W : World) (h : NdX W g its ps v0 u0) (hi : i ≤ ps.length) (hn : ps.length ≤ 1000) (hvb : W.heap[vb]? = some (.cells #[ptr b] 209 (0, 0))) (hne : vb ∉ blocks v0 u0) :
  Calls Tryz.prog 220 #[u0, .int .i64 (i : Nat), .slice (some ⟨vb, 0, none⟩) 1 1] W fun e w1 => ∃ A c n, e = .returned (.slice A n c) ∧ Set1 W w1 g its (ya0 ps i b) v0 u0 (.slice A n c) := by
 refine (yvj 0 vb ps.length i u0 (yaq ps) [ptr b] W h.r1 hi (by omega) (Nat.zero_le _) (fun e => hne (ybb.2 (.inr e))) rfl hvb (by intro u hu; simp at hu; subst hu; rfl) (ygw _)).mono ?_
 rintro e w1 ⟨u', rfl, ho, hg, hs⟩
 rw [yvq] at ho
 obtain ⟨A, c, rfl⟩ := yav ho
 exact ⟨A, c, _, rfl, Set1.of h hg (by rw [yke _ _ _ hi]; exact ho) hs⟩
theorem yik (g i j q c : Nat) {its : List Item} {ps : List Nat} {u0 : Value} (W : World) (h : NdX W g its ps (.slice (some ⟨q, 0, none⟩) its.length c) u0) (hij : i < j) (hj : j ≤ its.length) (hn : its.length ≤ 1000) :
  Calls Tryz.prog 221 #[.slice (some ⟨q, 0, none⟩) its.length c, .int .i64 (i : Nat), .int .i64 (j : Nat)] W fun e w1 => ∃ n, e = .returned (.slice (some ⟨q, 0, none⟩) n c) ∧ Set0 W w1 g (its.take i ++ its.drop j) ps (.slice (some ⟨q, 0, none⟩) its.length c) u0 (.slice (some ⟨q, 0, none⟩) n c) := by
 refine (yu7 q its.length c i j 0 (yaa its) W h.r0 hij hj (by omega) (ybc _)).mono ?_
 rintro e w1 ⟨rfl, ho, hg⟩
 rw [yhj, yhk, ← yc0] at ho
 exact ⟨_, rfl, Set0.of h hg (by rw [List.length_append, List.length_take, List.length_drop, Nat.min_eq_left (by omega)]; exact ho) (fun q' e => .inl e)⟩
theorem ynw (g i j q c : Nat) {its : List Item} {ps : List Nat} {v0 : Value} (W : World) (h : NdX W g its ps v0 (.slice (some ⟨q, 0, none⟩) ps.length c)) (hij : i < j) (hj : j ≤ ps.length) (hn : ps.length ≤ 1000) :
  Calls Tryz.prog 223 #[.slice (some ⟨q, 0, none⟩) ps.length c, .int .i64 (i : Nat), .int .i64 (j : Nat)] W fun e w1 => ∃ n, e = .returned (.slice (some ⟨q, 0, none⟩) n c) ∧ Set1 W w1 g its (ps.take i ++ ps.drop j) v0 (.slice (some ⟨q, 0, none⟩) ps.length c) (.slice (some ⟨q, 0, none⟩) n c) := by
 refine (yvd q ps.length c i j 0 (yaq ps) W h.r1 hij hj (by omega) (ygw _)).mono ?_
 rintro e w1 ⟨rfl, ho, hg⟩
 have e1 : (yaq ps).take (i * 1) ++ (yaq ps).drop (j * 1) = yaq (ps.take i ++ ps.drop j) := by simp [yaq]
 rw [e1] at ho
 exact ⟨_, rfl, Set1.of h hg (by rw [List.length_append, List.length_take, List.length_drop, Nat.min_eq_left (by omega)]; exact ho) (fun q' e => .inl e)⟩
def ybt (W : World) (F : List Nat) (m : NMap) (r : Value) (e : Ending) (w : World) : Prop := e = .returned r ∧ ∃ F', Sto w m F' ∧ Stp W F w F'
theorem ynx (W : World) (a b : Obj) : ((W.alloc a).alloc b).drew.heap[W.heap.size + 1]? = some b := heap_alloc2_new W a b
theorem yny (W : World) (a : Obj) : (W.alloc a).heap[W.heap.size]? = some a := heap_alloc_new W a
theorem yvs (g i : Nat) (k v : ByteArray) {its : List Item} {ps : List Nat} {m : NMap} {F : List Nat} (W : World) (h : Sto W m F) (hm : m g = some ⟨its, ps⟩) (hi : i ≤ its.length) (hn : its.length ≤ 1000) :
  Calls Tryz.prog 201 #[ptr g, .int .i64 (i : Nat), .agg #[.string k, .string v], .pointer none] W (ybt W F (upd m g ⟨ya0 its i (k, v), ps⟩) (.tuple #[])) := by
 obtain ⟨v0, u0, hN, hF, hfin⟩ := h.at hm
 have hN : NdX W g its ps v0 u0 := hN
 have CI : Hid (∀ Wc vb, Touch [] W Wc → Wc.heap[vb]? = some (.cells #[.string k, .string v] 96 (0, 0)) → W.heap.size ≤ vb → Calls Tryz.prog 219 #[v0, .int .i64 (i : Nat), .slice (some ⟨vb, 0, none⟩) 1 1] Wc
   fun e w1 => ∃ A c n, e = .returned (.slice A n c) ∧ Set0 W w1 g (ya0 its i (k, v)) ps v0 u0 (.slice A n c)) := fun Wc vb ht hvb hlt => (ynv g i vb k v Wc (hN.new ht) hi hn hvb (fun e => by have := (hN.ltb vb e).1; omega)).mono fun e w1 ⟨A, c, n, he, hS⟩ => ⟨A, c, n, he, hS.from ht⟩
 have hg := hN.lt
 have c0 := hN.c0
 have HN := Lib.hid hN
 have HF := Lib.hid hfin
 clear hN hfin hF h hm hi hn
 unfold ptr at *
 go_enter Tryz.func201, Tryz.ntmps201
 go_wp2
 go_region_with (go_at_call 219; ((with_reducible refine (CI.out _ _ (((Touch.refl _ _).alloc _).alloc _).drew (ynx _ _ _) (by omega)).mono ?_); rintro e w1 ⟨A1, d1, n1, rfl, hS⟩; have sc := hS.c; have sf := hS.f; have HS := Lib.hid hS; clear hS))
 all_goals
  go_wp2
  go_end0
  exact ⟨rfl, _, HF.out _ _ _ _ _ HS.out.nd HS.out.t HS.out.b⟩
theorem ynz (g i b : Nat) (k v : ByteArray) {its : List Item} {ps : List Nat} {m : NMap} {F : List Nat} (W : World) (h : Sto W m F) (hm : m g = some ⟨its, ps⟩) (hi : i ≤ its.length) (hn : its.length ≤ 1000) (hp : i + 1 ≤ ps.length) (hpn : ps.length ≤ 1000) :
  Calls Tryz.prog 201 #[ptr g, .int .i64 (i : Nat), .agg #[.string k, .string v], ptr b] W (ybt W F (upd m g ⟨ya0 its i (k, v), ya0 ps (i + 1) b⟩) (.tuple #[])) := by
 obtain ⟨v0, u0, hN, hF, hfin⟩ := h.at hm
 have hN : NdX W g its ps v0 u0 := hN
 have CI : Hid (∀ Wc vb, Touch [] W Wc → Wc.heap[vb]? = some (.cells #[.string k, .string v] 96 (0, 0)) → W.heap.size ≤ vb → Calls Tryz.prog 219 #[v0, .int .i64 (i : Nat), .slice (some ⟨vb, 0, none⟩) 1 1] Wc
   fun e w1 => ∃ A c n, e = .returned (.slice A n c) ∧ Set0 W w1 g (ya0 its i (k, v)) ps v0 u0 (.slice A n c)) := fun Wc vb ht hvb hlt => (ynv g i vb k v Wc (hN.new ht) hi hn hvb (fun e => by have := (hN.ltb vb e).1; omega)).mono fun e w1 ⟨A, c, n, he, hS⟩ => ⟨A, c, n, he, hS.from ht⟩
 have CN : Hid (∀ V vb its' v', vb = V.heap.size → NdX V g its' ps v' u0 → Calls Tryz.prog 220 #[u0, .int .i64 ((i : Int) + 1), .slice (some ⟨vb, 0, none⟩) 1 1] (V.alloc (.cells #[.pointer (some ⟨b, 0, none⟩)] 209))
   fun e w1 => ∃ A c n, e = .returned (.slice A n c) ∧ Set1 (V.alloc (.cells #[.pointer (some ⟨b, 0, none⟩)] 209)) w1 g its' (ya0 ps (i + 1) b) v' u0 (.slice A n c)) := by
  rintro V vb its' v' rfl hV
  exact yvr g (i + 1) V.heap.size b _ (hV.new ((Touch.refl _ _).alloc _)) hp hpn (yny _ _) (fun e => by have := (hV.ltb _ e).1; omega)
 have hg := hN.lt
 have c0 := hN.c0
 have b1 : (i : Int) < 1000 := by omega
 have HN := Lib.hid hN
 have HF := Lib.hid hfin
 clear hN hfin hF h hm hi hn hp hpn
 unfold ptr at *
 go_enter Tryz.func201, Tryz.ntmps201
 go_wp2
 go_region_with (go_at_call 219; ((with_reducible refine (CI.out _ _ (((Touch.refl _ _).alloc _).alloc _).drew (ynx _ _ _) (by omega)).mono ?_); rintro e w1 ⟨A1, d1, n1, rfl, hS⟩; have sc := hS.c; have sf := hS.f; obtain ⟨sc1, sf1⟩ := hS.other; have HS := Lib.hid hS; clear hS))
 all_goals
  go_wp2_with (go_at_call 220; ((with_reducible refine (CN.out _ _ _ _ (by simp) HS.out.nd).mono ?_); rintro e w2 ⟨A2, d2, n2, rfl, hS2⟩; have sc2 := hS2.c; have sf2 := hS2.f; have HS2 := Lib.hid hS2; clear hS2))
  go_end0
  exact ⟨rfl, _, HF.out _ _ _ _ _ HS2.out.nd (HS.out.then ((Touch.refl _ _).alloc _) HS2.out).1 (HS.out.then ((Touch.refl _ _).alloc _) HS2.out).2⟩
theorem yvt (g i : Nat) {its : List Item} {m : NMap} {F : List Nat} (W : World) (h : Sto W m F) (hm : m g = some ⟨its, []⟩) (hi : i < its.length) (hn : its.length ≤ 1000) :
  Calls Tryz.prog 205 #[ptr g, .int .i64 (i : Nat)] W (ybt W F (upd m g ⟨yaj its i, []⟩) (.tuple #[])) := by
 obtain ⟨v0, u0, hN, hF, hfin⟩ := h.at hm
 have hN : NdX W g its [] v0 u0 := hN
 obtain ⟨q, c, rfl, hq1, hq2⟩ := ybs hN.r0 (by omega)
 obtain ⟨B, d, rfl⟩ := yav hN.r1
 have CD : Hid (Calls Tryz.prog 221 #[.slice (some ⟨q, 0, none⟩) its.length c, .int .i64 (i : Nat), .int .i64 ((i : Int) + 1)] W fun e w1 => ∃ n, e = .returned (.slice (some ⟨q, 0, none⟩) n c) ∧ Set0 W w1 g (yaj its i) [] (.slice (some ⟨q, 0, none⟩) its.length c) (.slice B 0 d) (.slice (some ⟨q, 0, none⟩) n c)) :=
  yik g i (i + 1) q c W hN (by omega) (by omega) hn
 have hg := hN.lt
 have c0 := hN.c0
 have b1 : (i : Int) < 1000 := by omega
 have HF := Lib.hid hfin
 obtain ⟨n, hl⟩ : ∃ n, its.length = n := ⟨_, rfl⟩
 rw [hl] at CD c0 HF
 clear hN hfin hF h hm hi hn hq1 hq2 hl
 unfold ptr at *
 go_enter Tryz.func205, Tryz.ntmps205
 go_wp2_with (go_at_call 221; ((with_reducible refine (CD.out).mono ?_); rintro e w1 ⟨n1, rfl, hS⟩; have sc := hS.c; have sf := hS.f; obtain ⟨sc1, sf1⟩ := hS.other; have HS := Lib.hid hS; clear hS))
 go_end0
 exact ⟨rfl, _, HF.out _ _ _ _ _ HS.out.nd HS.out.t HS.out.b⟩
theorem yvu (g i : Nat) {its : List Item} {ps : List Nat} {m : NMap} {F : List Nat} (W : World) (h : Sto W m F) (hm : m g = some ⟨its, ps⟩) (hi : i < its.length) (hn : its.length ≤ 1000) (hp : i + 1 < ps.length) (hpn : ps.length ≤ 1000) :
  Calls Tryz.prog 205 #[ptr g, .int .i64 (i : Nat)] W (ybt W F (upd m g ⟨yaj its i, yaj ps (i + 1)⟩) (.tuple #[])) := by
 obtain ⟨v0, u0, hN, hF, hfin⟩ := h.at hm
 have hN : NdX W g its ps v0 u0 := hN
 obtain ⟨q, c, rfl, hq1, hq2⟩ := ybs hN.r0 (by omega)
 obtain ⟨q', d, rfl, hq3, hq4⟩ := ybs hN.r1 (by omega)
 have CD : Hid (Calls Tryz.prog 221 #[.slice (some ⟨q, 0, none⟩) its.length c, .int .i64 (i : Nat), .int .i64 ((i : Int) + 1)] W fun e w1 => ∃ n, e = .returned (.slice (some ⟨q, 0, none⟩) n c) ∧ Set0 W w1 g (yaj its i) ps (.slice (some ⟨q, 0, none⟩) its.length c) (.slice (some ⟨q', 0, none⟩) ps.length d) (.slice (some ⟨q, 0, none⟩) n c)) :=
  yik g i (i + 1) q c W hN (by omega) (by omega) hn
 have CN : Hid (∀ V its' v', NdX V g its' ps v' (.slice (some ⟨q', 0, none⟩) ps.length d) → Calls Tryz.prog 223 #[.slice (some ⟨q', 0, none⟩) ps.length d, .int .i64 ((i : Int) + 1), .int .i64 ((i : Int) + 2)] V fun e w1 => ∃ n, e = .returned (.slice (some ⟨q', 0, none⟩) n d) ∧ Set1 V w1 g its' (yaj ps (i + 1)) v' (.slice (some ⟨q', 0, none⟩) ps.length d) (.slice (some ⟨q', 0, none⟩) n d)) :=
  fun V its' v' hV => ynw g (i + 1) (i + 2) q' d V hV (by omega) (by omega) hpn
 have hg := hN.lt
 have c0 := hN.c0
 have b1 : (i : Int) < 1000 := by omega
 have HF := Lib.hid hfin
 obtain ⟨n, hl⟩ : ∃ n, its.length = n := ⟨_, rfl⟩
 obtain ⟨n', hl'⟩ : ∃ n', ps.length = n' := ⟨_, rfl⟩
 rw [hl] at CD c0 HF
 rw [hl'] at CD CN HF
 have b2 : (0 : Int) < (n' : Int) := by omega
 clear hN hfin hF h hm hi hn hq1 hq2 hq3 hq4 hl hl' hp hpn
 unfold ptr at *
 go_enter Tryz.func205, Tryz.ntmps205
 go_wp2_with (first
  | (go_at_call 221; ((with_reducible refine (CD.out).mono ?_); rintro e w1 ⟨n1, rfl, hS⟩; have sc := hS.c; have sf := hS.f; obtain ⟨sc1, sf1⟩ := hS.other; have HS := Lib.hid hS; clear hS))
  | (go_at_call 223; ((with_reducible refine (CN.out _ _ _ HS.out.nd).mono ?_); rintro e w2 ⟨n2, rfl, hS2⟩; have sc2 := hS2.c; have sf2 := hS2.f; have HS2 := Lib.hid hS2; clear hS2)))
 go_end0
 exact ⟨rfl, _, HF.out _ _ _ _ _ HS2.out.nd (HS.out.then (Touch.refl _ _) HS2.out).1 (HS.out.then (Touch.refl _ _) HS2.out).2⟩
structure Box2 (W : World) (b : Nat) (x y : Value) : Prop where
 lt : b < W.heap.size
 c0 : W.cell? ⟨b, 0, none⟩ = some x
 c1 : W.cell? ⟨b, 1, none⟩ = some y
 f0 : W.frozen? ⟨b, 0, none⟩ = false
 f1 : W.frozen? ⟨b, 1, none⟩ = false
theorem Box2.touch {W W1 : World} {b : Nat} {x y : Value} {G : List Nat} (h : Box2 W b x y) (ht : Touch G W W1) (hg : b ∉ G) : Box2 W1 b x y :=
 ⟨Nat.lt_of_lt_of_le h.lt ht.size, (ht.cell (p := ⟨b, 0, none⟩) h.lt hg).trans h.c0, (ht.cell (p := ⟨b, 1, none⟩) h.lt hg).trans h.c1, (ht.frozen (p := ⟨b, 0, none⟩) h.lt hg).trans h.f0, (ht.frozen (p := ⟨b, 1, none⟩) h.lt hg).trans h.f1⟩
theorem Box2.unset {W : World} {g o b : Nat} {x y v : Value} (h : Box2 (W.setCell ⟨g, o, none⟩ v) b x y) (hb : b ≠ g) : Box2 W b x y := by
 obtain ⟨h1, h2, h3, h4, h5⟩ := h
 rw [World.cell?_setCell_other _ _ _ _ (fun e => hb (by cases e; rfl))] at h2 h3
 rw [World.frozen?_setCell] at h4 h5
 exact ⟨by simpa [World.setCell] using h1, h2, h3, h4, h5⟩
theorem Set0.box {V w2 : World} {g b : Nat} {its : List Item} {ps : List Nat} {v0 u0 v' x y : Value} (h : Set0 V w2 g its ps v0 u0 v') (k : Box2 V b x y) (hb : b ∉ g :: blocks v0 u0) : Box2 w2 b x y :=
 (k.touch h.t hb).unset (fun e => hb (by rw [e]; simp))
theorem Set1.box {V w2 : World} {g b : Nat} {its : List Item} {ps : List Nat} {v0 u0 u' x y : Value} (h : Set1 V w2 g its ps v0 u0 u') (k : Box2 V b x y) (hb : b ∉ g :: blocks v0 u0) : Box2 w2 b x y :=
 (k.touch h.t hb).unset (fun e => hb (by rw [e]; simp))
theorem Box2.fresh (W : World) (x y : Value) (T : TypeId) : Box2 (W.alloc (.cells #[x, y] T)) W.heap.size x y :=
 ⟨by simp, by go_simp, by go_simp, by go_simp, by go_simp⟩
theorem Box2.freshAt (W : World) (x y : Value) (T : TypeId) {b : Nat} (hb : b = W.heap.size) : Box2 (W.alloc (.cells #[x, y] T)) b x y := by subst hb; exact Box2.fresh W x y T
theorem NdX.box {W : World} {g : Nat} {its : List Item} {ps : List Nat} {v u : Value} (h : NdX W g its ps v u) : Box2 W g v u := ⟨h.lt, h.c0, h.c1, h.f0, h.f1⟩
theorem NdX.fresh {w1 : World} {its : List Item} {ps : List Nat} {v u : Value} {b1 b2 k1 k2 : Nat} {xs ys : List Value} (T : TypeId) (h0 : w1.ownsRow b1 96 2 v k1 xs) (hk1 : its.length = k1) (hxs : xs = yaa its) (h1 : w1.ownsRow b2 209 1 u k2 ys) (hk2 : ps.length = k2) (hys : ys = yaq ps)
  (ha : ∀ q, v.ownBlock = some q → u.ownBlock ≠ some q) : NdX (w1.alloc (.cells #[v, u] T)) w1.heap.size its ps v u := by
 subst hk1 hk2 hxs hys
 have hb := Box2.fresh w1 v u T
 have r0 := (ybp h0 (Nat.zero_le _)).alloc (.cells #[v, u] T)
 have r1 := (ybp h1 (Nat.zero_le _)).alloc (.cells #[v, u] T)
 exact ⟨hb.lt, hb.c0, hb.c1, hb.f0, hb.f1, r0, r1, fun q e => by have := (h0.lt q e).2; omega, fun q e => by have := (h1.lt q e).2; omega, ha⟩
theorem yvv {W Wc w1 w2 w3 : World} {m : NMap} {F : List Nat} {g q c mid n k n1 : Nat} {its : List Item} {u0 vc : Value} {r : Value} {T : TypeId} (hS : Sto W m F) (hT : ye1 W m F g (.slice (some ⟨q, 0, none⟩) n c) u0) (hN : NdX W g its [] (.slice (some ⟨q, 0, none⟩) n c) u0)
  (hc : Touch [] W Wc) (ho : w1.ownsRow Wc.heap.size 96 2 vc k (yaa (its.drop (mid + 1)))) (hk : (its.drop (mid + 1)).length = k) (hb : Below Wc.heap.size Wc w1)
  (h2 : Set0 (w1.alloc (.cells #[vc, .slice none 0 0] T)).drew w2 g (its.take mid ++ its.drop n) [] (.slice (some ⟨q, 0, none⟩) n c) u0 (.slice (some ⟨q, 0, none⟩) n1 c)) (hn : its.length = n)
  {z : Nat} (hz : W.heap.size ≤ z) (hz2 : z < Wc.heap.size) (h3 : Touch [z] (w2.setCell ⟨g, 0, none⟩ (.slice (some ⟨q, 0, none⟩) n1 c)) w3) :
  W.heap.size ≤ w1.heap.size ∧ ybt W F (upd (upd m g ⟨its.take mid, []⟩) w1.heap.size ⟨its.drop (mid + 1), []⟩) r (.returned r) w3 := by
 have e : its.take mid ++ its.drop n = its.take mid := by rw [List.drop_of_length_le (by omega), List.append_nil]
 rw [e] at h2
 have hg := hN.lt
 have hq := (hN.ltb q (ybb.2 (.inl rfl))).1
 have t1 : Touch [] W w1 := hc.trans (Touch.ofBelow (F := []) hb) (by simp)
 have t2 : Touch [] W (w1.alloc (.cells #[vc, .slice none 0 0] T)).drew := (t1.alloc _).drew
 have hgb : ∀ x, x ∈ g :: blocks (.slice (some ⟨q, 0, none⟩) n c) u0 → x < W.heap.size := fun x hx => by
  rcases List.mem_cons.1 hx with e | e
  ·omega
  ·exact (hN.ltb x e).1
 have hvc : ∀ x, x ∈ blocks vc (.slice none 0 0) → Wc.heap.size ≤ x ∧ x < w1.heap.size := fun x hx => by
  rcases ybb.1 hx with e | e
  ·exact ho.lt x e
  ·cases e
 have s1 : W.heap.size ≤ Wc.heap.size := hc.size
 have s2 : Wc.heap.size ≤ w1.heap.size := hb.size
 have f1 : NdX (w1.alloc (.cells #[vc, .slice none 0 0] T)).drew w1.heap.size (its.drop (mid + 1)) [] vc (.slice none 0 0) :=
  (NdX.fresh T ho hk rfl (World.ownsRow_nil _ 0 _ _) rfl rfl (fun q _ e => by cases e)).drew
 have f2 := f1.touch h2.t (fun e => by have := hgb _ e; omega) (fun x hx e => by have := hgb _ e; have := (hvc x hx).1; omega)
 have f3 := f2.touch h3 (by simp; omega) (fun x hx => by have := hvc x hx; simp; omega)
 have g3 := h2.nd.touch h3 (by simp; omega) (fun x hx => by
  rcases h2.b x hx with e | e
  ·have := (hN.ltb x e).1; simp; omega
  ·have e3 : x = q ∨ u0.ownBlock = some x := by
    rcases ybb.1 hx with e5 | e5
    ·exact .inl (Option.some.inj e5).symm
    ·exact .inr e5
   have e4 : x < W.heap.size := by
    rcases e3 with e5 | e5
    ·omega
    ·exact (hN.ltb x (ybb.2 (.inr e5))).1
   simp; omega)
 have tf : Touch (g :: blocks (.slice (some ⟨q, 0, none⟩) n c) u0) W w3 :=
  ((t2.mono (by simp)).trans h2.t (fun x hx => .inl hx)).trans h3 (fun x hx => .inr (by simp at hx; omega))
 obtain ⟨a, b⟩ := ye1.two hS hT g3 f3 tf (fun x hx => by
  have e3 : x ∈ blocks (.slice (some ⟨q, 0, none⟩) n c) u0 := hx
  exact ⟨(hN.ltb x e3).1, e3⟩) (by omega) (fun x hx => by have := (hvc x hx).1; omega)
 exact ⟨by omega, rfl, _, a, b⟩
theorem yvw (g : Nat) {its : List Item} {m : NMap} {F : List Nat} (W : World) (h : Sto W m F) (hm : m g = some ⟨its, []⟩) (mid : Nat) (hmid : its.length / 2 = mid) (hlo : mid + 1 < its.length) (hn : its.length ≤ 1000) (x : Item) (hx : its[mid]? = some x) :
  Calls Tryz.prog 202 #[ptr g] W fun e w => ∃ b, W.heap.size ≤ b ∧ ybt W F (upd (upd m g ⟨its.take mid, []⟩) b ⟨its.drop (mid + 1), []⟩) (.tuple #[.agg #[.string x.1, .string x.2], ptr b]) e w := by
 obtain ⟨v0, u0, hN, hF, hfin⟩ := h.at hm
 have hN : NdX W g its [] v0 u0 := hN
 obtain ⟨q, c, rfl, hq1, hq2⟩ := ybs hN.r0 (by omega)
 obtain ⟨B, d, rfl⟩ := yav hN.r1
 have hmn : mid < its.length := by omega
 have CD : Hid (∀ V, NdX V g its [] (.slice (some ⟨q, 0, none⟩) its.length c) (.slice B 0 d) → Calls Tryz.prog 221 #[.slice (some ⟨q, 0, none⟩) its.length c, .int .i64 (mid : Nat), .int .i64 (its.length : Nat)] V fun e w1 => ∃ n, e = .returned (.slice (some ⟨q, 0, none⟩) n c) ∧ Set0 V w1 g (its.take mid ++ its.drop its.length) [] (.slice (some ⟨q, 0, none⟩) its.length c) (.slice B 0 d) (.slice (some ⟨q, 0, none⟩) n c)) :=
  fun V hV => yik g mid its.length q c V hV (by omega) (Nat.le_refl _) hn
 have CC : Hid (∀ Wc, Touch [] W Wc → Calls Tryz.prog 199 #[.slice (some ⟨q, (mid + 1) * 2, none⟩) (its.length - (mid + 1)) (c - (mid + 1))] Wc fun e w1 => ∃ A' c', e = .returned (.slice A' (its.length - (mid + 1)) c') ∧ w1.ownsRow Wc.heap.size 96 2 (.slice A' (its.length - (mid + 1)) c') (its.length - (mid + 1)) (yaa (its.drop (mid + 1))) ∧ Below Wc.heap.size Wc w1) := by
  intro Wc ht
  have hr : Row Wc (.slice (some ⟨q, 0, none⟩) its.length c) its := (hN.new ht).r0
  refine (yij q ((mid + 1) * 2) (its.length - (mid + 1)) (c - (mid + 1)) (yaa (its.drop (mid + 1))) Wc (by rw [yb8, List.length_drop]) (by omega) (hr.cellsDrop (mid + 1)) (ybc _)).mono ?_
  rintro e w1 ⟨v', rfl, ho, hb⟩
  obtain ⟨A', c', rfl⟩ := yav ho
  exact ⟨A', c', rfl, ho, hb⟩
 have hg := hN.lt
 have hq : q < W.heap.size := (hN.r0.lt q rfl).2
 have c0 := hN.c0
 have c1 := hN.c1
 have hk := (hN.r0.cellAt (mid * 2) (by omega)).trans (ycc its mid hmn)
 have hv := (hN.r0.cellAt (mid * 2 + 1) (by omega)).trans (yci its mid hmn)
 have hx' : its[mid] = x := by rw [List.getElem?_eq_getElem hmn] at hx; exact Option.some.inj hx
 rw [hx'] at hk hv
 obtain ⟨xk, xv⟩ := x
 have HF := Lib.hid hfin
 have HN := Lib.hid hN
 have HS := Lib.hid h
 obtain ⟨n, hl⟩ : ∃ n, its.length = n := ⟨_, rfl⟩
 have HL := Lib.hid hl
 have HB : Hid (∀ x, W.heap.size ≤ x → x ∉ g :: blocks (.slice (some ⟨q, 0, none⟩) n c) (.slice B 0 d)) := fun x hle hx => by
  rcases List.mem_cons.1 hx with e | e
  ·omega
  ·have := (hN.ltb x e).1; omega
 rw [hl] at CD CC HN HF c0 hmid hlo hmn hq1 hn
 have hmi : (n : Int) / 2 = (mid : Int) := by omega
 have b1 : (mid : Int) < 1000 := by omega
 have b2 : (mid : Int) < (n : Int) := by omega
 have b3 : (mid : Int) + 1 ≤ (n : Int) := by omega
 have b4 : ¬ c = mid + 1 := by omega
 have b5 : IntKind.i64.wrap ((mid : Int) + 1) = (mid : Int) + 1 := by rw [IntKind.wrap_i64]; omega
 have b6 : (0 : Int) ≤ (mid : Int) + 1 := by omega
 have b7 : ((mid : Int) + 1).toNat = mid + 1 := by omega
 clear hN hfin hF h hm hmid hn hq1 hq2 hl hx hx' hlo
 unfold ptr at *
 go_enter Tryz.func202, Tryz.ntmps202
 go_wp2_with (go_at_call 199; ((with_reducible refine (CC.out _ (((Touch.refl _ _).alloc _).alloc _)).mono ?_); rintro e w1 ⟨A', c', rfl, ho, hb1⟩; have HO := Lib.hid ho; have HB1 := Lib.hid hb1; have HT1 : Hid (Touch [] W w1) := (((Touch.refl _ _).alloc _).alloc _).trans (Touch.ofBelow (F := []) hb1) (by simp); have hz1 : W.heap.size + 1 < w1.heap.size := Nat.lt_of_lt_of_le (by simp) hb1.size; have r0 := ((Box2.fresh W (.string ⟨#[]⟩) (.string ⟨#[]⟩) 96).touch ((Touch.refl [] _).alloc (.cells #[.string xk, .string xv] 96)) (by simp)).touch (Touch.ofBelow (F := []) hb1) (by simp); have r1 : Box2 w1 (W.heap.size + 1) _ _ := (Box2.freshAt (W.alloc (.cells #[.string ⟨#[]⟩, .string ⟨#[]⟩] 96)) (.string xk) (.string xv) 96 (by simp)).touch (Touch.ofBelow (F := []) hb1) (by simp); have rg := (HN.out.new (((Touch.refl _ _).alloc _).alloc _)).box.touch (Touch.ofBelow (F := []) hb1) (by simp); have HR0 := Lib.hid r0; have HR1 := Lib.hid r1; obtain ⟨g1, g2, g3, g4, g5⟩ := rg; clear ho hb1 r0 r1))
 go_region_with (go_at_call 221; ((with_reducible refine (CD.out _ (HN.out.new ((HT1.out.alloc _).drew))).mono ?_); rintro e w2 ⟨n1, rfl, hS2⟩; have sc := hS2.c; have sf := hS2.f; obtain ⟨sc1, sf1⟩ := hS2.other; obtain ⟨x1, x2, x3, x4, x5⟩ := hS2.box (HR0.out.touch ((Touch.refl [] _).alloc _).drew (by simp)) (HB.out _ (Nat.le_refl _)); obtain ⟨y1, y2, y3, y4, y5⟩ := hS2.box (HR1.out.touch ((Touch.refl [] _).alloc _).drew (by simp)) (HB.out _ (by omega)); have HS2 := Lib.hid hS2; clear hS2))
 all_goals
  go_wp2
  exact bodyPost_ret (v := .tuple #[.agg #[.string xk, .string xv], .pointer (some ⟨w1.heap.size, 0, none⟩)]) (by simp [results, Tryz.results202, go_sem, x2, x3]) rfl
   ⟨w1.heap.size, yvv HS.out HF.out HN.out (((Touch.refl _ _).alloc _).alloc _) HO.out (by rw [List.length_drop, HL.out]) HB1.out HS2.out HL.out (Nat.le_refl _) (by simp; omega) (((Touch.refl _ _).set (.inl (by simp)) _).set (.inl (by simp)) _)⟩
end Go.Proofs.YtnjodhglbapnlaaGreat
