/-
  The code's gate in memory (VG): its pointers by how old they are, each age a row of its own.
-/
import Derived.Test.YtompbhkmaalioaaGateBase
import Derived.Test.YtompbhkmaalioaaRecs
import Derived.Deep.MidRow
namespace Go.Proofs.Ytompbhkmaalioaa
open Go.RowKit

abbrev gE (p : GP) : Array Value := #[.int .u64 (p.f : Nat), .int .u64 (p.t : Nat), .int .i64 p.n]
theorem gE_size (p : GP) : (gE p).size = 3 := rfl
theorem gE_one (l : List GP) : ∀ u ∈ rowC gE l, u.oneCell' = true := rowC_all fun p _ => by simp [gE, Value.oneCell']
/-- a row of pointers of one age, with the slice that has it -/
abbrev GRow := Value × List GP
/-- the pointers of the rows, those of the first row d ticks old; the eldest first -/
def agesL : Nat → List GRow → List GP
  | _, [] => []
  | d, x :: R => agesL (d + 1) R ++ x.2.map fun p => ⟨p.f, p.t, p.n, d⟩
theorem agesL_cons (d : Nat) (x : GRow) (R : List GRow) : agesL d (x :: R) = agesL (d + 1) R ++ x.2.map fun p => ⟨p.f, p.t, p.n, d⟩ := rfl
theorem aged_young (l : List GP) (d : Nat) (h : d + 1 < 40) : agedL (l.map fun p => (⟨p.f, p.t, p.n, d⟩ : GP)) = l.map fun p => ⟨p.f, p.t, p.n, d + 1⟩ := by
  unfold agedL
  rw [List.map_map, List.filter_eq_self.2]
  · rfl
  · intro p hp
    obtain ⟨q, _, rfl⟩ := List.mem_map.1 hp
    simpa using h
theorem aged_old (l : List GP) (d : Nat) (h : 40 ≤ d + 1) : agedL (l.map fun p => (⟨p.f, p.t, p.n, d⟩ : GP)) = [] := by
  unfold agedL
  rw [List.map_map, List.filter_eq_nil_iff]
  intro p hp
  obtain ⟨q, _, rfl⟩ := List.mem_map.1 hp
  simp
  omega
theorem agesL_tick : ∀ (R : List GRow) (d : Nat), d + R.length = 40 → agedL (agesL d R) = agesL (d + 1) R.dropLast
  | [], _, _ => rfl
  | [x], d, h => by
    simp only [List.length_singleton] at h
    rw [agesL_cons, agedL_append, aged_old _ _ (by omega)]
    rfl
  | x :: y :: R, d, h => by
    simp only [List.length_cons] at h
    rw [agesL_cons, agedL_append, agesL_tick (y :: R) (d + 1) (by simp only [List.length_cons]; omega), aged_young _ _ (by omega), List.dropLast_cons_cons, agesL_cons]
theorem agesL_len : ∀ (R : List GRow) (d : Nat), (agesL d R).length = (R.map fun x => x.2.length).sum
  | [], _ => rfl
  | x :: R, d => by rw [agesL_cons, List.length_append, agesL_len R, List.length_map, List.map_cons, List.sum_cons, Nat.add_comm]
theorem overL_append (a b : List GP) (x : Nat) : overL (a ++ b) x = (overL b x).or (overL a x) := by
  unfold overL
  rw [List.reverse_append, List.find?_append]
  cases b.reverse.find? fun p => inB p.f p.t x <;> rfl
theorem overL_aged (l : List GP) (d x : Nat) : overL (l.map fun p => (⟨p.f, p.t, p.n, d⟩ : GP)) x = overL l x := by
  unfold overL
  rw [← List.map_reverse, List.find?_map]
  show ((l.reverse.find? fun p => inB p.f p.t x).map _).map _ = _
  cases l.reverse.find? fun p => inB p.f p.t x <;> rfl
theorem overL_ages (d : Nat) (y : GRow) (R : List GRow) (x : Nat) : overL (agesL d (y :: R)) x = (overL y.2 x).or (overL (agesL (d + 1) R) x) := by
  rw [agesL_cons, overL_append, overL_aged]

/-- the cells of a gate -/
abbrev gC (s : GS) (S : List GRow) : List Value := .bool s.shut :: .int .u64 (s.f : Nat) :: .int .u64 (s.t : Nat) :: S.map (·.1)
structure GM (w : World) (g : Nat) (s : GS) (x : GRow) (R : List GRow) : Prop where
  hl : R.length = 39
  l : s.l = agesL 0 (x :: R)
  few : s.l.length ≤ 1001
  hg : w.heap[g]? = some (.cells (gC s (x :: R)).toArray 31)
  rows : ∀ y ∈ x :: R, w.ownsRow 0 54 3 y.1 y.2.length (rowC gE y.2)
  own : ∀ q, x.1.ownBlock = some q → ∀ y ∈ R, y.1.ownBlock ≠ some q
  gn : ∀ y ∈ x :: R, y.1.ownBlock ≠ some g
  b : s.f < 18446744073709551616 ∧ s.t < 18446744073709551616 ∧ (s.shut = false → s.f = 0 ∧ s.t = 0)
  pts : ∀ y ∈ x :: R, ∀ p ∈ y.2, p.f < 18446744073709551616 ∧ p.t < 18446744073709551616
def gF (g : Nat) (S : List GRow) : List Nat := g :: S.flatMap fun y => y.1.ownBlock.toList
/-- the gate at block g -/
def VG (w : World) (g : Nat) (s : GS) (F : List Nat) : Prop := ∃ x R, GM w g s x R ∧ F = gF g (x :: R)
theorem gm_lt {w : World} {q : Nat} {o : Obj} (h : w.heap[q]? = some o) : q < w.heap.size := (Array.getElem?_eq_some_iff.1 h).1
theorem gm_cell {w : World} {b o : Nat} {cs : Array Value} {T : TypeId} {v : Value} (hb : w.heap[b]? = some (.cells cs T)) (hv : cs[o]? = some v) : w.cell? ⟨b, o, none⟩ = some v := by rw [Lib.cell_of_heap hb, hv]
theorem gm_set {w : World} {g : Nat} {cs : Array Value} {T : TypeId} (h : w.heap[g]? = some (.cells cs T)) (i : Nat) (u : Value) : (w.setCell ⟨g, i, none⟩ u).heap[g]? = some (.cells (cs.setIfInBounds i u) T) := by
  simp [World.setCell, Array.getElem?_modify, h]
section
variable {w w1 : World} {g : Nat} {s s1 : GS} {x : GRow} {R : List GRow}
theorem GM.lt (h : GM w g s x R) : g < w.heap.size := gm_lt h.hg
theorem GM.ltF (h : GM w g s x R) : ∀ q ∈ gF g (x :: R), q < w.heap.size := by
  intro q hq
  rcases List.mem_cons.1 hq with rfl | z
  · exact h.lt
  · obtain ⟨y, hy, hyq⟩ := List.mem_flatMap.1 z
    exact ((h.rows y hy).lt q (Option.mem_toList.1 hyq)).2
theorem mem_gF {S : List GRow} {q : Nat} : q ∈ gF g S ↔ q = g ∨ ∃ y ∈ S, y.1.ownBlock = some q := by
  unfold gF
  rw [List.mem_cons, List.mem_flatMap]
  constructor
  · rintro (h | ⟨y, h1, h2⟩)
    · exact .inl h
    · exact .inr ⟨y, h1, Option.mem_toList.1 h2⟩
  · rintro (h | ⟨y, h1, h2⟩)
    · exact .inl h
    · exact .inr ⟨y, h1, Option.mem_toList.2 h2⟩
theorem GM.touch {G : List Nat} (h : GM w g s x R) (t : Touch G w w1) (hn : ∀ q ∈ gF g (x :: R), q ∉ G) : GM w1 g s x R :=
  { h with
    hg := (t.block g h.lt (hn g (mem_gF.2 (.inl rfl)))).trans h.hg
    rows := fun y hy => t.row (h.rows y hy) fun q hq => hn q (mem_gF.2 (.inr ⟨y, hy, hq⟩)) }
theorem GM.below (h : GM w g s x R) (t : Below w.heap.size w w1) : GM w1 g s x R := h.touch (Touch.ofBelow (F := []) t) (by simp)
/-- only the gate's own cells were written -/
theorem GM.head (h : GM w g s x R) (t : Touch [g] w w1) (hg : w1.heap[g]? = some (.cells (gC s1 (x :: R)).toArray 31)) (hl : s1.l = s.l) (hb : s1.f < 18446744073709551616 ∧ s1.t < 18446744073709551616 ∧ (s1.shut = false → s1.f = 0 ∧ s1.t = 0)) : GM w1 g s1 x R :=
  { h with
    l := hl.trans h.l
    few := by rw [hl]; exact h.few
    hg := hg
    rows := fun y hy => t.row (h.rows y hy) fun q hq z => h.gn y hy (by rw [hq, List.mem_singleton.1 z])
    b := hb }
theorem GM.c0 (h : GM w g s x R) : w.cell? ⟨g, 0, none⟩ = some (.bool s.shut) := gm_cell h.hg rfl
theorem GM.c1 (h : GM w g s x R) : w.cell? ⟨g, 1, none⟩ = some (.int .u64 (s.f : Nat)) := gm_cell h.hg rfl
theorem GM.c2 (h : GM w g s x R) : w.cell? ⟨g, 2, none⟩ = some (.int .u64 (s.t : Nat)) := gm_cell h.hg rfl
theorem GM.c3 (h : GM w g s x R) : w.cell? ⟨g, 3, none⟩ = some x.1 := gm_cell h.hg rfl
theorem GM.free (h : GM w g s x R) (i : Nat) : w.frozen? ⟨g, i, none⟩ = false := by simp [World.frozen?, h.hg]
theorem GM.arcV (h : GM w g s x R) : s.arcV = .tuple #[.agg #[.int .u64 (s.f : Nat), .int .u64 (s.t : Nat)], .bool s.shut] := by
  unfold GS.arcV
  cases hs : s.shut
  · obtain ⟨h1, h2⟩ := h.b.2.2 hs
    rw [h1, h2]
    rfl
  · rfl
end
theorem vg_has {w : World} {g : Nat} {s : GS} {F : List Nat} (h : VG w g s F) : g ∈ F ∧ ∀ q ∈ F, q < w.heap.size := by
  obtain ⟨x, R, h, rfl⟩ := h
  exact ⟨mem_gF.2 (.inl rfl), h.ltF⟩
theorem vg_touch {w w' : World} {g : Nat} {s : GS} {F G : List Nat} (h : VG w g s F) (t : Touch G w w') (hn : ∀ q ∈ F, q ∉ G) : VG w' g s F := by
  obtain ⟨x, R, h, rfl⟩ := h
  exact ⟨x, R, h.touch t hn, rfl⟩
abbrev gNil : GRow := (.slice none 0 0, [])
theorem gZ_cells : GZ = (gC G0 (gNil :: List.replicate 39 gNil)).toArray := by rfl
theorem vg_zero (w : World) : VG (w.alloc (.cells GZ 31)) w.heap.size G0 [w.heap.size] := by
  have hm : ∀ y ∈ gNil :: List.replicate 39 gNil, y = gNil := fun y hy => by
    rcases List.mem_cons.1 hy with h | h
    · exact h
    · exact List.eq_of_mem_replicate h
  refine ⟨gNil, List.replicate 39 gNil, ⟨by simp, by rfl, by simp, ?_, ?_, ?_, ?_, ⟨by decide, by decide, fun _ => ⟨rfl, rfl⟩⟩, ?_⟩, by rfl⟩
  · rw [heap_alloc_new, gZ_cells]
  · intro y hy
    rw [hm y hy]
    exact World.ownsRow_nil _ _ _ _
  · intro q hq
    cases hq
  · intro y hy
    rw [hm y hy]
    exact fun h => by cases h
  · intro y hy p hp
    rw [hm y hy] at hp
    cases hp
end Go.Proofs.Ytompbhkmaalioaa
