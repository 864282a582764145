/-
  The walks of the book of lists: the marks.
  The book of lists: what its block holds; a list more (Items).
  The walks of the book of lists: stillItems, markedItems.
  The walks of the book of lists: putItems.
  The walks of the book of lists: growItems.
  The walks of the book of lists over a kind of which it keeps none.
  The walks of the book of lists: markedItems, and the whole of Apart where it keeps lists of items alone.
  The book of lists: Apart, where it keeps lists of items alone.
  The statements' own small functions: deep, key.
  What the walks of the statements ask of the code's own shelf (ShelfLaws: to be shown of the code that lands), and the first of them: alive.
  The walks of key.First and of the document's own answers Addr, Wide, First.
-/
import Derived.Test.YthgndgoljchnfaaGreatHg12
import Derived.Test.YthgndgoljchnfaaGreatHg04
import Derived.Test.YthgndgoljchnfaaGreatHg02
import Derived.Test.YthgndgoljchnfaaGreatHg03
import Derived.Deep.RegionLaw
import Derived.Deep.QuietTactic
import Derived.BigQuiet
import Derived.Deep.DeepCutAuto
import Derived.RegionTactic
import Derived.Deep.RegionHeld3
namespace Go.Proofs.YthgndgoljchnfaaGreat
open Go.RowKit

/-- the mark of list i, place k -/
def nameL (i k : Nat) : List UInt8 := [109, UInt8.ofNat (65 + i % 26), UInt8.ofNat (65 + i / 26 % 26), UInt8.ofNat (48 + k % 10), UInt8.ofNat (48 + k / 10 % 10), UInt8.ofNat (48 + k / 100 % 10)]
def markL (i from_ n : Nat) : List Item := (List.range' from_ n).map fun k => (txt (nameL i k), ByteArray.empty)
end Go.Proofs.YthgndgoljchnfaaGreat
namespace Go.Proofs.YthgndgoljchnfaaGreat
open Go.RowKit

def blk (v : Value) : List Nat := v.ownBlock.toList
theorem mem_blk {v : Value} {q : Nat} : q ∈ blk v ↔ v.ownBlock = some q := by simp [blk]
def rowOk (W : World) (x : Value × List Item) : Prop := ∃ A c, x.1 = .slice A x.2.length c ∧ Row W x.1 x.2
def fps (es : List (Value × List Item)) : List Nat := es.flatMap fun x => blk x.1
theorem mem_fps {es : List (Value × List Item)} {q : Nat} : q ∈ fps es ↔ ∃ x ∈ es, q ∈ blk x.1 := by simp [fps]
/-- the book at block g: the lists es that it keeps (their slices in a row at va), copies of them us (at vb); all other lists are none -/
structure BK (W : World) (g : Nat) (va vb : Value) (es us : List (Value × List Item)) : Prop where
  lt : g < W.heap.size
  none : ∀ j, j < 14 → j ≠ 6 → j ≠ 7 → W.cell? ⟨g, j, none⟩ = some (.slice none 0 0)
  c6 : W.cell? ⟨g, 6, .none⟩ = some va
  c7 : W.cell? ⟨g, 7, .none⟩ = some vb
  f6 : W.frozen? ⟨g, 6, .none⟩ = false
  f7 : W.frozen? ⟨g, 7, .none⟩ = false
  own6 : W.ownsRow 0 22 1 va es.length (es.map (·.1))
  own7 : W.ownsRow 0 22 1 vb us.length (us.map (·.1))
  rows : ∀ x ∈ es, rowOk W x
  copies : ∀ x ∈ us, rowOk W x
  same : us.map (·.2) = es.map (·.2)
  apart : (g :: (blk va ++ (blk vb ++ fps es))).Nodup
  beside : ∀ q ∈ fps us, q ≠ g ∧ q ∉ blk va ∧ q ∉ blk vb
/-- all blocks of the book -/
def BF (g : Nat) (va vb : Value) (es us : List (Value × List Item)) : List Nat := g :: (blk va ++ (blk vb ++ (fps es ++ fps us)))
theorem rowOk.touch {W W1 : World} {x : Value × List Item} {G : List Nat} (h : rowOk W x) (ht : Touch G W W1) (hn : ∀ q ∈ blk x.1, q ∉ G) : rowOk W1 x := by
  obtain ⟨A, c, e, hr⟩ := h
  exact ⟨A, c, e, ht.row hr (fun q hq => hn q (mem_blk.2 hq))⟩
theorem BK.touch {W W1 : World} {g : Nat} {va vb : Value} {es us : List (Value × List Item)} {G : List Nat} (h : BK W g va vb es us) (ht : Touch G W W1) (hn : ∀ q ∈ BF g va vb es us, q ∉ G) : BK W1 g va vb es us := by
  have hg : g ∉ G := hn g (by simp [BF])
  refine ⟨Nat.lt_of_lt_of_le h.lt ht.size, fun j a b c => (ht.cell (p := ⟨g, j, .none⟩) h.lt hg).trans (h.none j a b c), (ht.cell (p := ⟨g, 6, .none⟩) h.lt hg).trans h.c6, (ht.cell (p := ⟨g, 7, .none⟩) h.lt hg).trans h.c7,
    (ht.frozen (p := ⟨g, 6, .none⟩) h.lt hg).trans h.f6, (ht.frozen (p := ⟨g, 7, .none⟩) h.lt hg).trans h.f7,
    ht.row h.own6 (fun q hq => hn q (by simp [BF, mem_blk.2 hq])), ht.row h.own7 (fun q hq => hn q (by simp [BF, mem_blk.2 hq])),
    fun x hx => (h.rows x hx).touch ht (fun q hq => hn q (by simp only [BF, List.mem_cons, List.mem_append]; exact .inr (.inr (.inr (.inl (mem_fps.2 ⟨x, hx, hq⟩)))))),
    fun x hx => (h.copies x hx).touch ht (fun q hq => hn q (by simp only [BF, List.mem_cons, List.mem_append]; exact .inr (.inr (.inr (.inr (mem_fps.2 ⟨x, hx, hq⟩)))))), h.same, h.apart, h.beside⟩
theorem BK.ge {W : World} {g : Nat} {va vb : Value} {es us : List (Value × List Item)} (h : BK W g va vb es us) : g ∉ fps es := fun hq => (List.nodup_cons.1 h.apart).1 (by simp [hq])
theorem row_lt {W : World} {base e size n : Nat} {v : Value} {xs : List Value} (h : W.ownsRow base e size v n xs) {q : Nat} (hq : q ∈ blk v) : q < W.heap.size := (h.lt q (mem_blk.1 hq)).2
theorem rowOk.lt {W : World} {x : Value × List Item} (h : rowOk W x) {q : Nat} (hq : q ∈ blk x.1) : q < W.heap.size := by
  obtain ⟨A, c, e, hr⟩ := h
  exact row_lt hr hq
theorem BK.ltF {W : World} {g : Nat} {va vb : Value} {es us : List (Value × List Item)} (h : BK W g va vb es us) : ∀ q ∈ BF g va vb es us, q < W.heap.size := by
  intro q hq
  simp only [BF, List.mem_cons, List.mem_append] at hq
  rcases hq with rfl | hq | hq | hq | hq
  · exact h.lt
  · exact row_lt h.own6 hq
  · exact row_lt h.own7 hq
  · obtain ⟨x, hx, hq⟩ := mem_fps.1 hq; exact (h.rows x hx).lt hq
  · obtain ⟨x, hx, hq⟩ := mem_fps.1 hq; exact (h.copies x hx).lt hq
end Go.Proofs.YthgndgoljchnfaaGreat
namespace Go.Proofs.YthgndgoljchnfaaGreat
open Go.RowKit

theorem same_at {es us : List (Value × List Item)} (h : us.map (·.2) = es.map (·.2)) (i : Nat) (h1 : i < es.length) (h2 : i < us.length) : (us[i]).2 = (es[i]).2 := by
  have := congrArg (fun l => l[i]?) h
  simp only [List.getElem?_map, List.getElem?_eq_getElem h1, List.getElem?_eq_getElem h2, Option.map_some, Option.some.injEq] at this
  exact this
end Go.Proofs.YthgndgoljchnfaaGreat
namespace Go.Proofs.YthgndgoljchnfaaGreat
open Go.RowKit

/-- the lists that the book at block g keeps, without the copies -/
structure BL (W : World) (g : Nat) (va : Value) (es : List (Value × List Item)) : Prop where
  lt : g < W.heap.size
  none : ∀ j, j < 14 → j ≠ 6 → j ≠ 7 → W.cell? ⟨g, j, .none⟩ = some (.slice .none 0 0)
  c6 : W.cell? ⟨g, 6, .none⟩ = some va
  own6 : W.ownsRow 0 22 1 va es.length (es.map (·.1))
  rows : ∀ x ∈ es, rowOk W x
  apart : (g :: (blk va ++ fps es)).Nodup
theorem BL.ge {W : World} {g : Nat} {va : Value} {es : List (Value × List Item)} (h : BL W g va es) : g ∉ fps es := fun hq => (List.nodup_cons.1 h.apart).1 (by simp [hq])
theorem BL.ae {W : World} {g : Nat} {va : Value} {es : List (Value × List Item)} (h : BL W g va es) : ∀ q, q ∈ blk va → q ∉ fps es := fun q hq hb => (List.nodup_append.1 (List.nodup_cons.1 h.apart).2).2.2 q hq q hb rfl
/-- the same slices, whatever is in them -/
theorem fps_congr {es fs : List (Value × List Item)} (h : fs.map (·.1) = es.map (·.1)) : fps fs = fps es := by
  have e : ∀ l : List (Value × List Item), fps l = (l.map (·.1)).flatMap blk := fun l => by simp [fps, List.flatMap_map]
  rw [e, e, h]
theorem fps_at {es : List (Value × List Item)} {i : Nat} (h : i < es.length) {q : Nat} (hq : q ∈ blk (es[i]).1) : q ∈ fps es := mem_fps.2 ⟨_, List.getElem_mem h, hq⟩
/-- two lists of the book lie apart -/
theorem fps_apart : ∀ {es : List (Value × List Item)} (_ : (fps es).Nodup) {i j : Nat} (hi : i < es.length) (hj : j < es.length) (_ : i ≠ j) {q : Nat}, q ∈ blk (es[i]).1 → q ∉ blk (es[j]).1
  | x :: es, hd, 0, 0, _, _, hne, _, _ => absurd rfl hne
  | x :: es, hd, 0, j + 1, _, hj, _, q, hq => fun h => by
    have := (List.nodup_append.1 (show (blk x.1 ++ fps es).Nodup from hd)).2.2 q hq q (fps_at (es := es) (by simpa using hj) h) rfl
    exact this
  | x :: es, hd, i + 1, 0, hi, _, _, q, hq => fun h => by
    have := (List.nodup_append.1 (show (blk x.1 ++ fps es).Nodup from hd)).2.2 q h q (fps_at (es := es) (by simpa using hi) hq) rfl
    exact this
  | x :: es, hd, i + 1, j + 1, hi, hj, hne, q, hq => fps_apart (es := es) (List.nodup_append.1 (show (blk x.1 ++ fps es).Nodup from hd)).2.1 (by simpa using hi) (by simpa using hj) (by omega) hq
/-- list i has turned, nothing else -/
theorem BL.turn {W W1 : World} {g : Nat} {va : Value} {es : List (Value × List Item)} {i : Nat} (h : BL W g va es) (hi : i < es.length) (ht : Touch (blk (es[i]).1) W W1) {l : List Item} (hr : rowOk W1 ((es[i]).1, l)) :
    BL W1 g va (es.set i ((es[i]).1, l)) := by
  have hm : (es.set i ((es[i]).1, l)).map (·.1) = es.map (·.1) := by
    rw [List.map_set]
    apply List.ext_getElem?
    intro j
    rw [List.getElem?_set]
    split
    · rename_i e; subst e; simp [hi]
    · rfl
  have hn : ∀ q ∈ blk (es[i]).1, q ∈ fps es := fun q hq => fps_at hi hq
  have hg : g ∉ blk (es[i]).1 := fun hq => h.ge (hn g hq)
  refine ⟨Nat.lt_of_lt_of_le h.lt ht.size, fun j a b c => (ht.cell (p := ⟨g, j, .none⟩) h.lt hg).trans (h.none j a b c), (ht.cell (p := ⟨g, 6, .none⟩) h.lt hg).trans h.c6, ?_, ?_, by rw [fps_congr hm]; exact h.apart⟩
  · rw [hm, List.length_set]
    exact ht.row h.own6 (fun q hq hb => h.ae q (mem_blk.2 hq) (hn q hb))
  · intro x hx
    obtain ⟨j, hj, e⟩ := List.getElem_of_mem hx
    rw [List.getElem_set] at e
    split at e
    · rw [← e]; exact hr
    · rename_i hne
      have hj' : j < es.length := by simpa using hj
      rw [← e]
      refine (h.rows _ (List.getElem_mem hj')).touch ht (fun q hq hb => ?_)
      exact fps_apart (List.nodup_append.1 (List.nodup_cons.1 h.apart).2).2.1 hj' hi (by omega) hq hb
end Go.Proofs.YthgndgoljchnfaaGreat
namespace Go.Proofs.YthgndgoljchnfaaGreat
open Go.RowKit

/-- a slice stays as it was, where a longer one over the same block does -/
theorem own_share {W1 W2 : World} {b b' e s n N q c c' : Nat} {xs XS : List Value} (hv : W1.ownsRow b e s (.slice (some ⟨q, 0, none⟩) n c) n xs) (hl : W1.ownsRow b' e s (.slice (some ⟨q, 0, none⟩) N c') N XS) (hn : n ≤ N)
    (h2 : W2.ownsRow b' e s (.slice (some ⟨q, 0, none⟩) N c') N XS) : W2.ownsRow b e s (.slice (some ⟨q, 0, none⟩) n c) n xs := by
  rcases hv.2 with ⟨h0, _⟩ | ⟨g1, cap1, cur1, a1, b1, c1, d1, e1, f1, t1⟩
  · cases h0
  rcases hl.2 with ⟨h0, _⟩ | ⟨g2, cap2, cur2, a2, b2, c2, d2, e2, f2, t2⟩
  · cases h0
  rcases h2.2 with ⟨h0, _⟩ | ⟨g3, cap3, cur3, a3, b3, c3, d3, e3, f3, t3⟩
  · cases h0
  injection a1 with k1 _ k2
  injection k1 with k1
  injection k1 with k1
  injection a2 with k3 _ k4
  injection k3 with k3
  injection k3 with k3
  injection a3 with k5 _ k6
  injection k5 with k5
  injection k5 with k5
  subst k1 k2 k3 k4 k5 k6
  rw [c1] at c2
  injection c2 with c2
  injection c2 with c2
  subst c2
  refine ⟨hv.1, .inr ⟨q, c, cur3, rfl, b1, c3, d1, e1, by rw [f3, ← f2, f1], ?_⟩⟩
  have hle : n * s ≤ N * s := Nat.mul_le_mul_right _ hn
  have h4 : (List.take (N * s) cur3.toList).take (n * s) = (List.take (N * s) cur1.toList).take (n * s) := by rw [t3, t2]
  rw [List.take_take, List.take_take, Nat.min_eq_left hle] at h4
  rw [h4, t1]
/-- what an append onto l leaves of a slice v that lies in l's block, or elsewhere -/
theorem own_beside {W1 W2 : World} {n N c : Nat} {A : Option Addr} {l : Value} {xs XS : List Value} (hv : W1.ownsRow 0 31 2 (.slice A n c) n xs) (hl : W1.ownsRow 0 31 2 l N XS) (hn : n ≤ N)
    (hg : W1.grownBy W2 l.ownBlock) (h2 : W2.ownsRow 0 31 2 l N XS) : W2.ownsRow 0 31 2 (.slice A n c) n xs := by
  rcases A with _ | ad
  · rcases hv.2 with ⟨h0, h1⟩ | ⟨g1, cap1, cur1, a1, _⟩
    · rw [h0]
      have : xs = [] := List.eq_nil_of_length_eq_zero (by rw [hv.1, h1])
      subst this
      rw [h1]
      exact World.ownsRow_nil _ _ _ _
    · cases a1
  · by_cases h : l.ownBlock = some ad.block
    · obtain ⟨B, d, rfl⟩ := own_slice hl
      rcases B with _ | bd
      · cases h
      rcases hv.2 with ⟨h0, _⟩ | ⟨g1, cap1, cur1, a1, _⟩
      · cases h0
      rcases hl.2 with ⟨h0, _⟩ | ⟨g2, cap2, cur2, a2, _⟩
      · cases h0
      injection a1 with k1 _ k2
      injection k1 with k1
      subst k1 k2
      injection a2 with k3 _ k4
      injection k3 with k3
      subst k3 k4
      have hq : g2 = g1 := Option.some.inj h
      subst hq
      exact own_share hv hl hn h2
    · exact hv.kept hg (.inr (fun e => h e.symm))

theorem markL_append (i N m : Nat) : markL i 0 N ++ markL i N m = markL i 0 (N + m) := by
  simp only [markL, ← List.map_append]
  congr 1
  have h := List.range'_append_1 (s := 0) (m := N) (n := m)
  simpa using h
/-- a list that is being grown: the slice v of the book stays, l is the longer one -/
structure GR (wo wx : World) (i : Nat) (v : Value) (n0 : Nat) (l : Value) (N : Nat) : Prop where
  le : n0 ≤ N
  old : wx.ownsRow 0 31 2 v n0 (itemCells (markL i 0 n0))
  row : wx.ownsRow 0 31 2 l N (itemCells (markL i 0 N))
  at_ : ∀ q ∈ blk l, q ∈ blk v ∨ wo.heap.size ≤ q
  touch : Touch (blk v) wo wx
theorem GR.start {wo : World} {i n0 : Nat} {v : Value} (h : wo.ownsRow 0 31 2 v n0 (itemCells (markL i 0 n0))) : GR wo wo i v n0 v n0 := ⟨Nat.le_refl _, h, h, fun _ hq => .inl hq, Touch.refl _ _⟩
theorem GR.below {wo wx w1 : World} {i n0 N : Nat} {v l : Value} (h : GR wo wx i v n0 l N) (hb : Below wx.heap.size wx w1) : GR wo w1 i v n0 l N :=
  ⟨h.le, own_step h.old hb, own_step h.row hb, h.at_, h.touch.trans (Touch.ofBelow (F := []) hb) (by simp)⟩
theorem GR.grown {wo w1 w2 : World} {i n0 N m : Nat} {v l l' : Value} (h : GR wo w1 i v n0 l N) (ho : w2.ownsRow 0 31 2 l' (N + m) (itemCells (markL i 0 N) ++ itemCells (markL i N m))) (hg : w1.grownBy w2 l.ownBlock)
    (hold : w2.ownsRow 0 31 2 l N (itemCells (markL i 0 N))) (hs : SameOrNew w1 l l') : GR wo w2 i v n0 l' (N + m) := by
  obtain ⟨A, c, rfl⟩ := own_slice h.old
  refine ⟨by have := h.le; omega, own_beside h.old h.row h.le hg hold, by rw [← itemCells_append, markL_append] at ho; exact ho, (fun q hq => ?_), h.touch.grown hg (fun k hk => h.at_ k (mem_blk.2 hk))⟩
  rcases hs q (mem_blk.1 hq) with h1 | h1
  · exact h.at_ q (mem_blk.2 h1)
  · exact .inr (Nat.le_trans h.touch.size h1)
theorem BL.touch {W W1 : World} {g : Nat} {va : Value} {es : List (Value × List Item)} {G : List Nat} (h : BL W g va es) (ht : Touch G W W1) (hn : ∀ q, q < W.heap.size → q ∈ g :: (blk va ++ fps es) → q ∉ G) : BL W1 g va es := by
  have hg : g ∉ G := hn g h.lt (by simp)
  refine ⟨Nat.lt_of_lt_of_le h.lt ht.size, fun j a b c => (ht.cell (p := ⟨g, j, .none⟩) h.lt hg).trans (h.none j a b c), (ht.cell (p := ⟨g, 6, .none⟩) h.lt hg).trans h.c6,
    ht.row h.own6 (fun q hq => hn q (h.own6.lt q hq).2 (by simp [mem_blk.2 hq])), fun x hx => (h.rows x hx).touch ht (fun q hq => hn q ((h.rows x hx).lt hq) (by
      simp only [List.mem_cons, List.mem_append]
      exact .inr (.inr (mem_fps.2 ⟨x, hx, hq⟩)))), h.apart⟩
theorem BL.ltF {W : World} {g : Nat} {va : Value} {es : List (Value × List Item)} (h : BL W g va es) : ∀ q ∈ g :: (blk va ++ fps es), q < W.heap.size := by
  intro q hq
  simp only [List.mem_cons, List.mem_append] at hq
  rcases hq with rfl | hq | hq
  · exact h.lt
  · exact row_lt h.own6 hq
  · obtain ⟨x, hx, hq⟩ := mem_fps.1 hq; exact (h.rows x hx).lt hq
end Go.Proofs.YthgndgoljchnfaaGreat
namespace Go.Proofs.YthgndgoljchnfaaGreat
open Go.RowKit





























end Go.Proofs.YthgndgoljchnfaaGreat
namespace Go.Proofs.YthgndgoljchnfaaGreat
open Go.RowKit

theorem below_drewN {B : Nat} {a b : World} (h : Below B a b) (n : Nat) : Below B a (b.drewN n) := ⟨h.os, h.tape, h.output, h.size, h.block⟩
end Go.Proofs.YthgndgoljchnfaaGreat
namespace Go.Proofs.YthgndgoljchnfaaGreat
open Go.RowKit

def NN (g : Nat) (W : World) : Prop := ∀ j, j < 14 → j ≠ 6 → j ≠ 7 → W.cell? ⟨g, j, .none⟩ = some (.slice .none 0 0)
theorem NN.at_ {g : Nat} {W : World} (h : NN g W) (j : Nat) (a : j < 14) (b : j ≠ 6) (c : j ≠ 7) : W.cell? ⟨g, j, .none⟩ = some (.slice .none 0 0) := h j a b c
theorem NN.touch {g : Nat} {W W1 : World} {G : List Nat} (h : NN g W) (hl : g < W.heap.size) (ht : Touch G W W1) (hg : g ∉ G) : NN g W1 := fun j a b c => (ht.cell (p := ⟨g, j, .none⟩) hl hg).trans (h j a b c)
end Go.Proofs.YthgndgoljchnfaaGreat
namespace Go.Proofs.YthgndgoljchnfaaGreat
open Go.RowKit

/-- how often a number can be divided by 4 till it is below 4 -/
def log4 (n : Nat) : Nat := if h : n < 4 then 0 else log4 (n / 4) + 1
termination_by n
decreasing_by omega
theorem log4_small {n : Nat} (h : n < 4) : log4 n = 0 := by rw [log4, dif_pos h]
theorem log4_step {n : Nat} (h : 4 ≤ n) : log4 n = log4 (n / 4) + 1 := by rw [log4, dif_neg (by omega)]
theorem log4_le : ∀ (j n : Nat), 4 ^ j ≤ n → j ≤ log4 n
  | 0, n, _ => Nat.zero_le _
  | j + 1, n, h => by
    have h1 : 4 ^ j * 4 ≤ n := by rw [← Nat.pow_succ]; exact h
    have h2 : 1 ≤ 4 ^ j := Nat.pow_pos (by omega)
    rw [log4_step (by omega)]
    have := log4_le j (n / 4) (by omega)
    omega
theorem log4_lt (n : Nat) : log4 n ≤ n := by
  induction n using Nat.strongRecOn with
  | ind n ih =>
    by_cases h : n < 4
    · rw [log4_small h]; omega
    · rw [log4_step (by omega)]
      have := ih (n / 4) (by omega)
      omega
def deepN (n : Nat) : Nat := if n = 0 then 0 else log4 n + 1
theorem deepN_le {d n : Nat} (h : 4 ^ d ≤ n) : d + 1 ≤ deepN n := by
  have h2 : 1 ≤ 4 ^ d := Nat.pow_pos (by omega)
  rw [deepN, if_neg (by omega)]
  have := log4_le d n h
  omega

end Go.Proofs.YthgndgoljchnfaaGreat
namespace Go.Proofs.YthgndgoljchnfaaGreat
open Go.RowKit

def getN (l : List Item) (k : ByteArray) : ByteArray := match l[placeN l k]? with
  | some x => if x.1.toList == k.toList then x.2 else ByteArray.empty
  | none => ByteArray.empty
/-- SH W g most l F: in W the pointer to block g is a shelf for so many items, l is in it; F: all its blocks, g among them -/
structure ShelfLaws (SH : World → Nat → Int → List Item → List Nat → Prop) : Prop where
  touch : ∀ {W W1 : World} {g : Nat} {most : Int} {l : List Item} {F G : List Nat}, SH W g most l F → Touch G W W1 → (∀ q ∈ F, q ∉ G) → SH W1 g most l F
  ltF : ∀ {W : World} {g : Nat} {most : Int} {l : List Item} {F : List Nat}, SH W g most l F → ∀ q ∈ F, q < W.heap.size
  rising : ∀ {W : World} {g : Nat} {most : Int} {l : List Item} {F : List Nat}, SH W g most l F → Rising l
  new : ∀ (W : World) (most : Int), -9223372036854775808 ≤ most → most ≤ 9223372036854775807 → Calls Tryz.prog 32 #[.int .i64 most] W fun e w' =>
    ∃ g F, e = .returned (.pointer (some ⟨g, 0, none⟩)) ∧ SH w' g (min (max most 0) 200) [] F ∧ (∀ q ∈ F, W.heap.size ≤ q) ∧ Below W.heap.size W w'
  put : ∀ {W : World} {g : Nat} {most : Int} {l : List Item} {F : List Nat} (k v : ByteArray), SH W g most l F → k.size ≤ maxLen → v.size ≤ maxLen →
    Calls Tryz.prog 75 #[.pointer (some ⟨g, 0, none⟩), .string k, .string v] W fun e w' =>
      e = .returned (.int .i64 (putE most l k v)) ∧ ∃ F', SH w' g most (putS most l k v) F' ∧ Touch F W w' ∧ ∀ q ∈ F', q ∈ F ∨ W.heap.size ≤ q
  del : ∀ {W : World} {g : Nat} {most : Int} {l : List Item} {F : List Nat} (k : ByteArray), SH W g most l F →
    Calls Tryz.prog 76 #[.pointer (some ⟨g, 0, none⟩), .string k] W fun e w' =>
      e = .returned (.bool (hasN l k)) ∧ ∃ F', SH w' g most (delN l k) F' ∧ Touch F W w' ∧ ∀ q ∈ F', q ∈ F ∨ W.heap.size ≤ q
  get : ∀ {W : World} {g : Nat} {most : Int} {l : List Item} {F : List Nat} (k : ByteArray), SH W g most l F →
    Calls Tryz.prog 73 #[.pointer (some ⟨g, 0, none⟩), .string k] W fun e w' => e = .returned (.tuple #[.string (getN l k), .bool (hasN l k)]) ∧ Below W.heap.size W w'
  len : ∀ {W : World} {g : Nat} {most : Int} {l : List Item} {F : List Nat}, SH W g most l F →
    Calls Tryz.prog 50 #[.pointer (some ⟨g, 0, none⟩)] W fun e w' => e = .returned (.int .i64 (l.length : Nat)) ∧ Below W.heap.size W w'
  items : ∀ {W : World} {g : Nat} {most : Int} {l : List Item} {F : List Nat}, SH W g most l F →
    Calls Tryz.prog 45 #[.pointer (some ⟨g, 0, none⟩)] W (NewItems W l)
  copy : ∀ {W : World} {g : Nat} {most : Int} {l : List Item} {F : List Nat}, SH W g most l F →
    Calls Tryz.prog 84 #[.pointer (some ⟨g, 0, none⟩)] W fun e w' =>
      ∃ g' F', e = .returned (.pointer (some ⟨g', 0, none⟩)) ∧ SH w' g' most l F' ∧ (∀ q ∈ F', W.heap.size ≤ q) ∧ Below W.heap.size W w'
/-- a shelf of the call's own: all its blocks are new since W -/
def OS (SH : World → Nat → Int → List Item → List Nat → Prop) (W w : World) (g : Nat) (most : Int) (l : List Item) : Prop :=
  Below W.heap.size W w ∧ ∃ F, SH w g most l F ∧ ∀ q ∈ F, W.heap.size ≤ q
theorem OS.below {SH : World → Nat → Int → List Item → List Nat → Prop} (L : ShelfLaws SH) {W w w1 : World} {g : Nat} {most : Int} {l : List Item} (h : OS SH W w g most l) (hb : Below w.heap.size w w1) : OS SH W w1 g most l := by
  obtain ⟨h1, F, h2, h3⟩ := h
  exact ⟨acc h1 hb, F, L.touch h2 (Touch.ofBelow (F := []) hb) (by simp), h3⟩
theorem OS.put {SH : World → Nat → Int → List Item → List Nat → Prop} (L : ShelfLaws SH) {W w : World} {g : Nat} {most : Int} {l : List Item} (h : OS SH W w g most l) (k v : ByteArray) (hk : k.size ≤ maxLen) (hv : v.size ≤ maxLen) {r : Int} {l' : List Item} (hr : putE most l k v = r) (hl : putS most l k v = l') :
    Calls Tryz.prog 75 #[.pointer (some ⟨g, 0, none⟩), .string k, .string v] w fun e w' => e = .returned (.int .i64 r) ∧ OS SH W w' g most l' := by
  obtain ⟨h1, F, h2, h3⟩ := h
  refine (L.put k v h2 hk hv).mono ?_
  rintro e w' ⟨rfl, F', h4, h5, h6⟩
  rw [hl] at h4
  refine ⟨by rw [hr], Touch.acc h1 h5 h3, F', h4, fun q hq => ?_⟩
  rcases h6 q hq with z | z
  · exact h3 q z
  · exact Nat.le_trans h1.size z
theorem OS.del {SH : World → Nat → Int → List Item → List Nat → Prop} (L : ShelfLaws SH) {W w : World} {g : Nat} {most : Int} {l : List Item} (h : OS SH W w g most l) (k : ByteArray) :
    Calls Tryz.prog 76 #[.pointer (some ⟨g, 0, none⟩), .string k] w fun e w' => e = .returned (.bool (hasN l k)) ∧ OS SH W w' g most (delN l k) := by
  obtain ⟨h1, F, h2, h3⟩ := h
  refine (L.del k h2).mono ?_
  rintro e w' ⟨rfl, F', h4, h5, h6⟩
  refine ⟨rfl, Touch.acc h1 h5 h3, F', h4, fun q hq => ?_⟩
  rcases h6 q hq with z | z
  · exact h3 q z
  · exact Nat.le_trans h1.size z
theorem OS.new {SH : World → Nat → Int → List Item → List Nat → Prop} (L : ShelfLaws SH) {W w : World} (h : Below W.heap.size W w) (most : Int) (h0 : -9223372036854775808 ≤ most) (h1 : most ≤ 9223372036854775807) :
    Calls Tryz.prog 32 #[.int .i64 most] w fun e w' => ∃ g, e = .returned (.pointer (some ⟨g, 0, none⟩)) ∧ OS SH W w' g (min (max most 0) 200) [] := by
  refine (L.new w most h0 h1).mono ?_
  rintro e w' ⟨g, F, rfl, h4, h5, h6⟩
  exact ⟨g, rfl, acc h h6, F, h4, fun q hq => Nat.le_trans h.size (h5 q hq)⟩
theorem OS.len {SH : World → Nat → Int → List Item → List Nat → Prop} (L : ShelfLaws SH) {W w : World} {g : Nat} {most : Int} {l : List Item} (h : OS SH W w g most l) :
    Calls Tryz.prog 50 #[.pointer (some ⟨g, 0, none⟩)] w fun e w' => e = .returned (.int .i64 (l.length : Nat)) ∧ OS SH W w' g most l := by
  have h0 := h
  obtain ⟨h1, F, h2, h3⟩ := h
  refine (L.len h2).mono ?_
  rintro e w' ⟨rfl, hb⟩
  exact ⟨rfl, h0.below L hb⟩
theorem OS.items {SH : World → Nat → Int → List Item → List Nat → Prop} (L : ShelfLaws SH) {W w : World} {g : Nat} {most : Int} {l : List Item} (h : OS SH W w g most l) :
    Calls Tryz.prog 45 #[.pointer (some ⟨g, 0, none⟩)] w fun e w' => ∃ A c, e = .returned (.slice A l.length c) ∧ w'.ownsRow w.heap.size 31 2 (.slice A l.length c) l.length (itemCells l) ∧ OS SH W w' g most l := by
  have h0 := h
  obtain ⟨h1, F, h2, h3⟩ := h
  refine (L.items h2).mono ?_
  rintro e w' ⟨A, c, rfl, a, hb⟩
  exact ⟨A, c, rfl, a, h0.below L hb⟩

abbrev t1 : ByteArray := ⟨#[49]⟩
abbrev t2 : ByteArray := ⟨#[50]⟩
end Go.Proofs.YthgndgoljchnfaaGreat
namespace Go.Proofs.YthgndgoljchnfaaGreat
open Go.RowKit


/-- one byte more comes up -/
theorem first_step {x k v : Nat} {out : List UInt8} (h8 : k ≤ 8) (hne : v ≠ 0) (h : v = x * 256 ^ k % 256 ^ 8 ∧ out ++ stripN (wideN (8 - k) x) = firstN x) :
    k < 8 ∧ v * 256 % 256 ^ 8 = x * 256 ^ (k + 1) % 256 ^ 8 ∧ (out ++ [UInt8.ofNat (v / 256 ^ 7)]) ++ stripN (wideN (8 - (k + 1)) x) = firstN x := by
  obtain ⟨hv, ho⟩ := h
  have hk : k < 8 := by
    rcases Nat.lt_or_ge k 8 with h | h
    · exact h
    · obtain rfl : k = 8 := by omega
      rw [Nat.mul_mod_left] at hv
      exact absurd hv hne
  obtain ⟨m, hm⟩ : ∃ m, k + m = 7 := ⟨7 - k, by omega⟩
  have e1 : 8 - k = m + 1 := by omega
  have e2 : 8 - (k + 1) = m := by omega
  have e3 : (256 : Nat) ^ 8 = 256 ^ (m + 1) * 256 ^ k := by rw [← Nat.pow_add]; congr 1; omega
  have e4 : (256 : Nat) ^ 7 = 256 ^ m * 256 ^ k := by rw [← Nat.pow_add]; congr 1; omega
  have hp : 0 < (256 : Nat) ^ k := Nat.pow_pos (by omega)
  have hv' : v = x % 256 ^ (m + 1) * 256 ^ k := by rw [hv, e3, Nat.mul_mod_mul_right]
  refine ⟨hk, ?_, ?_⟩
  · rw [hv, Nat.mod_mul_mod, Nat.mul_assoc, ← Nat.pow_succ]
  · rw [e1, stripN_wide_pos m x (fun e => hne (by rw [hv', e, Nat.zero_mul]))] at ho
    rw [e2, ← ho, List.append_assoc]
    congr 2
    have e5 : v / 256 ^ 7 = x / 256 ^ m % 256 := by
      rw [hv', e4, Nat.mul_div_mul_right _ _ hp, Nat.pow_succ, Nat.mod_mul_right_div_self]
    rw [e5]
    show UInt8.ofNat (x / 256 ^ m % 256) :: _ = _
    congr 1
    apply UInt8.toNat_inj.1
    simp
theorem first_none {x k : Nat} {out : List UInt8} (h8 : k ≤ 8) (h : 0 = x * 256 ^ k % 256 ^ 8 ∧ out ++ stripN (wideN (8 - k) x) = firstN x) : out = firstN x := by
  obtain ⟨hv, ho⟩ := h
  obtain ⟨m, hm⟩ : ∃ m, m + k = 8 := ⟨8 - k, by omega⟩
  have e1 : 8 - k = m := by omega
  have e3 : (256 : Nat) ^ 8 = 256 ^ m * 256 ^ k := by rw [← Nat.pow_add]; congr 1; omega
  have hp : 0 < (256 : Nat) ^ k := Nat.pow_pos (by omega)
  rw [e3, Nat.mul_mod_mul_right] at hv
  have h0 : x % 256 ^ m = 0 := by
    rcases Nat.mul_eq_zero.1 hv.symm with h | h
    · exact h
    · omega
  rw [e1, stripN_wide_zero m x h0, List.append_nil] at ho
  exact ho
theorem cell_of_nat {v : Nat} (h : v < 256) : Value.int .u8 (v : Int) = cell8 (UInt8.ofNat v) := by
  unfold cell8
  rw [show (UInt8.ofNat v).toNat = v by simp; omega]

set_option maxHeartbeats 400000 in
theorem first_any (x : Nat) (w : World) (hx : x < 18446744073709551616) :
    Calls Tryz.prog 77 #[.int .u64 x] w fun e w' => e = .returned (.string (txt (firstN x))) ∧ Below w.heap.size w w' := by
  obtain ⟨i0, hi, hz0, hz1, hz2⟩ := infoByte
  go_enter Tryz.func77, Tryz.ntmps77
  go_wp2
  go_loopg [0, 3] 9 (fun g s0 s3 wx => ∃ (k v : Nat) (out : List UInt8), k + g = 9 ∧ k ≤ 8 ∧ s0 = .int .u64 (v : Nat) ∧ Hid (v = x * 256 ^ k % 256 ^ 8 ∧ out ++ stripN (wideN (8 - k) x) = firstN x) ∧ Hid (out.length = k) ∧ wx.ownsRow w.heap.size 5 1 s3 k (out.map cell8) ∧ Below w.heap.size w wx)
  case atStart => exact ⟨0, x, [], by omega, by omega, rfl, ⟨by rw [Nat.pow_zero, Nat.mul_one, Nat.mod_eq_of_lt hx], rfl⟩, rfl, World.ownsRow_nil _ _ _ _, Below.refl _ _⟩
  case round =>
    obtain ⟨k, v, out, hkg, h8, rfl, HI, HL, hown, hbel⟩ := hrel
    have hv : v < 18446744073709551616 := by have := HI.out.1; omega
    by_cases h0 : v = 0
    · subst h0
      have ho := first_none h8 HI.out
      subst ho
      obtain ⟨A, c, rfl⟩ := own_slice hown
      have hstr := run_own_string (P := Tryz.prog) 41 9 hown Tryz.underlying41 Tryz.underlying5 Tryz.underlying9
      have HB := Lib.hid hbel
      clear hbel hown
      go_wp2
      go_ret
      exact ⟨rfl, HB.out⟩
    · have b0 : ((v : Int) != 0) = true := by rw [bne_iff_ne]; omega
      obtain ⟨hk, hv2, hout⟩ := first_step h8 h0 HI.out
      have HV := Lib.hid hv2
      have HO := Lib.hid hout
      have HK := Lib.hid hk
      clear h0 hv2 hout hk
      go_wp2_with (at_builtin; go_must (refine wpList_append_own _ rfl _ _ 41 rfl w.heap.size 5 i0 (.int .u8 0) 1 1 Tryz.underlying41 hi hz0 hz1 hz2 rfl (by decide) _ _ _ rfl (hown.alloc _) ⟨wr.heap.size, 0, none⟩ 1 1 [.int .u8 ((v : Int) / 72057594037927936)] rfl rfl (cell_one_new _ _ _) (fun x hx => by simp at hx; subst hx; rfl) (by unfold maxLen; omega) (by omega) (by have := hbel.size; simp; omega) ?_); intro v' w1 hown' hgrow hnil)
      go_roundg (gk - 1)
      case measure => omega
      case rel =>
        have hlt : v / 72057594037927936 < 256 := by omega
        refine ⟨k + 1, v * 256 % 256 ^ 8, out ++ [UInt8.ofNat (v / 256 ^ 7)], by have := HK.out; omega, HK.out, ?_, ⟨HV.out, HO.out⟩, by show _ = _; rw [List.length_append, HL.out]; rfl, ?_, (own_below (hown.alloc _) (hbel.alloc hbel.size _) (by have := hbel.size; simp; omega) hgrow)⟩
        · rw [IntKind.wrap_u64]; congr 1
        · rw [List.map_append, List.map_singleton, ← cell_of_nat (v := v / 256 ^ 7) hlt]; exact hown'

set_option maxHeartbeats 400000 in
theorem refAddr_any (s : ByteArray) (w : World) (_hs : s.size ≤ maxLen) :
    Calls Tryz.prog 22 #[.string s] w fun e w' => e = .returned (.int .u64 (addrN s : Nat)) ∧ w = w' := by
  unfold maxLen at _hs
  go_enter Tryz.func22, Tryz.ntmps22
  go_wp2
  go_loopg [3, 4] 9 (fun g s3 s4 wx => ∃ (k v : Nat), k + g = 9 ∧ k ≤ 8 ∧ s4 = .int .i64 k ∧ s3 = .int .u64 (v : Nat) ∧ Hid (v = accN s.data.toList k) ∧ w = wx)
  case atStart => exact ⟨0, 0, by omega, by omega, rfl, rfl, rfl, rfl⟩
  case round =>
    obtain ⟨k, v, hkg, h8, rfl, rfl, HV, rfl⟩ := hrel
    by_cases h2 : k < 8
    · have b2 : decide ((k : Int) < 8) = true := by simp; omega
      have hv : v < 72057594037927936 := by
        have h1 := accN_lt s.data.toList k
        have h3 : (256 : Nat) ^ k ≤ 256 ^ 7 := Nat.pow_le_pow_right (by omega) (by omega)
        have := HV.out
        omega
      by_cases h1 : k < s.size
      · have hb : s[k].toNat < 256 := s[k].toNat_lt
        have HS : Hid (v * 256 + s[k].toNat = accN s.data.toList (k + 1)) := by show _ = _; rw [accN, HV.out, byteAt_get (by rw [data_length]; exact h1)]; rfl
        go_wp2
        go_roundg (gk - 1)
        case measure => omega
        case rel => exact ⟨k + 1, _, by omega, by omega, by go_num, by go_num, HS.out, rfl⟩
      · have HS : Hid (v * 256 = accN s.data.toList (k + 1)) := by show _ = _; rw [accN, HV.out, byteAt_end (by rw [data_length]; omega), Nat.add_zero]
        go_wp2
        go_roundg (gk - 1)
        case measure => omega
        case rel => exact ⟨k + 1, _, by omega, by omega, by go_num, by go_num, HS.out, rfl⟩
    · have b2 : decide ((k : Int) < 8) = false := by simp; omega
      have e : v = addrN s := by
        obtain rfl : k = 8 := by omega
        exact HV.out
      rw [e]
      go_wp2
      go_ret
      exact ⟨rfl, rfl⟩

end Go.Proofs.YthgndgoljchnfaaGreat
