/-
  What a call that writes to one block of the caller's own leaves of the world; a reader's two cells.
-/
import Derived.Test.YtompbhkmaalioaaBase
namespace Go.Proofs.Ytompbhkmaalioaa
open Go.RowKit

theorem bcell {W w1 : World} (hb : Below W.heap.size W w1) : (∀ b o, b < W.heap.size → w1.cell? ⟨b, o, none⟩ = W.cell? ⟨b, o, none⟩) ∧ (∀ b o, b < W.heap.size → w1.frozen? ⟨b, o, none⟩ = W.frozen? ⟨b, o, none⟩) :=
  ⟨fun b o h => hb.cell (p := ⟨b, o, none⟩) h, fun b o h => hb.frozen (p := ⟨b, o, none⟩) h⟩
theorem acc {w W W1 : World} (hB : Below w.heap.size w W) (hb : Below W.heap.size W W1) : Below w.heap.size w W1 := hB.trans (hb.mono hB.size)
theorem accA {w W : World} (hB : Below w.heap.size w W) (o : Obj) : Below w.heap.size w (W.alloc o) := hB.alloc hB.size o

/-- the world w1 is w with new blocks, and with block g written -/
abbrev Gr (g : Nat) (w w1 : World) : Prop := w.grownBy w1 (some g)
theorem Gr.refl (g : Nat) (w : World) : Gr g w w := ⟨rfl, rfl, rfl, Nat.le_refl _, fun _ _ _ => rfl⟩
theorem Gr.trans {g : Nat} {a b c : World} (h : Gr g a b) (k : Gr g b c) : Gr g a c :=
  ⟨k.os.trans h.os, k.tape.trans h.tape, k.output.trans h.output, Nat.le_trans h.size k.size, fun i hi hn => (k.block i (Nat.lt_of_lt_of_le hi h.size) hn).trans (h.block i hi hn)⟩
theorem Gr.below {g : Nat} {a b c : World} (h : Gr g a b) (k : Below b.heap.size b c) : Gr g a c :=
  ⟨k.os.trans h.os, k.tape.trans h.tape, k.output.trans h.output, Nat.le_trans h.size k.size, fun i hi hn => (k.block i (Nat.lt_of_lt_of_le hi h.size)).trans (h.block i hi hn)⟩
theorem Gr.new {g k : Nat} {a b c : World} (h : Gr g a b) (hg : b.grownBy c (some k)) (hk : a.heap.size ≤ k) : Gr g a c :=
  ⟨hg.os.trans h.os, hg.tape.trans h.tape, hg.output.trans h.output, Nat.le_trans h.size hg.size, fun i hi hn => (hg.block i (Nat.lt_of_lt_of_le hi h.size) (fun e => by have := Option.some.inj e; omega)).trans (h.block i hi hn)⟩
theorem Gr.alloc {g : Nat} {a b : World} (h : Gr g a b) (o : Obj) : Gr g a (b.alloc o) := h.trans (World.grownBy_alloc b o (some g))
theorem Gr.setNew {g : Nat} {a b : World} (h : Gr g a b) {p : Addr} (hp : a.heap.size ≤ p.block) (u : Value) : Gr g a (b.setCell p u) :=
  ⟨h.os, h.tape, h.output, by have := h.size; simpa [World.setCell] using this, fun i hi hn => (Below.heap_setCell _ _ _ _ (by omega)).trans (h.block i hi hn)⟩
theorem Gr.set {g : Nat} {a b : World} (h : Gr g a b) (o : Nat) (u : Value) : Gr g a (b.setCell ⟨g, o, none⟩ u) :=
  ⟨h.os, h.tape, h.output, by have := h.size; simpa [World.setCell] using this, fun i hi hn => (Below.heap_setCell _ _ _ _ (fun e => hn (congrArg some e))).trans (h.block i hi hn)⟩
theorem Gr.drew {g : Nat} {a b : World} (h : Gr g a b) : Gr g a b.drew := ⟨h.os, h.tape, h.output, h.size, h.block⟩
theorem Gr.toBelow {g B : Nat} {a b : World} (h : Gr g a b) (hg : B ≤ g) (hB : B ≤ a.heap.size) : Below B a b :=
  ⟨h.os, h.tape, h.output, h.size, fun k hk => h.block k (by omega) (fun e => by have := Option.some.inj e; omega)⟩
theorem Gr.acc {g : Nat} {w a b : World} (hB : Below w.heap.size w a) (h : Gr g a b) (hg : w.heap.size ≤ g) : Below w.heap.size w b := hB.trans (h.toBelow hg hB.size)

/-- a block of two cells: a text and a bool -/
def Rq (W : World) (g : Nat) (s : ByteArray) (b : Bool) : Prop :=
  g < W.heap.size ∧ W.cell? ⟨g, 0, none⟩ = some (.string s) ∧ W.cell? ⟨g, 1, none⟩ = some (.bool b) ∧ W.frozen? ⟨g, 0, none⟩ = false ∧ W.frozen? ⟨g, 1, none⟩ = false
theorem Rq.of_block {W W1 : World} {g : Nat} {s : ByteArray} {b : Bool} (h : Rq W g s b) (hs : W.heap.size ≤ W1.heap.size) (hb : W1.heap[g]? = W.heap[g]?) : Rq W1 g s b := by
  obtain ⟨h1, h2, h3, h4, h5⟩ := h
  exact ⟨by omega, (World.cell?_of_block (w := W) (a := ⟨g, 0, none⟩) hb).trans h2, (World.cell?_of_block (w := W) (a := ⟨g, 1, none⟩) hb).trans h3,
    (World.frozen?_of_block (w := W) (a := ⟨g, 0, none⟩) hb).trans h4, (World.frozen?_of_block (w := W) (a := ⟨g, 1, none⟩) hb).trans h5⟩
theorem Rq.below {W W1 : World} {g : Nat} {s : ByteArray} {b : Bool} (h : Rq W g s b) (hb : Below W.heap.size W W1) : Rq W1 g s b := h.of_block hb.size (hb.block g h.1)
theorem Rq.belowAt {B : Nat} {W W1 : World} {g : Nat} {s : ByteArray} {b : Bool} (h : Rq W g s b) (hb : Below B W W1) (hg : g < B) : Rq W1 g s b := h.of_block hb.size (hb.block g hg)
theorem Rq.other {W W1 : World} {g k : Nat} {s : ByteArray} {b : Bool} (h : Rq W g s b) (hg : Gr k W W1) (hk : g ≠ k) : Rq W1 g s b := h.of_block hg.size (hg.block g h.1 (fun e => hk (Option.some.inj e)))
theorem Rq.new (W : World) (s : ByteArray) (b : Bool) (T : TypeId) : Rq (W.alloc (.cells #[.string s, .bool b] T)) W.heap.size s b :=
  ⟨by simp, by go_simp, by go_simp, by go_simp, by go_simp⟩
theorem Rq.alloc {W : World} {g : Nat} {s : ByteArray} {b : Bool} (h : Rq W g s b) (o : Obj) : Rq (W.alloc o) g s b := h.below ((Below.refl _ _).alloc (Nat.le_refl _) o)
theorem Rq.drew {W : World} {g : Nat} {s : ByteArray} {b : Bool} (h : Rq W g s b) : Rq W.drew g s b := h
theorem Rq.set0 {W : World} {g : Nat} {s : ByteArray} {b : Bool} (h : Rq W g s b) (t : ByteArray) : Rq (W.setCell ⟨g, 0, none⟩ (.string t)) g t b := by
  obtain ⟨h1, h2, h3, h4, h5⟩ := h
  exact ⟨by simpa [World.setCell] using h1, World.cell?_setCell_same _ _ _ h2, by rw [World.cell?_setCell_other _ _ _ _ (by simp)]; exact h3, by rw [World.frozen?_setCell]; exact h4, by rw [World.frozen?_setCell]; exact h5⟩
theorem Rq.set1 {W : World} {g : Nat} {s : ByteArray} {b : Bool} (h : Rq W g s b) (c : Bool) : Rq (W.setCell ⟨g, 1, none⟩ (.bool c)) g s c := by
  obtain ⟨h1, h2, h3, h4, h5⟩ := h
  exact ⟨by simpa [World.setCell] using h1, by rw [World.cell?_setCell_other _ _ _ _ (by simp)]; exact h2, World.cell?_setCell_same _ _ _ h3, by rw [World.frozen?_setCell]; exact h4, by rw [World.frozen?_setCell]; exact h5⟩
theorem Gr.grown {g : Nat} {row : Option Nat} {a b c : World} (h : Gr g a b) (hg : b.grownBy c row) (hr : ∀ k, row = some k → a.heap.size ≤ k) : Gr g a c :=
  ⟨hg.os.trans h.os, hg.tape.trans h.tape, hg.output.trans h.output, Nat.le_trans h.size hg.size, fun i hi hn => (hg.block i (Nat.lt_of_lt_of_le hi h.size) (fun e => by have := hr i e.symm; omega)).trans (h.block i hi hn)⟩
theorem Rq.grown {W W1 : World} {g : Nat} {row : Option Nat} {s : ByteArray} {b : Bool} (h : Rq W g s b) (hg : W.grownBy W1 row) (hr : ∀ k, row = some k → g < k) : Rq W1 g s b :=
  h.of_block hg.size (hg.block g h.1 (fun e => by have := hr g e.symm; omega))
theorem own_lt {W : World} {base e size n : Nat} {v : Value} {xs : List Value} (h : W.ownsRow base e size v n xs) : ∀ k, v.ownBlock = some k → base ≤ k := fun k hk => (h.lt k hk).1
theorem own_other {W W1 : World} {base e size n k : Nat} {v : Value} {xs : List Value} (h : W.ownsRow base e size v n xs) (hg : Gr k W W1) (hk : k < base) : W1.ownsRow base e size v n xs := by
  refine h.kept hg ?_
  rcases v.ownBlock.eq_none_or_eq_some with e | ⟨q, e⟩
  · exact .inl e
  · exact .inr (by rw [e]; intro h2; have := (h.lt q e).1; have := Option.some.inj h2; omega)
theorem own_step {W W1 : World} {base e size n : Nat} {v : Value} {xs : List Value} (h : W.ownsRow base e size v n xs) (hb : Below W.heap.size W W1) : W1.ownsRow base e size v n xs := by
  refine h.kept (row := none) ⟨hb.os, hb.tape, hb.output, hb.size, fun k hk _ => hb.block k hk⟩ ?_
  rcases v.ownBlock.eq_none_or_eq_some with e | ⟨q, e⟩
  · exact .inl e
  · exact .inr (by rw [e]; intro h2; cases h2)
theorem own_apart {W W1 : World} {base e size n k : Nat} {v : Value} {xs : List Value} (h : W.ownsRow base e size v n xs) (hg : Gr k W W1) (hk : ∀ q, v.ownBlock = some q → q ≠ k) : W1.ownsRow base e size v n xs := by
  refine h.kept hg ?_
  rcases v.ownBlock.eq_none_or_eq_some with e | ⟨q, e⟩
  · exact .inl e
  · exact .inr (by rw [e]; intro h2; exact hk q e (Option.some.inj h2))
/-- what a region holds: block g may be written, all that A names stays -/
theorem gr_start {g : Nat} {wb : World} {A : World → Prop} (HSS : ∀ w', Gr g wb w' → Gr g wb w' ∧ A w') : Gr g wb wb.drew ∧ A wb.drew := HSS _ (Gr.refl _ _).drew
theorem gr_step {g : Nat} {wb W W1 : World} {A : World → Prop} (HSS : ∀ w', Gr g wb w' → Gr g wb w' ∧ A w') (h : Gr g wb W ∧ A W) (k : Gr g W W1) : Gr g wb W1 ∧ A W1 := HSS _ (h.1.trans k)
end Go.Proofs.Ytompbhkmaalioaa
