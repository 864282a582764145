/-
  What a region of a statement's walk holds: the cells of the arcs that it reads, while calls make memory of their own.
-/
import Derived.Test.YthjhfnbcfgkehaaArcAlive
import Derived.Test.YthjhfnbcfgkehaaArcPlain
namespace Go.Proofs.Ythjhfnbcfgkehaa
open Go.RowKit

theorem bt {B C : Nat} {a b c : World} (h : Below B a b) (k : Below C b c) (hBC : B ≤ C) : Below B a c := h.trans (k.mono hBC)
theorem acc {w W W1 : World} (hB : Below w.heap.size w W) (hb : Below W.heap.size W W1) : Below w.heap.size w W1 := hB.trans (hb.mono hB.size)
theorem accA {w W : World} (hB : Below w.heap.size w W) (o : Obj) : Below w.heap.size w (W.alloc o) := hB.alloc hB.size o
theorem fin {w wb W : World} {A : Prop} (hB : Below w.heap.size w wb) (h : Below wb.heap.size wb W ∧ A) : Below w.heap.size w W := acc hB h.1
theorem keep_alloc {wb W : World} {A : World → Prop} (HS : ∀ w', Below wb.heap.size wb w' → Below wb.heap.size wb w' ∧ A w') (h : Below wb.heap.size wb W ∧ A W) (o : Obj) : Below wb.heap.size wb (W.alloc o) ∧ A (W.alloc o) :=
  HS _ (h.1.alloc h.1.size o)
theorem keep_set {wb W : World} {A : World → Prop} (HS : ∀ w', Below wb.heap.size wb w' → Below wb.heap.size wb w' ∧ A w') (h : Below wb.heap.size wb W ∧ A W) {p : Addr} (hp : wb.heap.size ≤ p.block) (v : Value) : Below wb.heap.size wb (W.setCell p v) ∧ A (W.setCell p v) :=
  HS _ (h.1.setCell hp v)
theorem keep_set2 {wb W : World} {A : World → Prop} (HS : ∀ w', Below wb.heap.size wb w' → Below wb.heap.size wb w' ∧ A w') (h : Below wb.heap.size wb W ∧ A W) {p q : Addr} (hp : wb.heap.size ≤ p.block) (hq : wb.heap.size ≤ q.block) (v u : Value) : Below wb.heap.size wb ((W.setCell p v).setCell q u) ∧ A ((W.setCell p v).setCell q u) :=
  HS _ ((h.1.setCell hp v).setCell hq u)
theorem draws (B : Nat) (W : World) (n : Nat) : Below B W (W.drewN n) := ⟨rfl, rfl, rfl, Nat.le_refl _, fun _ _ => rfl⟩
theorem draw_then {W W1 : World} {n : Nat} (hb : Below (W.drewN n).heap.size (W.drewN n) W1) : Below W.heap.size W W1 := (draws _ W n).trans hb
theorem keep2 {wb : World} {A f t : Nat} (hA : A < wb.heap.size) (h0 : wb.cell? ⟨A, 0, none⟩ = some (.int .u64 (f : Nat))) (h1 : wb.cell? ⟨A, 1, none⟩ = some (.int .u64 (t : Nat))) :
    ∀ w', Below wb.heap.size wb w' → Below wb.heap.size wb w' ∧ (w'.cell? ⟨A, 0, none⟩ = some (.int .u64 (f : Nat)) ∧ w'.cell? ⟨A, 1, none⟩ = some (.int .u64 (t : Nat))) := fun _ h =>
  ⟨h, (h.cell (p := ⟨A, 0, none⟩) hA).trans h0, (h.cell (p := ⟨A, 1, none⟩) hA).trans h1⟩
theorem keep4 {wb : World} {A f t B g u : Nat} (hA : A < wb.heap.size) (h0 : wb.cell? ⟨A, 0, none⟩ = some (.int .u64 (f : Nat))) (h1 : wb.cell? ⟨A, 1, none⟩ = some (.int .u64 (t : Nat)))
    (hB : B < wb.heap.size) (h2 : wb.cell? ⟨B, 0, none⟩ = some (.int .u64 (g : Nat))) (h3 : wb.cell? ⟨B, 1, none⟩ = some (.int .u64 (u : Nat))) :
    ∀ w', Below wb.heap.size wb w' → Below wb.heap.size wb w' ∧ (w'.cell? ⟨A, 0, none⟩ = some (.int .u64 (f : Nat)) ∧ w'.cell? ⟨A, 1, none⟩ = some (.int .u64 (t : Nat)) ∧ w'.cell? ⟨B, 0, none⟩ = some (.int .u64 (g : Nat)) ∧ w'.cell? ⟨B, 1, none⟩ = some (.int .u64 (u : Nat))) := fun _ h =>
  ⟨h, (h.cell (p := ⟨A, 0, none⟩) hA).trans h0, (h.cell (p := ⟨A, 1, none⟩) hA).trans h1, (h.cell (p := ⟨B, 0, none⟩) hB).trans h2, (h.cell (p := ⟨B, 1, none⟩) hB).trans h3⟩
theorem keep6 {wb : World} {A f t B g u C v y : Nat} (hA : A < wb.heap.size) (h0 : wb.cell? ⟨A, 0, none⟩ = some (.int .u64 (f : Nat))) (h1 : wb.cell? ⟨A, 1, none⟩ = some (.int .u64 (t : Nat)))
    (hB : B < wb.heap.size) (h2 : wb.cell? ⟨B, 0, none⟩ = some (.int .u64 (g : Nat))) (h3 : wb.cell? ⟨B, 1, none⟩ = some (.int .u64 (u : Nat)))
    (hC : C < wb.heap.size) (h4 : wb.cell? ⟨C, 0, none⟩ = some (.int .u64 (v : Nat))) (h5 : wb.cell? ⟨C, 1, none⟩ = some (.int .u64 (y : Nat))) :
    ∀ w', Below wb.heap.size wb w' → Below wb.heap.size wb w' ∧ (w'.cell? ⟨A, 0, none⟩ = some (.int .u64 (f : Nat)) ∧ w'.cell? ⟨A, 1, none⟩ = some (.int .u64 (t : Nat)) ∧ w'.cell? ⟨B, 0, none⟩ = some (.int .u64 (g : Nat)) ∧ w'.cell? ⟨B, 1, none⟩ = some (.int .u64 (u : Nat)) ∧ w'.cell? ⟨C, 0, none⟩ = some (.int .u64 (v : Nat)) ∧ w'.cell? ⟨C, 1, none⟩ = some (.int .u64 (y : Nat))) := fun _ h =>
  ⟨h, (h.cell (p := ⟨A, 0, none⟩) hA).trans h0, (h.cell (p := ⟨A, 1, none⟩) hA).trans h1, (h.cell (p := ⟨B, 0, none⟩) hB).trans h2, (h.cell (p := ⟨B, 1, none⟩) hB).trans h3, (h.cell (p := ⟨C, 0, none⟩) hC).trans h4, (h.cell (p := ⟨C, 1, none⟩) hC).trans h5⟩
theorem keep8 {wb : World} {A f t B g u C v y D m n : Nat} (z0 : A < wb.heap.size) (h0 : wb.cell? ⟨A, 0, none⟩ = some (.int .u64 (f : Nat))) (k0 : wb.cell? ⟨A, 1, none⟩ = some (.int .u64 (t : Nat))) (z1 : B < wb.heap.size) (h1 : wb.cell? ⟨B, 0, none⟩ = some (.int .u64 (g : Nat))) (k1 : wb.cell? ⟨B, 1, none⟩ = some (.int .u64 (u : Nat))) (z2 : C < wb.heap.size) (h2 : wb.cell? ⟨C, 0, none⟩ = some (.int .u64 (v : Nat))) (k2 : wb.cell? ⟨C, 1, none⟩ = some (.int .u64 (y : Nat))) (z3 : D < wb.heap.size) (h3 : wb.cell? ⟨D, 0, none⟩ = some (.int .u64 (m : Nat))) (k3 : wb.cell? ⟨D, 1, none⟩ = some (.int .u64 (n : Nat))) :
    ∀ w', Below wb.heap.size wb w' → Below wb.heap.size wb w' ∧ (w'.cell? ⟨A, 0, none⟩ = some (.int .u64 (f : Nat)) ∧ w'.cell? ⟨A, 1, none⟩ = some (.int .u64 (t : Nat)) ∧ w'.cell? ⟨B, 0, none⟩ = some (.int .u64 (g : Nat)) ∧ w'.cell? ⟨B, 1, none⟩ = some (.int .u64 (u : Nat)) ∧ w'.cell? ⟨C, 0, none⟩ = some (.int .u64 (v : Nat)) ∧ w'.cell? ⟨C, 1, none⟩ = some (.int .u64 (y : Nat)) ∧ w'.cell? ⟨D, 0, none⟩ = some (.int .u64 (m : Nat)) ∧ w'.cell? ⟨D, 1, none⟩ = some (.int .u64 (n : Nat))) := fun _ h =>
  ⟨h, (h.cell (p := ⟨A, 0, none⟩) z0).trans h0, (h.cell (p := ⟨A, 1, none⟩) z0).trans k0, (h.cell (p := ⟨B, 0, none⟩) z1).trans h1, (h.cell (p := ⟨B, 1, none⟩) z1).trans k1, (h.cell (p := ⟨C, 0, none⟩) z2).trans h2, (h.cell (p := ⟨C, 1, none⟩) z2).trans k2, (h.cell (p := ⟨D, 0, none⟩) z3).trans h3, (h.cell (p := ⟨D, 1, none⟩) z3).trans k3⟩
/-- two boxed arcs, as a later world holds them -/
def Two (w W : World) (f t g u : Nat) : Prop := w.heap.size + 1 < W.heap.size ∧ Below w.heap.size w W ∧ W.cell? ⟨w.heap.size, 0, none⟩ = some (.int .u64 (f : Nat)) ∧ W.cell? ⟨w.heap.size, 1, none⟩ = some (.int .u64 (t : Nat)) ∧ W.cell? ⟨w.heap.size + 1, 0, none⟩ = some (.int .u64 (g : Nat)) ∧ W.cell? ⟨w.heap.size + 1, 1, none⟩ = some (.int .u64 (u : Nat))
theorem Two.start (w : World) (f t g u : Nat) : Two w ((w.alloc (.cells #[.int .u64 (f : Nat), .int .u64 (t : Nat)] 25)).alloc (.cells #[.int .u64 (g : Nat), .int .u64 (u : Nat)] 25)) f t g u :=
  ⟨by simp, below2 w _ _, by go_simp, by go_simp, by go_simp, by go_simp⟩
theorem Two.step {w W W1 : World} {f t g u : Nat} (h : Two w W f t g u) (hb : Below W.heap.size W W1) : Two w W1 f t g u := by
  obtain ⟨hz, h1, h2, h3, h4, h5⟩ := h
  have hs := hb.size
  exact ⟨by omega, acc h1 hb, (hb.cell (p := ⟨w.heap.size, 0, none⟩) (by show w.heap.size < _; omega)).trans h2, (hb.cell (p := ⟨w.heap.size, 1, none⟩) (by show w.heap.size < _; omega)).trans h3, (hb.cell (p := ⟨w.heap.size + 1, 0, none⟩) hz).trans h4, (hb.cell (p := ⟨w.heap.size + 1, 1, none⟩) hz).trans h5⟩
theorem Two.alloc {w W : World} {f t g u : Nat} (h : Two w W f t g u) (o : Obj) : Two w (W.alloc o) f t g u := h.step ((Below.refl _ _).alloc (Nat.le_refl _) o)
/-- an arc in a block's first two cells -/
def Cel (W : World) (b f t : Nat) : Prop := b < W.heap.size ∧ W.cell? ⟨b, 0, none⟩ = some (.int .u64 (f : Nat)) ∧ W.cell? ⟨b, 1, none⟩ = some (.int .u64 (t : Nat))
theorem Cel.step {W W1 : World} {b f t : Nat} (h : Cel W b f t) (hb : Below W.heap.size W W1) : Cel W1 b f t :=
  ⟨Nat.lt_of_lt_of_le h.1 hb.size, (hb.cell (p := ⟨b, 0, none⟩) h.1).trans h.2.1, (hb.cell (p := ⟨b, 1, none⟩) h.1).trans h.2.2⟩
theorem Cel.alloc {W : World} {b f t : Nat} (h : Cel W b f t) (o : Obj) : Cel (W.alloc o) b f t := h.step ((Below.refl _ _).alloc (Nat.le_refl _) o)
theorem Cel.new (W : World) (f t : Nat) (T : TypeId) : Cel (W.alloc (.cells #[.int .u64 (f : Nat), .int .u64 (t : Nat)] T)) W.heap.size f t :=
  ⟨by simp, cell_new0 _ _ _ _, cell_new1 _ _ _ _⟩
theorem Cel.new1 (W : World) (o : Obj) (f t : Nat) (T : TypeId) : Cel ((W.alloc o).alloc (.cells #[.int .u64 (f : Nat), .int .u64 (t : Nat)] T)) (W.heap.size + 1) f t := by
  have h := Cel.new (W.alloc o) f t T
  simpa using h
theorem Cel.new2 (W : World) (o o2 : Obj) (f t : Nat) (T : TypeId) : Cel (((W.alloc o).alloc o2).alloc (.cells #[.int .u64 (f : Nat), .int .u64 (t : Nat)] T)) (W.heap.size + 1 + 1) f t := by
  have h := Cel.new ((W.alloc o).alloc o2) f t T
  simpa using h
theorem Cel.drew {W : World} {b f t : Nat} (h : Cel W b f t) : Cel W.drew b f t := h.step ((Below.refl _ _).drew)
end Go.Proofs.Ythjhfnbcfgkehaa
