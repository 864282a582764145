/-
  A gate and the document's, side by side (PX); what each call leaves of both.
-/
import Derived.Test.YtompbhkmaalioaaGateRefP
import Derived.Test.YtompbhkmaalioaaGateOps
namespace Go.Proofs.Ytompbhkmaalioaa
open Go.RowKit

/-- the gate at g, the document's at r, blocks B beside them -/
def PX (VG : World → Nat → GS → List Nat → Prop) (W w : World) (B : List Nat) (g r : Nat) (s : GS) (b : Bool) (f t : Nat) (l : List GP) (V : Value) : Prop :=
  GX VG W w (r :: (blkL V ++ B)) g s ∧ RG w r b f t l V ∧ W.heap.size ≤ r ∧ (∀ q, V.ownBlock = some q → W.heap.size ≤ q) ∧ ∀ q ∈ B, q ≠ r ∧ V.ownBlock ≠ some q
section
variable {VG : World → Nat → GS → List Nat → Prop} {W w w1 : World} {B : List Nat} {g r : Nat} {s s' : GS} {b : Bool} {f t : Nat} {l : List GP} {V : Value}
theorem PX.base (h : PX VG W w B g r s b f t l V) : Below W.heap.size W w := h.1.base
theorem PX.rg (h : PX VG W w B g r s b f t l V) : RG w r b f t l V := h.2.1
theorem PX.gx (h : PX VG W w B g r s b f t l V) : GX VG W w (r :: (blkL V ++ B)) g s := h.1
theorem PX.below (L : GateLaws VG) (h : PX VG W w B g r s b f t l V) (hb : Below w.heap.size w w1) : PX VG W w1 B g r s b f t l V :=
  ⟨h.1.below L hb, h.2.1.below hb, h.2.2⟩
theorem PX.less {C : List Nat} (h : PX VG W w B g r s b f t l V) (hC : ∀ q ∈ C, q ∈ B) : PX VG W w C g r s b f t l V :=
  ⟨h.1.less (fun q hq => by
    rcases List.mem_cons.1 hq with rfl | hq
    · exact List.mem_cons_self
    · refine List.mem_cons_of_mem _ ?_
      rcases List.mem_append.1 hq with z | z
      · exact List.mem_append_left _ z
      · exact List.mem_append_right _ (hC q z)), h.2.1, h.2.2.1, h.2.2.2.1, fun q hq => h.2.2.2.2 q (hC q hq)⟩
theorem PX.more (L : GateLaws VG) (h : PX VG W w B g r s b f t l V) (hb : Below w.heap.size w w1) {q : Nat} (hq : w.heap.size ≤ q ∧ q < w1.heap.size) : PX VG W w1 (q :: B) g r s b f t l V := by
  obtain ⟨h1, h2, h3, h4, h5⟩ := h
  have z := (h1.more L hb (Q := [q]) (fun x hx => by rw [List.mem_singleton.1 hx]; exact hq)).less (Q := r :: (blkL V ++ (q :: B))) (fun x hx => by
    rcases List.mem_cons.1 hx with rfl | hx
    · simp
    · rcases List.mem_append.1 hx with y | y
      · simp [y]
      · rcases List.mem_cons.1 y with rfl | y
        · simp
        · simp [y])
  refine ⟨z, h2.below hb, h3, h4, fun x hx => ?_⟩
  rcases List.mem_cons.1 hx with rfl | hx
  · refine ⟨fun e => by have := h2.lt; omega, fun e => ?_⟩
    have := (h2.v.lt x e).2
    omega
  · exact h5 x hx
/-- a call of the gate's that writes -/
theorem PX.gate (h : PX VG W w B g r s b f t l V) (k : GX VG W w1 (r :: (blkL V ++ B)) g s') (kk : Kept (r :: (blkL V ++ B)) w w1) : PX VG W w1 B g r s' b f t l V ∧ Kept B w w1 := by
  obtain ⟨h1, h2, h3, h4, h5⟩ := h
  refine ⟨⟨k, ?_, h3, h4, h5⟩, kk.less (fun q hq => by simp [hq])⟩
  obtain ⟨G, t, n⟩ := kk
  exact h2.touch t (n r (by simp)) (fun q hq => n q (by simp [mem_blkL.2 hq]))
/-- a call of the document's that writes -/
theorem PX.ref (L : GateLaws VG) {b' : Bool} {f' t' : Nat} {l' : List GP} {V' : Value} (h : PX VG W w B g r s b f t l V) (k : RG w1 r b' f' t' l' V') (kt : Touch [r] w w1) (kV : ∀ q, V'.ownBlock = some q → V.ownBlock = some q ∨ w.heap.size ≤ q) : PX VG W w1 B g r s b' f' t' l' V' ∧ Kept B w w1 := by
  obtain ⟨⟨x, ⟨F, c, d⟩, e⟩, h2, h3, h4, h5⟩ := h
  have hB : ∀ q ∈ B, q < w.heap.size := fun q hq => e q (by simp [hq])
  have hbl : ∀ q, V'.ownBlock = some q → q < w1.heap.size := fun q hq => (k.v.lt q hq).2
  refine ⟨⟨⟨Touch.acc x kt (fun q hq => by rw [List.mem_singleton.1 hq]; exact h3), ⟨F, L.touch c kt (fun q hq z => (d q hq).2 (by rw [List.mem_singleton.1 z]; simp)), fun q hq => ⟨(d q hq).1, fun z => ?_⟩⟩, fun q hq => ?_⟩, k, h3, fun q hq => ?_, fun q hq => ⟨(h5 q hq).1, fun z => ?_⟩⟩, ⟨[r], kt, fun q hq z => (h5 q hq).1 (List.mem_singleton.1 z)⟩⟩
  · rcases List.mem_cons.1 z with rfl | z
    · exact (d q hq).2 (by simp)
    · rcases List.mem_append.1 z with z | z
      · rcases kV q (mem_blkL.1 z) with y | y
        · exact (d q hq).2 (by simp [mem_blkL.2 y])
        · have := (L.has c).2 q hq; omega
      · exact (d q hq).2 (by simp [z])
  · rcases List.mem_cons.1 hq with rfl | z
    · exact k.lt
    · rcases List.mem_append.1 z with z | z
      · exact hbl q (mem_blkL.1 z)
      · exact Nat.lt_of_lt_of_le (hB q z) kt.size
  · rcases kV q hq with y | y
    · exact h4 q y
    · exact Nat.le_trans x.size y
  · rcases kV q z with y | y
    · exact (h5 q hq).2 y
    · have := hB q hq; omega
/-- a cell of the document's is set -/
theorem PX.setShut (L : GateLaws VG) (h : PX VG W w B g r s b f t l V) (b' : Bool) : PX VG W (w.setCell ⟨r, 0, none⟩ (.bool b')) B g r s b' f t l V ∧ Kept B w (w.setCell ⟨r, 0, none⟩ (.bool b')) := by
  have t2 : Touch [r] w (w.setCell ⟨r, 0, none⟩ (.bool b')) := (Touch.refl _ _).set (.inl (by simp)) _
  refine h.ref L ⟨by simp [World.setCell, Array.getElem?_modify, h.2.1.hg], t2.row h.2.1.v (fun q hq z => h.2.1.gv q hq (List.mem_singleton.1 z)), h.2.1.gv⟩ t2 (fun q hq => .inl hq)
theorem PX.setArc (L : GateLaws VG) (h : PX VG W w B g r s b f t l V) (f' t' : Nat) : PX VG W (w.setCells r 1 [.int .u64 (f' : Nat), .int .u64 (t' : Nat)]) B g r s b f' t' l V ∧ Kept B w (w.setCells r 1 [.int .u64 (f' : Nat), .int .u64 (t' : Nat)]) := by
  have t2 : Touch [r] w (w.setCells r 1 [.int .u64 (f' : Nat), .int .u64 (t' : Nat)]) := ((Touch.refl _ _).set (p := ⟨r, 1, none⟩) (.inl (by simp)) _).set (p := ⟨r, 2, none⟩) (.inl (by simp)) _
  refine h.ref L ⟨by simp [World.setCells, World.setCell, Array.getElem?_modify, h.2.1.hg], t2.row h.2.1.v (fun q hq z => h.2.1.gv q hq (List.mem_singleton.1 z)), h.2.1.gv⟩ t2 (fun q hq => .inl hq)
end
end Go.Proofs.Ytompbhkmaalioaa
