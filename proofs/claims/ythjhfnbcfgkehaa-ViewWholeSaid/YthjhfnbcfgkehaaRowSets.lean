/-
  Structs within a row: written cell by cell (setAll), loaded where the load is guarded. (setAll .. row_there as in LbBase, which has them for itself.) No program is named here.
-/
import Derived.Test.YthjhfnbcfgkehaaRecs
import Derived.Test.YthjhfnbcfgkehaaWayKit
import Derived.Deep.MidRow
namespace Go.Proofs.Ythjhfnbcfgkehaa
open Go.RowKit

/-- cells in a row are written, one after another -/
def setAll : List Value → Nat → List Value → List Value
  | xs, _, [] => xs
  | xs, o, v :: r => setAll (xs.set o v) (o + 1) r
theorem setAll_eq : ∀ (vs xs : List Value) (o : Nat), o + vs.length ≤ xs.length → setAll xs o vs = xs.take o ++ vs ++ xs.drop (o + vs.length)
  | [], xs, o, _ => by simp [setAll]
  | v :: r, xs, o, h => by
    simp only [List.length_cons] at h
    rw [setAll, setAll_eq r _ _ (by rw [List.length_set]; omega), List.drop_set, if_pos (by omega), List.take_set, List.take_succ_eq_append_getElem (show o < xs.length by omega), List.set_append_right _ _ (by rw [List.length_take]; omega), List.length_take, Nat.min_eq_left (by omega), Nat.sub_self, List.set_cons_zero]
    simp only [List.length_cons, List.append_assoc, List.cons_append, List.nil_append]
    rw [show o + 1 + r.length = o + (r.length + 1) by omega]
theorem own_setCells {base e size g n c : Nat} : ∀ (vs : List Value) (w : World) (o : Nat) (xs : List Value), w.ownsRow base e size (.slice (some ⟨g, 0, none⟩) n c) n xs → o + vs.length ≤ xs.length → (w.setCells g o vs).ownsRow base e size (.slice (some ⟨g, 0, none⟩) n c) n (setAll xs o vs)
  | [], _, _, _, h, _ => h
  | v :: r, _, o, _, h, hl => own_setCells r _ _ _ (h.stored o v).1 (by simp at hl ⊢; omega)
theorem touch_setCells {F : List Nat} {g : Nat} (hg : g ∈ F) : ∀ (vs : List Value) (W w : World) (o : Nat), Touch F W w → Touch F W (w.setCells g o vs)
  | [], _, _, _, h => h
  | v :: r, W, _, o, h => touch_setCells hg r W _ (o + 1) (h.set (.inl hg) v)
theorem row_there {w : World} {base e size g n c : Nat} {xs : List Value} (h : w.ownsRow base e size (.slice (some ⟨g, 0, none⟩) n c) n xs) {o k : Nat} (hk : o + k ≤ xs.length) : w.there g o k := fun j hj => by
  have hlen := h.1
  exact ⟨by rw [h.cellAt (o + j) (by omega), List.getElem?_eq_getElem (by omega)]; rfl, h.frozenAt (o + j)⟩
theorem rowC_put {α : Type} {enc : α → Array Value} {m : Nat} (h : ∀ x, (enc x).size = m) (l : List α) (k : Nat) (r : α) (hk : k < l.length) : setAll (rowC enc l) (k * m) (enc r).toList = rowC enc (l.set k r) := by
  have h21 : (enc r).toList.length = m := by rw [Array.length_toList, h]
  have hl := rowC_length h l
  have hkm : (k + 1) * m ≤ l.length * m := Nat.mul_le_mul_right _ hk
  rw [Nat.add_mul] at hkm
  rw [setAll_eq _ _ _ (by rw [h21, hl]; omega), h21, show k * m + m = (k + 1) * m by rw [Nat.add_mul]; omega, rowC_take h, rowC_drop h, List.set_eq_take_append_cons_drop, if_pos hk, ← rowC_one1 enc r, ← rowC_append, ← rowC_append]
  simp
/-- a struct out of the middle of a block, guarded -/
theorem wpList_load_midG {P : Program} {ops : Array Oper} {rest : List Oper} {op : Oper} {a : Act} {w : World} {Q : Exit → Act → World → Prop} (hw : Region.wanted op (yielded ops a.tmps) = true) (ty : TypeId) (x : Operand) (ho : op.op = .load ty x)
    (b o : Nat) (hx : a.eval x = .pointer (some ⟨b, o, none⟩)) (cs : List Value) (d : TypeDesc) (hc : w.rangeAt b o cs)
    (hu : P.underlying ty = some d) (hd : d.isRow = true) (hi : (P.info? ty).map (·.size) = some cs.length)
    (h : wpList P ops Q rest (a.put op.dst (.agg cs.toArray)) w) : wpList P ops Q (op :: rest) a w := by
  unfold wpList
  rw [if_pos hw]
  exact .inl (wp_load_mid ty x ho b o hx cs d hc hu hd hi h)
theorem bx_lt {W : World} {q : Nat} {o : Obj} (h : W.heap[q]? = some o) : q < W.heap.size := (Array.getElem?_eq_some_iff.1 h).1
theorem bx_cell {w : World} {b o : Nat} {cs : Array Value} {T : TypeId} {v : Value} (hb : w.heap[b]? = some (.cells cs T)) (hv : cs[o]? = some v) : w.cell? ⟨b, o, none⟩ = some v := by rw [Lib.cell_of_heap hb, hv]
theorem bx_row {w : World} {g : Nat} {old : Array Value} {T : TypeId} (cs : Array Value) (h : w.heap[g]? = some (.cells old T)) : (w.setRow g cs).heap[g]? = some (.cells cs T) := by
  simp [World.setRow, Array.getElem?_modify, h]
theorem bx_touch (w : World) (g : Nat) (cs : Array Value) : Touch [g] w (w.setRow g cs) :=
  (Touch.refl [g] w).grown (grown_setRow w g cs) (fun k hk => .inl (by simp [Option.some.inj hk]))
theorem bx_below {w : World} {g B : Nat} (cs : Array Value) (h : B ≤ g) : Below B w (w.setRow g cs) := by
  have t := bx_touch w g cs
  exact ⟨t.os, t.tape, t.output, t.size, fun k hk => by
    simp only [World.setRow]
    rw [Array.getElem?_modify]
    split
    · omega
    · rfl⟩
/-- a new block that was filled at once -/
theorem bx_new (w : World) (old cs : Array Value) (T : TypeId) : Below w.heap.size w ((w.alloc (.cells old T)).setRow w.heap.size cs) := ((Below.refl _ _).alloc (Nat.le_refl _) _).trans (bx_below _ (Nat.le_refl _))
end Go.Proofs.Ythjhfnbcfgkehaa
