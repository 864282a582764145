/-
  New, Len, has; own: a packet alike.
-/
import Derived.Test.YtokgamagiffaeaaBagBase
import Derived.Deep.QuietTactic
import Derived.BigQuiet
import Derived.Deep.DeepCutAuto
import Derived.Deep.RegionHeld3
namespace Go.Proofs.Ytokgamagiffaeaa
open Go.RowKit

theorem setCell_back {w : World} {b o : Nat} {cs : Array Value} {T : TypeId} {v : Value} (hb : w.heap[b]? = some (.cells cs T)) (hv : cs[o]? = some v) : w.setCell ⟨b, o, none⟩ v = w := by
  have e : cs.setIfInBounds o v = cs := by
    apply Array.ext_getElem?
    intro i
    rw [Array.getElem?_setIfInBounds]
    split
    · rename_i h
      subst h
      split
      · exact hv.symm
      · rename_i h; rw [Array.getElem?_eq_none (by omega)]
    · rfl
  have e2 : (w.setCell ⟨b, o, none⟩ v).heap = w.heap := by
    apply Array.ext_getElem?
    intro i
    simp only [World.setCell]
    rw [Array.getElem?_modify]
    split
    · rename_i h
      subst h
      rw [hb]
      simp [e]
    · rfl
  cases w
  simp only [World.setCell] at e2 ⊢
  rw [e2]

theorem cloneNil_any (W : World) : Calls Try.prog 23 #[.slice none 0 0] W fun e w' => e = .returned (.slice none 0 0) ∧ w' = W := by
  have hq := Lib.run_eql_slice_nil (P := Try.prog) W 29 59 none 0 0 0 0 Try.underlying29
  go_enter Try.func23, Try.ntmps23
  go_wp2
  go_ret
  exact ⟨rfl, rfl⟩

set_option maxRecDepth 20000 in
set_option maxHeartbeats 2000000 in
theorem own_any (p : Pk) (W : World) : Calls Try.prog 18 #[.agg p.cells] W fun e w' => e = .returned (.agg p.cells) ∧ Below W.heap.size W w' := by
  have b1 : ((W.alloc (.cells p.cells 38)).alloc (.cells Pk.zero.cells 38)).heap[W.heap.size]? = some (.cells p.cells 38) := (Lib.alloc_old _ _ _ (by simp)).trans (heap_alloc_new W _)
  have b2 : ((W.alloc (.cells p.cells 38)).alloc (.cells Pk.zero.cells 38)).heap[W.heap.size + 1]? = some (.cells Pk.zero.cells 38) := by
    have := heap_alloc_new (W.alloc (.cells p.cells 38)) (.cells Pk.zero.cells 38)
    simpa using this
  have B2 : Below W.heap.size W ((W.alloc (.cells p.cells 38)).alloc (.cells Pk.zero.cells 38)) := ((Below.refl _ _).alloc (Nat.le_refl _) _).alloc (by simp) _
  have HB := Lib.hid B2
  clear B2
  go_enter Try.func18, Try.ntmps18
  go_upto_region 1 with fail
  obtain ⟨w2, hw2⟩ : ∃ w2, (W.alloc (.cells p.cells 38)).alloc (.cells Pk.zero.cells 38) = w2 := ⟨_, rfl⟩
  rw [hw2] at b1 b2 HB ⊢
  clear hw2
  have c1 : w2.cell? ⟨W.heap.size, 22, none⟩ = some (.slice none 0 0) := bg_cell b1 rfl
  have c2 : w2.cell? ⟨W.heap.size, 15, none⟩ = some (.slice none 0 0) := bg_cell b1 rfl
  have f1 : w2.frozen? ⟨W.heap.size, 22, none⟩ = false := by simp [World.frozen?, b1]
  have f2 : w2.frozen? ⟨W.heap.size, 15, none⟩ = false := by simp [World.frozen?, b1]
  have s1 : w2.setCell ⟨W.heap.size, 22, none⟩ (.slice none 0 0) = w2 := setCell_back b1 rfl
  have s2 : w2.setCell ⟨W.heap.size, 15, none⟩ (.slice none 0 0) = w2 := setCell_back b1 rfl
  have hsz : (Try.prog.info? 38).map (·.size) = some p.cells.size := bg_infoP
  have hone := p.one
  have hold : Pk.zero.cells.size = p.cells.size := rfl
  have HB1 := Lib.hid b1
  have HB2 := Lib.hid b2
  clear b1 b2
  go_wp2_with (first
    | (go_at_call 23; ((with_reducible refine (cloneNil_any _).mono ?_); rintro e w9 ⟨rfl, rfl⟩))
    | (with_reducible (show wpList _ _ _ (⟨some 17, Op.load _ _, _, _, _, _⟩ :: _) _ _); go_must (refine wpList_load_row rfl 38 (.tmp 1) rfl W.heap.size rfl 38 p.cells (0, 0) _ HB1.out Try.underlying38 rfl hsz ?_))
    | (with_reducible (show wpList _ _ _ (⟨none, Op.store _ (Operand.tmp 2) _, _, _, _, _⟩ :: _) _ _); go_must (refine wpList_store_row rfl 38 (.tmp 2) (.tmp 17) rfl (W.heap.size + 1) p.cells rfl rfl 38 Pk.zero.cells HB2.out hsz hold hone ?_)))
  refine bodyPost_ret (bg_result1 rfl _ _ (W.heap.size + 1) p.cells rfl rfl (bg_row _ HB2.out)) rfl ?_
  exact ⟨rfl, HB.out.trans (bg_below _ (by omega))⟩
end Go.Proofs.Ytokgamagiffaeaa
