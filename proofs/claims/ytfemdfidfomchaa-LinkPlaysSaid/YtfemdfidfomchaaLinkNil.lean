/-
  The calls of a link that is nil: nothing is sent, nothing comes, nothing goes again.
-/
import Derived.Test.YtfemdfidfomchaaLinkGot
import Derived.Test.YtfemdfidfomchaaLinkTick
import Derived.Test.YtfemdfidfomchaaLinkAlive
namespace Go.Proofs.Ytfemdfidfomchaa
open Go.RowKit

theorem takesNil_any (p : PR) (W : World) : Calls Try.prog 30 #[.pointer none, .agg p.cells] W fun e w' => e = .returned (.bool false) ∧ Below W.heap.size W w' := by
  have B1 : Below W.heap.size W (W.alloc (.cells p.cells 53)) := (Below.refl _ _).alloc (Nat.le_refl _) _
  obtain ⟨w1, hw1⟩ : ∃ w1, W.alloc (.cells p.cells 53) = w1 := ⟨_, rfl⟩
  rw [hw1] at B1
  have CL : Hid (∀ n, Calls Try.prog 26 #[.pointer none] (w1.drewN n) fun e w' => e = .returned (.bool false) ∧ w' = w1.drewN n) := fun n => leadsNil_any _
  have HB := Lib.hid B1
  clear B1
  go_enter Try.func30, Try.ntmps30
  go_upto_region 1 with fail
  clear hw1
  go_quiet ((go_at_call 26; exact Calls.quiet_of_same (CL.out _)))
  go_wp2
  go_ret
  exact ⟨rfl, below_drewN HB.out _⟩
set_option maxRecDepth 20000 in
theorem gotNil_any (W : World) (p : PR) :
    Calls Try.prog 17 #[.pointer none, .agg p.cells] W fun e w' => e = .returned (.tuple #[.slice none 0 0, .agg (lpCells 0 0 0 0 0 0), .bool false]) ∧ Below W.heap.size W w' := by
  have B2 : Below W.heap.size W ((W.alloc (.cells p.cells 53)).alloc (.cells (lpCells 0 0 0 0 0 0) 53)) := ((Below.refl _ _).alloc (Nat.le_refl _) _).alloc (by simp) _
  have b1 : ((W.alloc (.cells p.cells 53)).alloc (.cells (lpCells 0 0 0 0 0 0) 53)).heap[W.heap.size]? = some (.cells p.cells 53) := (Lib.alloc_old _ _ _ (by simp)).trans (heap_alloc_new W _)
  have b2 : ((W.alloc (.cells p.cells 53)).alloc (.cells (lpCells 0 0 0 0 0 0) 53)).heap[W.heap.size + 1]? = some (.cells (lpCells 0 0 0 0 0 0) 53) := by
    have := heap_alloc_new (W.alloc (.cells p.cells 53)) (.cells (lpCells 0 0 0 0 0 0) 53)
    simpa using this
  obtain ⟨w2, hw2⟩ : ∃ w2, (W.alloc (.cells p.cells 53)).alloc (.cells (lpCells 0 0 0 0 0 0) 53) = w2 := ⟨_, rfl⟩
  rw [hw2] at B2 b1 b2
  have CT := Lib.hid (takesNil_any p w2)
  have HY1 := Lib.hid b1
  have HY2 := Lib.hid b2
  have HB2 := Lib.hid B2
  have hsz : (Try.prog.info? 53).map (·.size) = some p.cells.size := bg_infoP
  have hszz : (Try.prog.info? 53).map (·.size) = some (lpCells 0 0 0 0 0 0).size := bg_infoP
  have honez : (lpCells 0 0 0 0 0 0).all (·.oneCell') = true := by simp [Value.oneCell']
  clear b1 b2 B2
  go_enter Try.func17, Try.ntmps17
  go_upto_region 1 with fail
  clear hw2
  go_wp2_with (first
    | (with_reducible (show wpList _ _ _ (⟨some 9, Op.load _ _, _, _, _, _⟩ :: _) _ _); go_must (refine wpList_load_row rfl 53 (.tmp 3) rfl W.heap.size rfl 53 p.cells (0, 0) _ HY1.out Try.underlying53 rfl hsz ?_))
    | (go_at_call 30; (with_reducible refine CT.out.mono ?_); rintro e w3 ⟨rfl, hb3⟩; have y3 := (hb3.block _ (bg_lt HY2.out)).trans HY2.out; have HB3 := Lib.hid hb3; clear hb3)
    | (with_reducible (show wpList _ _ _ (⟨none, Op.store _ (Operand.tmp 5) _, _, _, _, _⟩ :: _) _ _); go_must (refine wpList_store_row rfl 53 (.tmp 5) (.tmp 12) rfl (W.heap.size + 1) (lpCells 0 0 0 0 0 0) rfl rfl 53 (lpCells 0 0 0 0 0 0) y3 hszz rfl honez ?_)))
  refine bodyPost_ret (bg_results3 rfl _ _ (W.heap.size + 1) (lpCells 0 0 0 0 0 0) (.bool false) (.slice none 0 0) rfl rfl rfl (bg_loadVar _ _ _ rfl (bg_row _ y3))) rfl ?_
  exact ⟨rfl, (acc HB2.out HB3.out).trans (bg_below _ (by omega))⟩
theorem tickNil_any (W : World) : Calls Try.prog 15 #[.pointer none] W fun e w' => e = .returned (.slice none 0 0) ∧ w' = W := by
  have CL := Lib.hid (leadsNil_any W)
  go_enter Try.func15, Try.ntmps15
  go_wp2_with (go_at_call 26; (with_reducible refine (CL.out).mono ?_); rintro e w1 ⟨rfl, rfl⟩)
  go_ret
  exact ⟨rfl, rfl⟩
set_option maxRecDepth 20000 in
theorem sendNil_any (W : World) (r : LR) : Calls Try.prog 13 #[.pointer none, .agg r.cells] W fun e w' => e = .returned (.agg (lpCells 0 0 0 0 0 0)) ∧ Below W.heap.size W w' := by
  have B2 : Below W.heap.size W ((W.alloc (.cells r.cells 51)).alloc (.cells (lpCells 0 0 0 0 0 0) 53)) := ((Below.refl _ _).alloc (Nat.le_refl _) _).alloc (by simp) _
  have b2 : ((W.alloc (.cells r.cells 51)).alloc (.cells (lpCells 0 0 0 0 0 0) 53)).heap[W.heap.size + 1]? = some (.cells (lpCells 0 0 0 0 0 0) 53) := by
    have := heap_alloc_new (W.alloc (.cells r.cells 51)) (.cells (lpCells 0 0 0 0 0 0) 53)
    simpa using this
  obtain ⟨w2, hw2⟩ : ∃ w2, (W.alloc (.cells r.cells 51)).alloc (.cells (lpCells 0 0 0 0 0 0) 53) = w2 := ⟨_, rfl⟩
  rw [hw2] at B2 b2
  have CL : Hid (∀ w, Calls Try.prog 26 #[.pointer none] w fun e w' => e = .returned (.bool false) ∧ w' = w) := fun w => leadsNil_any w
  have hszz : (Try.prog.info? 53).map (·.size) = some (lpCells 0 0 0 0 0 0).size := bg_infoP
  have honez : (lpCells 0 0 0 0 0 0).all (·.oneCell') = true := by simp [Value.oneCell']
  have HY2 := Lib.hid b2
  have HB2 := Lib.hid B2
  clear b2 B2
  go_enter Try.func13, Try.ntmps13
  go_upto_region 1 with fail
  clear hw2
  go_wp2_with (first
    | (go_at_call 26; (with_reducible refine (CL.out _).mono ?_); rintro e w3 ⟨rfl, hw3⟩; subst hw3)
    | (with_reducible (show wpList _ _ _ (⟨none, Op.store _ (Operand.tmp 4) _, _, _, _, _⟩ :: _) _ _); go_must (refine wpList_store_row rfl 53 (.tmp 4) (.tmp 8) rfl (W.heap.size + 1) (lpCells 0 0 0 0 0 0) rfl rfl 53 (lpCells 0 0 0 0 0 0) HY2.out hszz rfl honez ?_)))
  refine bodyPost_ret (bg_result1 rfl _ _ (W.heap.size + 1) (lpCells 0 0 0 0 0 0) rfl rfl (bg_row _ HY2.out)) rfl ?_
  exact ⟨rfl, HB2.out.trans (bg_below _ (by omega))⟩
end Go.Proofs.Ytfemdfidfomchaa
