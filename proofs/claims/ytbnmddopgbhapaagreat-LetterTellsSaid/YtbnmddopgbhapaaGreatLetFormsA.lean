/-
  Package letter's lists of fields, walked: which field lies where.
-/
import Derived.Test.YtbnmddopgbhapaaGreatLetPuts
import Derived.Deep.RegionHeld3
namespace Go.Proofs.YtbnmddopgbhapaaGreat
open Go.RowKit

set_option maxRecDepth 100000 in
set_option maxHeartbeats 4000000 in
theorem mknum_any (p : Addr) (lo hi : Int) (W : World) :
    Calls Tryz.prog 63 #[.pointer (some p), .int .i64 lo, .int .i64 hi] W fun e w' => e = .returned (.iface 150 (.agg #[.pointer (some p), .int .i64 lo, .int .i64 hi])) ∧ W = w' := by
  go_enter Tryz.func63, Tryz.ntmps63
  go_wp2
  go_ret
  exact ⟨rfl, rfl⟩
set_option maxRecDepth 100000 in
set_option maxHeartbeats 4000000 in
theorem mkerr_any (p : Addr) (lo hi : Int) (W : World) :
    Calls Tryz.prog 64 #[.pointer (some p), .int .i64 lo, .int .i64 hi] W fun e w' => e = .returned (.iface 152 (.agg #[.pointer (some p), .int .i64 lo, .int .i64 hi])) ∧ W = w' := by
  go_enter Tryz.func64, Tryz.ntmps64
  go_wp2
  go_ret
  exact ⟨rfl, rfl⟩
/-- a new list of fields -/
def NewFields (W : World) (fs : List Value) (e : Ending) (w' : World) : Prop :=
  ∃ c, e = .returned (.slice (some ⟨W.heap.size, 0, none⟩) fs.length c) ∧ FieldsAt w' (some ⟨W.heap.size, 0, none⟩) fs ∧ Below W.heap.size W w' ∧ W.heap.size < w'.heap.size
theorem newFields_mk (W w1 : World) (fs : List Value) (n : Nat) (hn : n = fs.length) (g : Nat) (hg : g = W.heap.size) (hw : ∃ k m, w1 = ((W.drewN k).alloc (.cells fs.toArray 95)).drewN m) : NewFields W fs (.returned (.slice (some ⟨g, 0, none⟩) n n)) w1 := by
  obtain ⟨k, m, rfl⟩ := hw
  subst hn hg
  have hw := heap_alloc_new (W.drewN k) (.cells fs.toArray 95)
  refine ⟨fs.length, rfl, ⟨W.heap.size, 0, fun i hi => ⟨rfl, by show _ < (World.alloc _ _).heap.size; simp, ?_⟩⟩, ?_, by show _ < (World.alloc _ _).heap.size; simp⟩
  · show (World.alloc (W.drewN k) _).cell? _ = _
    rw [Lib.cell_of_heap (b := W.heap.size) hw]
    simp [List.getElem?_eq_getElem hi]
  · exact belowN ((belowN (Below.refl _ _) k).alloc (Nat.le_refl _) _) m
def itemFs (b : Nat) : List Value := [textF ⟨b, 0, none⟩, textF ⟨b, 1, none⟩]
set_option maxRecDepth 100000 in
set_option maxHeartbeats 4000000 in
theorem ofItem_any (b : Nat) (W : World) :
    Calls Tryz.prog 119 #[.pointer (some ⟨b, 0, none⟩)] W (NewFields W (itemFs b)) := by
  go_enter Tryz.func119, Tryz.ntmps119
  go_wp2
  go_region_with (fail)
  all_goals (go_wp2; go_ret; exact newFields_mk W _ _ 2 rfl _ rfl ⟨1, 0, rfl⟩)
/-- a list of items -/
abbrev itemsF (p : Addr) : Value := .iface 111 (.agg #[.pointer (some p)])
end Go.Proofs.YtbnmddopgbhapaaGreat
