/-
  The code's own shelf in memory (SH); the walks of ready, New, Len.
-/
import Derived.Test.YtojiblhaiokdcaaTreeMend
import Derived.Test.YtojiblhaiokdcaaShelfLaws
namespace Go.Proofs.Ytojiblhaiokdcaa
open Go.RowKit

def optPtr : Option Nat → Value
  | none => .pointer none
  | some g => .pointer (some ⟨g, 0, none⟩)
/-- a shelf's four cells -/
structure ShX (W : World) (gs : Nat) (top : Option Nat) (n most : Int) : Prop where
  lt : gs < W.heap.size
  c0 : W.cell? ⟨gs, 0, none⟩ = some (optPtr top)
  c1 : W.cell? ⟨gs, 1, none⟩ = some (.int .i64 n)
  c2 : W.cell? ⟨gs, 2, none⟩ = some (.int .i64 most)
  c3 : W.cell? ⟨gs, 3, none⟩ = some (.bool true)
  f0 : W.frozen? ⟨gs, 0, none⟩ = false
  f1 : W.frozen? ⟨gs, 1, none⟩ = false
theorem ShX.touch {W W1 : World} {gs : Nat} {top : Option Nat} {n most : Int} {G : List Nat} (h : ShX W gs top n most) (ht : Touch G W W1) (hg : gs ∉ G) : ShX W1 gs top n most :=
  ⟨Nat.lt_of_lt_of_le h.lt ht.size, (ht.cell (p := ⟨gs, 0, none⟩) h.lt hg).trans h.c0, (ht.cell (p := ⟨gs, 1, none⟩) h.lt hg).trans h.c1, (ht.cell (p := ⟨gs, 2, none⟩) h.lt hg).trans h.c2, (ht.cell (p := ⟨gs, 3, none⟩) h.lt hg).trans h.c3,
    (ht.frozen (p := ⟨gs, 0, none⟩) h.lt hg).trans h.f0, (ht.frozen (p := ⟨gs, 1, none⟩) h.lt hg).trans h.f1⟩
theorem ShX.set0 {W : World} {gs : Nat} {top top' : Option Nat} {n most : Int} (h : ShX W gs top n most) : ShX (W.setCell ⟨gs, 0, none⟩ (optPtr top')) gs top' n most := by
  obtain ⟨a, b, c, d, e, f, g⟩ := h
  refine ⟨by simpa [World.setCell] using a, World.cell?_setCell_same _ _ _ b, ?_, ?_, ?_, ?_, ?_⟩
  · rw [World.cell?_setCell_other _ _ _ _ (by simp)]; exact c
  · rw [World.cell?_setCell_other _ _ _ _ (by simp)]; exact d
  · rw [World.cell?_setCell_other _ _ _ _ (by simp)]; exact e
  · rw [World.frozen?_setCell]; exact f
  · rw [World.frozen?_setCell]; exact g
theorem ShX.set1 {W : World} {gs : Nat} {top : Option Nat} {n n' most : Int} (h : ShX W gs top n most) : ShX (W.setCell ⟨gs, 1, none⟩ (.int .i64 n')) gs top n' most := by
  obtain ⟨a, b, c, d, e, f, g⟩ := h
  refine ⟨by simpa [World.setCell] using a, ?_, World.cell?_setCell_same _ _ _ c, ?_, ?_, ?_, ?_⟩
  · rw [World.cell?_setCell_other _ _ _ _ (by simp)]; exact b
  · rw [World.cell?_setCell_other _ _ _ _ (by simp)]; exact d
  · rw [World.cell?_setCell_other _ _ _ _ (by simp)]; exact e
  · rw [World.frozen?_setCell]; exact f
  · rw [World.frozen?_setCell]; exact g
/-- SH W gs most l F: in W the pointer to block gs is a shelf for so many items, l is in it; F: all its blocks -/
def SH (W : World) (gs : Nat) (most : Int) (l : List Item) (F : List Nat) : Prop :=
  ∃ top m F1, ShX W gs top (l.length : Nat) most ∧ Sto W m F1 ∧ gs ∉ F1 ∧ F = gs :: F1 ∧ TreeIs m top l ∧ Rising l ∧ (l.length : Int) ≤ most ∧ most ≤ 200
theorem SH.touch {W W1 : World} {gs : Nat} {most : Int} {l : List Item} {F G : List Nat} (h : SH W gs most l F) (ht : Touch G W W1) (hG : ∀ q ∈ F, q ∉ G) : SH W1 gs most l F := by
  obtain ⟨top, m, F1, a, b, c, rfl, d⟩ := h
  exact ⟨top, m, F1, a.touch ht (hG gs (by simp)), b.touch ht (fun q hq => hG q (by simp [hq])), c, rfl, d⟩
theorem SH.ltF {W : World} {gs : Nat} {most : Int} {l : List Item} {F : List Nat} (h : SH W gs most l F) : ∀ q ∈ F, q < W.heap.size := by
  obtain ⟨top, m, F1, a, b, c, rfl, d⟩ := h
  intro q hq
  rcases List.mem_cons.1 hq with e | e
  · rw [e]; exact a.lt
  · exact b.lt q e

set_option maxHeartbeats 1000000 in
theorem ready_any (gs : Nat) {top : Option Nat} {n most : Int} (W : World) (h : ShX W gs top n most) :
    Calls Try.prog 33 #[.pointer (some ⟨gs, 0, none⟩)] W fun e w => e = .returned (.bool true) ∧ W = w := by
  obtain ⟨a, b, c, d, e, f, g⟩ := h
  go_enter Try.func33, Try.ntmps33
  go_wp2
  go_ret
  exact ⟨rfl, rfl⟩
set_option maxHeartbeats 1000000 in
theorem ready_nil (W : World) :
    Calls Try.prog 33 #[.pointer none] W fun e w => e = .returned (.bool false) ∧ W = w := by
  go_enter Try.func33, Try.ntmps33
  go_wp2
  go_ret
  exact ⟨rfl, rfl⟩
def NewPost (W : World) (most : Int) (e : Ending) (w' : World) : Prop :=
  ∃ g F, e = .returned (.pointer (some ⟨g, 0, none⟩)) ∧ SH w' g (min (max most 0) 200) [] F ∧ (∀ q ∈ F, W.heap.size ≤ q) ∧ Below W.heap.size W w'
theorem new_end (W : World) (most r : Int) (hr : r = min (max most 0) 200) (T : TypeId) : NewPost W most (.returned (.pointer (some ⟨W.heap.size, 0, none⟩))) (W.alloc (.cells #[.pointer none, .int .i64 0, .int .i64 r, .bool true] T)) := by
  subst hr
  exact ⟨W.heap.size, [W.heap.size], rfl, ⟨none, fun _ => none, [], ⟨by simp, by go_simp; rfl, by go_simp, by go_simp, by go_simp, by go_simp, by go_simp⟩, Sto.empty _, by simp, rfl, rfl, Rising.nil, by simp; omega, by omega⟩, by simp, (Below.refl _ _).alloc (Nat.le_refl _) _⟩
set_option maxHeartbeats 1000000 in
theorem shNew_any (W : World) (most : Int) (h0 : -9223372036854775808 ≤ most) (h1 : most ≤ 9223372036854775807) : Calls Try.prog 11 #[.int .i64 most] W (NewPost W most) := by
  go_enter Try.func11, Try.ntmps11
  go_wp2
  all_goals
    go_ret
    refine new_end W most _ ?_ _
    first | omega | (split at * <;> omega)
set_option maxHeartbeats 1000000 in
theorem shLen_any {W : World} {gs : Nat} {most : Int} {l : List Item} {F : List Nat} (h : SH W gs most l F) :
    Calls Try.prog 14 #[.pointer (some ⟨gs, 0, none⟩)] W fun e w' => e = .returned (.int .i64 (l.length : Nat)) ∧ Below W.heap.size W w' := by
  obtain ⟨top, m, F1, hX, -⟩ := h
  have CR := Lib.hid (ready_any gs W hX)
  have c1 := hX.c1
  generalize ((l.length : Nat) : Int) = n at *
  clear hX
  go_enter Try.func14, Try.ntmps14
  go_wp2_with (go_at_call 33; ((with_reducible refine (CR.out).mono ?_); rintro e w1 ⟨rfl, rfl⟩))
  go_ret
  exact ⟨rfl, Below.refl _ _⟩
end Go.Proofs.Ytojiblhaiokdcaa
