/-
  LetterLimits' three closures, walked.
-/
import Derived.Test.YtbnmddopgbhapaaLetLawE
namespace Go.Proofs.Ytbnmddopgbhapaa
open Go.RowKit

set_option maxRecDepth 20000 in
theorem lim1_any (p g : Nat) (cs : Array Value) (old s : ByteArray) (W : World) (hb : W.heap[p]? = some (.cells cs 32)) (ho : cs[5]? = some (.string old)) (hg : At W ⟨g, 0, none⟩ (.string s)) :
    Calls Try.prog 22 #[.pointer (some ⟨p, 0, none⟩), .pointer (some ⟨g, 0, none⟩)] W fun e w' => e = .returned (.tuple #[]) ∧ W.setCell ⟨p, 5, none⟩ (.string s) = w' := by
  have hbl := lt_of_heap hb
  have c1 : W.cell? ⟨p, 5, none⟩ = some (.string old) := cell_at hb ho
  have c2 : W.frozen? ⟨p, 5, none⟩ = false := by simp [World.frozen?, hb]
  have c3 := hg.2
  clear hb ho hg
  go_enter Try.func22, Try.ntmps22
  go_wp2
  go_end0
  exact ⟨rfl, rfl⟩
set_option maxRecDepth 20000 in
theorem lim2_any (p g : Nat) (cs : Array Value) (old s : ByteArray) (W : World) (hb : W.heap[p]? = some (.cells cs 32)) (ho : cs[13]? = some (.string old)) (hg : At W ⟨g, 0, none⟩ (.string s)) :
    Calls Try.prog 23 #[.pointer (some ⟨p, 0, none⟩), .pointer (some ⟨g, 0, none⟩)] W fun e w' => e = .returned (.tuple #[]) ∧ W.setCell ⟨p, 13, none⟩ (.string s) = w' := by
  have hbl := lt_of_heap hb
  have c1 : W.cell? ⟨p, 13, none⟩ = some (.string old) := cell_at hb ho
  have c2 : W.frozen? ⟨p, 13, none⟩ = false := by simp [World.frozen?, hb]
  have c3 := hg.2
  clear hb ho hg
  go_enter Try.func23, Try.ntmps23
  go_wp2
  go_end0
  exact ⟨rfl, rfl⟩
set_option maxRecDepth 20000 in
theorem lim3_any (p g : Nat) (cs : Array Value) (old : Value) (s : ByteArray) (W : World) (hb : W.heap[p]? = some (.cells cs 32)) (ho : cs[18]? = some old) (hold : ∃ A n c, old = .slice A n c) (hg : At W ⟨g, 0, none⟩ (.string s)) :
    Calls Try.prog 24 #[.pointer (some ⟨p, 0, none⟩), .pointer (some ⟨g, 0, none⟩)] W fun e w' => e = .returned (.tuple #[]) ∧ (W.setCell ⟨p, 18, none⟩ (.slice (some ⟨W.heap.size, 0, none⟩) 1 1)).alloc (.cells #[.string ⟨#[]⟩, .string s] 56) = w' := by
  obtain ⟨A, n, c, rfl⟩ := hold
  have hbl := lt_of_heap hb
  have hb1 := (Lib.alloc_old W (.cells #[.string ⟨#[]⟩, .string s] 56) p hbl).trans hb
  have c1 : (W.alloc (.cells #[.string ⟨#[]⟩, .string s] 56)).cell? ⟨p, 18, none⟩ = some (.slice A n c) := cell_at hb1 ho
  have c2 : (W.alloc (.cells #[.string ⟨#[]⟩, .string s] 56)).frozen? ⟨p, 18, none⟩ = false := by simp [World.frozen?, hb1]
  have c3 := hg.2
  clear hb ho hg hb1
  go_enter Try.func24, Try.ntmps24
  go_wp2
  go_end0
  exact ⟨rfl, rfl⟩
end Go.Proofs.Ytbnmddopgbhapaa
