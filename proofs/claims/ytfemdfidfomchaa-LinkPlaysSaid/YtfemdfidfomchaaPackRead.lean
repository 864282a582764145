/-
  The walks of package pack's Reader: Bad, End, part, number, Num, Text, Wide.
-/
import Derived.Test.YtfemdfidfomchaaPackWrite
import Derived.Test.YtfemdfidfomchaaPackKeep
namespace Go.Proofs.Ytfemdfidfomchaa
open Go.RowKit

/-- is it the empty text? -/
def noneB (s : ByteArray) : Bool := s.toList.isEmpty
theorem noneB_size (s : ByteArray) : noneB s = decide (s.size = 0) := by
  rw [← toList_length, noneB, Bool.eq_iff_iff]; simp
/-- 'make' of no elements and room for n -/
theorem run_make_room (n : Nat) (hn : n ≤ 100000) (W : World) :
    (Instr.makeSlice 137 (.int .i64 0) (.int .i64 (n : Int))).run Try.prog W = .ok (.slice (some ⟨W.heap.size, 0, none⟩) 0 n) (W.alloc (.cells (zcells n) 5)) := by
  obtain ⟨i, hi, hz, h1, h2⟩ := infoByte
  have hr := run_make (P := Try.prog) W 137 5 i (.int .u8 0) Try.underlying137 hi hz .i64 .i64 0 (n : Int) (Int.le_refl _) (by omega) (by rw [h2]; omega) (by omega)
  simp only [Int.toNat_natCast, h1, Int.toNat_zero] at hr
  exact hr
theorem own_room (n : Nat) (hn : n ≤ 100000) (W : World) : (W.alloc (.cells (zcells n) 5)).ownsRow W.heap.size 5 1 (.slice (some ⟨W.heap.size, 0, none⟩) 0 n) 0 [] :=
  ⟨rfl, .inr ⟨W.heap.size, n, zcells n, rfl, Nat.le_refl _, heap_alloc_new W _, Nat.zero_le _, by unfold maxLen; omega, size_madeCells _ _, by simp⟩⟩
theorem take_cell (s : ByteArray) (k : Nat) (h : k < s.size) : (s.data.toList.take k).map cell8 ++ [Value.int .u8 (s[k].toNat : Int)] = (s.data.toList.take (k + 1)).map cell8 := by
  rw [List.take_add_one, get_data s k h, List.map_append]
  rfl
/-- the part that was read -/
def PartIs (W : World) (g : Nat) (s : ByteArray) (n : Nat) (e : Ending) (w' : World) : Prop :=
  ∃ (A : Option Addr) (c : Nat), e = .returned (.slice A n c) ∧ w'.ownsRow W.heap.size 5 1 (.slice A n c) n ((s.data.toList.take n).map cell8) ∧ Rq w' g (s.extract n s.size) true ∧ Gr g W w'

/-- nothing was read, and nothing is left -/
def PartNot (W : World) (g : Nat) (e : Ending) (w' : World) : Prop :=
  e = .returned (.slice none 0 0) ∧ Rq w' g ByteArray.empty false ∧ Gr g W w'

end Go.Proofs.Ytfemdfidfomchaa
