/-
  The walks of package pack's Reader: number, Num, Text, Wide.
-/
import Derived.Test.YtfemdfidfomchaaPackRead
namespace Go.Proofs.Ytfemdfidfomchaa
open Go.RowKit

/-- a reader of package pack: what is left, or none: it is Bad -/
def RdO (W : World) (g : Nat) (o : Option ByteArray) : Prop := Rq W g (o.getD ByteArray.empty) o.isSome
/-- the number that it reads of n bytes -/
def numO (o : Option ByteArray) (n : Nat) : Nat := match o with
  | some s => if n ≤ s.size then accN s.data.toList n else 0
  | none => 0
/-- what is left behind n bytes -/
def restO (o : Option ByteArray) (n : Nat) : Option ByteArray := match o with
  | some s => if n ≤ s.size then some (s.extract n s.size) else none
  | none => none
theorem numO_lt (o : Option ByteArray) (n : Nat) : numO o n < 256 ^ n := by
  have hp : 0 < 256 ^ n := Nat.pow_pos (by omega)
  unfold numO
  split
  · split
    · exact accN_lt _ _
    · exact hp
  · exact hp
theorem own_some {W : World} {base e n c : Nat} {A : Option Addr} {xs : List Value} (h : W.ownsRow base e 1 (.slice A n c) n xs) (hn : 1 ≤ n) : ∃ q, A = some ⟨q, 0, none⟩ := by
  rcases h.2 with ⟨_, h1⟩ | ⟨g, cap, cur, h0, _⟩
  · omega
  · injection h0 with h1 _ _
    exact ⟨g, h1⟩
theorem or_byte {a b : Nat} (ha : a < 72057594037927936) (hb : b < 256) : bits .or .u64 ((a : Int) * 256) (IntKind.u64.wrap (b : Int)) = ((a * 256 + b : Nat) : Int) := by
  have e1 : IntKind.u64.wrap (b : Int) = (b : Int) := by rw [IntKind.wrap_u64]; omega
  rw [e1, show (a : Int) * 256 = ((a * 256 : Nat) : Int) by simp, u64_or_nat _ _ (by omega) (by omega)]
  congr 1
  have h := or_step (a := a) (b := b) (k := 7) (by omega) hb
  simp only [Nat.reduceSub, Nat.pow_one, Nat.mul_zero, Nat.pow_zero, Nat.mul_one] at h
  exact h

/-- the bytes that it reads as a part of n -/
def partO (o : Option ByteArray) (n : Nat) : ByteArray := match o with
  | some s => if n ≤ s.size then s.extract 0 n else ByteArray.empty
  | none => ByteArray.empty
theorem extract_first (s : ByteArray) (n : Nat) : (s.extract 0 n).data.toList = s.data.toList.take n := by rw [Lib.extract_data, List.drop_zero]; simp
theorem extract_size (s : ByteArray) (n : Nat) (h : n ≤ s.size) : (s.extract n s.size).size = s.size - n := by
  rw [← data_length, Lib.extract_data, List.length_take, List.length_drop, data_length]; omega
theorem extract_rest (s : ByteArray) (n : Nat) : (s.extract n s.size).data.toList = s.data.toList.drop n := by
  rw [Lib.extract_data, List.take_of_length_le (by rw [List.length_drop, data_length]; omega)]
def sizeO (o : Option ByteArray) : Nat := (o.getD ByteArray.empty).size
theorem sizeO_rest (o : Option ByteArray) (n : Nat) : sizeO (restO o n) ≤ sizeO o := by
  cases o with
  | none => exact Nat.le_refl _
  | some s =>
    unfold restO
    simp only
    split
    · rename_i h; show (s.extract n s.size).size ≤ s.size; rw [extract_size s n h]; omega
    · exact Nat.zero_le _

def OwnPart (W : World) (g : Nat) (o : Option ByteArray) (n : Nat) (e : Ending) (w' : World) : Prop :=
  ∃ (A : Option Addr) (m c : Nat), e = .returned (.slice A m c) ∧ w'.ownsRow W.heap.size 5 1 (.slice A m c) m ((partO o n).data.toList.map cell8) ∧ RdO w' g (restO o n) ∧ Gr g W w'
/-- the text that it reads, and what is left -/
def textO (o : Option ByteArray) : ByteArray := partO (restO o 1) (numO o 1)
def restT (o : Option ByteArray) : Option ByteArray := restO (restO o 1) (numO o 1)
theorem sizeO_restT (o : Option ByteArray) : sizeO (restT o) ≤ sizeO o := Nat.le_trans (sizeO_rest _ _) (sizeO_rest _ _)
end Go.Proofs.Ytfemdfidfomchaa
