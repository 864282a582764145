/-
  The walks of package pack's writing: big, Num, Text, Wide, and of the document's own Num and Text.
-/
import Derived.Test.YtfemdfidfomchaaKeyFirst
import Derived.Test.YtfemdfidfomchaaPackPlain
namespace Go.Proofs.Ytfemdfidfomchaa
open Go.RowKit

theorem cell_shift (x e : Nat) : Value.int .u8 ((x : Int) / 2 ^ (8 * e) % 256) = cell8 (UInt8.ofNat (x / 256 ^ e)) := by
  have h : (x : Int) / 2 ^ (8 * e) % 256 = ((x / 256 ^ e % 256 : Nat) : Int) := by
    rw [← pow_shift]; simp
  rw [h]
  unfold cell8
  simp

/-- may the number be written? -/
def okNum (v : Int) : Bool := decide (0 ≤ v) && decide (v ≤ 65535)
/-- a number's bytes, or none -/
def numT (v : Int) : ByteArray := if okNum v then txt (wideN 2 v.toNat) else ByteArray.empty

/-- may the text be written? -/
def okText (s : ByteArray) : Bool := decide (s.size ≤ 255)
/-- a text's bytes, or none -/
def textT (s : ByteArray) : ByteArray := if okText s then txt (wideN 1 s.size) ++ s else ByteArray.empty

/-- 'string' of a row that the walk has just laid -/
theorem run_conv_lit (l : List UInt8) (W : World) (n : Nat) (hn : n = l.length) (hl : l.length ≤ 100000) (C : Array Value) (hC : C = (l.map cell8).toArray) :
    (convert 137 9 (.slice (some ⟨W.heap.size, 0, none⟩) n n)).run Try.prog (W.alloc (.cells C 5)) = .ok (.string (txt l)) (W.alloc (.cells C 5)) := by
  subst hn hC
  have h := World.ownsRow_lit W (l.map cell8).toArray (e := 5) (size := 1) (base := W.heap.size) l.length (Nat.le_refl _) (by unfold maxLen; omega) (by simp)
  rw [List.toList_toArray] at h
  exact run_own_string (P := Try.prog) 137 9 h Try.underlying137 Try.underlying5 Try.underlying9
theorem wide1 (x : Nat) (hx : x ≤ 255) : #[Value.int .u8 (x : Int)] = ((wideN 1 x).map cell8).toArray := by
  simp [wideN, cell8]; omega
theorem wide2 (x : Nat) (hx : x ≤ 65535) : #[Value.int .u8 ((x : Int) / 256), Value.int .u8 ((x : Int) % 256)] = ((wideN 2 x).map cell8).toArray := by
  simp [wideN, cell8]; omega

end Go.Proofs.Ytfemdfidfomchaa
