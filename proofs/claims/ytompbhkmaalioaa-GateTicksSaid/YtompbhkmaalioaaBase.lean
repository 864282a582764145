/-
  Small words for every walk of this seat: a text made of a row of bytes that the call owns; a closed fact on the bytes' type.
-/
import Derived.Test.YtompbhkmaalioaaRows
import Derived.WalkKit
import Derived.WalkSpells
import Derived.WalkLawsBesides
import Derived.Deep.LoopGhost
import Derived.Laws.IdiomStrings
import Derived.Laws.BitsAllLaws
import Derived.Lib.Strings
import Derived.Lib.Hide
namespace Go.Proofs.Ytompbhkmaalioaa
open Go.RowKit

/-- a byte as a cell -/
def cell8 (b : UInt8) : Value := .int .u8 (b.toNat : Int)
/-- a text of bytes -/
def txt (l : List UInt8) : ByteArray := ⟨l.toArray⟩
theorem txt_toList (l : List UInt8) : (txt l).toList = l := by rw [Lib.toList_data]; simp [txt]
theorem txt_data (l : List UInt8) : (txt l).data.toList = l := by simp [txt]
theorem txt_size (l : List UInt8) : (txt l).size = l.length := by show l.toArray.size = _; simp
theorem txt_of (s : ByteArray) : txt s.data.toList = s := by cases s; simp [txt]
theorem data_length (s : ByteArray) : s.data.toList.length = s.size := rfl
theorem toList_length (s : ByteArray) : s.toList.length = s.size := by rw [Lib.toList_data]; rfl
theorem data_append (a b : ByteArray) : (a ++ b).data.toList = a.data.toList ++ b.data.toList := by rw [ByteArray.data_append, Array.toList_append]
theorem size_append (a b : ByteArray) : (a ++ b).size = a.size + b.size := by rw [← data_length, data_append, List.length_append, data_length, data_length]
theorem get_data (s : ByteArray) (k : Nat) (h : k < s.size) : s.data.toList[k]? = some (s[k]) := by
  rw [List.getElem?_eq_getElem (by rw [data_length]; exact h)]; rfl

/-- 'string(b)' of a row that the call owns -/
theorem run_own_string {P : Program} {w : World} {base e : Nat} {A : Option Addr} {n c : Nat} {l : List UInt8} (src dst : TypeId)
    (hown : w.ownsRow base e 1 (.slice A n c) n (l.map cell8)) (hs : P.underlying src = some (.slice e)) (he : P.underlying e = some (.int .u8)) (hd : P.underlying dst = some .string) :
    (convert src dst (.slice A n c)).run P w = .ok (.string (txt l)) w := by
  have hn : l.length = n := by have := hown.1; simpa using this
  rcases A with _ | ad
  · rcases hown.2 with ⟨h0, h1⟩ | ⟨g, cap, cur, h0, _⟩
    · injection h0 with _ h2 h3
      subst h2 h3
      have : l = [] := List.eq_nil_of_length_eq_zero hn
      subst this
      rw [run_convert_bytes_string w src dst e none 0 0 hs he hd]
      rfl
    · cases h0
  · rcases hown.2 with ⟨h0, h1⟩ | ⟨g, cap, cur, h0, hg, hh, _⟩
    · cases h0
    · injection h0 with h1 h2 h3
      injection h1 with h1
      subst h1
      rw [← hn]
      refine run_convert_bytes_back w src dst e _ c l hs he hd (fun j hj => ?_)
      have hc := hown.cells (g := g) rfl j (cell8 l[j]) (by simp [List.getElem?_eq_getElem hj])
      exact hc

theorem own_slice {w : World} {base e size n : Nat} {v : Value} {xs : List Value} (h : w.ownsRow base e size v n xs) : ∃ A c, v = .slice A n c := by
  rcases h.2 with ⟨rfl, rfl⟩ | ⟨g, cap, cur, rfl, _⟩
  · exact ⟨_, _, rfl⟩
  · exact ⟨_, _, rfl⟩
theorem own_below {w w0 : World} {base e size n : Nat} {v : Value} {xs : List Value} (h : w.ownsRow base e size v n xs) (hb : Below base w0 w) (hs : base ≤ w.heap.size) {w' : World} (hg : w.grownBy w' v.ownBlock) : Below base w0 w' :=
  hb.grown hg hs fun k hk => (h.lt k hk).1

theorem infoByte : ∃ i, Try.prog.info? 5 = some i ∧ i.zero = some (.int .u8 0) ∧ i.size = 1 ∧ i.bytes = 1 := by
  have h : (Try.prog.info? 5).map (fun i => (i.zero, i.size, i.bytes)) = some (some (.int .u8 0), 1, 1) := by kernel_rfl
  obtain ⟨i, hi, hx⟩ := Option.map_eq_some_iff.1 h
  simp only [Prod.mk.injEq] at hx
  exact ⟨i, hi, hx⟩

/-- the cells of a new row of n bytes -/
def zcells (n : Nat) : Array Value := madeCells (Value.int .u8 0).cells (n * 1)
theorem zcells_list (n : Nat) : (zcells n).toList = (List.replicate n (0 : UInt8)).map cell8 := by
  rw [zcells, show (Value.int .u8 0).cells = #[.int .u8 0] from rfl, Nat.mul_one, toList_madeCells_one, List.map_replicate]
  rfl
theorem own_zcells (n : Nat) (hn : n ≤ 100000) (W : World) : (W.alloc (.cells (zcells n) 5)).ownsRow W.heap.size 5 1 (.slice (some ⟨W.heap.size, 0, none⟩) n n) n ((List.replicate n (0 : UInt8)).map cell8) := by
  rw [← zcells_list]
  exact World.ownsRow_lit W _ n (Nat.le_refl _) (by unfold maxLen; omega) (size_madeCells _ _)
end Go.Proofs.Ytompbhkmaalioaa
