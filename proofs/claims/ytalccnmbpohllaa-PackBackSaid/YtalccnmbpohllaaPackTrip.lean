/-
  Plain facts: numbers, texts and great numbers written in turn, and read back.
-/
import Derived.Test.YtalccnmbpohllaaPackCat
namespace Go.Proofs.Ytalccnmbpohllaa
open Go.RowKit

def numPart (zs : List Int) (i : Nat) : ByteArray := if i < zs.length then numT (zs.getD i 0) else ByteArray.empty
def textPart (ss : List ByteArray) (i : Nat) : ByteArray := if i < ss.length then textT (ss.getD i ByteArray.empty) else ByteArray.empty
def widePart (us : List Int) (i : Nat) : ByteArray := if i < us.length then txt (wideN 8 (us.getD i 0).toNat) else ByteArray.empty
def itemB (zs : List Int) (ss : List ByteArray) (us : List Int) (i : Nat) : ByteArray := numPart zs i ++ (textPart ss i ++ widePart us i)
def catB (zs : List Int) (ss : List ByteArray) (us : List Int) : Nat → ByteArray
  | 0 => ByteArray.empty
  | i + 1 => catB zs ss us i ++ itemB zs ss us i
def restB (zs : List Int) (ss : List ByteArray) (us : List Int) : Nat → Nat → ByteArray
  | _, 0 => ByteArray.empty
  | i, k + 1 => itemB zs ss us i ++ restB zs ss us (i + 1) k
theorem catB_rest (zs : List Int) (ss : List ByteArray) (us : List Int) : ∀ k i, catB zs ss us i ++ restB zs ss us i k = catB zs ss us (i + k)
  | 0, i => by rw [restB, append_empty]; rfl
  | k + 1, i => by
    rw [restB, ← append_assoc, show i + (k + 1) = (i + 1) + k by omega, ← catB_rest zs ss us k (i + 1), catB]
theorem catB_all (zs : List Int) (ss : List ByteArray) (us : List Int) (n : Nat) : restB zs ss us 0 n = catB zs ss us n := by
  have h := catB_rest zs ss us n 0
  rw [catB, empty_append, Nat.zero_add] at h
  exact h
theorem numT_le (v : Int) : (numT v).size ≤ 2 := by
  unfold numT; split
  · rw [txt_size, wideN_length]; exact Nat.le_refl _
  · exact Nat.zero_le _
theorem textT_le (s : ByteArray) : (textT s).size ≤ 256 := by
  unfold textT; split
  · rename_i h
    have := okText_le h
    rw [size_append, txt_size, wideN_length]; omega
  · exact Nat.zero_le _
theorem wideT_le (x : Nat) : (txt (wideN 8 x)).size ≤ 8 := by rw [txt_size, wideN_length]; exact Nat.le_refl _
theorem numPart_le (zs : List Int) (i : Nat) : (numPart zs i).size ≤ 2 := by
  unfold numPart; split
  · exact numT_le _
  · exact Nat.zero_le _
theorem textPart_le (ss : List ByteArray) (i : Nat) : (textPart ss i).size ≤ 256 := by
  unfold textPart; split
  · exact textT_le _
  · exact Nat.zero_le _
theorem widePart_le (us : List Int) (i : Nat) : (widePart us i).size ≤ 8 := by
  unfold widePart; split
  · exact wideT_le _
  · exact Nat.zero_le _
theorem itemB_le (zs : List Int) (ss : List ByteArray) (us : List Int) (i : Nat) : (itemB zs ss us i).size ≤ 266 := by
  have h1 := numPart_le zs i
  have h2 := textPart_le ss i
  have h3 := widePart_le us i
  rw [itemB, size_append, size_append]; omega
theorem restB_le (zs : List Int) (ss : List ByteArray) (us : List Int) : ∀ k i, (restB zs ss us i k).size ≤ 266 * k
  | 0, _ => Nat.le_refl _
  | k + 1, i => by
    have h1 := itemB_le zs ss us i
    have h2 := restB_le zs ss us k (i + 1)
    rw [restB, size_append]; omega
/-- may all of round i be written? -/
def OkAt (zs : List Int) (ss : List ByteArray) (i : Nat) : Prop := (i < zs.length → okNum (zs.getD i 0) = true) ∧ (i < ss.length → okText (ss.getD i ByteArray.empty) = true)
/-- what one round reads -/
def Steps (zs : List Int) (ss : List ByteArray) (us : List Int) (i : Nat) (A B C D : ByteArray) : Prop :=
  (i < zs.length → ((numO (some A) 2 : Nat) : Int) = zs.getD i 0 ∧ restO (some A) 2 = some B) ∧ (¬ i < zs.length → A = B) ∧
  (i < ss.length → textO (some B) = ss.getD i ByteArray.empty ∧ restT (some B) = some C) ∧ (¬ i < ss.length → B = C) ∧
  (i < us.length → ((numO (some C) 8 : Nat) : Int) = us.getD i 0 ∧ restO (some C) 8 = some D) ∧ (¬ i < us.length → C = D) ∧
  A.size ≤ 100000 ∧ B.size ≤ 100000 ∧ C.size ≤ 100000
theorem steps (zs : List Int) (ss : List ByteArray) (us : List Int) (i k : Nat) (hk : k ≤ 100) (ho : OkAt zs ss i) (hu : i < us.length → 0 ≤ us.getD i 0 ∧ us.getD i 0 ≤ 18446744073709551615) :
    ∃ B C, Steps zs ss us i (restB zs ss us i (k + 1)) B C (restB zs ss us (i + 1) k) := by
  have h1 := numPart_le zs i
  have h2 := textPart_le ss i
  have h3 := widePart_le us i
  have h4 := restB_le zs ss us k (i + 1)
  have e : restB zs ss us i (k + 1) = numPart zs i ++ (textPart ss i ++ (widePart us i ++ restB zs ss us (i + 1) k)) := by rw [restB, itemB, append_assoc, append_assoc]
  refine ⟨textPart ss i ++ (widePart us i ++ restB zs ss us (i + 1) k), widePart us i ++ restB zs ss us (i + 1) k, ?_, ?_, ?_, ?_, ?_, ?_, ?_, ?_, ?_⟩
  · intro h
    rw [e, numPart, if_pos h]
    exact num_back _ _ (ho.1 h)
  · intro h
    rw [e, numPart, if_neg h, empty_append]
  · intro h
    rw [textPart, if_pos h]
    exact text_back _ _ (ho.2 h)
  · intro h
    rw [textPart, if_neg h, empty_append]
  · intro h
    obtain ⟨u0, u1⟩ := hu h
    rw [widePart, if_pos h]
    obtain ⟨a, b⟩ := wide_back 8 (us.getD i 0).toNat (restB zs ss us (i + 1) k) (by omega)
    exact ⟨by rw [a]; omega, b⟩
  · intro h
    rw [widePart, if_neg h, empty_append]
  · rw [e, size_append, size_append, size_append]; omega
  · rw [size_append, size_append]; omega
  · rw [size_append]; omega
end Go.Proofs.Ytalccnmbpohllaa
