/-
  Plain facts: what package pack writes is read back as it was.
-/
import Derived.Test.YtfemdfidfomchaaPackAlive
namespace Go.Proofs.Ytfemdfidfomchaa
open Go.RowKit

theorem ba_ext {a b : ByteArray} (h : a.data.toList = b.data.toList) : a = b := by rw [← txt_of a, ← txt_of b, h]
theorem empty_data : ByteArray.empty.data.toList = [] := rfl
theorem rest_append (a b : ByteArray) (n : Nat) (h : a.size = n) : (a ++ b).extract n (a ++ b).size = b := by
  apply ba_ext
  rw [extract_rest, data_append, List.drop_append_of_le_length (by rw [data_length]; omega), List.drop_of_length_le (by rw [data_length]; omega), List.nil_append]
theorem first_append (a b : ByteArray) (n : Nat) (h : a.size = n) : (a ++ b).extract 0 n = a := by
  apply ba_ext
  rw [extract_first, data_append, List.take_append_of_le_length (by rw [data_length]; omega), List.take_of_length_le (by rw [data_length]; omega)]
/-- a number of n bytes is read back -/
theorem wide_back (n x : Nat) (rest : ByteArray) (hx : x < 256 ^ n) : numO (some (txt (wideN n x) ++ rest)) n = x ∧ restO (some (txt (wideN n x) ++ rest)) n = some rest := by
  have hz : (txt (wideN n x)).size = n := by rw [txt_size, wideN_length]
  have hle : n ≤ (txt (wideN n x) ++ rest).size := by rw [size_append]; omega
  constructor
  · simp only [numO, if_pos hle]
    rw [data_append, txt_data, accN_wide, Nat.mod_eq_of_lt hx]
  · simp only [restO, if_pos hle]
    rw [rest_append _ _ _ hz]
theorem num_back (v : Int) (rest : ByteArray) (h : okNum v = true) : (numO (some (numT v ++ rest)) 2 : Int) = v ∧ restO (some (numT v ++ rest)) 2 = some rest := by
  have h' := h
  simp [okNum] at h'
  obtain ⟨x, rfl⟩ := Int.eq_ofNat_of_zero_le h'.1
  rw [numT, if_pos h, Int.toNat_natCast]
  obtain ⟨e, f⟩ := wide_back 2 x rest (by omega)
  exact ⟨by rw [e], f⟩
theorem text_back (s rest : ByteArray) (h : okText s = true) : textO (some (textT s ++ rest)) = s ∧ restT (some (textT s ++ rest)) = some rest := by
  have h' := h
  simp [okText] at h'
  rw [textT, if_pos h]
  obtain ⟨e, f⟩ := wide_back 1 s.size (s ++ rest) (by omega)
  have a : txt (wideN 1 s.size) ++ s ++ rest = txt (wideN 1 s.size) ++ (s ++ rest) := by
    apply ba_ext; rw [data_append, data_append, data_append, data_append, List.append_assoc]
  have hle : s.size ≤ (s ++ rest).size := by rw [size_append]; omega
  rw [a, textO, restT, e, f]
  constructor
  · simp only [partO, if_pos hle]
    exact first_append s rest _ rfl
  · simp only [restO, if_pos hle]
    rw [rest_append s rest _ rfl]
theorem append_empty (a : ByteArray) : a ++ ByteArray.empty = a := by
  apply ba_ext; rw [data_append, empty_data, List.append_nil]
theorem empty_append (a : ByteArray) : ByteArray.empty ++ a = a := by
  apply ba_ext; rw [data_append, empty_data, List.nil_append]
theorem append_assoc (a b c : ByteArray) : a ++ b ++ c = a ++ (b ++ c) := by
  apply ba_ext; rw [data_append, data_append, data_append, data_append, List.append_assoc]
theorem textT_size (s : ByteArray) (h : okText s = true) : (textT s).size = s.size + 1 := by
  rw [textT, if_pos h, size_append, txt_size, wideN_length]; omega
theorem none_num (n : Nat) : numO none n = 0 := rfl
theorem none_text : textO none = ByteArray.empty := rfl
theorem none_restT : restT none = none := rfl
/-! the reader of no bytes -/
def eE : Option ByteArray := some ByteArray.empty
def eN : Option ByteArray := none
end Go.Proofs.Ytfemdfidfomchaa
