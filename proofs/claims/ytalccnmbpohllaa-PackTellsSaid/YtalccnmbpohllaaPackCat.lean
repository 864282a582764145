/-
  Plain facts: texts written one behind the other, cut, and read one by one.
-/
import Derived.Test.YtalccnmbpohllaaPackFacts
namespace Go.Proofs.Ytalccnmbpohllaa

/-- the bytes of texts, one behind the other -/
def catL (zs : List ByteArray) : List UInt8 := zs.flatMap fun s => (textT s).data.toList
theorem catL_snoc (zs : List ByteArray) (i : Nat) (h : i < zs.length) : catL (zs.take (i + 1)) = catL (zs.take i) ++ (textT (zs.getD i ByteArray.empty)).data.toList := by
  rw [List.take_add_one, List.getElem?_eq_getElem h, List.getD_eq_getElem?_getD, List.getElem?_eq_getElem h, catL, List.flatMap_append]
  simp [catL]
theorem catL_split (zs : List ByteArray) (i : Nat) (h : i < zs.length) : catL zs = catL (zs.take i) ++ ((textT (zs.getD i ByteArray.empty)).data.toList ++ catL (zs.drop (i + 1))) := by
  rw [← List.append_assoc, ← catL_snoc zs i h]
  conv => lhs; rw [← List.take_append_drop (i + 1) zs]
  rw [catL, List.flatMap_append]
  rfl
theorem take_whole (a t r : List UInt8) (K : Nat) (h : a.length + t.length ≤ K) : ((a ++ (t ++ r)).take K).drop a.length = t ++ ((a ++ (t ++ r)).take K).drop (a.length + t.length) := by
  have e : (a ++ (t ++ r)).take K = a ++ (t ++ r.take (K - a.length - t.length)) := by
    rw [List.take_append, List.take_of_length_le (show a.length ≤ K by omega), List.take_append, List.take_of_length_le (show t.length ≤ K - a.length by omega)]
  rw [e, ← List.drop_drop, List.drop_left, List.drop_left]
theorem take_part (a t r : List UInt8) (K : Nat) (h0 : a.length ≤ K) (h : K < a.length + t.length) : ((a ++ (t ++ r)).take K).drop a.length = t.take (K - a.length) := by
  rw [List.take_append, List.take_of_length_le h0, List.drop_left, List.take_append_of_le_length (by omega)]
/-- where text i begins -/
def atN (zs : List ByteArray) (i : Nat) : Nat := (catL (zs.take i)).length
theorem atN_zero (zs : List ByteArray) : atN zs 0 = 0 := by simp [atN, catL]
theorem atN_all (zs : List ByteArray) : atN zs zs.length = (catL zs).length := by rw [atN, List.take_length]
theorem atN_succ (zs : List ByteArray) (i : Nat) (h : i < zs.length) (ho : okText (zs.getD i ByteArray.empty) = true) : atN zs (i + 1) = atN zs i + ((zs.getD i ByteArray.empty).size + 1) := by
  rw [atN, catL_snoc zs i h, List.length_append, data_length, textT_size _ ho]; rfl
theorem okText_le {s : ByteArray} (h : okText s = true) : s.size ≤ 255 := by simpa [okText] using h
/-- the reader in front of text i, of the first K bytes -/
def rdAt (zs : List ByteArray) (K i : Nat) : Option ByteArray := if atN zs i ≤ K then some (txt (((catL zs).take K).drop (atN zs i))) else none
theorem rdAt_zero (zs : List ByteArray) (K : Nat) (B : ByteArray) (hB : B.data.toList = catL zs) : rdAt zs K 0 = some (B.extract 0 K) := by
  rw [rdAt, if_pos (by rw [atN_zero]; omega), atN_zero, List.drop_zero, ← hB, ← extract_first, txt_of]
theorem rdAt_none (zs : List ByteArray) (K i : Nat) (h : K < atN zs i) : rdAt zs K i = none := by rw [rdAt, if_neg (by omega)]
theorem rdAt_size (zs : List ByteArray) (K i : Nat) : sizeO (rdAt zs K i) ≤ K := by
  rw [rdAt]
  split
  · show (txt _).size ≤ K
    rw [txt_size, List.length_drop, List.length_take]; omega
  · exact Nat.zero_le _

/-- a text that is not all there is not read -/
theorem text_short (s X : ByteArray) (m : Nat) (ho : okText s = true) (hX : X.data.toList = (textT s).data.toList.take m) (hm : m < s.size + 1) : textO (some X) = ByteArray.empty ∧ restT (some X) = none := by
  have hz := textT_size s ho
  have hs := okText_le ho
  have hXs : X.size = m := by rw [← data_length, hX, List.length_take, data_length]; omega
  by_cases h1 : 1 ≤ X.size
  · have e : numO (some X) 1 = s.size := by
      simp only [numO, if_pos h1]
      rw [hX, accN_take _ _ _ (by omega), textT, if_pos ho, data_append, txt_data, accN_wide, Nat.mod_eq_of_lt (by omega)]
    have f : restO (some X) 1 = some (X.extract 1 X.size) := by simp only [restO, if_pos h1]
    have g : ¬ s.size ≤ (X.extract 1 X.size).size := by rw [extract_size X 1 h1]; omega
    rw [textO, restT, e, f]
    constructor
    · simp only [partO, if_neg g]
    · simp only [restO, if_neg g]
  · have f : restO (some X) 1 = none := by simp only [restO, if_neg h1]
    rw [textO, restT, f]
    exact ⟨rfl, rfl⟩

/-- text i of the first K bytes: read as it was, if it is all there -/
theorem rdAt_in (zs : List ByteArray) (K i : Nat) (h : i < zs.length) (ho : okText (zs.getD i ByteArray.empty) = true) (hK : atN zs (i + 1) ≤ K) :
    textO (rdAt zs K i) = zs.getD i ByteArray.empty ∧ restT (rdAt zs K i) = rdAt zs K (i + 1) := by
  have hs := atN_succ zs i h ho
  have e : rdAt zs K i = some (textT (zs.getD i ByteArray.empty) ++ txt (((catL zs).take K).drop (atN zs (i + 1)))) := by
    rw [rdAt, if_pos (by omega)]
    congr 1
    apply ba_ext
    have hl : (textT (zs.getD i ByteArray.empty)).data.toList.length = (zs.getD i ByteArray.empty).size + 1 := by rw [data_length, textT_size _ ho]
    rw [txt_data, data_append, txt_data, catL_split zs i h]
    have ha : (catL (zs.take i)).length = atN zs i := rfl
    have e := take_whole (catL (zs.take i)) (textT (zs.getD i ByteArray.empty)).data.toList (catL (zs.drop (i + 1))) K (by omega)
    rw [ha, hl, ← hs] at e
    exact e
  obtain ⟨a, b⟩ := text_back (zs.getD i ByteArray.empty) (txt (((catL zs).take K).drop (atN zs (i + 1)))) ho
  rw [e]
  exact ⟨a, by rw [b, rdAt, if_pos hK]⟩
theorem rdAt_cut (zs : List ByteArray) (K i : Nat) (h : i < zs.length) (ho : okText (zs.getD i ByteArray.empty) = true) (h0 : atN zs i ≤ K) (hK : K < atN zs (i + 1)) :
    textO (rdAt zs K i) = ByteArray.empty ∧ restT (rdAt zs K i) = none := by
  have hs := atN_succ zs i h ho
  rw [rdAt, if_pos h0]
  refine text_short (zs.getD i ByteArray.empty) _ (K - atN zs i) ho ?_ (by omega)
  have hl : (textT (zs.getD i ByteArray.empty)).data.toList.length = (zs.getD i ByteArray.empty).size + 1 := by rw [data_length, textT_size _ ho]
  have ha : (catL (zs.take i)).length = atN zs i := rfl
  have e := take_part (catL (zs.take i)) (textT (zs.getD i ByteArray.empty)).data.toList (catL (zs.drop (i + 1))) K (by omega) (by omega)
  rw [ha] at e
  rw [txt_data, catL_split zs i h]
  exact e
end Go.Proofs.Ytalccnmbpohllaa
