/-
  A letter's bytes, cut anywhere, or longer, are none: the walk.
-/
import Derived.Test.YtbnmddopgbhapaaGreatLetLawB
namespace Go.Proofs.YtbnmddopgbhapaaGreat
open Go.RowKit

theorem putL_size {l : LV} {b : ByteArray} (h : putL l = some b) : b.size ≤ 21000000 := by
  have := catO_le 1000000 (letterOs l) (letterOs_le l)
  have e1 : catO (letterOs l) = some b := h
  have e2 : (letterOs l).length = 21 := rfl
  rw [e1, e2] at this
  have h3 : b.size ≤ 21 * 1000000 := this
  omega
theorem getL_nothing : getL ByteArray.empty = none := by kernel_rfl
theorem size_zero {b : ByteArray} (h : b.size = 0) : b = ByteArray.empty := ba_ext (by rw [empty_data]; exact List.eq_nil_of_length_eq_zero h)
theorem putL_pos {l : LV} {b : ByteArray} (hF : l.Fine) (h : putL l = some b) : 0 < b.size := by
  rcases Nat.eq_zero_or_pos b.size with h0 | h0
  · obtain rfl := size_zero h0
    have e := getL_of hF.afB hF.auB h
    rw [getL_nothing] at e
    cases e
  · exact h0
theorem cut_spot (k : Int) (n : Nat) (h : 0 < n) (hn : n ≤ 100000000) : ∃ K : Nat, K < n ∧ (wrap64 (k.tmod (n : Int) + (n : Int))).tmod (n : Int) = (K : Int) := by
  have h1 := Int.tmod_lt_of_pos k (show (0 : Int) < n by omega)
  have h2 := Int.lt_tmod_of_pos k (show (0 : Int) < n by omega)
  have h3 : 0 ≤ k.tmod (n : Int) + (n : Int) := by omega
  have hw : wrap64 (k.tmod (n : Int) + (n : Int)) = k.tmod (n : Int) + (n : Int) := by
    unfold wrap64; omega
  rw [hw]
  obtain ⟨m, hm⟩ := Int.eq_ofNat_of_zero_le h3
  rw [hm]
  refine ⟨m % n, Nat.mod_lt _ h, ?_⟩
  rw [Int.tmod_eq_emod_of_nonneg (by omega)]
  simp
theorem cut_parts (b : ByteArray) (K : Nat) : b = b.extract 0 K ++ b.extract K b.size := by
  apply ba_ext
  rw [data_append, extract_first, extract_rest, List.take_append_drop]
theorem getL_cut {l : LV} {b : ByteArray} {K : Nat} (hF : l.Fine) (h : putL l = some b) (hK : K < b.size) : getL (b.extract 0 K) = none :=
  getL_short (c := b.extract K b.size) hF.afB hF.auB (by rw [← cut_parts]; exact h) (by rw [extract_size b K (by omega)]; omega)
theorem extract_le (b : ByteArray) (K : Nat) (h : b.size ≤ 9223372036854775807) : (b.extract 0 K).size ≤ 9223372036854775807 := by
  rw [← data_length, extract_first, List.length_take, data_length]; omega
end Go.Proofs.YtbnmddopgbhapaaGreat
