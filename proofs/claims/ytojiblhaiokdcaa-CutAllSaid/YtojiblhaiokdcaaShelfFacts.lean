/-
  Plain facts on a rising list behind put and del: which keys are there, what they have, how many; the list of the keys from 0 on.
-/
import Derived.Test.YtojiblhaiokdcaaShelfLaws
namespace Go.Proofs.Ytojiblhaiokdcaa
open Go.RowKit

theorem bool_ext {a b : Bool} (h : a = true ↔ b = true) : a = b := Bool.eq_iff_iff.2 h
theorem mem_delN {l : List Item} (h : Rising l) (k : ByteArray) (x : Item) : x ∈ delN l k ↔ x ∈ l ∧ x.1 ≠ k := by
  have nu : ∀ {a : List Item}, Under a k → ∀ {x}, x ∈ a → x.1 ≠ k := fun ha x hx e => by
    have := ha x hx; rw [e, lessB_irrefl] at this; cases this
  have no : ∀ {b : List Item}, (∀ y ∈ b, lessB k y.1 = true) → ∀ {x}, x ∈ b → x.1 ≠ k := fun hb x hx e => by
    have := hb x hx; rw [e, lessB_irrefl] at this; cases this
  rcases rising_cases h k with ⟨a, u, b, rfl, ha, hb⟩ | ⟨a, b, rfl, ha, hb⟩
  · rw [show delN (a ++ (k, u) :: b) k = a ++ b from delN_key (x := (k, u)) ha b]
    simp only [List.mem_append, List.mem_cons]
    constructor
    · rintro (z | z)
      · exact ⟨.inl z, nu ha z⟩
      · exact ⟨.inr (.inr z), no hb z⟩
    · rintro ⟨z | z | z, hn⟩
      · exact .inl z
      · exact absurd (by rw [z]) hn
      · exact .inr z
  · rw [delN_under ha, (over_none hb).2.2]
    simp only [List.mem_append]
    constructor
    · rintro (z | z)
      · exact ⟨.inl z, nu ha z⟩
      · exact ⟨.inr z, no hb z⟩
    · rintro ⟨z, _⟩
      exact z
theorem hasN_put {l : List Item} (h : Rising l) (k v j : ByteArray) : hasN (putN l k v) j = (decide (j = k) || hasN l j) := by
  apply bool_ext
  rw [hasN_iff (h.put k v), Bool.or_eq_true, decide_eq_true_iff, hasN_iff h]
  constructor
  · rintro ⟨x, hx, rfl⟩
    rcases (mem_putN h k v x).1 hx with rfl | ⟨z, _⟩
    · exact .inl rfl
    · exact .inr ⟨x, z, rfl⟩
  · rintro (rfl | ⟨x, hx, rfl⟩)
    · exact ⟨(j, v), (mem_putN h j v _).2 (.inl rfl), rfl⟩
    · by_cases e : x.1 = k
      · exact ⟨(k, v), (mem_putN h k v _).2 (.inl rfl), e.symm⟩
      · exact ⟨x, (mem_putN h k v _).2 (.inr ⟨hx, e⟩), rfl⟩
theorem hasN_del {l : List Item} (h : Rising l) (k j : ByteArray) : hasN (delN l k) j = (!decide (j = k) && hasN l j) := by
  apply bool_ext
  rw [hasN_iff (h.del k), Bool.and_eq_true, Bool.not_eq_true', decide_eq_false_iff_not, hasN_iff h]
  constructor
  · rintro ⟨x, hx, rfl⟩
    obtain ⟨a, b⟩ := (mem_delN h k x).1 hx
    exact ⟨b, x, a, rfl⟩
  · rintro ⟨hn, x, hx, rfl⟩
    exact ⟨x, (mem_delN h k x).2 ⟨hx, hn⟩, rfl⟩
theorem getN_mem {l : List Item} (h : Rising l) {k v : ByteArray} (hm : (k, v) ∈ l) : getN l k = v := by
  rcases rising_cases h k with ⟨a, u, b, rfl, ha, hb⟩ | ⟨a, b, rfl, ha, hb⟩
  · have e : u = v := by
      rcases List.mem_append.1 hm with z | z
      · have := ha _ z; rw [lessB_irrefl] at this; cases this
      · rcases List.mem_cons.1 z with z | z
        · injection z with _ z; exact z.symm
        · have := hb _ z; rw [lessB_irrefl] at this; cases this
    subst e
    have p : placeN (a ++ (k, u) :: b) k = a.length := by rw [placeN_under ha, placeN, lessB_irrefl]; rfl
    simp [getN, p]
  · rcases List.mem_append.1 hm with z | z
    · have := ha _ z; rw [lessB_irrefl] at this; cases this
    · have := hb _ z; rw [lessB_irrefl] at this; cases this
theorem getN_not {l : List Item} {k : ByteArray} (h : hasN l k = false) : getN l k = ByteArray.empty := by
  unfold hasN at h
  unfold getN
  split
  · rename_i x e
    rw [e] at h
    rw [if_neg (by simpa using h)]
  · rfl
theorem getN_put_same {l : List Item} (h : Rising l) (k v : ByteArray) : getN (putN l k v) k = v := getN_mem (h.put k v) ((mem_putN h k v _).2 (.inl rfl))
theorem getN_put_other {l : List Item} (h : Rising l) (k v : ByteArray) {j : ByteArray} (hn : j ≠ k) : getN (putN l k v) j = getN l j := by
  cases hh : hasN l j with
  | true =>
    obtain ⟨x, hx, rfl⟩ := (hasN_iff h j).1 hh
    rw [getN_mem h (v := x.2) hx, getN_mem (h.put k v) (v := x.2) ((mem_putN h k v _).2 (.inr ⟨hx, hn⟩))]
  | false => rw [getN_not hh, getN_not (by rw [hasN_put h, hh]; simp [hn])]
theorem getN_del_other {l : List Item} (h : Rising l) (k : ByteArray) {j : ByteArray} (hn : j ≠ k) : getN (delN l k) j = getN l j := by
  cases hh : hasN l j with
  | true =>
    obtain ⟨x, hx, rfl⟩ := (hasN_iff h j).1 hh
    rw [getN_mem h (v := x.2) hx, getN_mem (h.del k) (v := x.2) ((mem_delN h k _).2 ⟨hx, hn⟩)]
  | false => rw [getN_not hh, getN_not (by rw [hasN_del h, hh]; simp)]
/-- the statements' keys -/
def keyT (k : Nat) : ByteArray := txt (keyL k)
theorem keyT_size (k : Nat) : (keyT k).size = 3 := by simp [keyT, keyL, txt_size]
theorem keyT_inj {j k : Nat} (hj : j < 65536) (hk : k < 65536) : keyT j = keyT k ↔ j = k := by
  constructor
  · intro h
    have e : (keyT j).toList = (keyT k).toList := by rw [h]
    rw [keyT, keyT, txt_toList, txt_toList] at e
    exact keyL_inj hj hk e
  · rintro rfl; rfl
theorem keyT_less {j k : Nat} (hj : j < 65536) (hk : k < 65536) : lessB (keyT j) (keyT k) = decide (j < k) := by
  rw [lessB, keyT, keyT, txt_toList, txt_toList, keyL_less hj hk]
theorem keyT_right (k : Nat) : rightN (keyT k) = 0 := by rw [rightN, keyT_size]; rfl
/-- the keys from 0 on, all with one value -/
def firstKeys (n : Nat) (v : ByteArray) : List Item := (List.range n).map fun j => (keyT j, v)
theorem firstKeys_length (n : Nat) (v : ByteArray) : (firstKeys n v).length = n := by simp [firstKeys]
theorem firstKeys_under {n : Nat} (v : ByteArray) (hn : n < 65536) : Under (firstKeys n v) (keyT n) := by
  intro x hx
  simp only [firstKeys, List.mem_map, List.mem_range] at hx
  obtain ⟨j, hj, rfl⟩ := hx
  rw [keyT_less (by omega) hn]
  simpa using hj
theorem firstKeys_put {n : Nat} (v : ByteArray) (hn : n < 65536) : hasN (firstKeys n v) (keyT n) = false ∧ putN (firstKeys n v) (keyT n) v = firstKeys (n + 1) v := by
  have h := firstKeys_under v hn
  have h1 := hasN_under h []
  have h2 := putN_under (v := v) h []
  rw [List.append_nil] at h1 h2
  exact ⟨h1, by rw [h2]; simp [firstKeys, List.range_succ, putN, hasN, placeN]⟩
theorem firstKeys_rising : ∀ (n : Nat) (v : ByteArray), n < 65536 → Rising (firstKeys n v)
  | 0, v, _ => Rising.nil
  | n + 1, v, h => by rw [← (firstKeys_put v (show n < 65536 by omega)).2]; exact (firstKeys_rising n v (by omega)).put _ _
theorem firstKeys_has (n : Nat) (v : ByteArray) (hn : n < 65536) (j : Nat) (hj : j < 65536) : hasN (firstKeys n v) (keyT j) = decide (j < n) := by
  apply bool_ext
  rw [hasN_iff (firstKeys_rising n v hn), decide_eq_true_iff]
  constructor
  · rintro ⟨x, hx, e⟩
    simp only [firstKeys, List.mem_map, List.mem_range] at hx
    obtain ⟨i, hi, rfl⟩ := hx
    have := (keyT_inj (by omega) hj).1 e
    omega
  · intro h
    exact ⟨(keyT j, v), by simp only [firstKeys, List.mem_map, List.mem_range]; exact ⟨j, h, rfl⟩, rfl⟩
end Go.Proofs.Ytojiblhaiokdcaa
