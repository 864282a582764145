/-
  Plain facts on a rising list behind put and del: which keys are there, what they have, how many; the list of the keys from 0 on.
  Plain facts on ways: an arc's parts, one behind the other, are the whole; what lies ahead of its middle, and behind; ranges side by side. No program is named here.
-/
import Derived.Test.YthgndgoljchnfaaGreatHg13
import Derived.Test.YthgndgoljchnfaaGreatHg03
namespace Go.Proofs.YthgndgoljchnfaaGreat
open Go.RowKit

theorem bool_ext {a b : Bool} (h : a = true ↔ b = true) : a = b := Bool.eq_iff_iff.2 h
theorem mem_delN {l : List Item} (h : Rising l) (k : ByteArray) (x : Item) : x ∈ delN l k ↔ x ∈ l ∧ x.1 ≠ k := by
  have nu : ∀ {a : List Item}, Under a k → ∀ {x}, x ∈ a → x.1 ≠ k := fun ha x hx e => by
    have := ha x hx; rw [e, lessB_irrefl] at this; cases this
  have no : ∀ {b : List Item}, (∀ y ∈ b, lessB k y.1 = true) → ∀ {x}, x ∈ b → x.1 ≠ k := fun hb x hx e => by
    have := hb x hx; rw [e, lessB_irrefl] at this; cases this
  rcases rising_cases h k with ⟨a, u, b, rfl, ha, hb⟩ | ⟨a, b, rfl, ha, hb⟩
  · rw [show delN (a ++ (k, u) :: b) k = a ++ b from delN_key (x := (k, u)) ha b]
    simp only [List.mem_append, List.mem_cons]
    constructor
    · rintro (z | z)
      · exact ⟨.inl z, nu ha z⟩
      · exact ⟨.inr (.inr z), no hb z⟩
    · rintro ⟨z | z | z, hn⟩
      · exact .inl z
      · exact absurd (by rw [z]) hn
      · exact .inr z
  · rw [delN_under ha, (over_none hb).2.2]
    simp only [List.mem_append]
    constructor
    · rintro (z | z)
      · exact ⟨.inl z, nu ha z⟩
      · exact ⟨.inr z, no hb z⟩
    · rintro ⟨z, _⟩
      exact z
theorem hasN_put {l : List Item} (h : Rising l) (k v j : ByteArray) : hasN (putN l k v) j = (decide (j = k) || hasN l j) := by
  apply bool_ext
  rw [hasN_iff (h.put k v), Bool.or_eq_true, decide_eq_true_iff, hasN_iff h]
  constructor
  · rintro ⟨x, hx, rfl⟩
    rcases (mem_putN h k v x).1 hx with rfl | ⟨z, _⟩
    · exact .inl rfl
    · exact .inr ⟨x, z, rfl⟩
  · rintro (rfl | ⟨x, hx, rfl⟩)
    · exact ⟨(j, v), (mem_putN h j v _).2 (.inl rfl), rfl⟩
    · by_cases e : x.1 = k
      · exact ⟨(k, v), (mem_putN h k v _).2 (.inl rfl), e.symm⟩
      · exact ⟨x, (mem_putN h k v _).2 (.inr ⟨hx, e⟩), rfl⟩
theorem hasN_del {l : List Item} (h : Rising l) (k j : ByteArray) : hasN (delN l k) j = (!decide (j = k) && hasN l j) := by
  apply bool_ext
  rw [hasN_iff (h.del k), Bool.and_eq_true, Bool.not_eq_true', decide_eq_false_iff_not, hasN_iff h]
  constructor
  · rintro ⟨x, hx, rfl⟩
    obtain ⟨a, b⟩ := (mem_delN h k x).1 hx
    exact ⟨b, x, a, rfl⟩
  · rintro ⟨hn, x, hx, rfl⟩
    exact ⟨x, (mem_delN h k x).2 ⟨hx, hn⟩, rfl⟩
theorem getN_not {l : List Item} {k : ByteArray} (h : hasN l k = false) : getN l k = ByteArray.empty := by
  unfold hasN at h
  unfold getN
  split
  · rename_i x e
    rw [e] at h
    rw [if_neg (by simpa using h)]
  · rfl
end Go.Proofs.YthgndgoljchnfaaGreat
namespace Go.Proofs.YthgndgoljchnfaaGreat
open Go.RowKit

theorem mem_arcL {l : List Item} {f t : Nat} {x : Item} (h : x ∈ arcL l f t) : x ∈ l ∧ inB f t (adr x) = true := by
  rw [arcL, List.mem_append, List.mem_filter, List.mem_filter] at h
  rcases h with ⟨a, b⟩ | ⟨a, b⟩ <;> (unfold inA at b; rw [Bool.and_eq_true] at b; exact ⟨a, b.1⟩)
/-! ### The middle -/
/-! ### Ranges -/
end Go.Proofs.YthgndgoljchnfaaGreat
