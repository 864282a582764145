/-
  What the document's ways tell, as plain lists: a range's items, an arc's in its order, where it is cut in the middle. No program is named here.
-/
import Derived.Test.YtojiblhaiokdcaaRising
import Derived.Test.YtojiblhaiokdcaaKeyWalks
import Derived.Test.YtojiblhaiokdcaaArcPlain
namespace Go.Proofs.Ytojiblhaiokdcaa
open Go.RowKit

def adr (x : Item) : Nat := addrN x.1
theorem adr_lt (x : Item) : adr x < 18446744073709551616 := addrN_lt _
theorem adr_val (x : Item) : adr x = valN 8 x.1.toList := by rw [adr, addrN, accN_val, Lib.toList_data]
theorem less_adr {a b : Item} (h : lessB a.1 b.1 = true) : adr a ≤ adr b := by rw [adr_val, adr_val]; exact less_val 8 _ _ h
/-- where keys lie goes up -/
def Goes (l : List Item) : Prop := l.Pairwise fun x y => adr x ≤ adr y
theorem Rising.goes {l : List Item} (h : Rising l) : Goes l := h.imp less_adr
def rangeL (l : List Item) (f t : ByteArray) : List Item := l.filter fun x => !lessB x.1 f && (t.size == 0 || lessB x.1 t)
/-- does it lie in the arc, and behind the ring's end or not? -/
def inA (f t : Nat) (late : Bool) (x : Item) : Bool := inB f t (adr x) && (decide (f ≤ adr x) != late)
def arcL (l : List Item) (f t : Nat) : List Item := l.filter (inA f t false) ++ l.filter (inA f t true)
/-- the first point that is not p -/
def midScan (p : Nat) : List Item → Option Nat
  | [] => none
  | y :: ys => if adr y = p then midScan p ys else some (adr y)
def midL (a : List Item) : Option Nat := match a.drop ((a.length + 1) / 2 - 1) with
  | [] => none
  | x :: xs => midScan (adr x) xs

/-! ### The ring turned so that it begins at a point -/
def rot (l : List Item) (f : Nat) : List Item := (l.filter fun x => decide (f ≤ adr x)) ++ l.filter fun x => decide (adr x < f)
def dst (f : Nat) (x : Item) : Nat := sub64 (adr x) f
theorem dst_ge {f : Nat} {x : Item} (_hf : f < 18446744073709551616) (h : f ≤ adr x) : dst f x = adr x - f := by
  have := adr_lt x
  unfold dst sub64; omega
theorem dst_lt {f : Nat} {x : Item} (_hf : f < 18446744073709551616) (h : adr x < f) : dst f x = adr x + 18446744073709551616 - f := by
  have := adr_lt x
  unfold dst sub64; omega
theorem arcL_rot (l : List Item) (f t : Nat) : arcL l f t = (rot l f).filter fun x => inB f t (adr x) := by
  unfold arcL rot
  rw [List.filter_append, List.filter_filter, List.filter_filter]
  congr 1
  · refine List.filter_congr fun x _ => ?_
    simp [inA]
  · refine List.filter_congr fun x _ => ?_
    unfold inA
    by_cases h : f ≤ adr x
    · simp [h, Nat.not_lt.2 h]
    · simp [h, Nat.lt_of_not_le h]
theorem rot_goes {l : List Item} (h : Goes l) {f : Nat} (hf : f < 18446744073709551616) : (rot l f).Pairwise fun x y => dst f x ≤ dst f y := by
  refine List.pairwise_append.2 ⟨?_, ?_, ?_⟩
  · refine List.Pairwise.imp_of_mem ?_ (h.filter _)
    intro x y hx hy hxy
    have a := of_decide_eq_true (List.mem_filter.1 hx).2
    have b := of_decide_eq_true (List.mem_filter.1 hy).2
    rw [dst_ge hf a, dst_ge hf b]; omega
  · refine List.Pairwise.imp_of_mem ?_ (h.filter _)
    intro x y hx hy hxy
    have a := of_decide_eq_true (List.mem_filter.1 hx).2
    have b := of_decide_eq_true (List.mem_filter.1 hy).2
    rw [dst_lt hf a, dst_lt hf b]; omega
  · intro x hx y hy
    have a := of_decide_eq_true (List.mem_filter.1 hx).2
    have b := of_decide_eq_true (List.mem_filter.1 hy).2
    have := adr_lt x
    rw [dst_ge hf a, dst_lt hf b]; omega
/-- a list that goes up, cut at a point -/
theorem goes_cut : ∀ {l : List Item} (_ : Goes l) (v : Nat), l = (l.filter fun x => decide (adr x < v)) ++ l.filter fun x => decide (v ≤ adr x)
  | [], _, _ => rfl
  | x :: l, h, v => by
    obtain ⟨h1, h2⟩ := List.pairwise_cons.1 h
    have ih := goes_cut h2 v
    by_cases hx : adr x < v
    · rw [List.filter_cons_of_pos (by simpa using hx), List.filter_cons_of_neg (by simpa using hx), List.cons_append, ← ih]
    · have e1 : (l.filter fun y => decide (adr y < v)) = [] := List.filter_eq_nil_iff.2 fun y hy => by have := h1 y hy; simp; omega
      rw [e1, List.nil_append] at ih
      rw [List.filter_cons_of_neg (by simpa using hx), List.filter_cons_of_pos (by simpa using hx), e1, List.nil_append, ← ih]
theorem filter_all {l : List Item} {p : Item → Bool} (h : ∀ x ∈ l, p x = true) : l.filter p = l := List.filter_eq_self.2 h
theorem filter_none {l : List Item} {p : Item → Bool} (h : ∀ x ∈ l, p x = false) : l.filter p = [] := List.filter_eq_nil_iff.2 fun x hx => by rw [h x hx]; simp
/-- the ring begun at another point: what lay ahead of it comes behind -/
theorem rot_rot {l : List Item} (h : Goes l) {f v : Nat} (hf : f < 18446744073709551616) (hv : v < 18446744073709551616) :
    rot l v = ((rot l f).filter fun x => decide (sub64 v f ≤ dst f x)) ++ (rot l f).filter fun x => decide (dst f x < sub64 v f) := by
  have hc := goes_cut h f
  have hcv := goes_cut h v
  by_cases hvf : f ≤ v
  · have sv : sub64 v f = v - f := by unfold sub64; omega
    -- l = A ++ B ++ C
    have hC : (l.filter fun x => decide (f ≤ adr x)) = (l.filter fun x => decide (f ≤ adr x) && decide (adr x < v)) ++ l.filter fun x => decide (v ≤ adr x) := by
      have z := goes_cut (h.filter fun x => decide (f ≤ adr x)) v
      rw [List.filter_filter, List.filter_filter] at z
      rw [z]
      congr 1
      · exact List.filter_congr fun x _ => by rw [Bool.and_comm]
      · refine List.filter_congr fun x _ => ?_
        by_cases q : v ≤ adr x
        · have : f ≤ adr x := by omega
          simp [q, this]
        · simp [q]
    have hA : (l.filter fun x => decide (adr x < v)) = (l.filter fun x => decide (adr x < f)) ++ l.filter fun x => decide (f ≤ adr x) && decide (adr x < v) := by
      have z := goes_cut (h.filter fun x => decide (adr x < v)) f
      rw [List.filter_filter, List.filter_filter] at z
      rw [z]
      congr 1
      refine List.filter_congr fun x _ => ?_
      by_cases q : adr x < f
      · have : adr x < v := by omega
        simp [q, this]
      · simp [q]
    have r : rot l f = (l.filter fun x => decide (f ≤ adr x) && decide (adr x < v)) ++ ((l.filter fun x => decide (v ≤ adr x)) ++ l.filter fun x => decide (adr x < f)) := by
      rw [rot, hC, List.append_assoc]
    rw [r, rot, hA]
    simp only [List.filter_append]
    rw [filter_none (l := l.filter fun x => decide (f ≤ adr x) && decide (adr x < v)) (p := fun x => decide (sub64 v f ≤ dst f x)), filter_all (l := l.filter fun x => decide (v ≤ adr x)) (p := fun x => decide (sub64 v f ≤ dst f x)),
      filter_all (l := l.filter fun x => decide (adr x < f)) (p := fun x => decide (sub64 v f ≤ dst f x)), filter_all (l := l.filter fun x => decide (f ≤ adr x) && decide (adr x < v)) (p := fun x => decide (dst f x < sub64 v f)),
      filter_none (l := l.filter fun x => decide (v ≤ adr x)) (p := fun x => decide (dst f x < sub64 v f)), filter_none (l := l.filter fun x => decide (adr x < f)) (p := fun x => decide (dst f x < sub64 v f))]
    · simp
    all_goals
      intro x hx
      have q := (List.mem_filter.1 hx).2
      have := adr_lt x
      simp at q ⊢
      rw [sv]
      first | (rw [dst_ge hf (by omega)]; omega) | (rw [dst_lt hf (by omega)]; omega)
  · have sv : sub64 v f = v + 18446744073709551616 - f := by unfold sub64; omega
    have hC : (l.filter fun x => decide (v ≤ adr x)) = (l.filter fun x => decide (v ≤ adr x) && decide (adr x < f)) ++ l.filter fun x => decide (f ≤ adr x) := by
      have z := goes_cut (h.filter fun x => decide (v ≤ adr x)) f
      rw [List.filter_filter, List.filter_filter] at z
      rw [z]
      congr 1
      · exact List.filter_congr fun x _ => by rw [Bool.and_comm]
      · refine List.filter_congr fun x _ => ?_
        by_cases q : f ≤ adr x
        · have : v ≤ adr x := by omega
          simp [q, this]
        · simp [q]
    have hA : (l.filter fun x => decide (adr x < f)) = (l.filter fun x => decide (adr x < v)) ++ l.filter fun x => decide (v ≤ adr x) && decide (adr x < f) := by
      have z := goes_cut (h.filter fun x => decide (adr x < f)) v
      rw [List.filter_filter, List.filter_filter] at z
      rw [z]
      congr 1
      refine List.filter_congr fun x _ => ?_
      by_cases q : adr x < v
      · have : adr x < f := by omega
        simp [q, this]
      · simp [q]
    have r : rot l f = ((l.filter fun x => decide (f ≤ adr x)) ++ l.filter fun x => decide (adr x < v)) ++ l.filter fun x => decide (v ≤ adr x) && decide (adr x < f) := by
      rw [rot, hA, List.append_assoc]
    rw [r, rot, hC]
    simp only [List.filter_append]
    rw [filter_none (l := l.filter fun x => decide (f ≤ adr x)) (p := fun x => decide (sub64 v f ≤ dst f x)), filter_none (l := l.filter fun x => decide (adr x < v)) (p := fun x => decide (sub64 v f ≤ dst f x)),
      filter_all (l := l.filter fun x => decide (v ≤ adr x) && decide (adr x < f)) (p := fun x => decide (sub64 v f ≤ dst f x)), filter_all (l := l.filter fun x => decide (f ≤ adr x)) (p := fun x => decide (dst f x < sub64 v f)),
      filter_all (l := l.filter fun x => decide (adr x < v)) (p := fun x => decide (dst f x < sub64 v f)), filter_none (l := l.filter fun x => decide (v ≤ adr x) && decide (adr x < f)) (p := fun x => decide (dst f x < sub64 v f))]
    · simp
    all_goals
      intro x hx
      have q := (List.mem_filter.1 hx).2
      have := adr_lt x
      simp at q ⊢
      rw [sv]
      first | (rw [dst_ge hf (by omega)]; omega) | (rw [dst_lt hf (by omega)]; omega)
end Go.Proofs.Ytojiblhaiokdcaa
