/-
  Plain facts on ways: an arc's parts, one behind the other, are the whole; what lies ahead of its middle, and behind; ranges side by side. No program is named here.
-/
import Derived.Test.YtojiblhaiokdcaaWalkPlain
import Derived.Test.YtojiblhaiokdcaaShelfFacts
namespace Go.Proofs.Ytojiblhaiokdcaa
open Go.RowKit

theorem cut_at (g : Item → Nat) : ∀ {l : List Item} (_ : l.Pairwise fun x y => g x ≤ g y) (v : Nat), l = (l.filter fun x => decide (g x < v)) ++ l.filter fun x => decide (v ≤ g x)
  | [], _, _ => rfl
  | x :: l, h, v => by
    obtain ⟨h1, h2⟩ := List.pairwise_cons.1 h
    have ih := cut_at g h2 v
    by_cases hx : g x < v
    · rw [List.filter_cons_of_pos (by simpa using hx), List.filter_cons_of_neg (by simpa using hx), List.cons_append, ← ih]
    · have e1 : (l.filter fun y => decide (g y < v)) = [] := List.filter_eq_nil_iff.2 fun y hy => by have := h1 y hy; simp; omega
      rw [e1, List.nil_append] at ih
      rw [List.filter_cons_of_neg (by simpa using hx), List.filter_cons_of_pos (by simpa using hx), e1, List.nil_append, ← ih]
theorem inB_to {f x y : Nat} (h : x ≠ f) : inB f x y = decide (sub64 y f < sub64 x f) := by
  unfold inB
  rw [show (f == x) = false by simpa using Ne.symm h, Bool.false_or]
/-- of a point inside: what lies between it and the arc's end -/
theorem inB_from {f t x y : Nat} (hf : f < 18446744073709551616) (ht : t < 18446744073709551616) (hx : x < 18446744073709551616) (hy : y < 18446744073709551616) (_hn : x ≠ f) (hin : inB f t x = true) :
    inB x t y = (decide (sub64 x f ≤ sub64 y f) && inB f t y) := by
  rw [in_iff] at hin
  apply Bool.eq_iff_iff.2
  rw [in_iff, Bool.and_eq_true, decide_eq_true_iff, in_iff]
  rcases sub64_cases hx hf with ⟨a1, a2⟩ | ⟨a1, a2⟩ <;> rcases sub64_cases hy hf with ⟨b1, b2⟩ | ⟨b1, b2⟩ <;> rcases sub64_cases ht hf with ⟨c1, c2⟩ | ⟨c1, c2⟩ <;> rcases sub64_cases hy hx with ⟨d1, d2⟩ | ⟨d1, d2⟩ <;> rcases sub64_cases ht hx with ⟨e1, e2⟩ | ⟨e1, e2⟩ <;>
    rw [a2, c2] at hin <;> rw [a2, b2, c2, d2, e2] <;> constructor <;> intro h <;> omega
theorem arcL_goes {l : List Item} (h : Goes l) {f : Nat} (t : Nat) (hf : f < 18446744073709551616) : (arcL l f t).Pairwise fun x y => dst f x ≤ dst f y := by
  rw [arcL_rot]
  exact (rot_goes h hf).filter _
theorem mem_arcL {l : List Item} {f t : Nat} {x : Item} (h : x ∈ arcL l f t) : x ∈ l ∧ inB f t (adr x) = true := by
  rw [arcL, List.mem_append, List.mem_filter, List.mem_filter] at h
  rcases h with ⟨a, b⟩ | ⟨a, b⟩ <;> (unfold inA at b; rw [Bool.and_eq_true] at b; exact ⟨a, b.1⟩)
/-- an arc's part ahead of a point inside -/
theorem arcL_low {l : List Item} {f t x : Nat} (hn : x ≠ f) (hin : inB f t x = true) : arcL l f x = (arcL l f t).filter fun y => decide (dst f y < sub64 x f) := by
  rw [arcL_rot, arcL_rot, List.filter_filter]
  refine List.filter_congr fun y _ => ?_
  rw [inB_to hn]
  rw [in_iff] at hin
  show decide (dst f y < sub64 x f) = _
  by_cases h : dst f y < sub64 x f
  · have : inB f t (adr y) = true := by
      rw [in_iff]
      rcases hin with z | z
      · exact .inl z
      · exact .inr (Nat.lt_trans h z)
    simp [h, this]
  · simp [h]
theorem arcL_high {l : List Item} (h : Goes l) {f t x : Nat} (hf : f < 18446744073709551616) (ht : t < 18446744073709551616) (hx : x < 18446744073709551616) (hn : x ≠ f) (hin : inB f t x = true) : arcL l x t = (arcL l f t).filter fun y => decide (sub64 x f ≤ dst f y) := by
  rw [arcL_rot, rot_rot h hf hx, arcL_rot, List.filter_append, List.filter_filter, List.filter_filter, List.filter_filter]
  rw [filter_none (l := rot l f) (p := fun y => inB x t (adr y) && decide (dst f y < sub64 x f)), List.append_nil]
  · refine List.filter_congr fun y _ => ?_
    rw [inB_from hf ht hx (adr_lt y) hn hin]
    show ((decide (sub64 x f ≤ dst f y) && inB f t (adr y)) && decide (sub64 x f ≤ dst f y)) = (decide (sub64 x f ≤ dst f y) && inB f t (adr y))
    cases decide (sub64 x f ≤ dst f y) <;> simp
  · intro y _
    rw [inB_from hf ht hx (adr_lt y) hn hin]
    show ((decide (sub64 x f ≤ dst f y) && inB f t (adr y)) && decide (dst f y < sub64 x f)) = false
    by_cases q : sub64 x f ≤ dst f y
    · have : ¬ dst f y < sub64 x f := by omega
      simp [this]
    · simp [q]
/-- an arc's two parts are it, in its order -/
theorem arcL_cut {l : List Item} (h : Goes l) {f t x : Nat} (hf : f < 18446744073709551616) (ht : t < 18446744073709551616) (hx : x < 18446744073709551616) (hn : x ≠ f) (hin : inB f t x = true) : arcL l f x ++ arcL l x t = arcL l f t := by
  rw [arcL_low hn hin, arcL_high h hf ht hx hn hin]
  exact (cut_at (dst f) (arcL_goes h t hf) _).symm

/-! ### The middle -/
theorem midScan_at : ∀ {xs : List Item} {p m : Nat}, midScan p xs = some m → ∃ i, ∃ hi : i < xs.length, adr (xs[i]) = m ∧ m ≠ p ∧ ∀ j (hj : j < i), adr (xs[j]'(by omega)) = p
  | [], p, m, h => by cases h
  | y :: ys, p, m, h => by
    rw [midScan] at h
    by_cases e : adr y = p
    · rw [if_pos e] at h
      obtain ⟨i, hi, a, b, c⟩ := midScan_at h
      refine ⟨i + 1, by simpa using hi, a, b, fun j hj => ?_⟩
      cases j with
      | zero => exact e
      | succ j => exact c j (by omega)
    · rw [if_neg e] at h
      injection h with h
      subst h
      exact ⟨0, by simp, rfl, e, fun j hj => by omega⟩
theorem midL_at {a : List Item} {m : Nat} (h : midL a = some m) : ∃ i, ∃ hi : i < a.length, a.length ≤ 2 * i ∧ 1 ≤ i ∧ adr (a[i]) = m ∧ adr (a[i - 1]'(by omega)) ≠ m := by
  unfold midL at h
  split at h
  · cases h
  · rename_i x xs e
    obtain ⟨i, hi, p1, p2, p3⟩ := midScan_at h
    have hlen := congrArg List.length e
    rw [List.length_drop, List.length_cons] at hlen
    have hat : ∀ k (hk : k < (x :: xs).length), ∃ hk2 : (a.length + 1) / 2 - 1 + k < a.length, a[(a.length + 1) / 2 - 1 + k] = (x :: xs)[k] := fun k hk => by
      have hk' : k < xs.length + 1 := by simpa using hk
      refine ⟨by omega, ?_⟩
      have z : (a.drop ((a.length + 1) / 2 - 1))[k]'(by rw [List.length_drop]; omega) = (x :: xs)[k] := by congr 1
      rw [← z, List.getElem_drop]
    have hn : 0 < a.length := by omega
    obtain ⟨k1, e1⟩ := hat (i + 1) (by simp; omega)
    obtain ⟨k0, e0⟩ := hat i (by simp; omega)
    refine ⟨(a.length + 1) / 2 - 1 + (i + 1), k1, by omega, by omega, ?_, ?_⟩
    · rw [e1]; exact p1
    · have q : a[(a.length + 1) / 2 - 1 + (i + 1) - 1]'(by omega) = (x :: xs)[i]'(by simp; omega) := by rw [← e0]; congr 1
      rw [q]
      cases i with
      | zero => exact fun z => p2 z.symm
      | succ i =>
        have := p3 i (by omega)
        show adr (xs[i]) ≠ m
        rw [this]
        exact fun z => p2 z.symm
/-- where an arc is cut in its middle -/
theorem middle_parts {l : List Item} (h : Goes l) {f t m : Nat} (hf : f < 18446744073709551616) (ht : t < 18446744073709551616) (hm : midL (arcL l f t) = some m) :
    m < 18446744073709551616 ∧ m ≠ f ∧ ∃ i, 1 ≤ i ∧ i < (arcL l f t).length ∧ (arcL l f t).length ≤ 2 * i ∧ (arcL l f m).length = i ∧ (arcL l m t).length = (arcL l f t).length - i := by
  obtain ⟨i, hi, h2, h1, p1, p2⟩ := midL_at hm
  have hs := arcL_goes h t hf
  have hml : m < 18446744073709551616 := by rw [← p1]; exact adr_lt _
  have hmem : (arcL l f t)[i] ∈ arcL l f t := List.getElem_mem hi
  have hin : inB f t m = true := by rw [← p1]; exact (mem_arcL hmem).2
  have hle : ∀ a b (ha : a < (arcL l f t).length) (hb : b < (arcL l f t).length), a ≤ b → dst f ((arcL l f t)[a]) ≤ dst f ((arcL l f t)[b]) := fun a b ha hb hab => by
    rcases Nat.lt_or_ge a b with z | z
    · exact List.pairwise_iff_getElem.1 hs a b ha hb z
    · obtain rfl : a = b := by omega
      exact Nat.le_refl _
  have hdm : dst f ((arcL l f t)[i]) = sub64 m f := by unfold dst; rw [p1]
  have hlt : dst f ((arcL l f t)[i - 1]'(by omega)) < sub64 m f := by
    have z := hle (i - 1) i (by omega) hi (by omega)
    rw [hdm] at z
    have q : dst f ((arcL l f t)[i - 1]'(by omega)) ≠ sub64 m f := fun e => by
      unfold dst at e
      have ha := adr_lt ((arcL l f t)[i - 1]'(by omega))
      rcases sub64_cases ha hf with ⟨a1, a2⟩ | ⟨a1, a2⟩ <;> rcases sub64_cases hml hf with ⟨b1, b2⟩ | ⟨b1, b2⟩ <;> rw [a2, b2] at e <;> exact p2 (by omega)
    omega
  have hn : m ≠ f := fun e => by rw [e, sub_self f hf] at hlt; omega
  have hlow : (arcL l f m).length = i := by
    rw [arcL_low hn hin]
    have hsplit : arcL l f t = (arcL l f t).take i ++ (arcL l f t).drop i := (List.take_append_drop i _).symm
    have e1 : ((arcL l f t).take i).filter (fun y => decide (dst f y < sub64 m f)) = (arcL l f t).take i := filter_all fun y hy => by
      obtain ⟨k, hk, rfl⟩ := List.mem_iff_getElem.1 hy
      rw [List.length_take] at hk
      rw [List.getElem_take]
      have := hle k (i - 1) (by omega) (by omega) (by omega)
      exact decide_eq_true (by omega)
    have e2 : ((arcL l f t).drop i).filter (fun y => decide (dst f y < sub64 m f)) = [] := filter_none fun y hy => by
      obtain ⟨k, hk, rfl⟩ := List.mem_iff_getElem.1 hy
      rw [List.length_drop] at hk
      rw [List.getElem_drop]
      have := hle i (i + k) hi (by omega) (by omega)
      rw [hdm] at this
      exact decide_eq_false (by omega)
    have e3 : (arcL l f t).filter (fun y => decide (dst f y < sub64 m f)) = (arcL l f t).take i := by
      have z := congrArg (List.filter fun y => decide (dst f y < sub64 m f)) hsplit
      rw [List.filter_append, e1, e2, List.append_nil] at z
      exact z
    rw [e3, List.length_take]
    omega
  have hsum := congrArg List.length (arcL_cut h hf ht hml hn hin)
  rw [List.length_append] at hsum
  exact ⟨hml, hn, i, h1, hi, h2, hlow, by omega⟩

/-! ### Ranges -/
theorem rangeL_cut {l : List Item} (h : Rising l) {a b c : ByteArray} (hab : lessB b a = false) (hbc : lessB c b = false) (hb : b.size ≠ 0) (hc : c.size ≠ 0) : rangeL l a b ++ rangeL l b c = rangeL l a c := by
  have eb : (b.size == 0) = false := by simpa using hb
  have ec : (c.size == 0) = false := by simpa using hc
  unfold rangeL
  rw [eb, ec]
  simp only [Bool.false_or]
  obtain ⟨u, v, rfl, hu, hv⟩ := rising_split h b
  simp only [List.filter_append]
  have tr : ∀ {x : Item} {p q : ByteArray}, lessB x.1 p = true → lessB q p = false → lessB x.1 q = true := fun {x p q} h1 h2 => by
    cases e : lessB x.1 q with
    | true => rfl
    | false =>
      by_cases e3 : q = x.1
      · rw [← e3, h2] at h1; cases h1
      · rcases lessB_total e3 with z | z
        · rw [lessB_trans z h1] at h2; cases h2
        · rw [z] at e; cases e
  have e1 : (u.filter fun x => !lessB x.1 b && lessB x.1 c) = [] := filter_none fun x hx => by rw [hu x hx]; rfl
  have e2 : (v.filter fun x => !lessB x.1 a && lessB x.1 b) = [] := filter_none fun x hx => by rw [hv x hx]; simp
  have e3 : (u.filter fun x => !lessB x.1 a && lessB x.1 b) = u.filter fun x => !lessB x.1 a && lessB x.1 c := List.filter_congr fun x hx => by rw [hu x hx, tr (hu x hx) hbc]
  have e4 : (v.filter fun x => !lessB x.1 b && lessB x.1 c) = v.filter fun x => !lessB x.1 a && lessB x.1 c := List.filter_congr fun x hx => by
    have z : lessB x.1 a = false := by
      cases e : lessB x.1 a with
      | false => rfl
      | true =>
        have q := hv x hx
        rw [tr e hab] at q
        cases q
    rw [hv x hx, z]
  rw [e1, e2, e3, e4]
  simp
theorem rangeL_back {l : List Item} {a b : ByteArray} (h : lessB a b = true) (ha : a.size ≠ 0) : rangeL l b a = [] := filter_none fun x _ => by
  have ea : (a.size == 0) = false := by simpa using ha
  rw [ea, Bool.false_or]
  cases e : lessB x.1 a with
  | true => rw [lessB_trans e h]; rfl
  | false => simp
/-- a key's place is how many lie below it -/
theorem placeN_count {l : List Item} (h : Rising l) (k : ByteArray) : (l.filter fun x => lessB x.1 k).length = placeN l k := by
  obtain ⟨a, b, rfl, ha, hb⟩ := rising_split h k
  rw [List.filter_append, filter_all (l := a) ha, filter_none (l := b) hb, List.append_nil, placeN_under ha]
  cases b with
  | nil => rfl
  | cons x b => rw [placeN, hb x (by simp)]; rfl
theorem placeN_at {l : List Item} (h : Rising l) {i : Nat} (hi : i < l.length) : placeN l (l[i]).1 = i := by
  have e : l = l.take i ++ l[i] :: l.drop (i + 1) := by rw [← List.drop_eq_getElem_cons hi, List.take_append_drop]
  have hu : Under (l.take i) (l[i]).1 := fun x hx => by
    obtain ⟨k, hk, rfl⟩ := List.mem_iff_getElem.1 hx
    rw [List.length_take] at hk
    rw [List.getElem_take]
    exact List.pairwise_iff_getElem.1 h k i (by omega) hi (by omega)
  have z := placeN_under hu (l[i] :: l.drop (i + 1))
  rw [← e, placeN, lessB_irrefl] at z
  rw [z, List.length_take]
  simp
  omega
/-- what At answers -/
def atV (l : List Item) (n : Int) : Value := match (if 0 ≤ n then l[n.toNat]? else none) with
  | some x => .tuple #[.agg #[.string x.1, .string x.2], .bool true]
  | none => .tuple #[.agg #[.string ⟨#[]⟩, .string ⟨#[]⟩], .bool false]
end Go.Proofs.Ytojiblhaiokdcaa
