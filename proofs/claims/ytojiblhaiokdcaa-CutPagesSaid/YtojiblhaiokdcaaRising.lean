/-
  Plain facts on a shelf as its rising list: a key's place left, at and right of an item that stands in it; put and struck there. No program is named here.
-/
import Derived.Test.YtojiblhaiokdcaaItems
import Derived.Test.YtojiblhaiokdcaaKeyPlain
namespace Go.Proofs.Ytojiblhaiokdcaa
open Go.RowKit

theorem lessB_irrefl (a : ByteArray) : lessB a a = false := less_irrefl _
theorem lessB_asymm {a b : ByteArray} (h : lessB a b = true) : lessB b a = false := less_asymm _ _ h
theorem lessB_trans {a b c : ByteArray} (h : lessB a b = true) (k : lessB b c = true) : lessB a c = true := less_trans _ _ _ h k
theorem toList_inj {a b : ByteArray} (h : a.toList = b.toList) : a = b := ByteArray.ext (Array.ext' (by rw [← Lib.toList_data, ← Lib.toList_data]; exact h))
theorem lessB_total {a b : ByteArray} (h : a ≠ b) : lessB a b = true ∨ lessB b a = true := less_total _ _ (fun e => h (toList_inj e))
theorem lessB_eq {a b : ByteArray} (h : lessB a b = false) (k : lessB b a = false) : a = b := by
  by_cases e : a = b
  · exact e
  · rcases lessB_total e with z | z
    · rw [z] at h; cases h
    · rw [z] at k; cases k
/-- rising: each key below all behind it -/
def Rising (l : List Item) : Prop := l.Pairwise fun x y => lessB x.1 y.1 = true
theorem Rising.nil : Rising [] := List.Pairwise.nil
theorem rising_append {a b : List Item} : Rising (a ++ b) ↔ Rising a ∧ Rising b ∧ ∀ x ∈ a, ∀ y ∈ b, lessB x.1 y.1 = true := List.pairwise_append
theorem rising_cons {x : Item} {b : List Item} : Rising (x :: b) ↔ (∀ y ∈ b, lessB x.1 y.1 = true) ∧ Rising b := List.pairwise_cons
/-- all of a lies below the key -/
def Under (a : List Item) (k : ByteArray) : Prop := ∀ x ∈ a, lessB x.1 k = true
theorem placeN_under : ∀ {a : List Item} {k : ByteArray} (_ : Under a k) (b : List Item), placeN (a ++ b) k = a.length + placeN b k
  | [], k, _, b => by simp
  | x :: a, k, h, b => by
    rw [List.cons_append, placeN, if_pos (h x (by simp)), placeN_under (fun y hy => h y (by simp [hy])) b, List.length_cons]
    omega
theorem placeN_stop (a : List Item) {x : Item} {k : ByteArray} (h : lessB x.1 k = false) (b : List Item) : placeN (a ++ x :: b) k = placeN a k := by
  induction a with
  | nil => simp [placeN, h]
  | cons y a ih => rw [List.cons_append, placeN, placeN, ih]
theorem hasN_under {a : List Item} {k : ByteArray} (h : Under a k) (b : List Item) : hasN (a ++ b) k = hasN b k := by
  unfold hasN
  rw [placeN_under h, List.getElem?_append_right (by omega), show a.length + placeN b k - a.length = placeN b k by omega]
theorem hasN_left (a : List Item) {x : Item} {k : ByteArray} (h : lessB k x.1 = true) (b : List Item) : hasN (a ++ x :: b) k = hasN a k := by
  unfold hasN
  rw [placeN_stop a (lessB_asymm h)]
  by_cases hp : placeN a k < a.length
  · rw [List.getElem?_append_left hp]
  · have e : placeN a k = a.length := by have := placeN_le a k; omega
    rw [e, List.getElem?_append_right (Nat.le_refl _), Nat.sub_self, List.getElem?_eq_none (l := a) (Nat.le_refl _)]
    simp only [List.getElem?_cons_zero]
    rw [beq_eq_false_iff_ne]
    intro e2
    rw [toList_inj e2, lessB_irrefl] at h
    cases h
theorem hasN_at_key {a : List Item} {x : Item} (h : Under a x.1) (b : List Item) : hasN (a ++ x :: b) x.1 = true := by
  rw [hasN_under h]
  unfold hasN
  rw [placeN, lessB_irrefl]
  simp
theorem putN_under {a : List Item} {k v : ByteArray} (h : Under a k) (b : List Item) : putN (a ++ b) k v = a ++ putN b k v := by
  unfold putN
  rw [hasN_under h, placeN_under h, List.take_length_add_append, List.append_assoc]
  congr 3
  split
  · rw [show a.length + placeN b k + 1 = a.length + (placeN b k + 1) by omega, List.drop_length_add_append]
  · rw [List.drop_length_add_append]
theorem putN_left (a : List Item) {x : Item} {k v : ByteArray} (h : lessB k x.1 = true) (b : List Item) : putN (a ++ x :: b) k v = putN a k v ++ x :: b := by
  have hp := placeN_le a k
  unfold putN
  rw [hasN_left a h, placeN_stop a (lessB_asymm h), List.take_append_of_le_length hp, List.append_assoc, List.cons_append]
  congr 2
  split
  · rename_i hh
    have := hasN_lt hh
    rw [List.drop_append_of_le_length (by omega)]
  · rw [List.drop_append_of_le_length hp]
theorem putN_key {a : List Item} {x : Item} {v : ByteArray} (h : Under a x.1) (b : List Item) : putN (a ++ x :: b) x.1 v = a ++ (x.1, v) :: b := by
  rw [putN_under h]
  congr 1
  have e := hasN_at_key (a := []) (x := x) (fun y hy => by cases hy) b
  rw [List.nil_append] at e
  unfold putN
  rw [e, if_pos rfl, placeN, lessB_irrefl]
  simp
theorem delN_under {a : List Item} {k : ByteArray} (h : Under a k) (b : List Item) : delN (a ++ b) k = a ++ delN b k := by
  unfold delN
  rw [hasN_under h, placeN_under h, List.take_length_add_append]
  split
  · rw [show a.length + placeN b k + 1 = a.length + (placeN b k + 1) by omega, List.drop_length_add_append, List.append_assoc]
  · rfl
theorem delN_left (a : List Item) {x : Item} {k : ByteArray} (h : lessB k x.1 = true) (b : List Item) : delN (a ++ x :: b) k = delN a k ++ x :: b := by
  have hp := placeN_le a k
  unfold delN
  rw [hasN_left a h, placeN_stop a (lessB_asymm h), List.take_append_of_le_length hp]
  split
  · rename_i hh
    have := hasN_lt hh
    rw [List.drop_append_of_le_length (by omega), List.append_assoc]
  · rfl
theorem delN_key {a : List Item} {x : Item} (h : Under a x.1) (b : List Item) : delN (a ++ x :: b) x.1 = a ++ b := by
  rw [delN_under h]
  congr 1
  have e := hasN_at_key (a := []) (x := x) (fun y hy => by cases hy) b
  rw [List.nil_append] at e
  unfold delN
  rw [e, if_pos rfl, placeN, lessB_irrefl]
  simp
theorem putN_length (l : List Item) (k v : ByteArray) : (putN l k v).length = if hasN l k then l.length else l.length + 1 := by
  have hp := placeN_le l k
  unfold putN
  rw [List.length_append, List.length_cons, List.length_take, List.length_drop, Nat.min_eq_left hp]
  split
  · rename_i hh
    have := hasN_lt hh
    omega
  · omega
theorem delN_length (l : List Item) (k : ByteArray) : (delN l k).length = if hasN l k then l.length - 1 else l.length := by
  have hp := placeN_le l k
  unfold delN
  split
  · rename_i hh
    have := hasN_lt hh
    rw [List.length_append, List.length_take, List.length_drop, Nat.min_eq_left hp]
    omega
  · rfl
/-- a rising list at a key: what lies below it, and what does not -/
theorem rising_split : ∀ {l : List Item} (_ : Rising l) (k : ByteArray), ∃ a b, l = a ++ b ∧ Under a k ∧ ∀ y ∈ b, lessB y.1 k = false
  | [], _, k => ⟨[], [], rfl, (fun x hx => by cases hx), (fun x hx => by cases hx)⟩
  | x :: l, h, k => by
    obtain ⟨h1, h2⟩ := rising_cons.1 h
    cases e : lessB x.1 k with
    | true =>
      obtain ⟨a, b, rfl, ha, hb⟩ := rising_split h2 k
      exact ⟨x :: a, b, rfl, (fun y hy => by rcases List.mem_cons.1 hy with rfl | hy; exact e; exact ha y hy), hb⟩
    | false =>
      refine ⟨[], x :: l, rfl, (fun y hy => by cases hy), (fun y hy => ?_)⟩
      rcases List.mem_cons.1 hy with rfl | hy
      · exact e
      · cases e2 : lessB y.1 k with
        | false => rfl
        | true => rw [lessB_trans (h1 y hy) e2] at e; cases e
/-- the three ways a key lies to a rising list: in it, or between its items -/
theorem rising_cases {l : List Item} (h : Rising l) (k : ByteArray) : (∃ a v b, l = a ++ (k, v) :: b ∧ Under a k ∧ (∀ y ∈ b, lessB k y.1 = true)) ∨ (∃ a b, l = a ++ b ∧ Under a k ∧ (∀ y ∈ b, lessB k y.1 = true)) := by
  obtain ⟨a, b, rfl, ha, hb⟩ := rising_split h k
  cases b with
  | nil => exact .inr ⟨a, [], rfl, ha, (fun y hy => by cases hy)⟩
  | cons x b =>
    obtain ⟨_, h2, _⟩ := rising_append.1 h
    have h3 := (rising_cons.1 h2).1
    by_cases e : x.1 = k
    · left
      refine ⟨a, x.2, b, by rw [← e], ha, fun y hy => by rw [← e]; exact h3 y hy⟩
    · right
      have z : lessB k x.1 = true := by
        rcases lessB_total e with z | z
        · rw [hb x (by simp)] at z; cases z
        · exact z
      refine ⟨a, x :: b, rfl, ha, fun y hy => ?_⟩
      rcases List.mem_cons.1 hy with rfl | hy
      · exact z
      · exact lessB_trans z (h3 y hy)
theorem over_none {b : List Item} {k : ByteArray} (h : ∀ y ∈ b, lessB k y.1 = true) : hasN b k = false ∧ (∀ v, putN b k v = (k, v) :: b) ∧ delN b k = b := by
  cases b with
  | nil => exact ⟨rfl, fun _ => rfl, rfl⟩
  | cons x b =>
    have z := h x (by simp)
    have e1 := hasN_left [] z b
    have e2 := fun v => putN_left [] (v := v) z b
    have e3 := delN_left [] z b
    exact ⟨e1, e2, e3⟩
theorem Rising.put {l : List Item} (h : Rising l) (k v : ByteArray) : Rising (putN l k v) := by
  rcases rising_cases h k with ⟨a, u, b, rfl, ha, hb⟩ | ⟨a, b, rfl, ha, hb⟩
  · obtain ⟨h1, h2, h3⟩ := rising_append.1 h
    rw [show putN (a ++ (k, u) :: b) k v = a ++ (k, v) :: b from putN_key (x := (k, u)) ha b]
    refine rising_append.2 ⟨h1, rising_cons.2 ⟨hb, (rising_cons.1 h2).2⟩, fun x hx y hy => ?_⟩
    rcases List.mem_cons.1 hy with rfl | hy
    · exact ha x hx
    · exact h3 x hx y (by simp [hy])
  · obtain ⟨h1, h2, h3⟩ := rising_append.1 h
    rw [putN_under ha, (over_none hb).2.1]
    refine rising_append.2 ⟨h1, rising_cons.2 ⟨hb, h2⟩, fun x hx y hy => ?_⟩
    rcases List.mem_cons.1 hy with rfl | hy
    · exact ha x hx
    · exact h3 x hx y hy
theorem Rising.del {l : List Item} (h : Rising l) (k : ByteArray) : Rising (delN l k) := by
  rcases rising_cases h k with ⟨a, u, b, rfl, ha, hb⟩ | ⟨a, b, rfl, ha, hb⟩
  · obtain ⟨h1, h2, h3⟩ := rising_append.1 h
    rw [show delN (a ++ (k, u) :: b) k = a ++ b from delN_key (x := (k, u)) ha b]
    exact rising_append.2 ⟨h1, (rising_cons.1 h2).2, fun x hx y hy => h3 x hx y (by simp [hy])⟩
  · rw [delN_under ha, (over_none hb).2.2]
    exact h
/-- which keys are there behind put and del -/
theorem hasN_iff {l : List Item} (h : Rising l) (k : ByteArray) : hasN l k = true ↔ ∃ x ∈ l, x.1 = k := by
  rcases rising_cases h k with ⟨a, u, b, rfl, ha, hb⟩ | ⟨a, b, rfl, ha, hb⟩
  · exact ⟨fun _ => ⟨(k, u), by simp, rfl⟩, fun _ => hasN_at_key (x := (k, u)) ha b⟩
  · rw [hasN_under ha, (over_none hb).1]
    refine ⟨(fun e => by cases e), ?_⟩
    rintro ⟨x, hx, rfl⟩
    rcases List.mem_append.1 hx with z | z
    · have := ha x z; rw [lessB_irrefl] at this; cases this
    · have := hb x z; rw [lessB_irrefl] at this; cases this
theorem mem_putN {l : List Item} (h : Rising l) (k v : ByteArray) (x : Item) : x ∈ putN l k v ↔ x = (k, v) ∨ (x ∈ l ∧ x.1 ≠ k) := by
  have nu : ∀ {a : List Item}, Under a k → ∀ {x}, x ∈ a → x.1 ≠ k := fun ha x hx e => by
    have := ha x hx; rw [e, lessB_irrefl] at this; cases this
  have no : ∀ {b : List Item}, (∀ y ∈ b, lessB k y.1 = true) → ∀ {x}, x ∈ b → x.1 ≠ k := fun hb x hx e => by
    have := hb x hx; rw [e, lessB_irrefl] at this; cases this
  rcases rising_cases h k with ⟨a, u, b, rfl, ha, hb⟩ | ⟨a, b, rfl, ha, hb⟩
  · rw [show putN (a ++ (k, u) :: b) k v = a ++ (k, v) :: b from putN_key (x := (k, u)) ha b]
    simp only [List.mem_append, List.mem_cons]
    constructor
    · rintro (z | z | z)
      · exact .inr ⟨.inl z, nu ha z⟩
      · exact .inl z
      · exact .inr ⟨.inr (.inr z), no hb z⟩
    · rintro (z | ⟨z | z | z, hn⟩)
      · exact .inr (.inl z)
      · exact .inl z
      · exact absurd (by rw [z]) hn
      · exact .inr (.inr z)
  · rw [putN_under ha, (over_none hb).2.1]
    simp only [List.mem_append, List.mem_cons]
    constructor
    · rintro (z | z | z)
      · exact .inr ⟨.inl z, nu ha z⟩
      · exact .inl z
      · exact .inr ⟨.inr z, no hb z⟩
    · rintro (z | ⟨z | z, _⟩)
      · exact .inr (.inl z)
      · exact .inl z
      · exact .inr (.inr z)
/-- two rising lists with the same items are one -/
theorem rising_ext : ∀ {a b : List Item} (_ : Rising a) (_ : Rising b) (_ : ∀ x, x ∈ a ↔ x ∈ b), a = b
  | [], [], _, _, _ => rfl
  | [], y :: b, _, _, h => by have := (h y).2 (by simp); cases this
  | x :: a, [], _, _, h => by have := (h x).1 (by simp); cases this
  | x :: a, y :: b, ha, hb, h => by
    obtain ⟨a1, a2⟩ := rising_cons.1 ha
    obtain ⟨b1, b2⟩ := rising_cons.1 hb
    have e : x = y := by
      rcases List.mem_cons.1 ((h x).1 (by simp)) with z | z
      · exact z
      · rcases List.mem_cons.1 ((h y).2 (by simp)) with w | w
        · exact w.symm
        · have := lessB_asymm (b1 x z)
          rw [a1 y w] at this
          cases this
    subst e
    rw [rising_ext a2 b2 (fun z => ?_)]
    have hz := h z
    simp only [List.mem_cons] at hz
    constructor
    · intro q
      rcases hz.1 (.inr q) with rfl | r
      · have := a1 z q; rw [lessB_irrefl] at this; cases this
      · exact r
    · intro q
      rcases hz.2 (.inr q) with rfl | r
      · have := b1 z q; rw [lessB_irrefl] at this; cases this
      · exact r
end Go.Proofs.Ytojiblhaiokdcaa
