/-
  What a hold that has all tells, beside a map of what was put in (HoldSees): its states, each way of a round (no program is met here).
-/
import Derived.Test.YthgndgoljchnfaaGreatHg32
import Derived.Test.YthgndgoljchnfaaGreatHg30
namespace Go.Proofs.YthgndgoljchnfaaGreat
open Go.RowKit

def Se (its : List Item) : HO := ⟨1, 20, 0, fun _ => some 0, its, G0, 1⟩
theorem Se_start : (HO.new 1 20).take 5 5 0 = Se [] := by
  have e : ((HO.new 1 20).take 5 5 0).own = fun _ => some 0 := funext fun x => HO.take_own (in_whole 5 x)
  show (⟨1, min (max 20 0) 200, 0, ((HO.new 1 20).take 5 5 0).own, [], G0, 0 + 1⟩ : HO) = _
  rw [e]
  rfl
/-- the map has what the hold has -/
structure Like (its : List Item) (f : ByteArray → Option ByteArray) (m : Nat) : Prop where
  up : Rising its
  has : ∀ k, hasN its k = (f k).isSome
  at_ : ∀ k v, f k = some v → getI its k = v
  len : its.length = m
theorem Like.nil : Like [] (fun _ => none) 0 := ⟨Rising.nil, fun _ => rfl, (fun _ _ h => by cases h), rfl⟩
section
variable {its : List Item} {f : ByteArray → Option ByteArray} {m : Nat} (h : Like its f m)
include h
theorem Like.put (k v : ByteArray) : Like (putN its k v) (fun j => if j = k then some v else f j) (if (f k).isSome then m else m + 1) where
  up := h.up.put k v
  has := fun j => by
    rw [Hd.hasN_put h.up, h.has]
    by_cases e : j = k
    · simp [e]
    · simp [e]
  at_ := fun j u hj => by
    by_cases e : j = k
    · subst e
      rw [if_pos rfl] at hj
      rw [Hd.getI_put_same h.up, Option.some.inj hj]
    · rw [if_neg e] at hj
      rw [Hd.getI_put_other h.up k v e]
      exact h.at_ j u hj
  len := by
    rw [putN_length, h.has, h.len]
theorem Like.del (k : ByteArray) : Like (delN its k) (fun j => if j = k then none else f j) (if (f k).isSome then m - 1 else m) where
  up := h.up.del k
  has := fun j => by
    rw [Hd.hasN_del h.up, h.has]
    by_cases e : j = k
    · simp [e]
    · simp [e]
  at_ := fun j u hj => by
    by_cases e : j = k
    · rw [if_pos e] at hj
      cases hj
    · rw [if_neg e] at hj
      rw [Hd.getI_del_other h.up k e]
      exact h.at_ j u hj
  len := by
    rw [delN_length, h.has, h.len]
theorem Like.delNot {k : ByteArray} (hf : f k = none) : delN its k = its := by
  rw [delN, if_neg]
  rw [h.has, hf]
  simp
variable {k v tt : ByteArray} {mo : Int} {t : TL} {s1 : HO} (h3 : k.size ≠ 0) (h4 : k.size ≤ 16)
include h3 h4
/-- Put, and it is full -/
theorem Like.full (hd : Did (Se its) ⟨2, k, v, tt, mo⟩ t s1) (hv : v.size ≤ 16) (hf : f k = none) (hm : 20 ≤ m) : t = TL.err 5 ∧ s1 = Se its := by
  have z := hd.put h3 h4 (e := 0) rfl rfl
  have hv0 : valueN v = 0 := by rw [valueN, if_neg (by omega)]
  have e : (Se its).putE k v = 5 := by
    rw [HO.putE, if_neg (by rw [hv0]; simp), if_pos ⟨by show hasN its k = false; rw [h.has, hf]; rfl, by show (20 : Int) ≤ (its.length : Int) + ((0 : Nat) : Int); have := h.len; omega⟩]
  rw [e, if_neg (by decide)] at z
  exact z
/-- Put, and it is not -/
theorem Like.puts (hd : Did (Se its) ⟨2, k, v, tt, mo⟩ t s1) (hv : v.size ≤ 16) (hf : f k ≠ none ∨ m < 20) : t = TL.err 0 ∧ s1 = Se (putN its k v) := by
  have z := hd.put h3 h4 (e := 0) rfl rfl
  have hv0 : valueN v = 0 := by rw [valueN, if_neg (by omega)]
  have e : (Se its).putE k v = 0 := by
    rw [HO.putE, if_neg (by rw [hv0]; simp), if_neg]
    rintro ⟨y1, y2⟩
    have y1 : hasN its k = false := y1
    have y2 : (20 : Int) ≤ (its.length : Int) + ((0 : Nat) : Int) := y2
    have := h.len
    rcases hf with hf | hf
    · rw [h.has] at y1
      cases c : f k with
      | none => exact hf c
      | some u => rw [c] at y1; cases y1
    · omega
  rw [e, if_pos rfl] at z
  exact z
/-- Get, and it is there -/
theorem Like.got (hd : Did (Se its) ⟨1, k, v, tt, mo⟩ t s1) {u : ByteArray} (hf : f k = some u) : t = ⟨0, u, [], false, ⟨#[]⟩, 0⟩ ∧ s1 = Se its := by
  have z : t = (if hasN its k = true then ⟨0, getI its k, [], false, ⟨#[]⟩, 0⟩ else TL.err 6) ∧ s1 = Se its := hd.get h3 h4 (e := 0) rfl rfl
  rw [h.has, hf, if_pos (by rfl), h.at_ k u hf] at z
  exact z
theorem Like.gone (hd : Did (Se its) ⟨1, k, v, tt, mo⟩ t s1) (hf : f k = none) : t = TL.err 6 ∧ s1 = Se its := by
  have z : t = (if hasN its k = true then ⟨0, getI its k, [], false, ⟨#[]⟩, 0⟩ else TL.err 6) ∧ s1 = Se its := hd.get h3 h4 (e := 0) rfl rfl
  rw [h.has, hf, if_neg (by simp)] at z
  exact z
/-- Del -/
theorem Like.dels (hd : Did (Se its) ⟨3, k, v, tt, mo⟩ t s1) : t = TL.err (if (f k).isSome = true then 0 else 6) ∧ s1 = Se (delN its k) := by
  have z : t = TL.err (if hasN its k = true then 0 else 6) ∧ s1 = Se (delN its k) := hd.del h3 h4 (e := 0) rfl rfl
  rw [h.has] at z
  exact z
end
/-- the five ways of a round: what is told (er, val), what the hold has then (its1), what the map has (f1, m1; d more entries ever) -/
inductive WayS (its : List Item) (f : ByteArray → Option ByteArray) (m : Nat) (k v : ByteArray) : Int → Int → ByteArray → List Item → (ByteArray → Option ByteArray) → Nat → Nat → Prop where
  | full (h1 : f k = none) (h2 : 20 ≤ m) : WayS its f m k v 2 5 ⟨#[]⟩ its f m 0
  | puts (h1 : f k ≠ none ∨ m < 20) : WayS its f m k v 2 0 ⟨#[]⟩ (putN its k v) (fun j => if j = k then some v else f j) (if (f k).isSome then m else m + 1) 1
  | none_ (op : Int) (h1 : op = 1 ∨ op = 3) (h2 : f k = none) : WayS its f m k v op 6 ⟨#[]⟩ its f m 0
  | got (u : ByteArray) (h1 : f k = some u) : WayS its f m k v 1 0 u its f m 0
  | dels (u : ByteArray) (h1 : f k = some u) : WayS its f m k v 3 0 ⟨#[]⟩ (delN its k) (fun j => if j = k then none else f j) (if (f k).isSome then m - 1 else m) 0
theorem way_some (its : List Item) (f : ByteArray → Option ByteArray) (m : Nat) (k v : ByteArray) {op : Int} (h1 : 1 ≤ op) (h2 : op ≤ 3) : ∃ er val its1 f1 m1 d, WayS its f m k v op er val its1 f1 m1 d := by
  cases c : f k with
  | none =>
    by_cases o2 : op = 2
    · subst o2
      by_cases hm : 20 ≤ m
      · exact ⟨_, _, _, _, _, _, .full c hm⟩
      · exact ⟨_, _, _, _, _, _, .puts (.inr (by omega))⟩
    · exact ⟨_, _, _, _, _, _, .none_ op (by omega) c⟩
  | some u =>
    by_cases o2 : op = 2
    · subst o2
      exact ⟨_, _, _, _, _, _, .puts (.inl (by rw [c]; simp))⟩
    · by_cases o1 : op = 1
      · subst o1
        exact ⟨_, _, _, _, _, _, .got u c⟩
      · obtain rfl : op = 3 := by omega
        exact ⟨_, _, _, _, _, _, .dels u c⟩
section
variable {its its1 : List Item} {f f1 : ByteArray → Option ByteArray} {m m1 d : Nat} {k v val tt : ByteArray} {op er mo : Int} {t : TL} {s1 : HO}
theorem WayS.did (w : WayS its f m k v op er val its1 f1 m1 d) (h : Like its f m) (h3 : k.size ≠ 0) (h4 : k.size ≤ 16) (hv : v.size ≤ 16) (hd : Did (Se its) ⟨op, k, v, tt, mo⟩ t s1) : t = ⟨er, val, [], false, ⟨#[]⟩, 0⟩ ∧ s1 = Se its1 := by
  cases w with
  | full a b => exact h.full h3 h4 hd hv a b
  | puts a => exact h.puts h3 h4 hd hv a
  | none_ o a b =>
    rcases a with rfl | rfl
    · exact h.gone h3 h4 hd b
    · have z := h.dels h3 h4 hd
      rw [b, h.delNot b] at z
      exact z
  | got u a => exact h.got h3 h4 hd a
  | dels u a =>
    have z := h.dels h3 h4 hd
    rw [a] at z
    exact z
theorem WayS.like (w : WayS its f m k v op er val its1 f1 m1 d) (h : Like its f m) : Like its1 f1 m1 := by
  cases w with
  | full a b => exact h
  | puts a => exact h.put k v
  | none_ o a b => exact h
  | got u a => exact h
  | dels u a => exact h.del k
theorem WayS.few (w : WayS its f m k v op er val its1 f1 m1 d) : d ≤ 1 := by cases w <;> omega
end
end Go.Proofs.YthgndgoljchnfaaGreat
