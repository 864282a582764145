/-
  What the walks of stage 5's statements ask of the code's ways (WalkLaws: to be shown of the code that lands); the shelf, the document's, and ways over the shelf, side by side (OSW).
-/
import Derived.Test.YtglinhcldgpphaaGreatWalkFacts
import Derived.Test.YtglinhcldgpphaaGreatShelfRef
import Derived.Test.YtglinhcldgpphaaGreatRefMiddle
import Derived.Test.YtglinhcldgpphaaGreatRounds
namespace Go.Proofs.YtglinhcldgpphaaGreat
open Go.RowKit

inductive Way where
  | all
  | range (f t : ByteArray)
  | arc (f t : Nat)
def wayL : Way → List Item → List Item
  | .all, l => l
  | .range f t, l => rangeL l f t
  | .arc f t, l => arcL l f t
abbrev ShP := World → Nat → Int → List Item → List Nat → Prop
abbrev SqP := World → Value → Way → Nat → List Nat → Prop
/-- SQ W fv k g B: in W the function value fv goes that way through the shelf at block g; B: its own blocks -/
structure WalkLaws (SH : ShP) (SQ : SqP) : Prop where
  touch : ∀ {W W1 : World} {fv : Value} {k : Way} {g : Nat} {B G : List Nat}, SQ W fv k g B → Touch G W W1 → (∀ q ∈ B, q ∉ G) → SQ W1 fv k g B
  ltB : ∀ {W : World} {fv : Value} {k : Way} {g : Nat} {B : List Nat}, SQ W fv k g B → ∀ q ∈ B, q < W.heap.size
  some_ : ∀ {W : World} {fv : Value} {k : Way} {g : Nat} {B : List Nat}, SQ W fv k g B → ∃ i first cap, fv = .func (.func i) first cap ∧ ∀ a w, (callFunc i a).run Tryz.prog w = .ok (.enter i a) w
  all : ∀ {W : World} {g : Nat} {l : List Item} {F : List Nat}, SH W g 200 l F → Calls Tryz.prog 6 #[.pointer (some ⟨g, 0, none⟩)] W fun e w' =>
    ∃ fv B, e = .returned fv ∧ SQ w' fv .all g B ∧ (∀ q ∈ B, W.heap.size ≤ q) ∧ Below W.heap.size W w'
  range : ∀ {W : World} {g : Nat} {l : List Item} {F : List Nat} (f t : ByteArray), SH W g 200 l F → f.size ≤ maxLen → t.size ≤ maxLen → Calls Tryz.prog 7 #[.pointer (some ⟨g, 0, none⟩), .string f, .string t] W fun e w' =>
    ∃ fv B, e = .returned fv ∧ SQ w' fv (.range f t) g B ∧ (∀ q ∈ B, W.heap.size ≤ q) ∧ Below W.heap.size W w'
  arc : ∀ {W : World} {g : Nat} {l : List Item} {F : List Nat} (f t : Nat), SH W g 200 l F → f < 18446744073709551616 → t < 18446744073709551616 → Calls Tryz.prog 9 #[.pointer (some ⟨g, 0, none⟩), .agg #[.int .u64 (f : Nat), .int .u64 (t : Nat)]] W fun e w' =>
    ∃ fv B, e = .returned fv ∧ SQ w' fv (.arc f t) g B ∧ (∀ q ∈ B, W.heap.size ≤ q) ∧ Below W.heap.size W w'
  collect : ∀ {W : World} {fv : Value} {k : Way} {g : Nat} {B : List Nat} {l : List Item} {F : List Nat} (n : Int), SQ W fv k g B → SH W g 200 l F → (∀ q ∈ F, q ∉ B) → (∀ x ∈ l, x.1.size ≤ 16) → -9223372036854775808 ≤ n → n ≤ 9223372036854775807 →
    Calls Tryz.prog 14 #[fv, .int .i64 n] W (NewItems W ((wayL k l).take n.toNat))
  /-- going that way -/
  go : ∀ {W : World} {fv : Value} {k : Way} {g : Nat} {B : List Nat} {l : List Item} {F : List Nat}, SQ W fv k g B → SH W g 200 l F →
    ∃ i cap, fv = .func (.func i) #[] cap ∧ (∀ a w, (callFunc i a).run Tryz.prog w = .ok (.enter i a) w) ∧ WayIn i cap (wayL k l) B W
  rank : ∀ {W : World} {g : Nat} {l : List Item} {F : List Nat} (k : ByteArray), SH W g 200 l F → k.size ≤ maxLen → Calls Tryz.prog 19 #[.pointer (some ⟨g, 0, none⟩), .string k] W fun e w' => e = .returned (.int .i64 (placeN l k : Nat)) ∧ Below W.heap.size W w'
  at_ : ∀ {W : World} {g : Nat} {l : List Item} {F : List Nat} (n : Int), SH W g 200 l F → -9223372036854775808 ≤ n → n ≤ 9223372036854775807 → Calls Tryz.prog 18 #[.pointer (some ⟨g, 0, none⟩), .int .i64 n] W fun e w' => e = .returned (atV l n) ∧ Below W.heap.size W w'
  count : ∀ {W : World} {g : Nat} {l : List Item} {F : List Nat} (f t : Nat), SH W g 200 l F → (∀ x ∈ l, x.1.size ≤ 16) → f < 18446744073709551616 → t < 18446744073709551616 → Calls Tryz.prog 66 #[.pointer (some ⟨g, 0, none⟩), .agg #[.int .u64 (f : Nat), .int .u64 (t : Nat)]] W fun e w' => e = .returned (.int .i64 ((arcL l f t).length : Nat)) ∧ Below W.heap.size W w'
  middle : ∀ {W : World} {g : Nat} {l : List Item} {F : List Nat} (f t : Nat), SH W g 200 l F → (∀ x ∈ l, x.1.size ≤ 16) → f < 18446744073709551616 → t < 18446744073709551616 → Calls Tryz.prog 17 #[.pointer (some ⟨g, 0, none⟩), .agg #[.int .u64 (f : Nat), .int .u64 (t : Nat)]] W fun e w' => e = .returned (midV (midL (arcL l f t))) ∧ Below W.heap.size W w'
  rank0 : ∀ (W : World) (k : ByteArray), Calls Tryz.prog 19 #[.pointer none, .string k] W fun e w' => e = .returned (.int .i64 0) ∧ Below W.heap.size W w'
  at0 : ∀ (W : World) (n : Int), Calls Tryz.prog 18 #[.pointer none, .int .i64 n] W fun e w' => e = .returned (atV [] n) ∧ Below W.heap.size W w'
  count0 : ∀ (W : World) (f t : Nat), f < 18446744073709551616 → t < 18446744073709551616 → Calls Tryz.prog 66 #[.pointer none, .agg #[.int .u64 (f : Nat), .int .u64 (t : Nat)]] W fun e w' => e = .returned (.int .i64 0) ∧ Below W.heap.size W w'
  middle0 : ∀ (W : World) (f t : Nat), f < 18446744073709551616 → t < 18446744073709551616 → Calls Tryz.prog 17 #[.pointer none, .agg #[.int .u64 (f : Nat), .int .u64 (t : Nat)]] W fun e w' => e = .returned (midV none) ∧ Below W.heap.size W w'
/-- the shelf at gs, the document's at gr, both with l; ways over the shelf -/
def OSW (SH : ShP) (SQ : SqP) (W w : World) (gs gr : Nat) (l : List Item) (fs : List (Value × Way)) : Prop :=
  Below W.heap.size W w ∧ ∃ F Fr, SH w gs 200 l F ∧ RS w gr Fr 200 l ∧ (∀ q ∈ F, W.heap.size ≤ q ∧ q ≠ gr ∧ q ∉ Fr) ∧ (W.heap.size ≤ gr ∧ ∀ q ∈ Fr, W.heap.size ≤ q) ∧ ∀ x ∈ fs, ∃ B, SQ w x.1 x.2 gs B ∧ ∀ q ∈ F, q ∉ B
section
variable {SH : ShP} {SQ : SqP} {W w w1 : World} {gs gr : Nat} {l : List Item} {fs : List (Value × Way)}
theorem OSR.ways (h : OSR SH W w [] gs l gr l) : OSW SH SQ W w gs gr l [] := by
  obtain ⟨a, F, Fr, b, c, d, e, _, _⟩ := h
  exact ⟨a, F, Fr, b, c, fun q hq => ⟨(d q hq).1, (d q hq).2.1, (d q hq).2.2.1⟩, e, fun x hx => by cases hx⟩
theorem OSW.below (L : ShelfLaws SH) (K : WalkLaws SH SQ) (h : OSW SH SQ W w gs gr l fs) (hb : Below w.heap.size w w1) : OSW SH SQ W w1 gs gr l fs := by
  obtain ⟨a, F, Fr, b, c, d, e, f⟩ := h
  have t : Touch [] w w1 := Touch.ofBelow hb
  refine ⟨acc a hb, F, Fr, L.touch b t (by simp), c.touch t (by simp) (by simp), d, e, fun x hx => ?_⟩
  obtain ⟨B, h1, h2⟩ := f x hx
  exact ⟨B, K.touch h1 t (by simp), h2⟩
theorem OSW.less (h : OSW SH SQ W w gs gr l fs) {es : List (Value × Way)} (he : ∀ x ∈ es, x ∈ fs) : OSW SH SQ W w gs gr l es := by
  obtain ⟨a, F, Fr, b, c, d, e, f⟩ := h
  exact ⟨a, F, Fr, b, c, d, e, fun x hx => f x (he x hx)⟩
/-- a way more -/
theorem OSW.more (L : ShelfLaws SH) (K : WalkLaws SH SQ) (h : OSW SH SQ W w gs gr l fs) {fv : Value} {k : Way} (hc : ∀ F, SH w gs 200 l F → ∃ B, SQ w1 fv k gs B ∧ (∀ q ∈ B, w.heap.size ≤ q) ∧ Below w.heap.size w w1) : OSW SH SQ W w1 gs gr l (fs ++ [(fv, k)]) := by
  have h0 := h
  obtain ⟨a, F, Fr, b, c, d, e, f⟩ := h
  obtain ⟨B, h1, h2, h3⟩ := hc F b
  have t : Touch [] w w1 := Touch.ofBelow h3
  refine ⟨acc a h3, F, Fr, L.touch b t (by simp), c.touch t (by simp) (by simp), d, e, fun x hx => ?_⟩
  rcases List.mem_append.1 hx with z | z
  · obtain ⟨B', g1, g2⟩ := f x z
    exact ⟨B', K.touch g1 t (by simp), g2⟩
  · simp at z
    subst z
    exact ⟨B, h1, fun q hq hb => by have := L.ltF b q hq; have := h2 q hb; omega⟩
theorem OSW.all (L : ShelfLaws SH) (K : WalkLaws SH SQ) (h : OSW SH SQ W w gs gr l fs) : Calls Tryz.prog 6 #[.pointer (some ⟨gs, 0, none⟩)] w fun e w' => ∃ fv, e = .returned fv ∧ OSW SH SQ W w' gs gr l (fs ++ [(fv, .all)]) ∧ Below w.heap.size w w' := by
  obtain ⟨a, F, Fr, b, r⟩ := h
  refine (K.all b).mono ?_
  rintro e w' ⟨fv, B, rfl, h1, h2, h3⟩
  exact ⟨fv, rfl, OSW.more L K ⟨a, F, Fr, b, r⟩ (fun _ _ => ⟨B, h1, h2, h3⟩), h3⟩
theorem OSW.range (L : ShelfLaws SH) (K : WalkLaws SH SQ) (h : OSW SH SQ W w gs gr l fs) (f t : ByteArray) (hf : f.size ≤ maxLen) (ht : t.size ≤ maxLen) : Calls Tryz.prog 7 #[.pointer (some ⟨gs, 0, none⟩), .string f, .string t] w fun e w' => ∃ fv, e = .returned fv ∧ OSW SH SQ W w' gs gr l (fs ++ [(fv, .range f t)]) ∧ Below w.heap.size w w' := by
  obtain ⟨a, F, Fr, b, r⟩ := h
  refine (K.range f t b hf ht).mono ?_
  rintro e w' ⟨fv, B, rfl, h1, h2, h3⟩
  exact ⟨fv, rfl, OSW.more L K ⟨a, F, Fr, b, r⟩ (fun _ _ => ⟨B, h1, h2, h3⟩), h3⟩
theorem OSW.arc (L : ShelfLaws SH) (K : WalkLaws SH SQ) (h : OSW SH SQ W w gs gr l fs) (f t : Nat) (hf : f < 18446744073709551616) (ht : t < 18446744073709551616) : Calls Tryz.prog 9 #[.pointer (some ⟨gs, 0, none⟩), .agg #[.int .u64 (f : Nat), .int .u64 (t : Nat)]] w fun e w' => ∃ fv, e = .returned fv ∧ OSW SH SQ W w' gs gr l (fs ++ [(fv, .arc f t)]) ∧ Below w.heap.size w w' := by
  obtain ⟨a, F, Fr, b, r⟩ := h
  refine (K.arc f t b hf ht).mono ?_
  rintro e w' ⟨fv, B, rfl, h1, h2, h3⟩
  exact ⟨fv, rfl, OSW.more L K ⟨a, F, Fr, b, r⟩ (fun _ _ => ⟨B, h1, h2, h3⟩), h3⟩
theorem OSW.collect (L : ShelfLaws SH) (K : WalkLaws SH SQ) (h : OSW SH SQ W w gs gr l fs) {fv : Value} {k : Way} (hm : (fv, k) ∈ fs) (hl : ∀ x ∈ l, x.1.size ≤ 16) (n : Int) (h0 : -9223372036854775808 ≤ n) (h1 : n ≤ 9223372036854775807) {a : List Item} (ha : (wayL k l).take n.toNat = a) : Calls Tryz.prog 14 #[fv, .int .i64 n] w fun e w' => ∃ A c, e = .returned (.slice A (a.length : Nat) c) ∧ w'.ownsRow w.heap.size 59 2 (.slice A a.length c) a.length (itemCells a) ∧ OSW SH SQ W w' gs gr l fs ∧ Below w.heap.size w w' := by
  subst ha
  have hh := h
  obtain ⟨a, F, Fr, b, _, _, _, f⟩ := h
  obtain ⟨B, g1, g2⟩ := f _ hm
  refine (K.collect n g1 b g2 hl h0 h1).mono ?_
  rintro e w' ⟨A, c, rfl, z1, z2⟩
  exact ⟨A, c, rfl, z1, hh.below L K z2, z2⟩
theorem OSW.rank (L : ShelfLaws SH) (K : WalkLaws SH SQ) (h : OSW SH SQ W w gs gr l fs) (k : ByteArray) (hk : k.size ≤ maxLen) {n : Nat} (hn : placeN l k = n) : Calls Tryz.prog 19 #[.pointer (some ⟨gs, 0, none⟩), .string k] w fun e w' => e = .returned (.int .i64 (n : Nat)) ∧ OSW SH SQ W w' gs gr l fs ∧ Below w.heap.size w w' := by
  subst hn
  have hh := h
  obtain ⟨a, F, Fr, b, _⟩ := h
  refine (K.rank k b hk).mono ?_
  rintro e w' ⟨rfl, z⟩
  exact ⟨rfl, hh.below L K z, z⟩
theorem OSW.at_ (L : ShelfLaws SH) (K : WalkLaws SH SQ) (h : OSW SH SQ W w gs gr l fs) (n : Int) (h0 : -9223372036854775808 ≤ n) (h1 : n ≤ 9223372036854775807) {v : Value} (hv : atV l n = v) : Calls Tryz.prog 18 #[.pointer (some ⟨gs, 0, none⟩), .int .i64 n] w fun e w' => e = .returned v ∧ OSW SH SQ W w' gs gr l fs ∧ Below w.heap.size w w' := by
  subst hv
  have hh := h
  obtain ⟨a, F, Fr, b, _⟩ := h
  refine (K.at_ n b h0 h1).mono ?_
  rintro e w' ⟨rfl, z⟩
  exact ⟨rfl, hh.below L K z, z⟩
theorem OSW.count (L : ShelfLaws SH) (K : WalkLaws SH SQ) (h : OSW SH SQ W w gs gr l fs) (hl : ∀ x ∈ l, x.1.size ≤ 16) (f t : Nat) (hf : f < 18446744073709551616) (ht : t < 18446744073709551616) {n : Nat} (hn : (arcL l f t).length = n) : Calls Tryz.prog 66 #[.pointer (some ⟨gs, 0, none⟩), .agg #[.int .u64 (f : Nat), .int .u64 (t : Nat)]] w fun e w' => e = .returned (.int .i64 (n : Nat)) ∧ OSW SH SQ W w' gs gr l fs ∧ Below w.heap.size w w' := by
  subst hn
  have hh := h
  obtain ⟨a, F, Fr, b, _⟩ := h
  refine (K.count f t b hl hf ht).mono ?_
  rintro e w' ⟨rfl, z⟩
  exact ⟨rfl, hh.below L K z, z⟩
theorem OSW.middle (L : ShelfLaws SH) (K : WalkLaws SH SQ) (h : OSW SH SQ W w gs gr l fs) (hl : ∀ x ∈ l, x.1.size ≤ 16) (f t : Nat) (hf : f < 18446744073709551616) (ht : t < 18446744073709551616) {o : Option Nat} (ho : midL (arcL l f t) = o) : Calls Tryz.prog 17 #[.pointer (some ⟨gs, 0, none⟩), .agg #[.int .u64 (f : Nat), .int .u64 (t : Nat)]] w fun e w' => e = .returned (midV o) ∧ OSW SH SQ W w' gs gr l fs ∧ Below w.heap.size w w' := by
  subst ho
  have hh := h
  obtain ⟨a, F, Fr, b, _⟩ := h
  refine (K.middle f t b hl hf ht).mono ?_
  rintro e w' ⟨rfl, z⟩
  exact ⟨rfl, hh.below L K z, z⟩
end
end Go.Proofs.YtglinhcldgpphaaGreat
