/-
  What the walks of the statements ask of the code's own shelf (ShelfLaws: to be shown of the code that lands), and the first of them: alive.
-/
import Derived.Test.YtojiblhaiokdcaaRefPut
import Derived.Test.YtojiblhaiokdcaaBookAll
import Derived.Test.YtojiblhaiokdcaaRising
import Derived.Test.YtojiblhaiokdcaaShelfPlain
namespace Go.Proofs.Ytojiblhaiokdcaa
open Go.RowKit

def getN (l : List Item) (k : ByteArray) : ByteArray := match l[placeN l k]? with
  | some x => if x.1.toList == k.toList then x.2 else ByteArray.empty
  | none => ByteArray.empty
/-- SH W g most l F: in W the pointer to block g is a shelf for so many items, l is in it; F: all its blocks, g among them -/
structure ShelfLaws (SH : World → Nat → Int → List Item → List Nat → Prop) : Prop where
  touch : ∀ {W W1 : World} {g : Nat} {most : Int} {l : List Item} {F G : List Nat}, SH W g most l F → Touch G W W1 → (∀ q ∈ F, q ∉ G) → SH W1 g most l F
  ltF : ∀ {W : World} {g : Nat} {most : Int} {l : List Item} {F : List Nat}, SH W g most l F → ∀ q ∈ F, q < W.heap.size
  rising : ∀ {W : World} {g : Nat} {most : Int} {l : List Item} {F : List Nat}, SH W g most l F → Rising l
  new : ∀ (W : World) (most : Int), -9223372036854775808 ≤ most → most ≤ 9223372036854775807 → Calls Try.prog 11 #[.int .i64 most] W fun e w' =>
    ∃ g F, e = .returned (.pointer (some ⟨g, 0, none⟩)) ∧ SH w' g (min (max most 0) 200) [] F ∧ (∀ q ∈ F, W.heap.size ≤ q) ∧ Below W.heap.size W w'
  put : ∀ {W : World} {g : Nat} {most : Int} {l : List Item} {F : List Nat} (k v : ByteArray), SH W g most l F → k.size ≤ maxLen → v.size ≤ maxLen →
    Calls Try.prog 27 #[.pointer (some ⟨g, 0, none⟩), .string k, .string v] W fun e w' =>
      e = .returned (.int .i64 (putE most l k v)) ∧ ∃ F', SH w' g most (putS most l k v) F' ∧ Touch F W w' ∧ ∀ q ∈ F', q ∈ F ∨ W.heap.size ≤ q
  del : ∀ {W : World} {g : Nat} {most : Int} {l : List Item} {F : List Nat} (k : ByteArray), SH W g most l F →
    Calls Try.prog 30 #[.pointer (some ⟨g, 0, none⟩), .string k] W fun e w' =>
      e = .returned (.bool (hasN l k)) ∧ ∃ F', SH w' g most (delN l k) F' ∧ Touch F W w' ∧ ∀ q ∈ F', q ∈ F ∨ W.heap.size ≤ q
  get : ∀ {W : World} {g : Nat} {most : Int} {l : List Item} {F : List Nat} (k : ByteArray), SH W g most l F →
    Calls Try.prog 15 #[.pointer (some ⟨g, 0, none⟩), .string k] W fun e w' => e = .returned (.tuple #[.string (getN l k), .bool (hasN l k)]) ∧ Below W.heap.size W w'
  len : ∀ {W : World} {g : Nat} {most : Int} {l : List Item} {F : List Nat}, SH W g most l F →
    Calls Try.prog 14 #[.pointer (some ⟨g, 0, none⟩)] W fun e w' => e = .returned (.int .i64 (l.length : Nat)) ∧ Below W.heap.size W w'
  items : ∀ {W : World} {g : Nat} {most : Int} {l : List Item} {F : List Nat}, SH W g most l F →
    Calls Try.prog 22 #[.pointer (some ⟨g, 0, none⟩)] W (NewItems W l)
  copy : ∀ {W : World} {g : Nat} {most : Int} {l : List Item} {F : List Nat}, SH W g most l F →
    Calls Try.prog 32 #[.pointer (some ⟨g, 0, none⟩)] W fun e w' =>
      ∃ g' F', e = .returned (.pointer (some ⟨g', 0, none⟩)) ∧ SH w' g' most l F' ∧ (∀ q ∈ F', W.heap.size ≤ q) ∧ Below W.heap.size W w'
/-- a shelf of the call's own: all its blocks are new since W -/
def OS (SH : World → Nat → Int → List Item → List Nat → Prop) (W w : World) (g : Nat) (most : Int) (l : List Item) : Prop :=
  Below W.heap.size W w ∧ ∃ F, SH w g most l F ∧ ∀ q ∈ F, W.heap.size ≤ q
theorem OS.below {SH : World → Nat → Int → List Item → List Nat → Prop} (L : ShelfLaws SH) {W w w1 : World} {g : Nat} {most : Int} {l : List Item} (h : OS SH W w g most l) (hb : Below w.heap.size w w1) : OS SH W w1 g most l := by
  obtain ⟨h1, F, h2, h3⟩ := h
  exact ⟨acc h1 hb, F, L.touch h2 (Touch.ofBelow (F := []) hb) (by simp), h3⟩
theorem OS.put {SH : World → Nat → Int → List Item → List Nat → Prop} (L : ShelfLaws SH) {W w : World} {g : Nat} {most : Int} {l : List Item} (h : OS SH W w g most l) (k v : ByteArray) (hk : k.size ≤ maxLen) (hv : v.size ≤ maxLen) {r : Int} {l' : List Item} (hr : putE most l k v = r) (hl : putS most l k v = l') :
    Calls Try.prog 27 #[.pointer (some ⟨g, 0, none⟩), .string k, .string v] w fun e w' => e = .returned (.int .i64 r) ∧ OS SH W w' g most l' := by
  obtain ⟨h1, F, h2, h3⟩ := h
  refine (L.put k v h2 hk hv).mono ?_
  rintro e w' ⟨rfl, F', h4, h5, h6⟩
  rw [hl] at h4
  refine ⟨by rw [hr], Touch.acc h1 h5 h3, F', h4, fun q hq => ?_⟩
  rcases h6 q hq with z | z
  · exact h3 q z
  · exact Nat.le_trans h1.size z
theorem OS.del {SH : World → Nat → Int → List Item → List Nat → Prop} (L : ShelfLaws SH) {W w : World} {g : Nat} {most : Int} {l : List Item} (h : OS SH W w g most l) (k : ByteArray) :
    Calls Try.prog 30 #[.pointer (some ⟨g, 0, none⟩), .string k] w fun e w' => e = .returned (.bool (hasN l k)) ∧ OS SH W w' g most (delN l k) := by
  obtain ⟨h1, F, h2, h3⟩ := h
  refine (L.del k h2).mono ?_
  rintro e w' ⟨rfl, F', h4, h5, h6⟩
  refine ⟨rfl, Touch.acc h1 h5 h3, F', h4, fun q hq => ?_⟩
  rcases h6 q hq with z | z
  · exact h3 q z
  · exact Nat.le_trans h1.size z
theorem OS.new {SH : World → Nat → Int → List Item → List Nat → Prop} (L : ShelfLaws SH) {W w : World} (h : Below W.heap.size W w) (most : Int) (h0 : -9223372036854775808 ≤ most) (h1 : most ≤ 9223372036854775807) :
    Calls Try.prog 11 #[.int .i64 most] w fun e w' => ∃ g, e = .returned (.pointer (some ⟨g, 0, none⟩)) ∧ OS SH W w' g (min (max most 0) 200) [] := by
  refine (L.new w most h0 h1).mono ?_
  rintro e w' ⟨g, F, rfl, h4, h5, h6⟩
  exact ⟨g, rfl, acc h h6, F, h4, fun q hq => Nat.le_trans h.size (h5 q hq)⟩
theorem OS.len {SH : World → Nat → Int → List Item → List Nat → Prop} (L : ShelfLaws SH) {W w : World} {g : Nat} {most : Int} {l : List Item} (h : OS SH W w g most l) :
    Calls Try.prog 14 #[.pointer (some ⟨g, 0, none⟩)] w fun e w' => e = .returned (.int .i64 (l.length : Nat)) ∧ OS SH W w' g most l := by
  have h0 := h
  obtain ⟨h1, F, h2, h3⟩ := h
  refine (L.len h2).mono ?_
  rintro e w' ⟨rfl, hb⟩
  exact ⟨rfl, h0.below L hb⟩
theorem OS.items {SH : World → Nat → Int → List Item → List Nat → Prop} (L : ShelfLaws SH) {W w : World} {g : Nat} {most : Int} {l : List Item} (h : OS SH W w g most l) :
    Calls Try.prog 22 #[.pointer (some ⟨g, 0, none⟩)] w fun e w' => ∃ A c, e = .returned (.slice A l.length c) ∧ w'.ownsRow w.heap.size 39 2 (.slice A l.length c) l.length (itemCells l) ∧ OS SH W w' g most l := by
  have h0 := h
  obtain ⟨h1, F, h2, h3⟩ := h
  refine (L.items h2).mono ?_
  rintro e w' ⟨A, c, rfl, a, hb⟩
  exact ⟨A, c, rfl, a, h0.below L hb⟩

abbrev tA : ByteArray := ⟨#[97]⟩
abbrev tB : ByteArray := ⟨#[98]⟩
abbrev tC : ByteArray := ⟨#[99]⟩
abbrev t1 : ByteArray := ⟨#[49]⟩
abbrev t2 : ByteArray := ⟨#[50]⟩
abbrev tE : ByteArray := ⟨#[]⟩
theorem alive_1 : putE 2 [] tB t1 = 0 ∧ putS 2 [] tB t1 = [(tB, t1)] := by
  have h : putE 2 [] tB t1 = 0 := by simp [putE, rightN, valueN, ByteArray.size]
  exact ⟨h, by simp [putS, h, putN, hasN, placeN]⟩
theorem alive_2 : putE 2 [(tB, t1)] tA t2 = 0 ∧ putS 2 [(tB, t1)] tA t2 = [(tA, t2), (tB, t1)] := by
  have e : lessB tB tA = false := by simp [lessB, Lib.toList_data, Op.bytesLess]
  have n : hasN [(tB, t1)] tA = false := by simp [hasN, placeN, e, Lib.toList_data]
  have h : putE 2 [(tB, t1)] tA t2 = 0 := by simp [putE, rightN, valueN, ByteArray.size]
  exact ⟨h, by simp [putS, h, putN, n, placeN, e]⟩
theorem alive_3 : putE 2 [(tA, t2), (tB, t1)] tC tE = 5 ∧ putS 2 [(tA, t2), (tB, t1)] tC tE = [(tA, t2), (tB, t1)] := by
  have e : lessB tA tC = true := by simp [lessB, Lib.toList_data, Op.bytesLess]
  have e2 : lessB tB tC = true := by simp [lessB, Lib.toList_data, Op.bytesLess]
  have n : hasN [(tA, t2), (tB, t1)] tC = false := by simp [hasN, placeN, e, e2]
  have h : putE 2 [(tA, t2), (tB, t1)] tC tE = 5 := by simp [putE, rightN, valueN, ByteArray.size, n]
  exact ⟨h, by simp [putS, h]⟩
theorem alive_4 : putE 2 [(tA, t2), (tB, t1)] tE tE = 3 ∧ putS 2 [(tA, t2), (tB, t1)] tE tE = [(tA, t2), (tB, t1)] := by
  have h : putE 2 [(tA, t2), (tB, t1)] tE tE = 3 := by simp [putE, rightN, ByteArray.size]
  exact ⟨h, by simp [putS, h]⟩

end Go.Proofs.Ytojiblhaiokdcaa
