/-
  What the statements of stage 5 hand to a way: the closures, and what a way that was given one of them comes to.
-/
import Derived.Test.YtglinhcldgpphaaGreatWalkLawA
import Derived.Test.YtglinhcldgpphaaGreatWayCalls
namespace Go.Proofs.YtglinhcldgpphaaGreat
open Go.RowKit

/-- a way of a shelf, from a world on -/
theorem OSW.go {SH : ShP} {SQ : SqP} {W w : World} {gs gr : Nat} {l : List Item} {fs : List (Value × Way)} (L : ShelfLaws SH) (K : WalkLaws SH SQ) (h : OSW SH SQ W w gs gr l fs) {fv : Value} {k : Way} (hm : (fv, k) ∈ fs) :
    ∃ i cap, fv = .func (.func i) #[] cap ∧ (∀ a w, (callFunc i a).run Tryz.prog w = .ok (.enter i a) w) ∧ ∀ w1, Below w.heap.size w w1 → ∃ B, WayIn i cap (wayL k l) B w1 ∧ ∀ q ∈ B, q < w.heap.size := by
  obtain ⟨_, F, Fr, sh, _, _, _, hf⟩ := h
  obtain ⟨B, sq, _⟩ := hf _ hm
  obtain ⟨i, cap, e, hi, _⟩ := K.go sq sh
  refine ⟨i, cap, e, hi, fun w1 hb => ⟨B, ?_, K.ltB sq⟩⟩
  have t : Touch [] w w1 := Touch.ofBelow hb
  obtain ⟨i', cap', e', _, hw⟩ := K.go (K.touch sq t (by simp)) (L.touch sh t (by simp))
  rw [show fv = _ from e] at e'
  injection e' with e1 _ e3
  injection e1 with e1
  subst e1 e3
  exact hw
theorem OSW.refW {SH : ShP} {SQ : SqP} {W w : World} {gs gr : Nat} {l : List Item} {fs : List (Value × Way)} (L : ShelfLaws SH) (K : WalkLaws SH SQ) (h : OSW SH SQ W w gs gr l fs) : ∃ Fr, RS w gr Fr 200 l ∧ ∀ w1, Below w.heap.size w w1 → OSW SH SQ W w1 gs gr l fs := by
  have h0 := h
  obtain ⟨_, F, Fr, _, c, _⟩ := h
  exact ⟨Fr, c, fun w1 hb => h0.below L K hb⟩
theorem OSW.rarcW {SH : ShP} {SQ : SqP} {W w : World} {gs gr : Nat} {l : List Item} {fs : List (Value × Way)} (L : ShelfLaws SH) (K : WalkLaws SH SQ) (h : OSW SH SQ W w gs gr l fs) (hl : l.length ≤ 60) (hk : ∀ x ∈ l, x.1.size ≤ 16) (f t : Nat) (hf : f < 18446744073709551616) (ht : t < 18446744073709551616) {a : List Item} (ha : arcL l f t = a) :
    Calls Tryz.prog 10 #[.pointer (some ⟨gr, 0, none⟩), .agg #[.int .u64 (f : Nat), .int .u64 (t : Nat)]] w fun e w' => ∃ A c, e = .returned (.slice A (a.length : Nat) c) ∧ w'.ownsRow w.heap.size 59 2 (.slice A a.length c) a.length (itemCells a) ∧ OSW SH SQ W w' gs gr l fs ∧ Below w.heap.size w w' := by
  subst ha
  obtain ⟨Fr, c, g⟩ := h.refW L K
  refine (refArc_any gr Fr 200 l f t w c (by omega) hk hf ht).mono ?_
  rintro e w' ⟨A, c, rfl, y, z⟩
  exact ⟨A, c, rfl, y, g _ z, z⟩
theorem OSW.rrangeW {SH : ShP} {SQ : SqP} {W w : World} {gs gr : Nat} {l : List Item} {fs : List (Value × Way)} (L : ShelfLaws SH) (K : WalkLaws SH SQ) (h : OSW SH SQ W w gs gr l fs) (hl : l.length ≤ 60) (f t : ByteArray) {a : List Item} (ha : rangeL l f t = a) :
    Calls Tryz.prog 8 #[.pointer (some ⟨gr, 0, none⟩), .string f, .string t] w fun e w' => ∃ A c, e = .returned (.slice A (a.length : Nat) c) ∧ w'.ownsRow w.heap.size 59 2 (.slice A a.length c) a.length (itemCells a) ∧ OSW SH SQ W w' gs gr l fs ∧ Below w.heap.size w w' := by
  subst ha
  obtain ⟨Fr, c, g⟩ := h.refW L K
  refine (refRange_any gr Fr 200 l f t w c (by omega)).mono ?_
  rintro e w' ⟨A, c, rfl, y, z⟩
  exact ⟨A, c, rfl, y, g _ z, z⟩
theorem OSW.listW {SH : ShP} {SQ : SqP} {W w : World} {gs gr : Nat} {l : List Item} {fs : List (Value × Way)} (h : OSW SH SQ W w gs gr l fs) : ∃ A c, gr < w.heap.size ∧ w.cell? ⟨gr, 1, none⟩ = some (.slice A l.length c) ∧ Row w (.slice A l.length c) l := by
  obtain ⟨_, F, Fr, _, ⟨A, c, ⟨h1, _, h3, _⟩, h6, _⟩, _⟩ := h
  exact ⟨A, c, h1, h3, h6⟩
/-- a closure of the statements' own, called by a way -/
theorem YV.own {y : Nat} {yc : Array Value} {k v : ByteArray} {w : World} {R : Ending → World → Prop} (hi : ∀ a w, (callFunc y a).run Tryz.prog w = .ok (.enter y a) w) (h : Calls Tryz.prog y (#[.string k, .string v] ++ yc) w R) : YV (.func (.func y) #[] yc) #[.string k, .string v] w R :=
  .inl ⟨y, #[], yc, rfl, hi, by simpa using h⟩
end Go.Proofs.YtglinhcldgpphaaGreat
