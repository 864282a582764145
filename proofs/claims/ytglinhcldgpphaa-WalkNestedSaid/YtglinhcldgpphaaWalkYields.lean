/-
  What the statements of stage 5 hand to a way: the closures, and what a way that was given one of them comes to.
-/
import Derived.Test.YtglinhcldgpphaaWalkLawA
import Derived.Test.YtglinhcldgpphaaWayCalls
namespace Go.Proofs.Ytglinhcldgpphaa
open Go.RowKit

/-- a way of a shelf, from a world on -/
theorem OSW.go {SH : ShP} {SQ : SqP} {W w : World} {gs gr : Nat} {l : List Item} {fs : List (Value × Way)} (L : ShelfLaws SH) (K : WalkLaws SH SQ) (h : OSW SH SQ W w gs gr l fs) {fv : Value} {k : Way} (hm : (fv, k) ∈ fs) :
    ∃ i cap, fv = .func (.func i) #[] cap ∧ (∀ a w, (callFunc i a).run Try.prog w = .ok (.enter i a) w) ∧ ∀ w1, Below w.heap.size w w1 → ∃ B, WayIn i cap (wayL k l) B w1 ∧ ∀ q ∈ B, q < w.heap.size := by
  obtain ⟨_, F, Fr, sh, _, _, _, hf⟩ := h
  obtain ⟨B, sq, _⟩ := hf _ hm
  obtain ⟨i, cap, e, hi, _⟩ := K.go sq sh
  refine ⟨i, cap, e, hi, fun w1 hb => ⟨B, ?_, K.ltB sq⟩⟩
  have t : Touch [] w w1 := Touch.ofBelow hb
  obtain ⟨i', cap', e', _, hw⟩ := K.go (K.touch sq t (by simp)) (L.touch sh t (by simp))
  rw [show fv = _ from e] at e'
  injection e' with e1 _ e3
  injection e1 with e1
  subst e1 e3
  exact hw
theorem OSW.refW {SH : ShP} {SQ : SqP} {W w : World} {gs gr : Nat} {l : List Item} {fs : List (Value × Way)} (L : ShelfLaws SH) (K : WalkLaws SH SQ) (h : OSW SH SQ W w gs gr l fs) : ∃ Fr, RS w gr Fr 200 l ∧ ∀ w1, Below w.heap.size w w1 → OSW SH SQ W w1 gs gr l fs := by
  have h0 := h
  obtain ⟨_, F, Fr, _, c, _⟩ := h
  exact ⟨Fr, c, fun w1 hb => h0.below L K hb⟩
theorem OSW.rarcW {SH : ShP} {SQ : SqP} {W w : World} {gs gr : Nat} {l : List Item} {fs : List (Value × Way)} (L : ShelfLaws SH) (K : WalkLaws SH SQ) (h : OSW SH SQ W w gs gr l fs) (hl : l.length ≤ 60) (hk : ∀ x ∈ l, x.1.size ≤ 16) (f t : Nat) (hf : f < 18446744073709551616) (ht : t < 18446744073709551616) {a : List Item} (ha : arcL l f t = a) :
    Calls Try.prog 20 #[.pointer (some ⟨gr, 0, none⟩), .agg #[.int .u64 (f : Nat), .int .u64 (t : Nat)]] w fun e w' => ∃ A c, e = .returned (.slice A (a.length : Nat) c) ∧ w'.ownsRow w.heap.size 32 2 (.slice A a.length c) a.length (itemCells a) ∧ OSW SH SQ W w' gs gr l fs ∧ Below w.heap.size w w' := by
  subst ha
  obtain ⟨Fr, c, g⟩ := h.refW L K
  refine (refArc_any gr Fr 200 l f t w c (by omega) hk hf ht).mono ?_
  rintro e w' ⟨A, c, rfl, y, z⟩
  exact ⟨A, c, rfl, y, g _ z, z⟩
theorem OSW.rrangeW {SH : ShP} {SQ : SqP} {W w : World} {gs gr : Nat} {l : List Item} {fs : List (Value × Way)} (L : ShelfLaws SH) (K : WalkLaws SH SQ) (h : OSW SH SQ W w gs gr l fs) (hl : l.length ≤ 60) (f t : ByteArray) {a : List Item} (ha : rangeL l f t = a) :
    Calls Try.prog 33 #[.pointer (some ⟨gr, 0, none⟩), .string f, .string t] w fun e w' => ∃ A c, e = .returned (.slice A (a.length : Nat) c) ∧ w'.ownsRow w.heap.size 32 2 (.slice A a.length c) a.length (itemCells a) ∧ OSW SH SQ W w' gs gr l fs ∧ Below w.heap.size w w' := by
  subst ha
  obtain ⟨Fr, c, g⟩ := h.refW L K
  refine (refRange_any gr Fr 200 l f t w c (by omega)).mono ?_
  rintro e w' ⟨A, c, rfl, y, z⟩
  exact ⟨A, c, rfl, y, g _ z, z⟩
theorem OSW.listW {SH : ShP} {SQ : SqP} {W w : World} {gs gr : Nat} {l : List Item} {fs : List (Value × Way)} (h : OSW SH SQ W w gs gr l fs) : ∃ A c, gr < w.heap.size ∧ w.cell? ⟨gr, 1, none⟩ = some (.slice A l.length c) ∧ Row w (.slice A l.length c) l := by
  obtain ⟨_, F, Fr, _, ⟨A, c, ⟨h1, _, h3, _⟩, h6, _⟩, _⟩ := h
  exact ⟨A, c, h1, h3, h6⟩
/-- a closure of the statements' own, called by a way -/
theorem YV.own {y : Nat} {yc : Array Value} {k v : ByteArray} {w : World} {R : Ending → World → Prop} (hi : ∀ a w, (callFunc y a).run Try.prog w = .ok (.enter y a) w) (h : Calls Try.prog y (#[.string k, .string v] ++ yc) w R) : YV (.func (.func y) #[] yc) #[.string k, .string v] w R :=
  .inl ⟨y, #[], yc, rfl, hi, by simpa using h⟩
theorem stop_any (k v : ByteArray) (b : Nat) (z : Nat) (V : World) (h : Var V b (.int .i64 (z : Nat))) (hz : z ≤ 1000) :
    Calls Try.prog 32 #[.string k, .string v, .pointer (some ⟨b, 0, none⟩)] V fun e w' => e = .returned (.bool false) ∧ w' = V.setCell ⟨b, 0, none⟩ (.int .i64 ((z + 1 : Nat) : Int)) := by
  have c0 := h.val
  have f0 := h.free
  go_enter Try.func32, Try.ntmps32
  go_wp2_with fail
  go_ret
  exact ⟨rfl, rfl⟩
theorem stopWay {i : Nat} {cap : Array Value} {xs : List Item} {B : List Nat} {W : World} (hw : WayIn i cap xs B W) {b : Nat} (h : Var W b (.int .i64 0)) (hb : b ∉ B) :
    Calls Try.prog i (#[.func (.func 32) #[] #[.pointer (some ⟨b, 0, none⟩)]] ++ cap) W fun e w' => e = .returned (.tuple #[]) ∧ Var w' b (.int .i64 (min xs.length 1 : Nat)) ∧ Touch [b] W w' := by
  refine (hw (.func 32) #[] #[.pointer (some ⟨b, 0, none⟩)] (fun m V Y => Y = [b] ∧ m = 0 ∧ Var V b (.int .i64 0)) (fun V Y => Y = [b] ∧ Var V b (.int .i64 1) ∧ 1 ≤ xs.length) [b] ?_ ⟨rfl, rfl, h⟩ ?_ ?_ ?_).mono ?_
  · have := h.lt
    simpa using this
  · rintro m V V1 Y G ⟨rfl, h1, h2⟩ t hn
    exact ⟨rfl, h1, h2.touch t (hn _ (by simp))⟩
  · rintro V V1 Y G ⟨rfl, h1, h2⟩ t hn
    exact ⟨rfl, h1.touch t (hn _ (by simp)), h2⟩
  · rintro m x V Y hx ⟨rfl, rfl, hv⟩ hY
    refine YV.own (enters_of Try.func32 (by kernel_rfl) rfl) ((stop_any x.1 x.2 b 0 V hv (by omega)).mono ?_)
    rintro e w' ⟨rfl, rfl⟩
    refine ⟨[b], ⟨⟨[b], (Touch.refl _ _).set (.inl (by simp)) _, fun q hq => ?_⟩, fun q hq => ⟨by simpa [World.setCell] using hY q hq, .inl hq⟩⟩, .inr ⟨rfl, rfl, hv.set _, ?_⟩⟩
    · simp at hq
      subst hq
      exact ⟨by simp, hb⟩
    · have := (List.getElem?_eq_some_iff.1 hx).1
      omega
  · rintro e w' ⟨rfl, Y, ⟨⟨G, t, hG⟩, _⟩, (⟨rfl, h1, h2⟩ | ⟨rfl, h1, h2⟩)⟩
    · exact ⟨rfl, by rw [h1]; exact h2, t.mono (fun q hq => (hG q hq).1)⟩
    · refine ⟨rfl, ?_, t.mono (fun q hq => (hG q hq).1)⟩
      rw [Nat.min_eq_right h2]
      exact h1
end Go.Proofs.Ytglinhcldgpphaa
