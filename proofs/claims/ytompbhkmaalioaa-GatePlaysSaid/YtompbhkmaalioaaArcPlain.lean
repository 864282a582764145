/-
  Small words for every walk over arcs: a subtraction that goes round, as a plain function of natural numbers; where a point lies.
  Plain facts on arcs as pairs of natural numbers: where points lie, what lies within another one, what is apart. No program is met here.
-/
import Derived.Test.YtompbhkmaalioaaRows
import Derived.WalkKit
import Derived.WalkSpells
import Derived.WalkLawsBesides
import Derived.Deep.LoopGhost
import Derived.Deep.QuietTactic
import Derived.BigQuiet
import Derived.Laws.IdiomStrings
import Derived.Laws.BitsAllLaws
import Derived.Lib.Strings
import Derived.Lib.Hide
namespace Go.Proofs.Ytompbhkmaalioaa
open Go.RowKit

/-- what the ring's subtraction answers -/
def sub64 (a b : Nat) : Nat := (a + 18446744073709551616 - b) % 18446744073709551616
/-- what the ring's addition answers -/
def add64 (a b : Nat) : Nat := (a + b) % 18446744073709551616
/-- does x lie in the arc from f to t? -/
def inB (f t x : Nat) : Bool := (f == t) || decide (sub64 x f < sub64 t f)
/-- is the arc one piece? -/
def oneB (f t : Nat) : Bool := (t == 0) || decide (f < t)
def pF (f _ k : Nat) : Nat := if k = 0 then f else 0
def pT (f t k : Nat) : Nat := if k = 0 then (if oneB f t then t else 0) else t
def pN (f t : Nat) : Nat := if oneB f t then 1 else 2
/-- does x lie in the piece from f to t? -/
def pieceB (f t x : Nat) : Bool := decide (f ≤ x) && ((t == 0) || decide (x < t))
def apartB (f t g u : Nat) : Bool := !inB f t g && !inB g u f
def withinB (f t g u : Nat) : Bool := (f == t) || (!(g == u) && (inB f t g && decide (sub64 u g ≤ sub64 t g)))
/-- the last point of a piece -/
def lastN (t : Nat) : Nat := sub64 t 1

theorem sub64_lt (a b : Nat) : sub64 a b < 18446744073709551616 := Nat.mod_lt _ (by omega)
theorem sub64_cases {a b : Nat} (ha : a < 18446744073709551616) (hb : b < 18446744073709551616) : (b ≤ a ∧ sub64 a b = a - b) ∨ (a < b ∧ sub64 a b = a + 18446744073709551616 - b) := by
  unfold sub64; omega
theorem sub_u64 {a b : Nat} (ha : a < 18446744073709551616) (hb : b < 18446744073709551616) : IntKind.u64.wrap ((a : Int) - (b : Int)) = ((sub64 a b : Nat) : Int) := by
  rw [IntKind.wrap_u64]; unfold sub64; omega
theorem add_u64 {a b : Nat} (_ha : a < 18446744073709551616) (_hb : b < 18446744073709551616) : IntKind.u64.wrap ((a : Int) + (b : Int)) = ((add64 a b : Nat) : Int) := by
  rw [IntKind.wrap_u64]; unfold add64; omega

theorem bcell {W w1 : World} (hb : Below W.heap.size W w1) : (∀ b o, b < W.heap.size → w1.cell? ⟨b, o, none⟩ = W.cell? ⟨b, o, none⟩) ∧ (∀ b o, b < W.heap.size → w1.frozen? ⟨b, o, none⟩ = W.frozen? ⟨b, o, none⟩) :=
  ⟨fun b o h => hb.cell (p := ⟨b, o, none⟩) h, fun b o h => hb.frozen (p := ⟨b, o, none⟩) h⟩
end Go.Proofs.Ytompbhkmaalioaa
namespace Go.Proofs.Ytompbhkmaalioaa
open Go.RowKit

theorem nat_beq_comm (a b : Nat) : (a == b) = (b == a) := by
  rw [Bool.eq_iff_iff, beq_iff_eq, beq_iff_eq]; omega
theorem sub_turn {a b c : Nat} (ha : a < 18446744073709551616) (hb : b < 18446744073709551616) (hc : c < 18446744073709551616) : sub64 (sub64 a c) (sub64 b c) = sub64 a b := by
  have h1 := sub64_cases ha hc
  have h2 := sub64_cases hb hc
  have h3 := sub64_cases (sub64_lt a c) (sub64_lt b c)
  have h4 := sub64_cases ha hb
  omega
theorem eq_turn {a b c : Nat} (ha : a < 18446744073709551616) (hb : b < 18446744073709551616) (hc : c < 18446744073709551616) : (sub64 a c == sub64 b c) = (a == b) := by
  have h1 := sub64_cases ha hc
  have h2 := sub64_cases hb hc
  rw [Bool.eq_iff_iff, beq_iff_eq, beq_iff_eq]
  constructor
  · intro h; omega
  · intro h; omega
theorem in_turn {f t x c : Nat} (hf : f < 18446744073709551616) (ht : t < 18446744073709551616) (hx : x < 18446744073709551616) (hc : c < 18446744073709551616) : inB (sub64 f c) (sub64 t c) (sub64 x c) = inB f t x := by
  unfold inB
  rw [eq_turn hf ht hc, sub_turn hx hf hc, sub_turn ht hf hc]
theorem apart_turn {f t g u c : Nat} (hf : f < 18446744073709551616) (ht : t < 18446744073709551616) (hg : g < 18446744073709551616) (hu : u < 18446744073709551616) (hc : c < 18446744073709551616) :
    apartB (sub64 f c) (sub64 t c) (sub64 g c) (sub64 u c) = apartB f t g u := by
  unfold apartB
  rw [in_turn hf ht hg hc, in_turn hg hu hf hc]
theorem within_turn {f t g u c : Nat} (hf : f < 18446744073709551616) (ht : t < 18446744073709551616) (hg : g < 18446744073709551616) (hu : u < 18446744073709551616) (hc : c < 18446744073709551616) :
    withinB (sub64 f c) (sub64 t c) (sub64 g c) (sub64 u c) = withinB f t g u := by
  unfold withinB
  rw [in_turn hf ht hg hc, eq_turn hf ht hc, eq_turn hg hu hc, sub_turn hu hg hc, sub_turn ht hg hc]
theorem sub_self (a : Nat) (_ha : a < 18446744073709551616) : sub64 a a = 0 := by unfold sub64; omega
theorem sub_zero {a : Nat} (ha : a < 18446744073709551616) : sub64 a 0 = a := by unfold sub64; omega
theorem add_sub {a b : Nat} (_ha : a < 18446744073709551616) (hb : b < 18446744073709551616) : add64 a b = sub64 a (sub64 0 b) := by unfold add64 sub64; omega

/-! where points lie: in Prop's form -/
theorem in_iff {f t x : Nat} : inB f t x = true ↔ (f = t ∨ sub64 x f < sub64 t f) := by
  unfold inB; simp
theorem in_iff0 {t x : Nat} (ht : t < 18446744073709551616) (hx : x < 18446744073709551616) : inB 0 t x = true ↔ (t = 0 ∨ x < t) := by
  rw [in_iff, sub_zero ht, sub_zero hx]
  constructor <;> intro h <;> omega
theorem in_or (f t x : Nat) : inB f t x = true ∨ inB f t x = false := by cases inB f t x <;> simp

theorem in_first (f t : Nat) (hf : f < 18446744073709551616) (ht : t < 18446744073709551616) : inB f t f = true := by
  rw [in_iff, sub_self f hf]
  have := sub64_cases ht hf
  omega
theorem in_whole (f x : Nat) : inB f f x = true := by rw [in_iff]; exact .inl rfl
theorem in_end {f t : Nat} (_h : f ≠ t) : inB f t t = false := by
  rw [← Bool.not_eq_true, in_iff]; omega
theorem in_last {f t : Nat} (_h : f ≠ t) (hf : f < 18446744073709551616) (ht : t < 18446744073709551616) : inB f t (sub64 t 1) = true := by
  rw [in_iff]
  have h1 := sub64_cases ht (show 1 < 18446744073709551616 by omega)
  have h2 := sub64_cases (sub64_lt t 1) hf
  have h3 := sub64_cases ht hf
  omega
theorem in_rest {f t x : Nat} (h : f ≠ t) (hf : f < 18446744073709551616) (ht : t < 18446744073709551616) (hx : x < 18446744073709551616) : inB t f x = !inB f t x := by
  have e : ∀ a b : Bool, (a = true ↔ ¬ b = true) → a = !b := by decide
  apply e
  rw [in_iff, in_iff]
  have h1 := sub64_cases hx hf
  have h2 := sub64_cases ht hf
  have h3 := sub64_cases hx ht
  have h4 := sub64_cases hf ht
  constructor <;> intro g <;> omega
theorem apart_rest {f t : Nat} (h : f ≠ t) : apartB f t t f = true := by
  unfold apartB
  rw [in_end h, in_end (Ne.symm h)]
  rfl
theorem size_rest {f t : Nat} (hf : f < 18446744073709551616) (ht : t < 18446744073709551616) : add64 (sub64 t f) (sub64 f t) = 0 := by
  have h2 := sub64_cases ht hf
  have h4 := sub64_cases hf ht
  unfold add64
  omega
theorem size_add {f t x : Nat} (hf : f < 18446744073709551616) (ht : t < 18446744073709551616) (hx : x < 18446744073709551616) : add64 (sub64 x f) (sub64 t x) = sub64 t f := by
  have h1 := sub64_cases hx hf
  have h2 := sub64_cases ht hx
  have h3 := sub64_cases ht hf
  unfold add64
  omega

theorem bool_not {b : Bool} (h : ¬ b = true) : b = false := by simpa using h
theorem apart_iff {f t g u : Nat} : apartB f t g u = true ↔ ¬ inB f t g = true ∧ ¬ inB g u f = true := by
  unfold apartB; simp
theorem within_iff {f t g u : Nat} : withinB f t g u = true ↔ (f = t ∨ (g ≠ u ∧ inB f t g = true ∧ sub64 u g ≤ sub64 t g)) := by
  unfold withinB; simp

theorem within_self (f t : Nat) (hf : f < 18446744073709551616) (ht : t < 18446744073709551616) : withinB f t f t = true := by
  rw [within_iff]
  by_cases h : f = t
  · exact .inl h
  · exact .inr ⟨h, in_first f t hf ht, Nat.le_refl _⟩
theorem apart_self (f t : Nat) (hf : f < 18446744073709551616) (ht : t < 18446744073709551616) : apartB f t f t = false := by
  unfold apartB
  rw [in_first f t hf ht]; rfl
theorem apart_comm (f t g u : Nat) : apartB f t g u = apartB g u f t := Bool.and_comm _ _
theorem within_whole (f g u : Nat) : withinB f f g u = true := by rw [within_iff]; exact .inl rfl

/-- of what lies within another one, every point is there -/
theorem within_in {f t g u x : Nat} (hf : f < 18446744073709551616) (ht : t < 18446744073709551616) (hg : g < 18446744073709551616) (hu : u < 18446744073709551616) (hx : x < 18446744073709551616)
    (h : withinB f t g u = true) (h2 : inB g u x = true) : inB f t x = true := by
  rw [← in_turn hf ht hx hf, sub_self f hf]
  rw [← within_turn hf ht hg hu hf, sub_self f hf] at h
  rw [← in_turn hg hu hx hf] at h2
  have a1 := sub64_lt t f
  have a2 := sub64_lt g f
  have a3 := sub64_lt u f
  have a4 := sub64_lt x f
  generalize sub64 t f = T at *
  generalize sub64 g f = G at *
  generalize sub64 u f = U at *
  generalize sub64 x f = X at *
  rw [in_iff0 a1 a4]
  rw [within_iff, in_iff0 a1 a2] at h
  rw [in_iff] at h2
  have c1 := sub64_cases a3 a2
  have c2 := sub64_cases a1 a2
  have c3 := sub64_cases a4 a2
  omega
theorem apart_in {f t g u x : Nat} (hf : f < 18446744073709551616) (ht : t < 18446744073709551616) (hg : g < 18446744073709551616) (hu : u < 18446744073709551616) (hx : x < 18446744073709551616)
    (h : apartB f t g u = true) (h2 : inB f t x = true) : inB g u x = false := by
  apply bool_not
  rw [← in_turn hf ht hx hf, sub_self f hf] at h2
  rw [← apart_turn hf ht hg hu hf, sub_self f hf] at h
  rw [← in_turn hg hu hx hf]
  have a1 := sub64_lt t f
  have a2 := sub64_lt g f
  have a3 := sub64_lt u f
  have a4 := sub64_lt x f
  generalize sub64 t f = T at *
  generalize sub64 g f = G at *
  generalize sub64 u f = U at *
  generalize sub64 x f = X at *
  rw [in_iff0 a1 a4] at h2
  rw [apart_iff, in_iff0 a1 a2, in_iff] at h
  rw [in_iff]
  have c1 := sub64_cases a3 a2
  have c2 := sub64_cases (show 0 < 18446744073709551616 by omega) a2
  have c3 := sub64_cases a4 a2
  omega
theorem apart_within {f t g u : Nat} (h : apartB f t g u = true) : withinB f t g u = false := by
  apply bool_not
  rw [apart_iff] at h
  rw [within_iff]
  rintro (h1 | ⟨_, h1, _⟩)
  · exact h.1 (by rw [h1]; exact in_whole _ _)
  · exact h.1 h1
/-- what was put together has the points of both -/
theorem join_in {f t u x : Nat} (hf : f < 18446744073709551616) (ht : t < 18446744073709551616) (hu : u < 18446744073709551616) (hx : x < 18446744073709551616)
    (h : apartB f t t u = true) : inB f u x = (inB f t x || inB t u x) := by
  rw [← in_turn hf ht hx hf, ← in_turn hf hu hx hf, ← in_turn ht hu hx hf, sub_self f hf]
  rw [← apart_turn hf ht ht hu hf, sub_self f hf] at h
  have a1 := sub64_lt t f
  have a3 := sub64_lt u f
  have a4 := sub64_lt x f
  generalize sub64 t f = T at *
  generalize sub64 u f = U at *
  generalize sub64 x f = X at *
  rw [apart_iff, in_iff0 a1 a1, in_iff] at h
  rw [Bool.eq_iff_iff, Bool.or_eq_true, in_iff0 a1 a4, in_iff0 a3 a4, in_iff]
  have c1 := sub64_cases a3 a1
  have c2 := sub64_cases (show 0 < 18446744073709551616 by omega) a1
  have c3 := sub64_cases a4 a1
  constructor <;> intro g <;> omega
/-- where it may be cut: both parts -/
theorem cut_apart {f t x : Nat} (hf : f < 18446744073709551616) (ht : t < 18446744073709551616) (hx : x < 18446744073709551616) (hn : x ≠ f) (h : inB f t x = true) :
    apartB f x x t = true ∧ withinB f t f x = true ∧ withinB f t x t = true := by
  rw [← apart_turn hf hx hx ht hf, ← within_turn hf ht hf hx hf, ← within_turn hf ht hx ht hf, sub_self f hf]
  rw [← in_turn hf ht hx hf, sub_self f hf] at h
  have hn' : sub64 x f ≠ 0 := by have := sub64_cases hx hf; omega
  have a1 := sub64_lt t f
  have a4 := sub64_lt x f
  generalize sub64 t f = T at *
  generalize sub64 x f = X at *
  rw [in_iff0 a1 a4] at h
  rw [apart_iff, within_iff, within_iff, in_iff0 a4 a4, in_iff, in_iff0 a1 a4, in_iff0 a1 (by omega), sub_zero a4, sub_zero a1]
  have c1 := sub64_cases a1 a4
  have c2 := sub64_cases (show 0 < 18446744073709551616 by omega) a4
  refine ⟨⟨?_, ?_⟩, ?_, ?_⟩ <;> omega
end Go.Proofs.Ytompbhkmaalioaa
