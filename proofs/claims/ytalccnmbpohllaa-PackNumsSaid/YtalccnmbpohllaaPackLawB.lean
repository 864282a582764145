/-
  The walk of the statement PackNums of chapter 3.
-/
import Derived.Test.YtalccnmbpohllaaPackAlive
namespace Go.Proofs.Ytalccnmbpohllaa
open Go.RowKit

theorem numT_yes {a : Int} (h : okNum a = true) : ∃ x : Nat, a = (x : Int) ∧ x ≤ 65535 ∧ numT a = txt (wideN 2 x) := by
  have h' := h
  simp [okNum] at h'
  refine ⟨a.toNat, by omega, by omega, ?_⟩
  rw [numT, h, if_pos rfl]
theorem numT_size {a : Int} (h : okNum a = true) : (numT a).size = 2 := by
  obtain ⟨x, _, _, e⟩ := numT_yes h
  rw [e, txt_size, wideN_length]
theorem numT_less {a b : Int} (ha : okNum a = true) (hb : okNum b = true) : Op.bytesLess (numT a).toList (numT b).toList = decide (a < b) := by
  obtain ⟨x, rfl, hx, e⟩ := numT_yes ha
  obtain ⟨y, rfl, hy, f⟩ := numT_yes hb
  rw [e, f, txt_toList, txt_toList, less_wide 2 x y (by omega) (by omega)]
  simp
theorem wideT_less {x y : Nat} (hx : x < 18446744073709551616) (hy : y < 18446744073709551616) : Op.bytesLess (txt (wideN 8 x)).toList (txt (wideN 8 y)).toList = decide (x < y) := by
  rw [txt_toList, txt_toList, less_wide 8 x y (by omega) (by omega)]
theorem wideT_eq {x y : Nat} (hx : x < 18446744073709551616) (hy : y < 18446744073709551616) : ((txt (wideN 8 x)).toList == (txt (wideN 8 y)).toList) = decide (x = y) := by
  rw [txt_toList, txt_toList, Bool.eq_iff_iff, beq_iff_eq, decide_eq_true_iff]
  constructor
  · intro h
    exact wide_inj 8 x y (by omega) (by omega) h
  · intro h; rw [h]

/-- what the answers' texts are, behind all tests decided -/
def NumsFacts (a b : Int) (A B : ByteArray) (p q : Bool) : Prop :=
  (p = false ∧ a < 0) ∨ (p = false ∧ 0 ≤ a ∧ decide (a ≤ 65535) = false) ∨
  (p = true ∧ 0 ≤ a ∧ a ≤ 65535 ∧ q = false) ∨
  (p = true ∧ 0 ≤ a ∧ a ≤ 65535 ∧ q = true ∧ ((A.size : Int) != 2) = false ∧ Op.bytesLess A.toList B.toList = true ∧ decide (a < b) = true) ∨
  (p = true ∧ 0 ≤ a ∧ a ≤ 65535 ∧ q = true ∧ ((A.size : Int) != 2) = false ∧ Op.bytesLess A.toList B.toList = false ∧ decide (a < b) = false)
theorem nums_facts (a b : Int) : NumsFacts a b (numT a) (numT b) (okNum a) (okNum b) := by
  cases hp : okNum a with
  | false =>
    simp [okNum] at hp
    rcases (by omega : a < 0 ∨ 0 ≤ a) with h | h
    · exact .inl ⟨rfl, h⟩
    · exact .inr (.inl ⟨rfl, h, decide_eq_false (by have := hp h; omega)⟩)
  | true =>
    have hp' := hp
    simp [okNum] at hp'
    cases hq : okNum b with
    | false => exact .inr (.inr (.inl ⟨rfl, hp'.1, hp'.2, rfl⟩))
    | true =>
      have hz : (((numT a).size : Int) != 2) = false := by rw [numT_size hp]; rfl
      have hl := numT_less hp hq
      rcases (by omega : a < b ∨ b ≤ a) with h | h
      · exact .inr (.inr (.inr (.inl ⟨rfl, hp'.1, hp'.2, rfl, hz, by rw [hl]; exact decide_eq_true h, decide_eq_true h⟩)))
      · exact .inr (.inr (.inr (.inr ⟨rfl, hp'.1, hp'.2, rfl, hz, by rw [hl]; exact decide_eq_false (by omega), decide_eq_false (by omega)⟩)))
def WideFacts (v u : Nat) (V U : ByteArray) : Prop :=
  ((V.size : Int) == 8) = true ∧
  ((Op.bytesLess V.toList U.toList = true ∧ decide (v < u) = true ∧ (V.toList == U.toList) = false ∧ ((v : Int) == (u : Int)) = false) ∨
   (Op.bytesLess V.toList U.toList = false ∧ decide (v < u) = false ∧ (V.toList == U.toList) = true ∧ ((v : Int) == (u : Int)) = true) ∨
   (Op.bytesLess V.toList U.toList = false ∧ decide (v < u) = false ∧ (V.toList == U.toList) = false ∧ ((v : Int) == (u : Int)) = false))
theorem wide_facts (v u : Nat) (hv : v < 18446744073709551616) (hu : u < 18446744073709551616) : WideFacts v u (txt (wideN 8 v)) (txt (wideN 8 u)) := by
  refine ⟨by rw [txt_size, wideN_length]; rfl, ?_⟩
  rw [wideT_less hv hu, wideT_eq hv hu]
  rcases Nat.lt_trichotomy v u with h | h | h
  · exact .inl ⟨decide_eq_true h, decide_eq_true h, decide_eq_false (by omega), by rw [beq_eq_false_iff_ne]; omega⟩
  · exact .inr (.inl ⟨decide_eq_false (by omega), decide_eq_false (by omega), decide_eq_true h, by rw [beq_iff_eq]; omega⟩)
  · exact .inr (.inr ⟨decide_eq_false (by omega), decide_eq_false (by omega), decide_eq_false (by omega), by rw [beq_eq_false_iff_ne]; omega⟩)

set_option maxRecDepth 100000 in
set_option maxHeartbeats 4000000 in
theorem packNums_walk (a b : Int) (v u : Nat) (w : World) (ha0 : -9223372036854775808 ≤ a) (ha1 : a ≤ 9223372036854775807) (hb0 : -9223372036854775808 ≤ b) (hb1 : b ≤ 9223372036854775807)
    (hv : v < 18446744073709551616) (hu : u < 18446744073709551616) :
    Calls Try.prog 6 #[.int .i64 a, .int .i64 b, .int .u64 v, .int .u64 u] w fun e w' => e = .returned (.bool true) ∧ Below w.heap.size w w' := by
  have C0 := Lib.hid alive_any
  have C1 := Lib.hid fun W => num_any a W ha0 ha1
  have C2 := Lib.hid fun W => num_any b W hb0 hb1
  have C3 := Lib.hid fun W => wide_any v W hv
  have C4 := Lib.hid fun W => wide_any u W hu
  have F := nums_facts a b
  obtain ⟨l0, G⟩ := wide_facts v u hv hu
  clear ha0 ha1 hb0 hb1 hv hu
  generalize okNum a = p at *
  generalize okNum b = q at *
  generalize numT a = A at *
  generalize numT b = B at *
  generalize txt (wideN 8 v) = V at *
  generalize txt (wideN 8 u) = U at *
  rcases F with ⟨rfl, f1⟩ | ⟨rfl, f1, f2⟩ | ⟨rfl, f1, f2, rfl⟩ | ⟨rfl, f1, f2, rfl, f3, f4, f5⟩ | ⟨rfl, f1, f2, rfl, f3, f4, f5⟩ <;> rcases G with ⟨g1, g2, g3, g4⟩ | ⟨g1, g2, g3, g4⟩ | ⟨g1, g2, g3, g4⟩
  all_goals
    go_enter Try.func6, Try.ntmps6
    go_wp2_with (first
      | (go_at_call 10; ((with_reducible refine (C1.out _).mono ?_); rintro e w1 ⟨rfl, hb1⟩; have HB1 := Lib.hid hb1; clear hb1))
      | (go_at_call 10; ((with_reducible refine (C2.out _).mono ?_); rintro e w2 ⟨rfl, hb2⟩; have HB2 := Lib.hid (acc HB1.out hb2); clear hb2))
      | (go_at_call 9; ((with_reducible refine (C0.out _).mono ?_); rintro e w3 ⟨rfl, hb3⟩; have HB3 := Lib.hid (acc HB2.out hb3); clear hb3))
      | (go_at_call 14; ((with_reducible refine (C3.out _).mono ?_); rintro e w4 ⟨rfl, hb4⟩; have HB4 := Lib.hid (acc HB3.out hb4); clear hb4))
      | (go_at_call 14; ((with_reducible refine (C4.out _).mono ?_); rintro e w5 ⟨rfl, hb5⟩; have HB5 := Lib.hid (acc HB4.out hb5); clear hb5)))
    go_ret
    exact ⟨rfl, HB5.out⟩

end Go.Proofs.Ytalccnmbpohllaa
