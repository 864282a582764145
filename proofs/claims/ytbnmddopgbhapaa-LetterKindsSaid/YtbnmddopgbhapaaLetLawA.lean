/-
  LetterKinds' walk.
-/
import Derived.Test.YtbnmddopgbhapaaLetAlive
namespace Go.Proofs.Ytbnmddopgbhapaa
open Go.RowKit

def XK (a : Int) : LV := { k := a, f := 0, t := 0, i := 0, op := 0, key := ⟨#[]⟩, val := ⟨#[]⟩, kto := ⟨#[]⟩, most := 0, er := 0, tv := ⟨#[]⟩, ti := [], more := false, nx := ⟨#[]⟩, tn := 0, af := 0, au := 0, ep := 0, li := [], n := 0, nd := 0 }
theorem zB : i64B 0 := ⟨by decide, by decide⟩
theorem zT : (⟨#[]⟩ : ByteArray).size ≤ 9223372036854775807 := by decide
theorem zI : itemsB [] := ⟨by decide, fun x hx => by cases hx⟩
theorem zW : 0 < 18446744073709551616 := by decide
theorem xk_fine (a : Int) (h : i64B a) : (XK a).Fine := by
  constructor <;> first | exact h | exact zB | exact zT | exact zI | exact zW
theorem xk_some (a : Int) : (putL (XK a)).isSome = decide (1 ≤ a ∧ a ≤ 16) := by
  have e : letterOs (XK a) = numP 1 16 a :: (letterOs (XK 0)).drop 1 := rfl
  have hr : (catO ((letterOs (XK 0)).drop 1)).isSome = true := by kernel_rfl
  obtain ⟨r, hr⟩ := Option.isSome_iff_exists.1 hr
  unfold putL
  rw [e]
  by_cases h : 1 ≤ a ∧ a ≤ 16
  · rw [numP, if_pos h, catO_cons _ _ _ hr, decide_eq_true h]; rfl
  · rw [numP, if_neg h, decide_eq_false h]; rfl
theorem name_in {a : Int} (h : 1 ≤ a ∧ a ≤ 16) : ((nameT a).toList == []) = false := by
  have key : ∀ i : Fin 17, i.1 ≠ 0 → ((nameList.getD i.1 ByteArray.empty).toList == []) = false := by decide +kernel
  have e : nameT a = nameList.getD a.toNat ByteArray.empty := by rw [nameT, if_pos (by omega)]
  rw [e]
  exact key ⟨a.toNat, by omega⟩ (by show a.toNat ≠ 0; omega)
theorem name_out {a : Int} (h : ¬ (1 ≤ a ∧ a ≤ 16)) : ((nameT a).toList == []) = true := by
  unfold nameT
  by_cases h0 : 0 ≤ a ∧ a < 17
  · rw [if_pos h0]
    obtain rfl : a = 0 := by omega
    decide +kernel
  · rw [if_neg h0]; decide +kernel
theorem name_apart {a b : Int} (h : 1 ≤ a ∧ a ≤ 16) (hne : a ≠ b) : ((nameT a).toList == (nameT b).toList) = false := by
  have key : ∀ i j : Fin 17, i ≠ j → ((nameList.getD i.1 ByteArray.empty).toList == (nameList.getD j.1 ByteArray.empty).toList) = false := by decide +kernel
  have ea : nameT a = nameList.getD a.toNat ByteArray.empty := by rw [nameT, if_pos (by omega)]
  by_cases hb : 1 ≤ b ∧ b ≤ 16
  · have eb : nameT b = nameList.getD b.toNat ByteArray.empty := by rw [nameT, if_pos (by omega)]
    rw [ea, eb]
    exact key ⟨a.toNat, by omega⟩ ⟨b.toNat, by omega⟩ (fun e => hne (by have := Fin.mk.inj e; omega))
  · have h1 := name_in h
    have h2 := name_out hb
    have hb0 : (nameT b).toList = [] := by
      cases hn : (nameT b).toList with
      | nil => rfl
      | cons x r => rw [hn] at h2; cases h2
    rw [hb0]
    exact h1
set_option maxRecDepth 20000 in
set_option maxHeartbeats 4000000 in
theorem letterKinds_any (a b : Int) (W : World) (a0 : -9223372036854775808 ≤ a) (a1 : a ≤ 9223372036854775807) (b0 : -9223372036854775808 ≤ b) (b1 : b ≤ 9223372036854775807) :
    Calls Try.prog 6 #[.int .i64 a, .int .i64 b] W fun e w' => e = .returned (.bool true) ∧ Below W.heap.size W w' := by
  have CA := Lib.hid alive_any
  have CNA := Lib.hid fun w => name_any_ a w a0 a1
  have CNB := Lib.hid fun w => name_any_ b w b0 b1
  have cr := fun w => lright_any (XK a) (.slice none 0 0) (.slice none 0 0) w (xk_fine a ⟨a0, a1⟩) (SlAt.nil w) (SlAt.nil w)
  rw [xk_some a] at cr
  by_cases hin : 1 ≤ a ∧ a ≤ 16
  · rw [decide_eq_true hin] at cr
    have CR : Hid (∀ w, Calls Try.prog 21 #[.agg #[.int .i64 a, .int .i64 0, .int .i64 0, .int .i64 0, .int .i64 0, .string ⟨#[]⟩, .string ⟨#[]⟩, .string ⟨#[]⟩, .int .i64 0, .int .i64 0, .string ⟨#[]⟩, .slice none 0 0, .bool false, .string ⟨#[]⟩, .int .i64 0, .int .u64 0, .int .u64 0, .int .i64 0, .slice none 0 0, .int .i64 0, .int .i64 0]] w fun e w' => e = .returned (.bool true) ∧ Below w.heap.size w w') := cr
    have g1 : decide (a ≥ 1) = true := decide_eq_true hin.1
    have g2 : decide (a ≤ 16) = true := decide_eq_true hin.2
    have n1 := name_in hin
    by_cases hab : a = b
    · subst hab
      have e1 : (a == a) = true := by simp
      generalize nameT a = na at *
      clear cr hin a0 a1
      go_enter Try.func6, Try.ntmps6
      go_wp2_with (first
        | (go_at_call 11; ((with_reducible refine (CA.out _).mono ?_); rintro e w1 ⟨rfl, hb⟩; have B1 : Hid (Below W.heap.size W w1) := hb; clear hb))
        | (go_at_call 20; ((with_reducible refine (CNA.out w1).mono ?_); rintro e w2 ⟨rfl, hb⟩; have B2 : Hid (Below W.heap.size W w2) := acc B1.out hb; clear hb))
        | (go_at_call 21; ((with_reducible refine (CR.out w2).mono ?_); rintro e w3 ⟨rfl, hb⟩; have B3 : Hid (Below W.heap.size W w3) := acc B2.out hb; clear hb))
        | (go_at_call 20; ((with_reducible refine (CNA.out w3).mono ?_); rintro e w4 ⟨rfl, hb⟩; have B4 : Hid (Below W.heap.size W w4) := acc B3.out hb; clear hb))
        | (go_at_call 20; ((with_reducible refine (CNB.out w4).mono ?_); rintro e w5 ⟨rfl, hb⟩; have B5 : Hid (Below W.heap.size W w5) := acc B4.out hb; clear hb)))
      go_ret
      exact ⟨rfl, B3.out⟩
    · have e1 : (a == b) = false := by rw [beq_eq_false_iff_ne]; exact hab
      have n2 := name_apart hin hab
      generalize nameT a = na at *
      generalize nameT b = nb at *
      clear cr hin a0 a1 hab
      go_enter Try.func6, Try.ntmps6
      go_wp2_with (first
        | (go_at_call 11; ((with_reducible refine (CA.out _).mono ?_); rintro e w1 ⟨rfl, hb⟩; have B1 : Hid (Below W.heap.size W w1) := hb; clear hb))
        | (go_at_call 20; ((with_reducible refine (CNA.out w1).mono ?_); rintro e w2 ⟨rfl, hb⟩; have B2 : Hid (Below W.heap.size W w2) := acc B1.out hb; clear hb))
        | (go_at_call 21; ((with_reducible refine (CR.out w2).mono ?_); rintro e w3 ⟨rfl, hb⟩; have B3 : Hid (Below W.heap.size W w3) := acc B2.out hb; clear hb))
        | (go_at_call 20; ((with_reducible refine (CNA.out w3).mono ?_); rintro e w4 ⟨rfl, hb⟩; have B4 : Hid (Below W.heap.size W w4) := acc B3.out hb; clear hb))
        | (go_at_call 20; ((with_reducible refine (CNB.out w4).mono ?_); rintro e w5 ⟨rfl, hb⟩; have B5 : Hid (Below W.heap.size W w5) := acc B4.out hb; clear hb)))
      go_ret
      exact ⟨rfl, B5.out⟩
  · rw [decide_eq_false hin] at cr
    have CR : Hid (∀ w, Calls Try.prog 21 #[.agg #[.int .i64 a, .int .i64 0, .int .i64 0, .int .i64 0, .int .i64 0, .string ⟨#[]⟩, .string ⟨#[]⟩, .string ⟨#[]⟩, .int .i64 0, .int .i64 0, .string ⟨#[]⟩, .slice none 0 0, .bool false, .string ⟨#[]⟩, .int .i64 0, .int .u64 0, .int .u64 0, .int .i64 0, .slice none 0 0, .int .i64 0, .int .i64 0]] w fun e w' => e = .returned (.bool false) ∧ Below w.heap.size w w') := cr
    have n1 := name_out hin
    generalize nameT a = na at *
    by_cases ha : 1 ≤ a
    · have g1 : decide (a ≥ 1) = true := decide_eq_true ha
      have g2 : decide (a ≤ 16) = false := decide_eq_false (fun h => hin ⟨ha, h⟩)
      clear cr hin a0 a1
      go_enter Try.func6, Try.ntmps6
      go_wp2_with (first
        | (go_at_call 11; ((with_reducible refine (CA.out _).mono ?_); rintro e w1 ⟨rfl, hb⟩; have B1 : Hid (Below W.heap.size W w1) := hb; clear hb))
        | (go_at_call 20; ((with_reducible refine (CNA.out w1).mono ?_); rintro e w2 ⟨rfl, hb⟩; have B2 : Hid (Below W.heap.size W w2) := acc B1.out hb; clear hb))
        | (go_at_call 21; ((with_reducible refine (CR.out w2).mono ?_); rintro e w3 ⟨rfl, hb⟩; have B3 : Hid (Below W.heap.size W w3) := acc B2.out hb; clear hb))
        | (go_at_call 20; ((with_reducible refine (CNA.out w3).mono ?_); rintro e w4 ⟨rfl, hb⟩; have B4 : Hid (Below W.heap.size W w4) := acc B3.out hb; clear hb))
        | (go_at_call 20; ((with_reducible refine (CNB.out w4).mono ?_); rintro e w5 ⟨rfl, hb⟩; have B5 : Hid (Below W.heap.size W w5) := acc B4.out hb; clear hb)))
      go_ret
      exact ⟨rfl, B3.out⟩
    · have g1 : decide (a ≥ 1) = false := decide_eq_false ha
      clear cr hin a0 a1
      go_enter Try.func6, Try.ntmps6
      go_wp2_with (first
        | (go_at_call 11; ((with_reducible refine (CA.out _).mono ?_); rintro e w1 ⟨rfl, hb⟩; have B1 : Hid (Below W.heap.size W w1) := hb; clear hb))
        | (go_at_call 20; ((with_reducible refine (CNA.out w1).mono ?_); rintro e w2 ⟨rfl, hb⟩; have B2 : Hid (Below W.heap.size W w2) := acc B1.out hb; clear hb))
        | (go_at_call 21; ((with_reducible refine (CR.out w2).mono ?_); rintro e w3 ⟨rfl, hb⟩; have B3 : Hid (Below W.heap.size W w3) := acc B2.out hb; clear hb))
        | (go_at_call 20; ((with_reducible refine (CNA.out w3).mono ?_); rintro e w4 ⟨rfl, hb⟩; have B4 : Hid (Below W.heap.size W w4) := acc B3.out hb; clear hb))
        | (go_at_call 20; ((with_reducible refine (CNB.out w4).mono ?_); rintro e w5 ⟨rfl, hb⟩; have B5 : Hid (Below W.heap.size W w5) := acc B4.out hb; clear hb)))
      go_ret
      exact ⟨rfl, B3.out⟩
end Go.Proofs.Ytbnmddopgbhapaa
