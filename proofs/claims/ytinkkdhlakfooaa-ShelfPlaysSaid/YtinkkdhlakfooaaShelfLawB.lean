/-
  The walk of ShelfFull over ShelfLaws. (Written by tools/genFull.py.)
-/
import Derived.Test.YtinkkdhlakfooaaShelfLawA
import Derived.Test.YtinkkdhlakfooaaShelfFacts
namespace Go.Proofs.Ytinkkdhlakfooaa
open Go.RowKit

theorem putE_ok {most : Int} {l : List Item} {k v : ByteArray} (h1 : rightN k = 0) (h2 : valueN v = 0) : putE most l k v = if hasN l k = false ∧ most ≤ l.length then 5 else 0 := by
  rw [putE, if_neg (by rw [h1]; simp), if_neg (by rw [h2]; simp)]
theorem OS.rising {SH : World → Nat → Int → List Item → List Nat → Prop} (L : ShelfLaws SH) {W w : World} {g : Nat} {most : Int} {l : List Item} (h : OS SH W w g most l) : Rising l := by
  obtain ⟨_, F, h2, _⟩ := h
  exact L.rising h2
abbrev tV : ByteArray := ⟨#[118]⟩
abbrev tW : ByteArray := ⟨#[119]⟩
abbrev tNew : ByteArray := ⟨#[110, 101, 119]⟩

set_option maxRecDepth 100000 in
set_option maxHeartbeats 8000000 in
theorem shelfFull_way {SH : World → Nat → Int → List Item → List Nat → Prop} (L : ShelfLaws SH) (n : Nat) (k : ByteArray) (W : World) (n1 : 1 ≤ n) (n60 : n ≤ 60) (k0 : 1 ≤ k.size) (k1 : k.size ≤ 16) (had still : Bool) (r1 : Int) (l1 l2 l3 l4 : List Item)
    (hhad : hasN (firstKeys n tV) k = had) (hr1 : r1 = if had then 0 else 5)
    (P1 : Hid (∀ w g, OS SH W w g n (firstKeys n tV) → Calls Try.prog 12 #[.pointer (some ⟨g, 0, none⟩), .string k, .string ⟨#[119]⟩] w fun e w' => e = .returned (.int .i64 r1) ∧ OS SH W w' g n l1))
    (P2 : Hid (∀ w g, OS SH W w g n l1 → Calls Try.prog 12 #[.pointer (some ⟨g, 0, none⟩), .string (keyT 0), .string ⟨#[110, 101, 119]⟩] w fun e w' => e = .returned (.int .i64 0) ∧ OS SH W w' g n l2))
    (hl2 : l2.length = n)
    (R1 : Hid (∀ w g, OS SH W w g n l2 → Calls Try.prog 14 #[.pointer (some ⟨g, 0, none⟩), .string (keyT (n - 1))] w fun e w' => e = .returned (.bool true) ∧ OS SH W w' g n l3))
    (hv0 : getN l3 (keyT 0) = ⟨#[110, 101, 119]⟩) (hstill : hasN l3 k = still)
    (P3 : Hid (∀ w g, OS SH W w g n l3 → Calls Try.prog 12 #[.pointer (some ⟨g, 0, none⟩), .string k, .string ⟨#[119]⟩] w fun e w' => e = .returned (.int .i64 0) ∧ OS SH W w' g n l4))
    (hl4 : l4.length ≤ n) (hl4' : still = false → l4.length = n) :
    Calls Try.prog 5 #[.int .i64 (n : Nat), .string k] W fun e w' => e = .returned (.bool true) ∧ Below W.heap.size W w' := by
  have CA : Hid (∀ w0, Below W.heap.size W w0 → Calls Try.prog 9 #[] w0 fun e w' => e = .returned (.bool true) ∧ Below W.heap.size W w') := fun w0 h => shelfAlive_any L W w0 h
  have HW : Hid (Below W.heap.size W W) := Below.refl _ _
  have HL : Hid (ShelfLaws SH) := L
  have CN : Hid (∀ w, Below W.heap.size W w → Calls Try.prog 10 #[.int .i64 (n : Nat)] w fun e w' => ∃ g, e = .returned (.pointer (some ⟨g, 0, none⟩)) ∧ OS SH W w' g n []) := fun w h => by
    have z := OS.new L h (n : Nat) (by omega) (by omega)
    rw [show min (max (n : Int) 0) 200 = (n : Int) by omega] at z
    exact z
  have K0 : Hid (∀ w, Calls Try.prog 26 #[.int .i64 0] w fun e w' => e = .returned (.string (keyT 0)) ∧ Below w.heap.size w w') := fun w => key_any 0 w (by omega)
  have KN : Hid (∀ w, Calls Try.prog 26 #[.int .i64 ((n : Int) - 1)] w fun e w' => e = .returned (.string (keyT (n - 1))) ∧ Below w.heap.size w w') := fun w => by
    rw [show ((n : Int) - 1) = ((n - 1 : Nat) : Int) by omega]
    exact key_any (n - 1) w (by omega)
  have G1 : Hid (∀ w g, OS SH W w g n (firstKeys n tV) → Calls Try.prog 17 #[.pointer (some ⟨g, 0, none⟩), .string k] w fun e w' => e = .returned (.tuple #[.string (getN (firstKeys n tV) k), .bool had]) ∧ OS SH W w' g n (firstKeys n tV)) := fun w g h => by
    have z := h.get L k
    rw [hhad] at z
    exact z
  have G2 : Hid (∀ w g, OS SH W w g n l3 → Calls Try.prog 17 #[.pointer (some ⟨g, 0, none⟩), .string (keyT 0)] w fun e w' => e = .returned (.tuple #[.string ⟨#[110, 101, 119]⟩, .bool (hasN l3 (keyT 0))]) ∧ OS SH W w' g n l3) := fun w g h => by
    have z := h.get L (keyT 0)
    rw [hv0] at z
    exact z
  have G3 : Hid (∀ w g, OS SH W w g n l3 → Calls Try.prog 17 #[.pointer (some ⟨g, 0, none⟩), .string k] w fun e w' => e = .returned (.tuple #[.string (getN l3 k), .bool still]) ∧ OS SH W w' g n l3) := fun w g h => by
    have z := h.get L k
    rw [hstill] at z
    exact z
  have N2 : Hid (∀ w g, OS SH W w g n l2 → Calls Try.prog 19 #[.pointer (some ⟨g, 0, none⟩)] w fun e w' => e = .returned (.int .i64 (n : Nat)) ∧ OS SH W w' g n l2) := fun w g h => by
    have z := h.len L
    rw [hl2] at z
    exact z
  obtain ⟨m4, hm4⟩ : ∃ m4, l4.length = m4 := ⟨_, rfl⟩
  have N4 : Hid (∀ w g, OS SH W w g n l4 → Calls Try.prog 19 #[.pointer (some ⟨g, 0, none⟩)] w fun e w' => e = .returned (.int .i64 (m4 : Nat)) ∧ OS SH W w' g n l4) := fun w g h => by
    have z := h.len L
    rw [hm4] at z
    exact z
  rw [hm4] at hl4 hl4'
  have f1 : decide ((n : Int) < 1) = false := by simp; omega
  have f2 : decide ((60 : Int) < (n : Int)) = false := by simp; omega
  have f3 : decide ((k.size : Int) < 1) = false := by simp; omega
  have f4 : decide ((16 : Int) < (k.size : Int)) = false := by simp; omega
  have f5 : decide (m4 ≤ n) = true := by simp; omega
  have f6 : still = false → ((m4 : Int) == (n : Int)) = true := fun h => by rw [hl4' h]; simp
  clear hhad hl2 hv0 hstill hl4 hl4' hm4
  obtain ⟨gv, hgv⟩ : ∃ x, getN (firstKeys n tV) k = x := ⟨_, rfl⟩
  obtain ⟨gv3, hgv3⟩ : ∃ x, getN l3 k = x := ⟨_, rfl⟩
  obtain ⟨b0, hb0⟩ : ∃ x, hasN l3 (keyT 0) = x := ⟨_, rfl⟩
  rw [hgv] at G1
  rw [hgv3] at G3
  rw [hb0] at G2
  clear hgv hgv3 hb0
  go_enter Try.func5, Try.ntmps5
  go_wp2_with (first
    | (go_at_call 9; (with_reducible refine (CA.out _ HW.out).mono ?_); rintro e wa ⟨rfl, h1⟩; have H0 := Lib.hid h1; clear h1)
    | (go_at_call 10; (with_reducible refine (CN.out _ H0.out).mono ?_); rintro e wn ⟨g, rfl, h1⟩; have H1 := Lib.hid h1; clear h1))
  go_loopg [6] (n + 1) (fun gh s6 wx => ∃ i : Nat, i + gh = n + 1 ∧ i ≤ n ∧ s6 = .int .i64 i ∧ Hid (OS SH W wx g n (firstKeys i tV)))
  case atStart => exact ⟨0, by omega, by omega, rfl, H1.out⟩
  case round =>
    obtain ⟨i, hig, hi, rfl, HS⟩ := hrel
    by_cases hlt : i < n
    · have KI : Hid (∀ w, Calls Try.prog 26 #[.int .i64 (i : Nat)] w fun e w' => e = .returned (.string (keyT i)) ∧ Below w.heap.size w w') := fun w => key_any i w (by omega)
      have PI : Hid (∀ w, OS SH W w g n (firstKeys i tV) → Calls Try.prog 12 #[.pointer (some ⟨g, 0, none⟩), .string (keyT i), .string ⟨#[118]⟩] w fun e w' => e = .returned (.int .i64 0) ∧ OS SH W w' g n (firstKeys (i + 1) tV)) := fun w h => by
        obtain ⟨q1, q2⟩ := firstKeys_put (n := i) tV (by omega)
        have e : putE n (firstKeys i tV) (keyT i) tV = 0 := by
          rw [putE_ok (keyT_right i) (by simp [valueN, ByteArray.size]), if_neg (by rw [firstKeys_length]; omega)]
        exact h.put L _ _ (by rw [keyT_size]; decide) (by simp [ByteArray.size, maxLen]) e (by rw [putS, if_pos e, q2])
      go_wp2_with (first
        | (go_at_call 26; (with_reducible refine (KI.out _).mono ?_); rintro e w1 ⟨rfl, hb⟩; have HS1 := Lib.hid (HS.out.below HL.out hb); clear hb)
        | (go_at_call 12; (with_reducible refine (PI.out _ HS1.out).mono ?_); rintro e w2 ⟨rfl, h2⟩; have HS2 := Lib.hid h2; clear h2))
      go_roundg (gk - 1)
      case measure => omega
      case rel => exact ⟨i + 1, by omega, by omega, by go_num, HS2⟩
    · obtain rfl : i = n := by omega
      have HS0 := HS
      cases had <;> cases still
      all_goals subst hr1
      all_goals try have f6' := f6 rfl
      all_goals go_wp2_with (first
        | (go_at_call 26; (with_reducible refine (K0.out _).mono ?_); rintro e w2 ⟨rfl, hb⟩; first | (have HZ6 := Lib.hid (H5.out.below HL.out hb); clear hb) | (have HZ2 := Lib.hid (H2.out.below HL.out hb); clear hb))
        | (go_at_call 26; (with_reducible refine (KN.out _).mono ?_); rintro e w2 ⟨rfl, hb⟩; have HZ4 := Lib.hid (H4.out.below HL.out hb); clear hb)
        | (go_at_call 17; (with_reducible refine (G1.out _ _ HS0.out).mono ?_); rintro e w2 ⟨rfl, h2⟩; have H1g := Lib.hid h2; clear h2)
        | (go_at_call 12; (with_reducible refine (P1.out _ _ H1g.out).mono ?_); rintro e w2 ⟨rfl, h2⟩; have H2 := Lib.hid h2; clear h2)
        | (go_at_call 12; (with_reducible refine (P2.out _ _ HZ2.out).mono ?_); rintro e w2 ⟨rfl, h2⟩; have H3 := Lib.hid h2; clear h2)
        | (go_at_call 19; (with_reducible refine (N2.out _ _ H3.out).mono ?_); rintro e w2 ⟨rfl, h2⟩; have H4 := Lib.hid h2; clear h2)
        | (go_at_call 14; (with_reducible refine (R1.out _ _ HZ4.out).mono ?_); rintro e w2 ⟨rfl, h2⟩; have H5 := Lib.hid h2; clear h2)
        | (go_at_call 17; (with_reducible refine (G2.out _ _ HZ6.out).mono ?_); rintro e w2 ⟨rfl, h2⟩; have H6 := Lib.hid h2; clear h2)
        | (go_at_call 17; (with_reducible refine (G3.out _ _ H6.out).mono ?_); rintro e w2 ⟨rfl, h2⟩; have H7 := Lib.hid h2; clear h2)
        | (go_at_call 12; (with_reducible refine (P3.out _ _ H7.out).mono ?_); rintro e w2 ⟨rfl, h2⟩; have H8 := Lib.hid h2; clear h2)
        | (go_at_call 19; (with_reducible refine (N4.out _ _ H8.out).mono ?_); rintro e w2 ⟨rfl, h2⟩; have H9 := Lib.hid h2; clear h2)
        | (go_at_call 19; (with_reducible refine (N4.out _ _ H9.out).mono ?_); rintro e w2 ⟨rfl, h2⟩; have H10 := Lib.hid h2; clear h2))
      all_goals go_ret
      all_goals exact ⟨rfl, (by first | exact H10.out.1 | exact H9.out.1)⟩
set_option maxRecDepth 100000 in
set_option maxHeartbeats 8000000 in
theorem shelfFull_one {SH : World → Nat → Int → List Item → List Nat → Prop} (L : ShelfLaws SH) (k : ByteArray) (W : World) (k0 : 1 ≤ k.size) (k1 : k.size ≤ 16) (had still : Bool) (r1 : Int) (l1 l2 l3 l4 : List Item)
    (hhad : hasN (firstKeys 1 tV) k = had) (hr1 : r1 = if had then 0 else 5)
    (P1 : Hid (∀ w g, OS SH W w g 1 (firstKeys 1 tV) → Calls Try.prog 12 #[.pointer (some ⟨g, 0, none⟩), .string k, .string ⟨#[119]⟩] w fun e w' => e = .returned (.int .i64 r1) ∧ OS SH W w' g 1 l1))
    (P2 : Hid (∀ w g, OS SH W w g 1 l1 → Calls Try.prog 12 #[.pointer (some ⟨g, 0, none⟩), .string (keyT 0), .string ⟨#[110, 101, 119]⟩] w fun e w' => e = .returned (.int .i64 0) ∧ OS SH W w' g 1 l2))
    (hl2 : l2.length = 1)
    (R1 : Hid (∀ w g, OS SH W w g 1 l2 → Calls Try.prog 14 #[.pointer (some ⟨g, 0, none⟩), .string (keyT 0)] w fun e w' => e = .returned (.bool true) ∧ OS SH W w' g 1 l3))
    (hv0 : getN l3 (keyT 0) = ⟨#[]⟩) (hstill : hasN l3 k = still) (hs0 : still = false)
    (P3 : Hid (∀ w g, OS SH W w g 1 l3 → Calls Try.prog 12 #[.pointer (some ⟨g, 0, none⟩), .string k, .string ⟨#[119]⟩] w fun e w' => e = .returned (.int .i64 0) ∧ OS SH W w' g 1 l4))
    (hl4 : l4.length ≤ 1) (hl4' : still = false → l4.length = 1) :
    Calls Try.prog 5 #[.int .i64 1, .string k] W fun e w' => e = .returned (.bool true) ∧ Below W.heap.size W w' := by
  have CA : Hid (∀ w0, Below W.heap.size W w0 → Calls Try.prog 9 #[] w0 fun e w' => e = .returned (.bool true) ∧ Below W.heap.size W w') := fun w0 h => shelfAlive_any L W w0 h
  have HW : Hid (Below W.heap.size W W) := Below.refl _ _
  have HL : Hid (ShelfLaws SH) := L
  have CN : Hid (∀ w, Below W.heap.size W w → Calls Try.prog 10 #[.int .i64 1] w fun e w' => ∃ g, e = .returned (.pointer (some ⟨g, 0, none⟩)) ∧ OS SH W w' g 1 []) := fun w h => OS.new L h 1 (by omega) (by omega)
  have K0 : Hid (∀ w, Calls Try.prog 26 #[.int .i64 0] w fun e w' => e = .returned (.string (keyT 0)) ∧ Below w.heap.size w w') := fun w => key_any 0 w (by omega)
  have G1 : Hid (∀ w g, OS SH W w g 1 (firstKeys 1 tV) → Calls Try.prog 17 #[.pointer (some ⟨g, 0, none⟩), .string k] w fun e w' => e = .returned (.tuple #[.string (getN (firstKeys 1 tV) k), .bool had]) ∧ OS SH W w' g 1 (firstKeys 1 tV)) := fun w g h => by
    have z := h.get L k
    rw [hhad] at z
    exact z
  have G2 : Hid (∀ w g, OS SH W w g 1 l3 → Calls Try.prog 17 #[.pointer (some ⟨g, 0, none⟩), .string (keyT 0)] w fun e w' => e = .returned (.tuple #[.string ⟨#[]⟩, .bool (hasN l3 (keyT 0))]) ∧ OS SH W w' g 1 l3) := fun w g h => by
    have z := h.get L (keyT 0)
    rw [hv0] at z
    exact z
  have G3 : Hid (∀ w g, OS SH W w g 1 l3 → Calls Try.prog 17 #[.pointer (some ⟨g, 0, none⟩), .string k] w fun e w' => e = .returned (.tuple #[.string (getN l3 k), .bool still]) ∧ OS SH W w' g 1 l3) := fun w g h => by
    have z := h.get L k
    rw [hstill] at z
    exact z
  have N2 : Hid (∀ w g, OS SH W w g 1 l2 → Calls Try.prog 19 #[.pointer (some ⟨g, 0, none⟩)] w fun e w' => e = .returned (.int .i64 1) ∧ OS SH W w' g 1 l2) := fun w g h => by
    have z := h.len L
    rw [hl2] at z
    exact z
  obtain ⟨m4, hm4⟩ : ∃ m4, l4.length = m4 := ⟨_, rfl⟩
  have N4 : Hid (∀ w g, OS SH W w g 1 l4 → Calls Try.prog 19 #[.pointer (some ⟨g, 0, none⟩)] w fun e w' => e = .returned (.int .i64 (m4 : Nat)) ∧ OS SH W w' g 1 l4) := fun w g h => by
    have z := h.len L
    rw [hm4] at z
    exact z
  rw [hm4] at hl4 hl4'
  have f3 : decide ((k.size : Int) < 1) = false := by simp; omega
  have f4 : decide ((16 : Int) < (k.size : Int)) = false := by simp; omega
  have f5 : decide ((m4 : Int) ≤ 1) = true := by simp; omega
  have f6 : ((m4 : Int) == 1) = true := by rw [hl4' hs0]; rfl
  subst hs0
  clear hhad hl2 hv0 hstill hl4 hl4' hm4
  obtain ⟨gv, hgv⟩ : ∃ x, getN (firstKeys 1 tV) k = x := ⟨_, rfl⟩
  obtain ⟨gv3, hgv3⟩ : ∃ x, getN l3 k = x := ⟨_, rfl⟩
  obtain ⟨b0, hb0⟩ : ∃ x, hasN l3 (keyT 0) = x := ⟨_, rfl⟩
  rw [hgv] at G1
  rw [hgv3] at G3
  rw [hb0] at G2
  clear hgv hgv3 hb0
  go_enter Try.func5, Try.ntmps5
  go_wp2_with (first
    | (go_at_call 9; (with_reducible refine (CA.out _ HW.out).mono ?_); rintro e wa ⟨rfl, h1⟩; have H0 := Lib.hid h1; clear h1)
    | (go_at_call 10; (with_reducible refine (CN.out _ H0.out).mono ?_); rintro e wn ⟨g, rfl, h1⟩; have H1 := Lib.hid h1; clear h1))
  go_loopg [6] (1 + 1) (fun gh s6 wx => ∃ i : Nat, i + gh = 1 + 1 ∧ i ≤ 1 ∧ s6 = .int .i64 i ∧ Hid (OS SH W wx g 1 (firstKeys i tV)))
  case atStart => exact ⟨0, by omega, by omega, rfl, H1.out⟩
  case round =>
    obtain ⟨i, hig, hi, rfl, HS⟩ := hrel
    by_cases hlt : i < 1
    · have KI : Hid (∀ w, Calls Try.prog 26 #[.int .i64 (i : Nat)] w fun e w' => e = .returned (.string (keyT i)) ∧ Below w.heap.size w w') := fun w => key_any i w (by omega)
      have PI : Hid (∀ w, OS SH W w g 1 (firstKeys i tV) → Calls Try.prog 12 #[.pointer (some ⟨g, 0, none⟩), .string (keyT i), .string ⟨#[118]⟩] w fun e w' => e = .returned (.int .i64 0) ∧ OS SH W w' g 1 (firstKeys (i + 1) tV)) := fun w h => by
        obtain ⟨q1, q2⟩ := firstKeys_put (n := i) tV (by omega)
        have e : putE 1 (firstKeys i tV) (keyT i) tV = 0 := by
          rw [putE_ok (keyT_right i) (by simp [valueN, ByteArray.size]), if_neg (by rw [firstKeys_length]; omega)]
        exact h.put L _ _ (by rw [keyT_size]; decide) (by simp [ByteArray.size, maxLen]) e (by rw [putS, if_pos e, q2])
      have f7 : decide ((i : Int) < 1) = true := by simp; omega
      go_wp2_with (first
        | (go_at_call 26; (with_reducible refine (KI.out _).mono ?_); rintro e w1 ⟨rfl, hb⟩; have HS1 := Lib.hid (HS.out.below HL.out hb); clear hb)
        | (go_at_call 12; (with_reducible refine (PI.out _ HS1.out).mono ?_); rintro e w2 ⟨rfl, h2⟩; have HS2 := Lib.hid h2; clear h2))
      go_roundg (gk - 1)
      case measure => omega
      case rel => exact ⟨i + 1, by omega, by omega, by go_num, HS2⟩
    · obtain rfl : i = 1 := by omega
      have HS0 := HS
      cases had
      all_goals subst hr1
      all_goals go_wp2_with (first
        | (go_at_call 26; (with_reducible refine (K0.out _).mono ?_); rintro e w2 ⟨rfl, hb⟩; first | (have HZ6 := Lib.hid (H5.out.below HL.out hb); clear hb) | (have HZ4 := Lib.hid (H4.out.below HL.out hb); clear hb) | (have HZ2 := Lib.hid (H2.out.below HL.out hb); clear hb))
        | (go_at_call 17; (with_reducible refine (G1.out _ _ HS0.out).mono ?_); rintro e w2 ⟨rfl, h2⟩; have H1g := Lib.hid h2; clear h2)
        | (go_at_call 12; (with_reducible refine (P1.out _ _ H1g.out).mono ?_); rintro e w2 ⟨rfl, h2⟩; have H2 := Lib.hid h2; clear h2)
        | (go_at_call 12; (with_reducible refine (P2.out _ _ HZ2.out).mono ?_); rintro e w2 ⟨rfl, h2⟩; have H3 := Lib.hid h2; clear h2)
        | (go_at_call 19; (with_reducible refine (N2.out _ _ H3.out).mono ?_); rintro e w2 ⟨rfl, h2⟩; have H4 := Lib.hid h2; clear h2)
        | (go_at_call 14; (with_reducible refine (R1.out _ _ HZ4.out).mono ?_); rintro e w2 ⟨rfl, h2⟩; have H5 := Lib.hid h2; clear h2)
        | (go_at_call 17; (with_reducible refine (G2.out _ _ HZ6.out).mono ?_); rintro e w2 ⟨rfl, h2⟩; have H6 := Lib.hid h2; clear h2)
        | (go_at_call 17; (with_reducible refine (G3.out _ _ H6.out).mono ?_); rintro e w2 ⟨rfl, h2⟩; have H7 := Lib.hid h2; clear h2)
        | (go_at_call 12; (with_reducible refine (P3.out _ _ H7.out).mono ?_); rintro e w2 ⟨rfl, h2⟩; have H8 := Lib.hid h2; clear h2)
        | (go_at_call 19; (with_reducible refine (N4.out _ _ H8.out).mono ?_); rintro e w2 ⟨rfl, h2⟩; have H9 := Lib.hid h2; clear h2)
        | (go_at_call 19; (with_reducible refine (N4.out _ _ H9.out).mono ?_); rintro e w2 ⟨rfl, h2⟩; have H10 := Lib.hid h2; clear h2))
      all_goals go_ret
      all_goals exact ⟨rfl, (by first | exact H10.out.1 | exact H9.out.1)⟩

set_option maxRecDepth 100000 in
set_option maxHeartbeats 4000000 in
theorem shelfFull_any {SH : World → Nat → Int → List Item → List Nat → Prop} (L : ShelfLaws SH) (m : Int) (k : ByteArray) (W : World) (m0 : -9223372036854775808 ≤ m) (m1 : m ≤ 9223372036854775807) (hk : k.size ≤ maxLen) :
    Calls Try.prog 5 #[.int .i64 m, .string k] W fun e w' => e = .returned (.bool true) ∧ Below W.heap.size W w' := by
  have CA : Hid (∀ w0, Below W.heap.size W w0 → Calls Try.prog 9 #[] w0 fun e w' => e = .returned (.bool true) ∧ Below W.heap.size W w') := fun w0 h => shelfAlive_any L W w0 h
  have HW : Hid (Below W.heap.size W W) := Below.refl _ _
  unfold maxLen at hk
  by_cases c1 : m < 1
  · have d1 : decide (m < 1) = true := by simp; omega
    go_enter Try.func5, Try.ntmps5
    go_wp2_with (go_at_call 9; (with_reducible refine (CA.out _ HW.out).mono ?_); rintro e w1 ⟨rfl, h1⟩)
    go_ret
    exact ⟨rfl, h1⟩
  have d1 : decide (m < 1) = false := by simp; omega
  by_cases c2 : 60 < m
  · have d2 : decide (60 < m) = true := by simp; omega
    go_enter Try.func5, Try.ntmps5
    go_wp2_with (go_at_call 9; (with_reducible refine (CA.out _ HW.out).mono ?_); rintro e w1 ⟨rfl, h1⟩)
    go_ret
    exact ⟨rfl, h1⟩
  have d2 : decide (60 < m) = false := by simp; omega
  by_cases c3 : k.size < 1
  · have d3 : decide ((k.size : Int) < 1) = true := by simp; omega
    go_enter Try.func5, Try.ntmps5
    go_wp2_with (go_at_call 9; (with_reducible refine (CA.out _ HW.out).mono ?_); rintro e w1 ⟨rfl, h1⟩)
    go_ret
    exact ⟨rfl, h1⟩
  have d3 : decide ((k.size : Int) < 1) = false := by simp; omega
  by_cases c4 : 16 < k.size
  · have d4 : decide ((16 : Int) < (k.size : Int)) = true := by simp; omega
    go_enter Try.func5, Try.ntmps5
    go_wp2_with (go_at_call 9; (with_reducible refine (CA.out _ HW.out).mono ?_); rintro e w1 ⟨rfl, h1⟩)
    go_ret
    exact ⟨rfl, h1⟩
  clear CA HW d1 d2 d3
  obtain ⟨n, rfl⟩ := Int.eq_ofNat_of_zero_le (show 0 ≤ m by omega)
  have n1 : 1 ≤ n := by omega
  have n60 : n ≤ 60 := by omega
  have hL0 : (firstKeys n tV).length = n := firstKeys_length n tV
  have hR0 := firstKeys_rising n tV (by omega)
  have hH0 := firstKeys_has n tV (by omega)
  have rk : rightN k = 0 := by rw [rightN, if_neg (by omega)]
  have vW : valueN tW = 0 := by simp [valueN, ByteArray.size]
  have vN : valueN tNew = 0 := by simp [valueN, ByteArray.size]
  have sW : tW.size ≤ maxLen := by simp [ByteArray.size, maxLen]
  have sN : tNew.size ≤ maxLen := by simp [ByteArray.size, maxLen]
  have sk : k.size ≤ maxLen := by unfold maxLen; omega
  have sK : ∀ j, (keyT j).size ≤ maxLen := fun j => by rw [keyT_size]; decide
  obtain ⟨had, hhad⟩ : ∃ b, hasN (firstKeys n tV) k = b := ⟨_, rfl⟩
  have e1 : putE n (firstKeys n tV) k tW = if had then 0 else 5 := by
    rw [putE_ok rk vW, hhad, hL0]; cases had <;> simp
  obtain ⟨l1, hl1⟩ : ∃ l, putS n (firstKeys n tV) k tW = l := ⟨_, rfl⟩
  have hl1' : l1 = if had then putN (firstKeys n tV) k tW else firstKeys n tV := by
    rw [← hl1, putS, e1]; cases had <;> simp
  have hL1 : l1.length = n := by
    rw [hl1']; cases had
    · exact hL0
    · rw [if_pos rfl, putN_length, hhad, if_pos rfl]; exact hL0
  have hR1 : Rising l1 := by
    rw [hl1']; cases had
    · exact hR0
    · exact hR0.put _ _
  have hH1 : ∀ j, j < n → hasN l1 (keyT j) = true := fun j hj => by
    have z : hasN (firstKeys n tV) (keyT j) = true := by rw [hH0 j (by omega)]; simpa using hj
    rw [hl1']; cases had
    · exact z
    · rw [if_pos rfl, hasN_put hR0, z]; simp
  have e2 : putE n l1 (keyT 0) tNew = 0 := by rw [putE_ok (keyT_right 0) vN, hH1 0 (by omega)]; simp
  have e2' : putS n l1 (keyT 0) tNew = putN l1 (keyT 0) tNew := by rw [putS, if_pos e2]
  have hL2 : (putN l1 (keyT 0) tNew).length = n := by rw [putN_length, hH1 0 (by omega), if_pos rfl, hL1]
  have hR2 := hR1.put (keyT 0) tNew
  have hH2 : hasN (putN l1 (keyT 0) tNew) (keyT (n - 1)) = true := by rw [hasN_put hR1, hH1 (n - 1) (by omega)]; simp
  have hV2 : getN (putN l1 (keyT 0) tNew) (keyT 0) = tNew := getN_put_same hR1 _ _
  obtain ⟨l2, hl2⟩ : ∃ l, putN l1 (keyT 0) tNew = l := ⟨_, rfl⟩
  rw [hl2] at e2' hL2 hR2 hH2 hV2
  have hL3 : (delN l2 (keyT (n - 1))).length = n - 1 := by rw [delN_length, hH2, if_pos rfl, hL2]
  have hR3 := hR2.del (keyT (n - 1))
  have hV3 : n ≠ 1 → getN (delN l2 (keyT (n - 1))) (keyT 0) = tNew := fun h => by
    rw [getN_del_other hR2 _ (fun e => h (by have := (keyT_inj (by omega) (by omega)).1 e; omega)), hV2]
  obtain ⟨l3, hl3⟩ : ∃ l, delN l2 (keyT (n - 1)) = l := ⟨_, rfl⟩
  rw [hl3] at hL3 hR3 hV3
  have e3 : putE n l3 k tW = 0 := by rw [putE_ok rk vW, if_neg (by omega)]
  have e3' : putS n l3 k tW = putN l3 k tW := by rw [putS, if_pos e3]
  have hL4 : (putN l3 k tW).length = if hasN l3 k then n - 1 else n := by
    rw [putN_length, hL3]
    cases hasN l3 k
    · simp; omega
    · rfl
  have R1 : ∀ w g, OS SH W w g n l2 → Calls Try.prog 14 #[.pointer (some ⟨g, 0, none⟩), .string (keyT (n - 1))] w fun e w' => e = .returned (.bool true) ∧ OS SH W w' g n l3 := fun w g h => by
    have z := h.del L (keyT (n - 1))
    rw [hH2, hl3] at z
    exact z
  by_cases hn : n = 1
  · subst hn
    have h3 : l3 = [] := List.eq_nil_of_length_eq_zero hL3
    subst h3
    exact shelfFull_one L k W (by omega) (by omega) had false _ l1 l2 [] _ hhad rfl (fun w g h => h.put L k tW sk sW e1 hl1) (fun w g h => h.put L _ tNew (sK 0) sN e2 e2') hL2 R1 rfl rfl rfl (fun w g h => h.put L k tW sk sW e3 e3') (by rw [hL4]; split <;> omega) (fun _ => hL4)
  · exact shelfFull_way L n k W n1 n60 (by omega) (by omega) had _ _ l1 l2 l3 _ hhad rfl (fun w g h => h.put L k tW sk sW e1 hl1) (fun w g h => h.put L _ tNew (sK 0) sN e2 e2') hL2 R1 (hV3 hn) rfl (fun w g h => h.put L k tW sk sW e3 e3') (by rw [hL4]; split <;> omega) (fun e => by rw [hL4, e]; rfl)
end Go.Proofs.Ytinkkdhlakfooaa
