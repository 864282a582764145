/-
  The walk of ShelfOrders over ShelfLaws. (Written by tools/genOrders.py.)
-/
import Derived.Test.YtinkkdhlakfooaaShelfTwo
namespace Go.Proofs.Ytinkkdhlakfooaa
open Go.RowKit

open Classical in
/-- the keys of steps a to b, all with one value -/
noncomputable def stepF (s a b : Nat) : Nat → Option ByteArray := fun k => if ∃ j, a ≤ j ∧ j < b ∧ j * s % 997 = k then some tV else none
theorem stepF_none (s a : Nat) : mapL (stepF s a a) = [] := by
  rw [← mapL_none]
  refine mapL_congr fun j _ => ?_
  rw [stepF, if_neg]
  rintro ⟨j, h1, h2, _⟩
  omega
theorem stepF_up (s : Nat) {a b : Nat} (h : a ≤ b) : upd1 (stepF s a b) (b * s % 997) (some tV) = stepF s a (b + 1) := by
  funext k
  by_cases e : k = b * s % 997
  · rw [e, upd1_same, stepF, if_pos ⟨b, h, by omega, rfl⟩]
  · rw [upd1_other _ _ e, stepF, stepF]
    congr 1
    apply propext
    constructor
    · rintro ⟨j, h1, h2, h3⟩; exact ⟨j, h1, by omega, h3⟩
    · rintro ⟨j, h1, h2, h3⟩
      have : j ≠ b := fun e2 => e (by rw [← h3, e2])
      exact ⟨j, h1, by omega, h3⟩
theorem stepF_down (s : Nat) {a b : Nat} (h : a < b) : upd1 (stepF s (a + 1) b) (a * s % 997) (some tV) = stepF s a b := by
  funext k
  by_cases e : k = a * s % 997
  · rw [e, upd1_same, stepF, if_pos ⟨a, by omega, h, rfl⟩]
  · rw [upd1_other _ _ e, stepF, stepF]
    congr 1
    apply propext
    constructor
    · rintro ⟨j, h1, h2, h3⟩; exact ⟨j, by omega, h2, h3⟩
    · rintro ⟨j, h1, h2, h3⟩
      have : j ≠ a := fun e2 => e (by rw [← h3, e2])
      exact ⟨j, by omega, h2, h3⟩
theorem stepF_fresh {s a b k : Nat} (h1 : 0 < s) (h2 : s < 997) (hk : k < 997) (hb : b < 998) (h : ∀ j, a ≤ j → j < b → j ≠ k) : stepF s a b (k * s % 997) = none := by
  rw [stepF, if_neg]
  rintro ⟨j, a1, a2, e⟩
  have hjk := h j a1 a2
  rcases Nat.lt_or_gt_of_ne hjk with z | z
  · exact steps_apart h1 h2 z hk e
  · exact steps_apart h1 h2 z (by omega) e.symm
theorem stepF_length_up {s : Nat} (h1 : 0 < s) (h2 : s < 997) : ∀ b, b ≤ 997 → (mapL (stepF s 0 b)).length = b
  | 0, _ => by rw [stepF_none]; rfl
  | b + 1, h => by
    rw [← stepF_up s (Nat.zero_le b), mapL_length_put _ (by omega), stepF_fresh h1 h2 (by omega) (by omega) (fun j _ h3 => by omega), stepF_length_up h1 h2 b (by omega)]
    rfl
theorem stepF_length_down {s n : Nat} (h1 : 0 < s) (h2 : s < 997) (hn : n ≤ 997) : ∀ d, d ≤ n → (mapL (stepF s (n - d) n)).length = d
  | 0, _ => by rw [Nat.sub_zero, stepF_none]; rfl
  | d + 1, h => by
    have e : n - d = n - (d + 1) + 1 := by omega
    have ih := stepF_length_down h1 h2 hn d (by omega)
    rw [e] at ih
    rw [← stepF_down s (a := n - (d + 1)) (b := n) (by omega), mapL_length_put _ (by omega), stepF_fresh h1 h2 (by omega) (by omega) (fun j _ h3 => by omega), ih]
    rfl

set_option maxRecDepth 100000 in
set_option maxHeartbeats 8000000 in
theorem shelfOrders_way {SH : World → Nat → Int → List Item → List Nat → Prop} (L : ShelfLaws SH) (n s : Nat) (W : World) (n1 : 1 ≤ n) (n2 : n ≤ 150) (s1 : 1 ≤ s) (s2 : s ≤ 996) :
    Calls Try.prog 6 #[.int .i64 (n : Nat), .int .i64 (s : Nat)] W fun e w' => e = .returned (.bool true) ∧ Below W.heap.size W w' := by
  have CA : Hid (∀ w0, Below W.heap.size W w0 → Calls Try.prog 9 #[] w0 fun e w' => e = .returned (.bool true) ∧ Below W.heap.size W w') := fun w0 h => shelfAlive_any L W w0 h
  have HW : Hid (Below W.heap.size W W) := Below.refl _ _
  have HL : Hid (ShelfLaws SH) := L
  have CN1 : Hid (∀ w, Below W.heap.size W w → Calls Try.prog 10 #[.int .i64 200] w fun e w' => ∃ g, e = .returned (.pointer (some ⟨g, 0, none⟩)) ∧ OS SH W w' g 200 []) := fun w h => OS.new L h 200 (by omega) (by omega)
  have CN2 : Hid (∀ w g, OS SH W w g 200 [] → Calls Try.prog 10 #[.int .i64 200] w fun e w' => ∃ g2, e = .returned (.pointer (some ⟨g2, 0, none⟩)) ∧ OS2 SH W w' g 200 [] g2 200 []) := fun w g h => h.new2 L 200 (by omega) (by omega)
  have f1 : decide ((n : Int) < 1) = false := by simp; omega
  have f2 : decide ((150 : Int) < (n : Int)) = false := by simp; omega
  have f3 : decide ((s : Int) < 1) = false := by simp; omega
  have f4 : decide ((996 : Int) < (s : Int)) = false := by simp; omega
  have HA0 := Lib.hid (stepF_none s 0)
  have HB0 := Lib.hid (stepF_none s n)
  have HLU := Lib.hid (stepF_length_up (s := s) (by omega) (by omega))
  have HLD := Lib.hid (stepF_length_down (s := s) (n := n) (by omega) (by omega) (by omega))
  go_enter Try.func6, Try.ntmps6
  go_wp2_with (first
    | (go_at_call 9; (with_reducible refine (CA.out _ HW.out).mono ?_); rintro e wa ⟨rfl, h1⟩; have H0 := Lib.hid h1; clear h1)
    | (go_at_call 10; (with_reducible refine (CN2.out _ _ H1.out).mono ?_); rintro e wn ⟨g2, rfl, h1⟩; have H2 := Lib.hid h1; clear h1)
    | (go_at_call 10; (with_reducible refine (CN1.out _ H0.out).mono ?_); rintro e wn ⟨g1, rfl, h1⟩; have H1 := Lib.hid h1; clear h1))
  go_loopg [7] (n + 1) (fun gh s7 wx => ∃ i : Nat, i + gh = n + 1 ∧ i ≤ n ∧ s7 = .int .i64 i ∧ Hid (OS2 SH W wx g1 200 (mapL (stepF s 0 i)) g2 200 []))
  case atStart => exact ⟨0, by omega, by omega, rfl, by rw [HA0.out]; exact H2.out⟩
  case round =>
    obtain ⟨i, hig, hi, rfl, HS⟩ := hrel
    by_cases hlt : i < n
    · have hk : i * s % 997 < 997 := Nat.mod_lt _ (by omega)
      have hms : i * s ≤ 150 * 996 := Nat.mul_le_mul (by omega) s2
      have KI : Hid (∀ w, Calls Try.prog 26 #[.int .i64 (((i * s : Nat) : Int) % 997)] w fun e w' => e = .returned (.string (keyT (i * s % 997))) ∧ Below w.heap.size w w') := fun w => by
        have z := key_any (i * s % 997) w (by omega)
        rwa [show ((i * s % 997 : Nat) : Int) = ((i * s : Nat) : Int) % 997 by omega] at z
      have PI : Hid (∀ w, OS2 SH W w g1 200 (mapL (stepF s 0 i)) g2 200 [] → Calls Try.prog 12 #[.pointer (some ⟨g1, 0, none⟩), .string (keyT (i * s % 997)), .string ⟨#[118]⟩] w fun e w' => e = .returned (.int .i64 0) ∧ OS2 SH W w' g1 200 (mapL (stepF s 0 (i + 1))) g2 200 []) := fun w h => by
        have z := putE_key 200 (stepF s 0 i) hk (v := tV) (by simp [ByteArray.size]) (.inl (by rw [HLU.out i (by omega)]; omega))
        rw [stepF_up s (Nat.zero_le i)] at z
        exact h.put1 HL.out _ _ (by rw [keyT_size]; decide) (by simp [ByteArray.size, maxLen]) z.1 z.2
      have hw : IntKind.i64.wrap ((i : Int) * (s : Int)) = ((i * s : Nat) : Int) := by
        rw [← Int.natCast_mul, IntKind.wrap_i64]; omega
      obtain ⟨p, hp⟩ : ∃ p, i * s = p := ⟨_, rfl⟩
      rw [hp] at KI PI hw hms
      clear hk hp
      go_wp2_with (first
        | (go_at_call 26; (with_reducible refine (KI.out _).mono ?_); rintro e w1 ⟨rfl, hb⟩; have HS1 := Lib.hid (HS.out.below HL.out hb); clear hb)
        | (go_at_call 12; (with_reducible refine (PI.out _ HS1.out).mono ?_); rintro e w2 ⟨rfl, h2⟩; have HS2 := Lib.hid h2; clear h2))
      go_roundg (gk - 1)
      case measure => omega
      case rel => exact ⟨i + 1, by omega, by omega, by go_num, HS2⟩
    · obtain rfl : i = n := by omega
      have HS0 := HS
      clear hig hi hlt HS CN1 CN2 HA0
      go_wp2_with fail
      go_loopg [8] (i + 1) (fun gh s8 wx => ∃ (j : Nat) (v : Int), gh = j + 1 ∧ j ≤ i ∧ v = (j : Int) - 1 ∧ s8 = .int .i64 v ∧ Hid (OS2 SH W wx g1 200 (mapL (stepF s 0 i)) g2 200 (mapL (stepF s j i))))
      case atStart => exact ⟨i, (i : Int) - 1, by omega, by omega, rfl, by go_num, by rw [HB0.out]; exact HS0.out⟩
      case round =>
        obtain ⟨j, v, hig, hi, hv, rfl, HS⟩ := hrel
        cases j with
        | succ j =>
          obtain rfl : v = (j : Int) := by omega
          have hk : j * s % 997 < 997 := Nat.mod_lt _ (by omega)
          have hms : j * s ≤ 150 * 996 := Nat.mul_le_mul (by omega) s2
          have KI : Hid (∀ w, Calls Try.prog 26 #[.int .i64 (((j * s : Nat) : Int) % 997)] w fun e w' => e = .returned (.string (keyT (j * s % 997))) ∧ Below w.heap.size w w') := fun w => by
            have z := key_any (j * s % 997) w (by omega)
            rwa [show ((j * s % 997 : Nat) : Int) = ((j * s : Nat) : Int) % 997 by omega] at z
          have PI : Hid (∀ w, OS2 SH W w g1 200 (mapL (stepF s 0 i)) g2 200 (mapL (stepF s (j + 1) i)) → Calls Try.prog 12 #[.pointer (some ⟨g2, 0, none⟩), .string (keyT (j * s % 997)), .string ⟨#[118]⟩] w fun e w' => e = .returned (.int .i64 0) ∧ OS2 SH W w' g1 200 (mapL (stepF s 0 i)) g2 200 (mapL (stepF s j i))) := fun w h => by
            have hlen := HLD.out (i - (j + 1)) (by omega)
            rw [show i - (i - (j + 1)) = j + 1 by omega] at hlen
            have z := putE_key 200 (stepF s (j + 1) i) hk (v := tV) (by simp [ByteArray.size]) (.inl (by rw [hlen]; omega))
            rw [stepF_down s (show j < i by omega)] at z
            exact h.put2 HL.out _ _ (by rw [keyT_size]; decide) (by simp [ByteArray.size, maxLen]) z.1 z.2
          have hw : IntKind.i64.wrap ((j : Int) * (s : Int)) = ((j * s : Nat) : Int) := by
            rw [← Int.natCast_mul, IntKind.wrap_i64]; omega
          obtain ⟨p, hp⟩ : ∃ p, j * s = p := ⟨_, rfl⟩
          rw [hp] at KI PI hw hms
          clear hk hp hv
          go_wp2_with (first
            | (go_at_call 26; (with_reducible refine (KI.out _).mono ?_); rintro e w1 ⟨rfl, hb⟩; have HS1 := Lib.hid (HS.out.below HL.out hb); clear hb)
            | (go_at_call 12; (with_reducible refine (PI.out _ HS1.out).mono ?_); rintro e w2 ⟨rfl, h2⟩; have HS2 := Lib.hid h2; clear h2))
          go_roundg (j + 1)
          case measure => omega
          case rel => exact ⟨j, (j : Int) - 1, rfl, by omega, rfl, by go_num, HS2⟩
        | zero =>
          obtain rfl : v = -1 := by omega
          have hll : (mapL (stepF s 0 i)).length = i := HLU.out i (by omega)
          have hri := mapL_rising (stepF s 0 i)
          obtain ⟨l, hl⟩ : ∃ l, mapL (stepF s 0 i) = l := ⟨_, rfl⟩
          rw [hl] at hll hri HS
          clear hl hv hi hig HS0 HLU HLD HB0
          have HRI := Lib.hid hri
          have HLL := Lib.hid hll
          have I1 : Hid (∀ w, OS2 SH W w g1 200 l g2 200 l → Calls Try.prog 22 #[.pointer (some ⟨g1, 0, none⟩)] w fun e w' => ∃ A c, e = .returned (.slice A (i : Nat) c) ∧ Row w' (.slice A l.length c) l ∧ OS2 SH W w' g1 200 l g2 200 l) := fun w h => (h.items1 HL.out).mono (by
            rintro e w' ⟨A, c, rfl, a, b⟩
            exact ⟨A, c, by rw [HLL.out], own_mono a (Nat.zero_le _), h.below HL.out b⟩)
          have I2 : Hid (∀ w A c, Row w (.slice A l.length c) l → OS2 SH W w g1 200 l g2 200 l → Calls Try.prog 22 #[.pointer (some ⟨g2, 0, none⟩)] w fun e w' => ∃ B d, e = .returned (.slice B (i : Nat) d) ∧ Row w' (.slice B l.length d) l ∧ Row w' (.slice A l.length c) l ∧ OS2 SH W w' g1 200 l g2 200 l) := fun w A c hr h => (h.swap.items1 HL.out).mono (by
            rintro e w' ⟨B, d, rfl, a, b⟩
            exact ⟨B, d, by rw [HLL.out], own_mono a (Nat.zero_le _), (Touch.ofBelow (F := []) b).row hr (by simp), h.below HL.out b⟩)
          have SA : Hid (∀ w A B c d, Row w (.slice A l.length c) l → Row w (.slice B l.length d) l → OS2 SH W w g1 200 l g2 200 l → Calls Try.prog 24 #[.slice A (i : Nat) c, .slice B (i : Nat) d] w fun e w' => e = .returned (.bool true) ∧ Row w' (.slice A l.length c) l ∧ OS2 SH W w' g1 200 l g2 200 l) := fun w A B c d hA hB h => by
            have z := sameItems_any A B c d l l w hA hB
            rw [HLL.out] at z
            refine z.mono ?_
            rintro e w' ⟨rfl, k, rfl⟩
            have hb := ((Touch.refl [] w).drewN k).below (Nat.le_refl _) (by simp)
            exact ⟨by rw [(sameL_iff l l).2 rfl], (Touch.ofBelow (F := []) hb).row hA (by simp), h.below HL.out hb⟩
          obtain ⟨D, hD⟩ : ∃ D, deepN i = D := ⟨_, rfl⟩
          have T1 : Hid (∀ w A c, Row w (.slice A l.length c) l → OS2 SH W w g1 200 l g2 200 l → Calls Try.prog 20 #[.pointer (some ⟨g1, 0, none⟩)] w fun e w' => ∃ d : Nat, e = .returned (.int .i64 (d : Nat)) ∧ d ≤ D ∧ Row w' (.slice A l.length c) l ∧ OS2 SH W w' g1 200 l g2 200 l) := fun w A c hr h => (h.depth1 HL.out HLL.out).mono (by
            rintro e w' ⟨d, rfl, a, b⟩
            exact ⟨d, rfl, by rw [← hD]; exact a, (Touch.ofBelow (F := []) b).row hr (by simp), h.below HL.out b⟩)
          have T2 : Hid (∀ w A c, Row w (.slice A l.length c) l → OS2 SH W w g1 200 l g2 200 l → Calls Try.prog 20 #[.pointer (some ⟨g2, 0, none⟩)] w fun e w' => ∃ d : Nat, e = .returned (.int .i64 (d : Nat)) ∧ d ≤ D ∧ Row w' (.slice A l.length c) l ∧ OS2 SH W w' g1 200 l g2 200 l) := fun w A c hr h => (h.swap.depth1 HL.out HLL.out).mono (by
            rintro e w' ⟨d, rfl, a, b⟩
            exact ⟨d, rfl, by rw [← hD]; exact a, (Touch.ofBelow (F := []) b).row hr (by simp), h.below HL.out b⟩)
          have N1 : Hid (∀ w A c, Row w (.slice A l.length c) l → OS2 SH W w g1 200 l g2 200 l → Calls Try.prog 19 #[.pointer (some ⟨g1, 0, none⟩)] w fun e w' => e = .returned (.int .i64 (i : Nat)) ∧ Row w' (.slice A l.length c) l ∧ OS2 SH W w' g1 200 l g2 200 l) := fun w A c hr h => (h.len1 HL.out HLL.out).mono (by
            rintro e w' ⟨rfl, b⟩
            exact ⟨rfl, (Touch.ofBelow (F := []) b).row hr (by simp), h.below HL.out b⟩)
          have N2 : Hid (∀ w A c, Row w (.slice A l.length c) l → OS2 SH W w g1 200 l g2 200 l → Calls Try.prog 19 #[.pointer (some ⟨g2, 0, none⟩)] w fun e w' => e = .returned (.int .i64 (i : Nat)) ∧ Row w' (.slice A l.length c) l ∧ OS2 SH W w' g1 200 l g2 200 l) := fun w A c hr h => (h.swap.len1 HL.out HLL.out).mono (by
            rintro e w' ⟨rfl, b⟩
            exact ⟨rfl, (Touch.ofBelow (F := []) b).row hr (by simp), h.below HL.out b⟩)
          have DI : Hid (∀ w, Calls Try.prog 21 #[.int .i64 (i : Nat)] w fun e w' => e = .returned (.int .i64 (D : Nat)) ∧ w = w') := fun w => by
            have z := deep_any i w (by omega)
            rwa [hD] at z
          clear hD hri hll
          go_wp2_with (first
            | (go_at_call 22; (with_reducible refine (I1.out _ HS.out).mono ?_); rintro e w2 ⟨A, c, rfl, hx, h2⟩; have HX := Lib.hid hx; have HS1 := Lib.hid h2; clear h2 hx)
            | (go_at_call 22; (with_reducible refine (I2.out _ _ _ HX.out HS1.out).mono ?_); rintro e w2 ⟨B, d, rfl, hy, hx, h2⟩; have HX2 := Lib.hid hx; have HY2 := Lib.hid hy; have HS2 := Lib.hid h2; clear h2 hx hy)
            | (go_at_call 24; (with_reducible refine (SA.out _ _ _ _ _ HX2.out HY2.out HS2.out).mono ?_); rintro e w2 ⟨rfl, hx, h2⟩; have HX3 := Lib.hid hx; have HS3 := Lib.hid h2; clear h2 hx)
            | (go_at_call 20; (with_reducible refine (T1.out _ _ _ HX3.out HS3.out).mono ?_); rintro e w2 ⟨d1, rfl, hd1, hx, h2⟩; have HX4 := Lib.hid hx; have HS4 := Lib.hid h2; have fd1 : decide (D < d1) = false := (by simp; omega); clear h2 hx hd1)
            | (go_at_call 19; (with_reducible refine (N1.out _ _ _ HX4.out HS4.out).mono ?_); rintro e w2 ⟨rfl, hx, h2⟩; have HX5 := Lib.hid hx; have HS5 := Lib.hid h2; clear h2 hx)
            | (go_at_call 21; (with_reducible refine (DI.out _).mono ?_); rintro e w2 ⟨rfl, rfl⟩)
            | (go_at_call 20; (with_reducible refine (T2.out _ _ _ HX5.out HS5.out).mono ?_); rintro e w2 ⟨d2, rfl, hd2, hx, h2⟩; have HX6 := Lib.hid hx; have HS6 := Lib.hid h2; have fd2 : decide (D < d2) = false := (by simp; omega); clear h2 hx hd2)
            | (go_at_call 19; (with_reducible refine (N2.out _ _ _ HX6.out HS6.out).mono ?_); rintro e w2 ⟨rfl, hx, h2⟩; have HX7 := Lib.hid hx; have HS7 := Lib.hid h2; clear h2 hx))
          have HBW : Hid (Below W.heap.size W w2) := HS7.out.1
          clear I1 I2 SA T1 T2 N1 N2 DI CA HS HS1 HX HX2 HX3 HX4 HX5 HX6 HY2 HS2 HS3 HS4 HS5 HS6 HS7
          go_loopg [11] i (fun gh s11 wx => ∃ j : Nat, j + gh = i + 1 ∧ 1 ≤ j ∧ j ≤ i ∧ s11 = .int .i64 (j : Nat) ∧ Hid (Row wx (.slice A l.length c) l) ∧ Hid (Below W.heap.size W wx))
          case atStart => exact ⟨1, by omega, by omega, n1, rfl, HX7, HBW⟩
          case round =>
            obtain ⟨j, hjg, hj1, hj, rfl, HR, HB⟩ := hrel
            by_cases hlt : j < i
            · obtain ⟨q, rfl, hcell⟩ := row_key HR.out (by rw [HLL.out]; omega)
              have hlen := HLL.out
              have p0 := hcell (j - 1) (by omega)
              have p1 := hcell j (by omega)
              have hab := HRI.out.next (j - 1) (by omega)
              have e1 : l[j - 1 + 1]'(by omega) = l[j]'(by omega) := by congr 1; omega
              rw [e1] at hab
              clear hcell e1
              generalize (l[j - 1]'(by omega)).1 = ka at *
              generalize (l[j]'(by omega)).1 = kb at *
              have hab2 : Op.bytesLess ka.toList kb.toList = true := hab
              clear hab
              have ej : (j : Int) - 1 = ((j - 1 : Nat) : Int) := by omega
              have hj2 : j - 1 < i := by omega
              go_upto_region 20 with fail
              go_quiet (fail)
              go_wp2
              go_roundg (gk - 1)
              case measure => omega
              case rel => exact ⟨j + 1, by omega, by omega, by omega, by go_num, ((Touch.refl [] wr).drewN nq).row HR.out (by simp), acc HB.out (((Touch.refl [] wr).drewN nq).below (Nat.le_refl _) (by simp))⟩
            · obtain rfl : j = i := by omega
              go_wp2
              go_ret
              exact ⟨rfl, HB.out⟩

set_option maxRecDepth 100000 in
set_option maxHeartbeats 4000000 in
theorem shelfOrders_any {SH : World → Nat → Int → List Item → List Nat → Prop} (L : ShelfLaws SH) (n s : Int) (W : World) (n0 : -9223372036854775808 ≤ n) (n1 : n ≤ 9223372036854775807) (s0 : -9223372036854775808 ≤ s) (s1 : s ≤ 9223372036854775807) :
    Calls Try.prog 6 #[.int .i64 n, .int .i64 s] W fun e w' => e = .returned (.bool true) ∧ Below W.heap.size W w' := by
  have CA : Hid (∀ w0, Below W.heap.size W w0 → Calls Try.prog 9 #[] w0 fun e w' => e = .returned (.bool true) ∧ Below W.heap.size W w') := fun w0 h => shelfAlive_any L W w0 h
  have HW : Hid (Below W.heap.size W W) := Below.refl _ _
  by_cases c0 : n < 1
  · have d0 : decide (n < 1) = true := by simp; omega
    go_enter Try.func6, Try.ntmps6
    go_wp2_with (go_at_call 9; (with_reducible refine (CA.out _ HW.out).mono ?_); rintro e w1 ⟨rfl, h1⟩)
    go_ret
    exact ⟨rfl, h1⟩
  have d0 : decide (n < 1) = false := by simp; omega
  by_cases c1 : 150 < n
  · have d1 : decide (150 < n) = true := by simp; omega
    go_enter Try.func6, Try.ntmps6
    go_wp2_with (go_at_call 9; (with_reducible refine (CA.out _ HW.out).mono ?_); rintro e w1 ⟨rfl, h1⟩)
    go_ret
    exact ⟨rfl, h1⟩
  have d1 : decide (150 < n) = false := by simp; omega
  by_cases c2 : s < 1
  · have d2 : decide (s < 1) = true := by simp; omega
    go_enter Try.func6, Try.ntmps6
    go_wp2_with (go_at_call 9; (with_reducible refine (CA.out _ HW.out).mono ?_); rintro e w1 ⟨rfl, h1⟩)
    go_ret
    exact ⟨rfl, h1⟩
  have d2 : decide (s < 1) = false := by simp; omega
  by_cases c3 : 996 < s
  · have d3 : decide (996 < s) = true := by simp; omega
    go_enter Try.func6, Try.ntmps6
    go_wp2_with (go_at_call 9; (with_reducible refine (CA.out _ HW.out).mono ?_); rintro e w1 ⟨rfl, h1⟩)
    go_ret
    exact ⟨rfl, h1⟩
  have d3 : decide (996 < s) = false := by simp; omega
  clear CA HW d0 d1 d2 d3
  obtain ⟨a, rfl⟩ := Int.eq_ofNat_of_zero_le (show 0 ≤ n by omega)
  obtain ⟨b, rfl⟩ := Int.eq_ofNat_of_zero_le (show 0 ≤ s by omega)
  exact shelfOrders_way L a b W (by omega) (by omega) (by omega) (by omega)
end Go.Proofs.Ytinkkdhlakfooaa
