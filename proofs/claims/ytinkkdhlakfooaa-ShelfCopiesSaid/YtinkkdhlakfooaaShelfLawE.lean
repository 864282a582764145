/-
  The walk of ShelfCopies over ShelfLaws. (Written by tools/genCopies.py.)
-/
import Derived.Test.YtinkkdhlakfooaaShelfTwo
namespace Go.Proofs.Ytinkkdhlakfooaa
open Go.RowKit

/-- the copy, j keys struck -/
def copyF (n j : Nat) : Nat → Option ByteArray := fun k => if k < n ∧ ¬ (k % 2 = 0 ∧ k / 2 < j) then some tV else none
/-- the shelf, j rounds on -/
def origF (n j : Nat) : Nat → Option ByteArray := fun k => if 500 ≤ k ∧ k < 500 + j then some tW else if k < j then some tX else if k < n then some tV else none
theorem origF_zero : mapL (origF 0 0) = [] := by
  rw [← mapL_none]
  refine mapL_congr fun j _ => ?_
  simp only [origF]
  repeat' split
  all_goals first | rfl | (exfalso; omega)
theorem origF_first (i : Nat) : upd1 (origF i 0) i (some tV) = origF (i + 1) 0 := by
  funext k
  simp only [upd1, origF]
  repeat' split
  all_goals first | rfl | (exfalso; omega)
theorem copyF_zero (n : Nat) : mapL (origF n 0) = mapL (copyF n 0) := by
  refine mapL_congr fun k _ => ?_
  simp only [copyF, origF]
  repeat' split
  all_goals first | rfl | (exfalso; omega)
theorem copyF_step (n j : Nat) : upd1 (copyF n j) (2 * j) none = copyF n (j + 1) := by
  funext k
  simp only [upd1, copyF]
  repeat' split
  all_goals first | rfl | (exfalso; omega)
theorem origF_step (n j : Nat) (hj : j < 500) : upd1 (upd1 (origF n j) (500 + j) (some tW)) j (some tX) = origF n (j + 1) := by
  funext k
  simp only [upd1, origF]
  repeat' split
  all_goals first | rfl | (exfalso; omega)
theorem origF_new (n j : Nat) (hn : n ≤ 60) : origF n j (500 + j) = none := by
  simp only [origF]
  repeat' split
  all_goals first | rfl | (exfalso; omega)
theorem origF_new0 (i : Nat) : origF i 0 i = none := by
  simp only [origF]
  repeat' split
  all_goals first | rfl | (exfalso; omega)
theorem origF_at (n j : Nat) (hj : j < 500) : (upd1 (origF n j) (500 + j) (some tW) j).isSome = decide (j < n) := by
  rw [upd1_other _ _ (by omega), origF, if_neg (by omega), if_neg (by omega)]
  by_cases h : j < n
  · rw [if_pos h, decide_eq_true h]; rfl
  · rw [if_neg h, decide_eq_false h]; rfl
theorem origF_length0 : ∀ i, i ≤ 60 → (mapL (origF i 0)).length = i
  | 0, _ => by rw [origF_zero]; rfl
  | i + 1, h => by
    rw [← origF_first, mapL_length_put _ (by omega), origF_length0 i (by omega), origF_new0]
    rfl
theorem origF_length1 {n j : Nat} (hn : n ≤ 60) (hj : j < 60) : (mapL (upd1 (origF n j) (500 + j) (some tW))).length = (mapL (origF n j)).length + 1 := by
  rw [mapL_length_put _ (by omega), origF_new n j hn]
  rfl
theorem origF_length {n : Nat} (hn : n ≤ 60) : ∀ j, j ≤ 60 → (mapL (origF n j)).length = j + max n j
  | 0, _ => by rw [origF_length0 n hn]; omega
  | j + 1, h => by
    rw [← origF_step n j (by omega), mapL_length_put _ (by omega), origF_at n j (by omega), origF_length1 hn (by omega), origF_length hn j (by omega)]
    by_cases h2 : j < n
    · rw [decide_eq_true h2, if_pos rfl]; omega
    · rw [decide_eq_false h2, if_neg (by simp)]; omega

set_option maxRecDepth 100000 in
set_option maxHeartbeats 8000000 in
theorem shelfCopies_way {SH : World → Nat → Int → List Item → List Nat → Prop} (L : ShelfLaws SH) (n m : Nat) (W : World) (n2 : n ≤ 60) (m2 : m ≤ 60) :
    Calls Try.prog 7 #[.int .i64 (n : Nat), .int .i64 (m : Nat)] W fun e w' => e = .returned (.bool true) ∧ Below W.heap.size W w' := by
  have CA : Hid (∀ w0, Below W.heap.size W w0 → Calls Try.prog 9 #[] w0 fun e w' => e = .returned (.bool true) ∧ Below W.heap.size W w') := fun w0 h => shelfAlive_any L W w0 h
  have HW : Hid (Below W.heap.size W W) := Below.refl _ _
  have HL : Hid (ShelfLaws SH) := L
  have CN : Hid (∀ w, Below W.heap.size W w → Calls Try.prog 10 #[.int .i64 200] w fun e w' => ∃ g, e = .returned (.pointer (some ⟨g, 0, none⟩)) ∧ OS SH W w' g 200 []) := fun w h => OS.new L h 200 (by omega) (by omega)
  have f1 : decide ((n : Int) < 0) = false := by simp
  have f2 : decide ((60 : Int) < (n : Int)) = false := by simp; omega
  have f3 : decide ((m : Int) < 0) = false := by simp
  have f4 : decide ((60 : Int) < (m : Int)) = false := by simp; omega
  have HA0 := Lib.hid origF_zero
  go_enter Try.func7, Try.ntmps7
  go_wp2_with (first
    | (go_at_call 9; (with_reducible refine (CA.out _ HW.out).mono ?_); rintro e wa ⟨rfl, h1⟩; have H0 := Lib.hid h1; clear h1)
    | (go_at_call 10; (with_reducible refine (CN.out _ H0.out).mono ?_); rintro e wn ⟨g1, rfl, h1⟩; have H1 := Lib.hid h1; clear h1))
  go_loopg [6] (n + 1) (fun gh s6 wx => ∃ i : Nat, i + gh = n + 1 ∧ i ≤ n ∧ s6 = .int .i64 i ∧ Hid (OS SH W wx g1 200 (mapL (origF i 0))))
  case atStart => exact ⟨0, by omega, by omega, rfl, by rw [HA0.out]; exact H1.out⟩
  case round =>
    obtain ⟨i, hig, hi, rfl, HS⟩ := hrel
    by_cases hlt : i < n
    · have KI : Hid (∀ w, Calls Try.prog 26 #[.int .i64 (i : Nat)] w fun e w' => e = .returned (.string (keyT i)) ∧ Below w.heap.size w w') := fun w => key_any i w (by omega)
      have PI : Hid (∀ w, OS SH W w g1 200 (mapL (origF i 0)) → Calls Try.prog 12 #[.pointer (some ⟨g1, 0, none⟩), .string (keyT i), .string ⟨#[118]⟩] w fun e w' => e = .returned (.int .i64 0) ∧ OS SH W w' g1 200 (mapL (origF (i + 1) 0))) := fun w h => by
        have z := putE_key 200 (origF i 0) (k := i) (by omega) (v := tV) (by simp [ByteArray.size]) (.inl (by rw [origF_length0 i (by omega)]; omega))
        rw [origF_first i] at z
        exact h.put HL.out _ _ (by rw [keyT_size]; decide) (by simp [ByteArray.size, maxLen]) z.1 z.2
      go_wp2_with (first
        | (go_at_call 26; (with_reducible refine (KI.out _).mono ?_); rintro e w1 ⟨rfl, hb⟩; have HS1 := Lib.hid (HS.out.below HL.out hb); clear hb)
        | (go_at_call 12; (with_reducible refine (PI.out _ HS1.out).mono ?_); rintro e w2 ⟨rfl, h2⟩; have HS2 := Lib.hid h2; clear h2))
      go_roundg (gk - 1)
      case measure => omega
      case rel => exact ⟨i + 1, by omega, by omega, by go_num, HS2⟩
    · obtain rfl : i = n := by omega
      have CC : Hid (∀ w, OS SH W w g1 200 (mapL (origF i 0)) → Calls Try.prog 16 #[.pointer (some ⟨g1, 0, none⟩)] w fun e w' => ∃ g2, e = .returned (.pointer (some ⟨g2, 0, none⟩)) ∧ OS2 SH W w' g1 200 (mapL (origF i 0)) g2 200 (mapL (copyF i 0))) := fun w h => by
        have z := h.copy HL.out
        rw [copyF_zero i] at z ⊢
        exact z
      have HS0 := HS
      clear hig hi hlt HS CN HA0
      go_wp2_with (first
        | (go_at_call 16; (with_reducible refine (CC.out _ HS0.out).mono ?_); rintro e w2 ⟨g2, rfl, h2⟩; have HS2 := Lib.hid h2; clear h2))
      clear CC
      go_loopg [8] (m + 1) (fun gh s8 wx => ∃ j : Nat, j + gh = m + 1 ∧ j ≤ m ∧ s8 = .int .i64 j ∧ Hid (OS2 SH W wx g1 200 (mapL (origF i j)) g2 200 (mapL (copyF i j))))
      case atStart => exact ⟨0, by omega, by omega, rfl, HS2⟩
      case round =>
        obtain ⟨j, hjg, hj, rfl, HT⟩ := hrel
        by_cases hlt : j < m
        · have K1 : Hid (∀ w, Calls Try.prog 26 #[.int .i64 (2 * (j : Int))] w fun e w' => e = .returned (.string (keyT (2 * j))) ∧ Below w.heap.size w w') := fun w => key_any (2 * j) w (by omega)
          have K2 : Hid (∀ w, Calls Try.prog 26 #[.int .i64 (500 + (j : Int))] w fun e w' => e = .returned (.string (keyT (500 + j))) ∧ Below w.heap.size w w') := fun w => key_any (500 + j) w (by omega)
          have K3 : Hid (∀ w, Calls Try.prog 26 #[.int .i64 (j : Nat)] w fun e w' => e = .returned (.string (keyT j)) ∧ Below w.heap.size w w') := fun w => key_any j w (by omega)
          have D1 : Hid (∀ w, OS2 SH W w g1 200 (mapL (origF i j)) g2 200 (mapL (copyF i j)) → Calls Try.prog 14 #[.pointer (some ⟨g2, 0, none⟩), .string (keyT (2 * j))] w fun e w' => ∃ b, e = .returned (.bool b) ∧ OS2 SH W w' g1 200 (mapL (origF i j)) g2 200 (mapL (copyF i (j + 1)))) := fun w h => by
            have z := mapL_del (copyF i j) (k := 2 * j) (by omega)
            rw [copyF_step] at z
            refine (h.del2 HL.out _ rfl z).mono ?_
            rintro e w' ⟨rfl, h2⟩
            exact ⟨_, rfl, h2⟩
          have P1 : Hid (∀ w, OS2 SH W w g1 200 (mapL (origF i j)) g2 200 (mapL (copyF i (j + 1))) → Calls Try.prog 12 #[.pointer (some ⟨g1, 0, none⟩), .string (keyT (500 + j)), .string ⟨#[119]⟩] w fun e w' => e = .returned (.int .i64 0) ∧ OS2 SH W w' g1 200 (mapL (upd1 (origF i j) (500 + j) (some tW))) g2 200 (mapL (copyF i (j + 1)))) := fun w h => by
            have z := putE_key 200 (origF i j) (k := 500 + j) (by omega) (v := tW) (by simp [ByteArray.size]) (.inl (by rw [origF_length n2 j (by omega)]; omega))
            exact h.put1 HL.out _ _ (by rw [keyT_size]; decide) (by simp [ByteArray.size, maxLen]) z.1 z.2
          have P2 : Hid (∀ w, OS2 SH W w g1 200 (mapL (upd1 (origF i j) (500 + j) (some tW))) g2 200 (mapL (copyF i (j + 1))) → Calls Try.prog 12 #[.pointer (some ⟨g1, 0, none⟩), .string (keyT j), .string ⟨#[120]⟩] w fun e w' => e = .returned (.int .i64 0) ∧ OS2 SH W w' g1 200 (mapL (origF i (j + 1))) g2 200 (mapL (copyF i (j + 1)))) := fun w h => by
            have z := putE_key 200 (upd1 (origF i j) (500 + j) (some tW)) (k := j) (by omega) (v := tX) (by simp [ByteArray.size]) (.inl (by rw [origF_length1 n2 (by omega), origF_length n2 j (by omega)]; omega))
            rw [origF_step i j (by omega)] at z
            exact h.put1 HL.out _ _ (by rw [keyT_size]; decide) (by simp [ByteArray.size, maxLen]) z.1 z.2
          go_wp2_with (first
            | (go_at_call 26; (with_reducible refine (K1.out _).mono ?_); rintro e w1 ⟨rfl, hb⟩; have HT1 := Lib.hid (HT.out.below HL.out hb); clear hb)
            | (go_at_call 14; (with_reducible refine (D1.out _ HT1.out).mono ?_); rintro e w2 ⟨b, rfl, h2⟩; have HT2 := Lib.hid h2; clear h2)
            | (go_at_call 26; (with_reducible refine (K2.out _).mono ?_); rintro e w1 ⟨rfl, hb⟩; have HT3 := Lib.hid (HT2.out.below HL.out hb); clear hb)
            | (go_at_call 12; (with_reducible refine (P1.out _ HT3.out).mono ?_); rintro e w2 ⟨rfl, h2⟩; have HT4 := Lib.hid h2; clear h2)
            | (go_at_call 26; (with_reducible refine (K3.out _).mono ?_); rintro e w1 ⟨rfl, hb⟩; have HT5 := Lib.hid (HT4.out.below HL.out hb); clear hb)
            | (go_at_call 12; (with_reducible refine (P2.out _ HT5.out).mono ?_); rintro e w2 ⟨rfl, h2⟩; have HT6 := Lib.hid h2; clear h2))
          go_roundg (gk - 1)
          case measure => omega
          case rel => exact ⟨j + 1, by omega, by omega, by go_num, HT6⟩
        · obtain rfl : j = m := by omega
          have HT0 := HT
          clear hjg hj hlt HT HS2 HS0
          go_wp2_with fail
          go_loopg [9] (i + 1) (fun gh s9 wx => ∃ k : Nat, k + gh = i + 1 ∧ k ≤ i ∧ s9 = .int .i64 k ∧ Hid (OS2 SH W wx g1 200 (mapL (origF i j)) g2 200 (mapL (copyF i j))))
          case atStart => exact ⟨0, by omega, by omega, rfl, HT0⟩
          case round =>
            obtain ⟨k, hkg, hk, rfl, HU⟩ := hrel
            by_cases hlt : k < i
            · have K1 : Hid (∀ w, Calls Try.prog 26 #[.int .i64 (k : Nat)] w fun e w' => e = .returned (.string (keyT k)) ∧ Below w.heap.size w w') := fun w => key_any k w (by omega)
              have G2 : Hid (∀ w (v : ByteArray), (if k < j then tX else tV) = v → OS2 SH W w g1 200 (mapL (origF i j)) g2 200 (mapL (copyF i j)) → Calls Try.prog 17 #[.pointer (some ⟨g1, 0, none⟩), .string (keyT k)] w fun e w' => e = .returned (.tuple #[.string v, .bool true]) ∧ OS2 SH W w' g1 200 (mapL (origF i j)) g2 200 (mapL (copyF i j))) := fun w v hv h => by
                have e1 : origF i j k = some (if k < j then tX else tV) := by
                  simp only [origF]
                  repeat' split
                  all_goals first | rfl | (exfalso; omega)
                have z := h.get1 HL.out (keyT k) (mapL_get (origF i j) (k := k) (by omega)) (mapL_has (origF i j) (k := k) (by omega))
                rw [e1] at z
                rw [← hv]
                exact z
              have G1 : Hid (∀ w (b : Bool) (v : ByteArray), (if ¬ (k % 2 = 0 ∧ k / 2 < j) then some tV else none).isSome = b → (if ¬ (k % 2 = 0 ∧ k / 2 < j) then some tV else none).getD ⟨#[]⟩ = v → OS2 SH W w g1 200 (mapL (origF i j)) g2 200 (mapL (copyF i j)) → Calls Try.prog 17 #[.pointer (some ⟨g2, 0, none⟩), .string (keyT k)] w fun e w' => e = .returned (.tuple #[.string v, .bool b]) ∧ OS2 SH W w' g1 200 (mapL (origF i j)) g2 200 (mapL (copyF i j))) := fun w b v hb hv h => by
                have e1 : copyF i j k = if ¬ (k % 2 = 0 ∧ k / 2 < j) then some tV else none := by
                  rw [copyF]
                  congr 1
                  exact propext ⟨fun z => z.2, fun z => ⟨hlt, z⟩⟩
                have z := h.get2 HL.out (keyT k) (mapL_get (copyF i j) (k := k) (by omega)) (mapL_has (copyF i j) (k := k) (by omega))
                rw [e1] at z
                rw [← hv, ← hb]
                exact z
              have HK := Lib.hid hlt
              have p2 : (k : Int) % 2 = 0 ∨ (k : Int) % 2 = 1 := by omega
              by_cases q1 : k % 2 = 0 <;> by_cases q2 : k / 2 < j <;> by_cases q3 : k < j
              all_goals first | (exfalso; omega) | skip
              all_goals
                go_upto_region 23 with (first
                  | (go_at_call 26; (with_reducible refine (K1.out _).mono ?_); rintro e w1 ⟨rfl, hb⟩; have HU1 := Lib.hid (HU.out.below HL.out hb); clear hb)
                  | (go_at_call 17; (with_reducible refine (G1.out _ _ _ rfl rfl HU1.out).mono ?_); rintro e w2 ⟨rfl, h2⟩; have HU2 := Lib.hid h2; clear h2))
              all_goals first | (have p1 : ((k : Int) % 2 == 0) = true := (by simp; omega)) | (have p1 : ((k : Int) % 2 == 0) = false := (by simp; omega))
              all_goals first | (have p3 : decide ((k : Int) / 2 < (j : Int)) = true := (by simp; omega)) | (have p3 : decide ((k : Int) / 2 < (j : Int)) = false := (by simp; omega))
              all_goals first | (have p4 : decide (k < j) = true := (by simp; omega)) | (have p4 : decide (k < j) = false := (by simp; omega))
              all_goals
                go_wp2_with (first
                  | (go_at_call 26; (with_reducible refine (K1.out _).mono ?_); rintro e w1 ⟨rfl, hb⟩; have HU3 := Lib.hid (HU2.out.below HL.out hb); clear hb)
                  | (go_at_call 17; (with_reducible refine (G2.out _ ⟨#[120]⟩ (if_pos q3) HU3.out).mono ?_); rintro e w2 ⟨rfl, h2⟩; have HU4 := Lib.hid h2; clear h2)
                  | (go_at_call 17; (with_reducible refine (G2.out _ ⟨#[118]⟩ (if_neg q3) HU3.out).mono ?_); rintro e w2 ⟨rfl, h2⟩; have HU4 := Lib.hid h2; clear h2))
              all_goals
                go_roundg (gk - 1)
                case measure => omega
                case rel => exact ⟨k + 1, by omega, by omega, by go_num, HU4⟩
            · obtain rfl : k = i := by omega
              obtain ⟨x, hx⟩ : ∃ x, j + max k j = x := ⟨_, rfl⟩
              have N1 : Hid (∀ w, OS2 SH W w g1 200 (mapL (origF k j)) g2 200 (mapL (copyF k j)) → Calls Try.prog 19 #[.pointer (some ⟨g1, 0, none⟩)] w fun e w' => e = .returned (.int .i64 (x : Nat)) ∧ Below w.heap.size w w') := fun w h => h.len1 HL.out (by rw [origF_length n2 j m2, hx])
              go_wp2_with (first
                | (go_at_call 19; (with_reducible refine (N1.out _ HU.out).mono ?_); rintro e w1 ⟨rfl, hb⟩; have HU3 := Lib.hid (HU.out.below HL.out hb); clear hb))
              all_goals
                first
                  | (have e1 : ((x : Int) == (j : Int) + (k : Int)) = true := (by simp; omega); go_ret; exact ⟨(show Ending.returned (.bool ((x : Int) == (j : Int) + (k : Int))) = _ by rw [e1]), HU3.out.1⟩)
                  | (have e1 : ((x : Int) == (j : Int) + (j : Int)) = true := (by simp; omega); go_ret; exact ⟨(show Ending.returned (.bool ((x : Int) == (j : Int) + (j : Int))) = _ by rw [e1]), HU3.out.1⟩)

set_option maxRecDepth 100000 in
set_option maxHeartbeats 4000000 in
theorem shelfCopies_any {SH : World → Nat → Int → List Item → List Nat → Prop} (L : ShelfLaws SH) (n m : Int) (W : World) (n0 : -9223372036854775808 ≤ n) (n1 : n ≤ 9223372036854775807) (m0 : -9223372036854775808 ≤ m) (m1 : m ≤ 9223372036854775807) :
    Calls Try.prog 7 #[.int .i64 n, .int .i64 m] W fun e w' => e = .returned (.bool true) ∧ Below W.heap.size W w' := by
  have CA : Hid (∀ w0, Below W.heap.size W w0 → Calls Try.prog 9 #[] w0 fun e w' => e = .returned (.bool true) ∧ Below W.heap.size W w') := fun w0 h => shelfAlive_any L W w0 h
  have HW : Hid (Below W.heap.size W W) := Below.refl _ _
  by_cases c0 : n < 0
  · have d0 : decide (n < 0) = true := by simp; omega
    go_enter Try.func7, Try.ntmps7
    go_wp2_with (go_at_call 9; (with_reducible refine (CA.out _ HW.out).mono ?_); rintro e w1 ⟨rfl, h1⟩)
    go_ret
    exact ⟨rfl, h1⟩
  have d0 : decide (n < 0) = false := by simp; omega
  by_cases c1 : 60 < n
  · have d1 : decide (60 < n) = true := by simp; omega
    go_enter Try.func7, Try.ntmps7
    go_wp2_with (go_at_call 9; (with_reducible refine (CA.out _ HW.out).mono ?_); rintro e w1 ⟨rfl, h1⟩)
    go_ret
    exact ⟨rfl, h1⟩
  have d1 : decide (60 < n) = false := by simp; omega
  by_cases c2 : m < 0
  · have d2 : decide (m < 0) = true := by simp; omega
    go_enter Try.func7, Try.ntmps7
    go_wp2_with (go_at_call 9; (with_reducible refine (CA.out _ HW.out).mono ?_); rintro e w1 ⟨rfl, h1⟩)
    go_ret
    exact ⟨rfl, h1⟩
  have d2 : decide (m < 0) = false := by simp; omega
  by_cases c3 : 60 < m
  · have d3 : decide (60 < m) = true := by simp; omega
    go_enter Try.func7, Try.ntmps7
    go_wp2_with (go_at_call 9; (with_reducible refine (CA.out _ HW.out).mono ?_); rintro e w1 ⟨rfl, h1⟩)
    go_ret
    exact ⟨rfl, h1⟩
  have d3 : decide (60 < m) = false := by simp; omega
  clear CA HW d0 d1 d2 d3
  obtain ⟨a, rfl⟩ := Int.eq_ofNat_of_zero_le (show 0 ≤ n by omega)
  obtain ⟨b, rfl⟩ := Int.eq_ofNat_of_zero_le (show 0 ≤ m by omega)
  exact shelfCopies_way L a b W (by omega) (by omega)
end Go.Proofs.Ytinkkdhlakfooaa
