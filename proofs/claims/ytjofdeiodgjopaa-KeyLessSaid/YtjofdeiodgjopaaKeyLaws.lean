/-
  The walks of the statements of chapter 1.
-/
import Derived.Test.YtjofdeiodgjopaaKeyAlive
namespace Go.Proofs.Ytjofdeiodgjopaa
open Go.RowKit

theorem small {s : ByteArray} {n : Nat} (h : s.size ≤ n) (hn : n ≤ 1000) : s.size ≤ maxLen := by unfold maxLen; omega
theorem less_is {a b : ByteArray} {v : Bool} (w : World) (h : Op.bytesLess a.toList b.toList = v) :
    Calls Try.prog 17 #[.string a, .string b] w fun e w' => e = .returned (.bool v) ∧ w = w' := by
  have := less_any a b w
  rwa [h] at this
theorem addrN_val (s : ByteArray) : addrN s = valN 8 s.toList := by rw [addrN, accN_val, Lib.toList_data]

set_option maxHeartbeats 400000 in
theorem keySpreads_walk (a b : ByteArray) (w : World) (ha : a.size ≤ 9223372036854775807) (hb : b.size ≤ 9223372036854775807) :
    Calls Try.prog 9 #[.string a, .string b] w fun e w' => e = .returned (.bool true) ∧ Below w.heap.size w w' := by
  by_cases h1 : a.size ≤ 60
  · by_cases h2 : b.size ≤ 60
    · have ca := fun W => addr_any a W (small h1 (by omega))
      have cb := fun W => addr_any b W (small h2 (by omega))
      have na := addrN_val a
      have nb := addrN_val b
      generalize addrN a = x at *
      generalize addrN b = y at *
      have HA := Lib.hid ca
      have HB := Lib.hid cb
      clear ca cb
      by_cases hxy : x = y
      · have b1 : ((x : Int) == (y : Int)) = true := by rw [beq_iff_eq]; omega
        clear na nb hxy
        go_enter Try.func9, Try.ntmps9
        go_wp2_with (first
          | (go_at_call 10; refine (alive_any _).mono ?_; rintro e w' ⟨rfl, hw⟩)
          | (go_at_call 15; ((with_reducible refine ((HA.out) _).mono ?_); rintro e w' ⟨rfl, rfl⟩))
          | (go_at_call 15; ((with_reducible refine ((HB.out) _).mono ?_); rintro e w' ⟨rfl, rfl⟩)))
        go_ret
        exact ⟨rfl, hw⟩
      · have b1 : ((x : Int) == (y : Int)) = false := by rw [beq_eq_false_iff_ne]; omega
        by_cases hlt : x < y
        · have cl := fun W => less_is W (val_less 8 a.toList b.toList (by omega))
          have b2 : decide (x < y) = true := by simp; omega
          have HL := Lib.hid cl
          clear na nb hxy hlt cl
          go_enter Try.func9, Try.ntmps9
          go_wp2_with (first
            | (go_at_call 10; refine (alive_any _).mono ?_; rintro e w' ⟨rfl, hw⟩)
            | (go_at_call 15; ((with_reducible refine ((HA.out) _).mono ?_); rintro e w' ⟨rfl, rfl⟩))
            | (go_at_call 15; ((with_reducible refine ((HB.out) _).mono ?_); rintro e w' ⟨rfl, rfl⟩))
            | (go_at_call 17; refine ((HL.out) _).mono ?_; rintro e w' ⟨rfl, rfl⟩))
          go_ret
          exact ⟨rfl, hw⟩
        · have cl := fun W => less_is W (less_asymm _ _ (val_less 8 b.toList a.toList (by omega)))
          have b2 : decide (x < y) = false := by simp; omega
          have HL := Lib.hid cl
          clear na nb hxy hlt cl
          go_enter Try.func9, Try.ntmps9
          go_wp2_with (first
            | (go_at_call 10; refine (alive_any _).mono ?_; rintro e w' ⟨rfl, hw⟩)
            | (go_at_call 15; ((with_reducible refine ((HA.out) _).mono ?_); rintro e w' ⟨rfl, rfl⟩))
            | (go_at_call 15; ((with_reducible refine ((HB.out) _).mono ?_); rintro e w' ⟨rfl, rfl⟩))
            | (go_at_call 17; refine ((HL.out) _).mono ?_; rintro e w' ⟨rfl, rfl⟩))
          go_ret
          exact ⟨rfl, hw⟩
    · go_enter Try.func9, Try.ntmps9
      go_wp2_with (go_at_call 10; refine (alive_any _).mono ?_; rintro e w' ⟨rfl, hw⟩)
      go_ret
      exact ⟨rfl, hw⟩
  · go_enter Try.func9, Try.ntmps9
    go_wp2_with (go_at_call 10; refine (alive_any _).mono ?_; rintro e w' ⟨rfl, hw⟩)
    go_ret
    exact ⟨rfl, hw⟩

theorem str_eq {a b : ByteArray} : (a.toList == b.toList) = true ↔ a = b := by
  rw [beq_iff_eq, Lib.toList_data, Lib.toList_data]
  constructor
  · intro h
    rw [← txt_of a, ← txt_of b, h]
  · intro h; rw [h]
theorem str_ne {a b : ByteArray} : (a.toList == b.toList) = false ↔ a ≠ b := by
  rw [← Bool.not_eq_true, str_eq]
theorem toList_append (a b : ByteArray) : (a ++ b).toList = a.toList ++ b.toList := by
  rw [Lib.toList_data, Lib.toList_data, Lib.toList_data, data_append]

theorem accN_append : ∀ (k : Nat) (a b : List UInt8), k ≤ a.length → accN (a ++ b) k = accN a k
  | 0, _, _, _ => rfl
  | k + 1, a, b, h => by
    rw [accN, accN, accN_append k a b (by omega)]
    congr 1
    simp [byteAt, List.getElem?_append_left (show k < a.length by omega)]
theorem byteAt_zeros (a : List UInt8) (n k : Nat) : byteAt (a ++ List.replicate n 0) k = byteAt a k := by
  unfold byteAt
  rw [List.getElem?_append]
  split
  · rfl
  · rename_i h
    rw [List.getElem?_eq_none (show a.length ≤ k by omega), List.getElem?_replicate]
    split <;> rfl
theorem accN_zeros (a : List UInt8) (n : Nat) : ∀ k, accN (a ++ List.replicate n 0) k = accN a k
  | 0 => rfl
  | k + 1 => by rw [accN, accN, accN_zeros a n k, byteAt_zeros]
theorem past_addr (k : ByteArray) : addrN (k ++ ⟨#[0]⟩) = addrN k := by
  rw [addrN, addrN, data_append]
  exact accN_zeros _ 1 8
theorem past_less (o k : ByteArray) : Op.bytesLess o.toList (k ++ ⟨#[0]⟩ : ByteArray).toList = ((o.toList == k.toList) || Op.bytesLess o.toList k.toList) := by
  have hpl : (k ++ ⟨#[0]⟩ : ByteArray).toList = k.toList ++ [0] := by rw [toList_append]; congr 1; rw [Lib.toList_data]
  have h := less_past o.toList k.toList
  rw [hpl, Bool.eq_iff_iff, h]
  simp

set_option maxHeartbeats 400000 in
theorem keyPasts_walk (k o : ByteArray) (w : World) (hk : k.size ≤ 9223372036854775807) (ho : o.size ≤ 9223372036854775807) :
    Calls Try.prog 8 #[.string k, .string o] w fun e w' => e = .returned (.bool true) ∧ Below w.heap.size w w' := by
  by_cases h1 : k.size ≤ 60
  · by_cases h2 : o.size ≤ 60
    · have cp := fun W => past_any k W (by omega)
      have hps : (k ++ ⟨#[0]⟩ : ByteArray).size = k.size + 1 := size_append _ _
      have c1 := fun W => less_is (a := k) (b := k ++ ⟨#[0]⟩) (v := true) W (by rw [past_less, str_eq.2 rfl]; rfl)
      have c2 := fun W => less_is W (past_less o k)
      have cak := fun W => addr_any k W (small h1 (by omega))
      have cap := fun W => addr_any (k ++ ⟨#[0]⟩ : ByteArray) W (small (n := 61) (by omega) (by omega))
      rw [past_addr] at cap
      have cl := fun W => less_any o k W
      generalize (k ++ ⟨#[0]⟩ : ByteArray) = p at *
      generalize addrN k = x at *
      generalize Op.bytesLess o.toList k.toList = l at *
      have CP := Lib.hid cp
      have C1 := Lib.hid c1
      have C2 := Lib.hid c2
      have CK := Lib.hid cak
      have CA := Lib.hid cap
      have CL := Lib.hid cl
      have hp2 : (p.size : Int) = (k.size : Int) + 1 := by omega
      have b0 : ((p.size : Int) == (k.size : Int) + 1) = true := by rw [beq_iff_eq]; omega
      clear cp c1 c2 cak cap cl hps hp2
      by_cases hk8 : k.size < 8
      all_goals
        go_enter Try.func8, Try.ntmps8
        go_wp2_with (first
            | (go_at_call 10; refine (alive_any _).mono ?_; rintro e w' ⟨rfl, hw⟩)
            | (go_at_call 20; refine (CP.out _).mono ?_; rintro e w' ⟨rfl, rfl⟩)
            | (go_at_call 15; ((with_reducible refine (CK.out _).mono ?_); rintro e w' ⟨rfl, rfl⟩))
            | (go_at_call 15; ((with_reducible refine (CA.out _).mono ?_); rintro e w' ⟨rfl, rfl⟩))
            | (go_at_call 17; ((with_reducible refine (C1.out _).mono ?_); rintro e w' ⟨rfl, rfl⟩))
            | (go_at_call 17; ((with_reducible refine (C2.out _).mono ?_); rintro e w' ⟨rfl, rfl⟩))
            | (go_at_call 17; ((with_reducible refine (CL.out _).mono ?_); rintro e w' ⟨rfl, rfl⟩)))
        all_goals (go_ret; exact ⟨rfl, hw⟩)
    · go_enter Try.func8, Try.ntmps8
      go_wp2_with (go_at_call 10; refine (alive_any _).mono ?_; rintro e w' ⟨rfl, hw⟩)
      go_ret
      exact ⟨rfl, hw⟩
  · go_enter Try.func8, Try.ntmps8
    go_wp2_with (go_at_call 10; refine (alive_any _).mono ?_; rintro e w' ⟨rfl, hw⟩)
    go_ret
    exact ⟨rfl, hw⟩

set_option maxHeartbeats 400000 in
theorem keyLess_walk (a b c : ByteArray) (w : World) (ha : a.size ≤ 9223372036854775807) (hb : b.size ≤ 9223372036854775807) (hc : c.size ≤ 9223372036854775807) :
    Calls Try.prog 5 #[.string a, .string b, .string c] w fun e w' => e = .returned (.bool true) ∧ Below w.heap.size w w' := by
  by_cases h1 : a.size ≤ 60
  · by_cases h2 : b.size ≤ 60
    · by_cases h3 : c.size ≤ 60
      · have cab := fun W => less_any a b W
        have cba := fun W => less_any b a W
        have cbc := fun W => less_any b c W
        have cac := fun W => less_any a c W
        have caa := fun W => less_is (a := a) (b := a) W (less_irrefl _)
        have cap : ¬ b.toList = [] → ∀ W, Calls Try.prog 17 #[.string a, .string (a ++ b)] W fun e w' => e = .returned (.bool true) ∧ W = w' := fun h W => less_is W (by rw [toList_append]; exact less_append _ _ h)
        have t1 := less_trans a.toList b.toList c.toList
        have t2 := less_asymm a.toList b.toList
        have t3 := less_total a.toList b.toList
        generalize Op.bytesLess a.toList b.toList = lab at *
        generalize Op.bytesLess b.toList c.toList = lbc at *
        generalize Op.bytesLess a.toList c.toList = lac at *
        generalize Op.bytesLess b.toList a.toList = lba at *
        have C1 := Lib.hid cab
        have C2 := Lib.hid cba
        have C3 := Lib.hid cbc
        have C4 := Lib.hid cac
        have C5 := Lib.hid caa
        have C6 := Lib.hid cap
        have T1 := Lib.hid t1
        have T2 := Lib.hid t2
        have T3 := Lib.hid t3
        clear cab cba cbc cac caa cap t1 t2 t3
        go_enter Try.func5, Try.ntmps5
        go_wp2_with (first
            | (go_at_call 10; refine (alive_any _).mono ?_; rintro e w' ⟨rfl, hw⟩)
            | (go_at_call 17; ((with_reducible refine (C1.out _).mono ?_); rintro e w' ⟨rfl, rfl⟩))
            | (go_at_call 17; ((with_reducible refine (C2.out _).mono ?_); rintro e w' ⟨rfl, rfl⟩))
            | (go_at_call 17; ((with_reducible refine (C3.out _).mono ?_); rintro e w' ⟨rfl, rfl⟩))
            | (go_at_call 17; ((with_reducible refine (C4.out _).mono ?_); rintro e w' ⟨rfl, rfl⟩))
            | (go_at_call 17; ((with_reducible refine (C5.out _).mono ?_); rintro e w' ⟨rfl, rfl⟩))
            | (go_at_call 17; ((with_reducible refine (C6.out (by assumption) _).mono ?_); rintro e w' ⟨rfl, rfl⟩)))
        all_goals go_ret
        all_goals refine ⟨?_, hw⟩
        all_goals have t1 := T1.out
        all_goals have t2 := T2.out
        all_goals have t3 := T3.out
        all_goals first | rfl | (show Ending.returned (Value.bool _) = Ending.returned (Value.bool true); congr 2; clear C1 C2 C3 C4 C5 C6 T1 T2 T3; simp_all)
      · go_enter Try.func5, Try.ntmps5
        go_wp2_with (go_at_call 10; refine (alive_any _).mono ?_; rintro e w' ⟨rfl, hw⟩)
        go_ret
        exact ⟨rfl, hw⟩
    · go_enter Try.func5, Try.ntmps5
      go_wp2_with (go_at_call 10; refine (alive_any _).mono ?_; rintro e w' ⟨rfl, hw⟩)
      go_ret
      exact ⟨rfl, hw⟩
  · go_enter Try.func5, Try.ntmps5
    go_wp2_with (go_at_call 10; refine (alive_any _).mono ?_; rintro e w' ⟨rfl, hw⟩)
    go_ret
    exact ⟨rfl, hw⟩
end Go.Proofs.Ytjofdeiodgjopaa
