/-
  The walk of the statement KeyAlike of chapter 1.
-/
import Derived.Test.YtjofdeiodgjopaaKeyLaws
namespace Go.Proofs.Ytjofdeiodgjopaa
open Go.RowKit

theorem txt_zeros_data (n : Nat) : (txt (List.replicate n 0)).data.toList = List.replicate n 0 := txt_data _
theorem addr_zeros (a : ByteArray) (n : Nat) : addrN (a ++ txt (List.replicate n 0)) = addrN a := by
  rw [addrN, addrN, data_append, txt_data, accN_zeros]
theorem addr_full (a b : ByteArray) (n : Nat) (h : a.size + n = 8) : addrN (a ++ txt (List.replicate n 0) ++ b) = addrN a := by
  rw [addrN, data_append, accN_append 8 _ _ (by rw [data_append, txt_data, List.length_append, data_length, List.length_replicate]; omega)]
  exact addr_zeros a n

set_option maxHeartbeats 400000 in
theorem keyAlike_walk (a b : ByteArray) (n : Int) (w : World) (ha : a.size ≤ 9223372036854775807) (hb : b.size ≤ 9223372036854775807) (hn0 : -9223372036854775808 ≤ n) (hn1 : n ≤ 9223372036854775807) :
    Calls Try.prog 7 #[.string a, .string b, .int .i64 n] w fun e w' => e = .returned (.bool true) ∧ Below w.heap.size w w' := by
  by_cases h1 : a.size ≤ 8
  · by_cases h2 : b.size ≤ 40
    · by_cases h3 : 0 ≤ n
      · by_cases h4 : n ≤ 20
        · obtain ⟨m, rfl⟩ := Int.eq_ofNat_of_zero_le h3
          obtain ⟨j, hj⟩ : ∃ j, a.size + j = 8 := ⟨8 - a.size, by omega⟩
          have hj' : (8 : Int) - (a.size : Int) = (j : Int) := by omega
          have hmk := run_make_bytes j (by omega)
          have hmk2 := run_make_bytes m (by omega)
          have hcv := run_conv_zeros j (by omega)
          have hcv2 := run_conv_zeros m (by omega)
          have s1 : (txt (List.replicate j 0)).size = j := by rw [txt_size, List.length_replicate]
          have s2 : (txt (List.replicate m 0)).size = m := by rw [txt_size, List.length_replicate]
          have c0 := fun W => addr_any a W (small h1 (by omega))
          have cz := fun W => addr_any (a ++ txt (List.replicate j 0)) W (small (n := 8) (by rw [size_append, s1]; omega) (by omega))
          have cf := fun W => addr_any (a ++ txt (List.replicate j 0) ++ b) W (small (n := 48) (by rw [size_append, size_append, s1]; omega) (by omega))
          have cm := fun W => addr_any (a ++ txt (List.replicate m 0)) W (small (n := 28) (by rw [size_append, s2]; omega) (by omega))
          rw [addr_zeros] at cz cm
          rw [addr_full a b j hj] at cf
          have cF := fun W => first_any (addrN a) W (addrN_lt a)
          have cA := fun W => addr_any (txt (firstN (addrN a))) W (small (n := 8) (by rw [txt_size]; exact firstN_length _) (by omega))
          have eA : addrN (txt (firstN (addrN a))) = addrN a := by
            rw [addrN_val, txt_toList, firstN_val (addrN_lt a)]
          rw [eA] at cA
          have hsz1 : (a ++ txt (List.replicate j 0)).size = 8 := by rw [size_append, s1]; omega
          generalize hz : txt (List.replicate j 0) = z at *
          generalize hz2 : txt (List.replicate m 0) = z2 at *
          generalize txt (firstN (addrN a)) = f at *
          generalize addrN a = x at *
          have C0 := Lib.hid c0
          have CZ := Lib.hid cz
          have CF := Lib.hid cf
          have CM := Lib.hid cm
          have CFi := Lib.hid cF
          have CA := Lib.hid cA
          have q1 : z.size ≤ 8 := by omega
          have q2 : z2.size ≤ 20 := by omega
          have q3 : (a ++ z).size ≤ 8 := by omega
          clear hz hz2 c0 cz cf cm cF cA eA hsz1 hj s1 s2
          go_enter Try.func7, Try.ntmps7
          go_wp2_with (first
            | (go_at_call 10; refine (alive_any _).mono ?_; rintro e w' ⟨rfl, hw⟩)
            | (go_at_call 18; refine (CFi.out _).mono ?_; rintro e w2 ⟨rfl, hw2⟩)
            | (go_at_call 15; ((with_reducible refine (C0.out _).mono ?_); rintro e w' ⟨rfl, rfl⟩))
            | (go_at_call 15; ((with_reducible refine (CZ.out _).mono ?_); rintro e w' ⟨rfl, rfl⟩))
            | (go_at_call 15; ((with_reducible refine (CF.out _).mono ?_); rintro e w' ⟨rfl, rfl⟩))
            | (go_at_call 15; ((with_reducible refine (CM.out _).mono ?_); rintro e w' ⟨rfl, rfl⟩))
            | (go_at_call 15; ((with_reducible refine (CA.out _).mono ?_); rintro e w' ⟨rfl, rfl⟩)))
          have hz := hw.size
          go_ret
          exact ⟨rfl, ((hw.alloc hz _).alloc (by simp; omega) _).trans (hw2.mono (by simp; omega))⟩
        · go_enter Try.func7, Try.ntmps7
          go_wp2_with (go_at_call 10; refine (alive_any _).mono ?_; rintro e w' ⟨rfl, hw⟩)
          go_ret
          exact ⟨rfl, hw⟩
      · go_enter Try.func7, Try.ntmps7
        go_wp2_with (go_at_call 10; refine (alive_any _).mono ?_; rintro e w' ⟨rfl, hw⟩)
        go_ret
        exact ⟨rfl, hw⟩
    · go_enter Try.func7, Try.ntmps7
      go_wp2_with (go_at_call 10; refine (alive_any _).mono ?_; rintro e w' ⟨rfl, hw⟩)
      go_ret
      exact ⟨rfl, hw⟩
  · go_enter Try.func7, Try.ntmps7
    go_wp2_with (go_at_call 10; refine (alive_any _).mono ?_; rintro e w' ⟨rfl, hw⟩)
    go_ret
    exact ⟨rfl, hw⟩

end Go.Proofs.Ytjofdeiodgjopaa
