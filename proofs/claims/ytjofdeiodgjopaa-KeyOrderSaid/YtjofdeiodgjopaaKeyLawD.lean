/-
  The walk of the statement KeyOrder of chapter 1.
-/
import Derived.Test.YtjofdeiodgjopaaKeyLaws
namespace Go.Proofs.Ytjofdeiodgjopaa
open Go.RowKit

set_option maxHeartbeats 1600000 in
theorem keyOrder_walk (a b : ByteArray) (x : Nat) (w : World) (ha : a.size ≤ 9223372036854775807) (hb : b.size ≤ 9223372036854775807) (hx : x < 18446744073709551616) :
    Calls Try.prog 4 #[.string a, .string b, .int .u64 x] w fun e w' => e = .returned (.bool true) ∧ Below w.heap.size w w' := by
  by_cases h1 : a.size ≤ 100
  · by_cases h2 : b.size ≤ 100
    · have cA := fun W => addr_any a W (small h1 (by omega))
      have cB := fun W => addr_any b W (small h2 (by omega))
      have cab := fun W => less_any a b W
      have cba := fun W => less_any b a W
      have cF := fun W => first_any x W hx
      have fl : (txt (firstN x)).toList = firstN x := txt_toList _
      have cAF := fun W => addr_any (txt (firstN x)) W (small (n := 8) (by rw [txt_size]; exact firstN_length _) (by omega))
      have eA : addrN (txt (firstN x)) = x := by rw [addrN_val, txt_toList, firstN_val hx]
      rw [eA] at cAF
      have caf := fun W => less_any a (txt (firstN x)) W
      have cP := fun W => past_any a W (by omega)
      have cp1 := fun W => less_is (a := a) (b := a ++ ⟨#[0]⟩) (v := true) W (by rw [past_less, str_eq.2 rfl]; rfl)
      have cp2 := fun W => less_is W (past_less b a)
      have t1 : Op.bytesLess b.toList a.toList = false → addrN a ≤ addrN b := fun h => by rw [addrN_val, addrN_val]; exact val_le 8 _ _ h
      have t2 := less_asymm a.toList b.toList
      have t3 := less_total a.toList b.toList
      have t4 : x ≤ addrN a → Op.bytesLess a.toList (txt (firstN x)).toList = false := fun h => by
        rw [fl]
        exact bare_least 8 _ _ (firstN_length x) (firstN_bare x) (by rw [firstN_val hx, ← addrN_val]; exact h)
      have t5 : addrN a < x → Op.bytesLess a.toList (txt (firstN x)).toList = true := fun h => by
        rw [fl]
        exact val_less 8 _ _ (by rw [firstN_val hx, ← addrN_val]; exact h)
      have t6 : Op.bytesLess a.toList b.toList = true → (b.toList == a.toList) = false := fun h => by
        rw [← Bool.not_eq_true, beq_iff_eq]
        intro e
        rw [e, less_irrefl] at h
        cases h
      have t7 : Op.bytesLess b.toList a.toList = true → (a.toList == b.toList) = false := fun h => by
        rw [← Bool.not_eq_true, beq_iff_eq]
        intro e
        rw [e, less_irrefl] at h
        cases h
      generalize (a ++ ⟨#[0]⟩ : ByteArray) = p at *
      generalize txt (firstN x) = f at *
      generalize addrN a = xa at *
      generalize addrN b = xb at *
      generalize Op.bytesLess a.toList b.toList = lab at *
      generalize Op.bytesLess b.toList a.toList = lba at *
      generalize Op.bytesLess a.toList f.toList = laf at *
      have CA := Lib.hid cA
      have CB := Lib.hid cB
      have CAB := Lib.hid cab
      have CBA := Lib.hid cba
      have CF := Lib.hid cF
      have CAF := Lib.hid cAF
      have Caf := Lib.hid caf
      have CP := Lib.hid cP
      have CP1 := Lib.hid cp1
      have CP2 := Lib.hid cp2
      have T1 := Lib.hid t1
      have T2 := Lib.hid t2
      have T3 := Lib.hid t3
      have T4 := Lib.hid t4
      have T5 := Lib.hid t5
      have T6 := Lib.hid t6
      have T7 := Lib.hid t7
      clear cA cB cab cba cF fl cAF eA caf cP cp1 cp2 t1 t2 t3 t4 t5 t6 t7 hx ha hb
      have hcase : (lab = true ∧ lba = false ∧ (b.toList == a.toList) = false ∧ (a.toList == b.toList) = false ∧ xa ≤ xb) ∨ (lab = false ∧ lba = true ∧ (a.toList == b.toList) = false) ∨ (lab = false ∧ lba = false ∧ (a.toList == b.toList) = true ∧ xa ≤ xb) := by
        have t1 := T1.out
        have t2 := T2.out
        have t3 := T3.out
        have t6 := T6.out
        have t7 := T7.out
        clear T1 T2 T3 T4 T5 T6 T7 CA CB CAB CBA CF CAF Caf CP CP1 CP2
        cases lab <;> cases lba <;> simp_all
        exact fun e => t6 e.symm
      have hcase2 : (x ≤ xa ∧ laf = false) ∨ (xa < x ∧ laf = true) := by
        rcases Nat.lt_or_ge xa x with h | h
        · exact .inr ⟨h, T5.out h⟩
        · exact .inl ⟨h, T4.out h⟩
      clear T1 T2 T3 T4 T5 T6 T7
      rcases hcase with ⟨rfl, rfl, he1, he2, hxx⟩ | ⟨rfl, rfl, he2⟩ | ⟨rfl, rfl, he2, hxx⟩
      all_goals rcases hcase2 with ⟨hx1, rfl⟩ | ⟨hx1, rfl⟩
      all_goals
        go_enter Try.func4, Try.ntmps4
        go_wp2_with (first
          | (go_at_call 10; refine (alive_any _).mono ?_; rintro e w1 ⟨rfl, hw⟩)
          | (go_at_call 18; refine (CF.out _).mono ?_; rintro e w2 ⟨rfl, hw2⟩)
          | (go_at_call 20; refine (CP.out _).mono ?_; rintro e w' ⟨rfl, rfl⟩)
          | (go_at_call 15; ((with_reducible refine (CA.out _).mono ?_); rintro e w' ⟨rfl, rfl⟩))
          | (go_at_call 15; ((with_reducible refine (CB.out _).mono ?_); rintro e w' ⟨rfl, rfl⟩))
          | (go_at_call 15; ((with_reducible refine (CAF.out _).mono ?_); rintro e w' ⟨rfl, rfl⟩))
          | (go_at_call 17; ((with_reducible refine (CAB.out _).mono ?_); rintro e w' ⟨rfl, rfl⟩))
          | (go_at_call 17; ((with_reducible refine (CBA.out _).mono ?_); rintro e w' ⟨rfl, rfl⟩))
          | (go_at_call 17; ((with_reducible refine (Caf.out _).mono ?_); rintro e w' ⟨rfl, rfl⟩))
          | (go_at_call 17; ((with_reducible refine (CP1.out _).mono ?_); rintro e w' ⟨rfl, rfl⟩))
          | (go_at_call 17; ((with_reducible refine (CP2.out _).mono ?_); rintro e w' ⟨rfl, rfl⟩)))
        go_ret
        exact ⟨rfl, hw.trans (hw2.mono hw.size)⟩
    · go_enter Try.func4, Try.ntmps4
      go_wp2_with (go_at_call 10; refine (alive_any _).mono ?_; rintro e w' ⟨rfl, hw⟩)
      go_ret
      exact ⟨rfl, hw⟩
  · go_enter Try.func4, Try.ntmps4
    go_wp2_with (go_at_call 10; refine (alive_any _).mono ?_; rintro e w' ⟨rfl, hw⟩)
    go_ret
    exact ⟨rfl, hw⟩

end Go.Proofs.Ytjofdeiodgjopaa
