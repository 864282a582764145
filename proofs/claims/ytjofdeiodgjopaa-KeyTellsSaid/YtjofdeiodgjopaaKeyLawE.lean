/-
  The walk of the statement KeyTells of chapter 1.
-/
import Derived.Test.YtjofdeiodgjopaaKeyLaws
namespace Go.Proofs.Ytjofdeiodgjopaa
open Go.RowKit

set_option maxHeartbeats 800000 in
theorem keyTells_walk (a b : ByteArray) (x : Nat) (w : World) (ha : a.size ≤ 9223372036854775807) (hb : b.size ≤ 9223372036854775807) (hx : x < 18446744073709551616) :
    Calls Try.prog 3 #[.string a, .string b, .int .u64 x] w fun e w' => e = .returned (.bool true) ∧ Below w.heap.size w w' := by
  by_cases h1 : a.size ≤ 100
  · by_cases h2 : b.size ≤ 100
    · have hm := small h1 (by omega)
      have cR := fun W => right_any a W hm
      have cRr := fun W => refKey_any a W hm
      have cV := fun W => value_any a W hm
      have cVr := fun W => refValue_any a W hm
      have cA := fun W => addr_any a W hm
      have cAr := fun W => refAddr_any a W hm
      have cL := fun W => less_any a b W
      have cF := fun W => first_any x W hx
      have cFr := fun W => refFirst_any x W hx
      have cP := fun W => past_any a W (by omega)
      clear hm hx
      generalize rightN a = rn at *
      generalize valueN a = vn at *
      generalize addrN a = an at *
      generalize txt (firstN x) = f at *
      have CR := Lib.hid cR
      have CRr := Lib.hid cRr
      have CV := Lib.hid cV
      have CVr := Lib.hid cVr
      have CA := Lib.hid cA
      have CAr := Lib.hid cAr
      have CL := Lib.hid cL
      have CF := Lib.hid cF
      have CFr := Lib.hid cFr
      have CP := Lib.hid cP
      clear cR cRr cV cVr cA cAr cL cF cFr cP
      go_enter Try.func3, Try.ntmps3
      go_wp2_with (first
        | (go_at_call 10; refine (alive_any _).mono ?_; rintro e w1 ⟨rfl, hw⟩)
        | (go_at_call 11; refine (CR.out _).mono ?_; rintro e w' ⟨rfl, rfl⟩)
        | (go_at_call 12; refine (CRr.out _).mono ?_; rintro e w' ⟨rfl, rfl⟩)
        | (go_at_call 13; refine (CV.out _).mono ?_; rintro e w' ⟨rfl, rfl⟩)
        | (go_at_call 14; refine (CVr.out _).mono ?_; rintro e w' ⟨rfl, rfl⟩)
        | (go_at_call 15; refine (CA.out _).mono ?_; rintro e w' ⟨rfl, rfl⟩)
        | (go_at_call 16; refine (CAr.out _).mono ?_; rintro e w' ⟨rfl, rfl⟩)
        | (go_at_call 17; refine (CL.out _).mono ?_; rintro e w' ⟨rfl, rfl⟩)
        | (go_at_call 18; refine (CF.out _).mono ?_; rintro e w2 ⟨rfl, hw2⟩)
        | (go_at_call 19; refine (CFr.out _).mono ?_; rintro e w3 ⟨rfl, hw3⟩)
        | (go_at_call 20; refine (CP.out _).mono ?_; rintro e w' ⟨rfl, rfl⟩))
      go_ret
      exact ⟨rfl, (hw.trans (hw2.mono hw.size)).trans (hw3.mono (Nat.le_trans hw.size hw2.size))⟩
    · go_enter Try.func3, Try.ntmps3
      go_wp2_with (go_at_call 10; refine (alive_any _).mono ?_; rintro e w' ⟨rfl, hw⟩)
      go_ret
      exact ⟨rfl, hw⟩
  · go_enter Try.func3, Try.ntmps3
    go_wp2_with (go_at_call 10; refine (alive_any _).mono ?_; rintro e w' ⟨rfl, hw⟩)
    go_ret
    exact ⟨rfl, hw⟩

end Go.Proofs.Ytjofdeiodgjopaa
