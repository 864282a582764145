/-
  The mixing is one to one (SeatApart).
-/
import Derived.Test.YtpgolebikjjdlaaSeatAlive
namespace Go.Proofs.Ytpgolebikjjdlaa
open Go.RowKit Pb

set_option maxRecDepth 20000 in
set_option maxHeartbeats 4000000 in
theorem seatApart_any (v w : Int) (W : World) (hv : 0 ≤ v) (hv2 : v ≤ 18446744073709551615) (hw : 0 ≤ w) (hw2 : w ≤ 18446744073709551615) :
    Calls Try.prog 5 #[.int .u64 v, .int .u64 w] W fun e w' => e = .returned (.bool true) ∧ Below W.heap.size W w' := by
  have CA := Lib.hid seatAlive_any
  have hz : IntKind.u64.wrap (farI v w + farI w v) = 0 := by unfold farI; rw [IntKind.wrap_u64, IntKind.wrap_u64, IntKind.wrap_u64]; omega
  have hvv : farI v v = 0 := by unfold farI; rw [IntKind.wrap_u64]; omega
  have CV : Hid (∀ w, Calls Try.prog 17 #[.int .u64 v, .int .u64 v] w fun e w' => e = .returned (.int .u64 0) ∧ w = w') := fun w => by rw [← hvv]; exact seatFar_any v v w
  obtain ⟨a, ha⟩ : ∃ a, mixI v = a := ⟨_, rfl⟩
  obtain ⟨b, hb⟩ : ∃ b, mixI w = b := ⟨_, rfl⟩
  obtain ⟨c, hc⟩ : ∃ c, farI v w = c := ⟨_, rfl⟩
  obtain ⟨d, hd⟩ : ∃ d, farI w v = d := ⟨_, rfl⟩
  have C1 : Hid (∀ W, Calls Try.prog 15 #[.int .u64 v] W fun e w' => e = .returned (.int .u64 a) ∧ W = w') := fun W => by rw [← ha]; exact seatMix_any v W
  have C2 : Hid (∀ W, Calls Try.prog 15 #[.int .u64 w] W fun e w' => e = .returned (.int .u64 b) ∧ W = w') := fun W => by rw [← hb]; exact seatMix_any w W
  have C3 : Hid (∀ W, Calls Try.prog 17 #[.int .u64 v, .int .u64 w] W fun e w' => e = .returned (.int .u64 c) ∧ W = w') := fun W => by rw [← hc]; exact seatFar_any v w W
  have C4 : Hid (∀ W, Calls Try.prog 17 #[.int .u64 w, .int .u64 v] W fun e w' => e = .returned (.int .u64 d) ∧ W = w') := fun W => by rw [← hd]; exact seatFar_any w v W
  rw [hc, hd] at hz
  have hab : v ≠ w → a ≠ b := fun h1 h2 => h1 (mixI_inj v w hv (by omega) hw (by omega) (by rw [ha, hb, h2]))
  have hba : v = w → a = b := fun h => by rw [← ha, ← hb, h]
  clear ha hb hc hd hvv hv hv2 hw hw2
  have hvw : (v = w ∧ a = b) ∨ ((v == w) = false ∧ (a == b) = false) := by
    by_cases h : v = w
    · exact .inl ⟨h, hba h⟩
    · exact .inr ⟨beq_eq_false_iff_ne.2 h, beq_eq_false_iff_ne.2 (hab h)⟩
  clear hab hba
  rcases hvw with ⟨rfl, rfl⟩ | ⟨h1, h2⟩
  all_goals
    go_enter Try.func5, Try.ntmps5
    go_wp2_with (first
      | (go_at_call 8; (with_reducible refine (CA.out _).mono ?_); rintro e w1 ⟨rfl, h1⟩; have H1 := Lib.hid h1; clear h1)
      | (go_at_call 15; (with_reducible refine (C1.out _).mono ?_); rintro e w3 ⟨rfl, rfl⟩)
      | (go_at_call 15; (with_reducible refine (C2.out _).mono ?_); rintro e w3 ⟨rfl, rfl⟩)
      | (go_at_call 17; (with_reducible refine (CV.out _).mono ?_); rintro e w3 ⟨rfl, rfl⟩)
      | (go_at_call 17; (with_reducible refine (C3.out _).mono ?_); rintro e w3 ⟨rfl, rfl⟩)
      | (go_at_call 17; (with_reducible refine (C4.out _).mono ?_); rintro e w3 ⟨rfl, rfl⟩))
    go_ret
    exact ⟨rfl, H1.out⟩
end Go.Proofs.Ytpgolebikjjdlaa
