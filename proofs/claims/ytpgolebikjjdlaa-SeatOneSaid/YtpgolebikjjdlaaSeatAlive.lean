/-
  The first call of stage 10's statements.
-/
import Derived.Test.YtpgolebikjjdlaaSeatPickCode
import Derived.Deep.QuietTactic
import Derived.BigQuiet
namespace Go.Proofs.Ytpgolebikjjdlaa
open Go.RowKit Pb

theorem flip_same {f : FuncId} {args : Array Value} {w : World} {v : Value} (h : Calls Try.prog f args w fun e w' => e = .returned v ∧ w = w') : Calls Try.prog f args w fun e w' => e = .returned v ∧ w' = w := h.mono fun _ _ ⟨a, b⟩ => ⟨a, b.symm⟩
theorem pt_nil (W : World) : PtAt W none [] := ⟨0, 0, fun i hi => by simp at hi⟩
theorem mix_zero : mixI 0 = 16294208416658607535 := by rw [mixI_eq]; decide +kernel
theorem seat_34 : seatI 3 4 0 = mixI 3031685 := by unfold seatI; rw [IntKind.wrap_u64, IntKind.wrap_u64, IntKind.wrap_u64, IntKind.wrap_u64, IntKind.wrap_u64, IntKind.wrap_u64]; rfl
set_option maxRecDepth 20000 in
set_option maxHeartbeats 4000000 in
theorem seatAlive_any (W : World) : Calls Try.prog 8 #[] W fun e w' => e = .returned (.bool true) ∧ Below W.heap.size W w' := by
  obtain ⟨l, hs⟩ : ∃ l, seatsI 3 4 4 = l := ⟨_, rfl⟩
  have hll : l.length = 4 := by rw [← hs, seatsI_length]
  have hl0 : l[0]'(by omega) = mixI 3031685 := by subst hs; exact seat_34
  obtain ⟨kk, hkk⟩ : ∃ kk, mixI 3031685 = kk := ⟨_, rfl⟩
  have CS := Lib.hid (seatSeats_any 3 4)
  rw [hs] at CS
  have HL := Lib.hid hll
  rw [hkk] at hl0
  have HL0 : Hid (l[0]'(by rw [HL.out]; decide) = kk) := hl0
  have CP : Hid (∀ w, Calls Try.prog 13 #[.int .i64 3, .int .i64 4, .slice none 0 0] w fun e w' => e = .returned (.tuple #[.int .u64 kk, .bool true]) ∧ Below w.heap.size w w') := fun w => by
    have h := seatPick_any 3 4 none 0 0 [] w (pt_nil w) rfl (by decide)
    rw [show pickV 3 4 [] = .tuple #[.int .u64 kk, .bool true] by unfold pickV pickI; rw [if_pos rfl, seat_34, hkk]] at h
    exact h
  have CM : Hid (∀ w, Calls Try.prog 16 #[.int .u64 3031685] w fun e w' => e = .returned (.int .u64 kk) ∧ w = w') := fun w => by rw [← hkk]; exact refMix_any _ w
  have CF : Hid (∀ w, Calls Try.prog 17 #[.int .u64 5, .int .u64 3] w fun e w' => e = .returned (.int .u64 18446744073709551614) ∧ w = w') := fun w => by
    have h := seatFar_any 5 3 w
    rw [show farI 5 3 = 18446744073709551614 by unfold farI; rw [IntKind.wrap_u64]; rfl] at h
    exact h
  have C0 : Hid (∀ w, Calls Try.prog 15 #[.int .u64 0] w fun e w' => e = .returned (.int .u64 16294208416658607535) ∧ w = w') := fun w => by
    have h := seatMix_any 0 w
    rw [mix_zero] at h
    exact h
  clear hl0 hkk hs hll
  go_enter Try.func8, Try.ntmps8
  go_upto_region 3 with (first
    | (go_at_call 11; (with_reducible refine (CS.out _).mono ?_); rintro e w1 ⟨Al, cl, rfl, hown1, hb1⟩; rw [HL.out] at hown1; rw [HL.out]; have HB1 := Lib.hid hb1; have HO1 : Hid (PtAt w1 Al l) := Lib.hid (PtAt.own hown1 HL.out); clear hb1 hown1)
    | (go_at_call 13; (with_reducible refine (CP.out _).mono ?_); rintro e w2 ⟨rfl, hb2⟩; have HB2 := Lib.hid hb2; have HO2 := Lib.hid (HO1.out.below hb2); clear hb2))
  obtain ⟨b2, o2, h2⟩ := HO2.out
  obtain ⟨rfl, -, e2⟩ := h2 0 (by rw [HL.out]; omega)
  rw [HL0.out, Nat.add_zero] at e2
  clear h2 HO1 HO2
  go_quiet (first
    | (go_at_call 16; exact Calls.quiet_of_same (flip_same (CM.out _)))
    | (go_at_call 17; exact Calls.quiet_of_same (flip_same (CF.out _)))
    | (go_at_call 15; exact Calls.quiet_of_same (flip_same (C0.out _))))
  go_wp2_with fail
  go_ret
  exact ⟨rfl, below_drewN (HB1.out.trans (HB2.out.mono HB1.out.size)) _⟩
end Go.Proofs.Ytpgolebikjjdlaa
