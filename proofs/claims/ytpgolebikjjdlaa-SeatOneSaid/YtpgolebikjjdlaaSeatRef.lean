/-
  The document's Mix, Seats.
-/
import Derived.Test.YtpgolebikjjdlaaSeatPure
import Derived.Test.YtpgolebikjjdlaaPbBook
namespace Go.Proofs.Ytpgolebikjjdlaa
open Go.RowKit Pb

set_option maxHeartbeats 1000000 in
theorem refMix_any (v : Int) (W : World) : Calls Try.prog 16 #[.int .u64 v] W fun e w' => e = .returned (.int .u64 (mixI v)) ∧ W = w' := by
  go_enter Try.func16, Try.ntmps16
  go_wp2
  go_ret
  exact ⟨rfl, rfl⟩
set_option maxHeartbeats 2000000 in
theorem refSeats_any (id salt : Int) (W : World) :
    Calls Try.prog 9 #[.int .i64 id, .int .i64 salt] W (NewPts W (seatsI id salt 4)) := by
  obtain ⟨i0, z0, hi0, hz, hsL, hbL, hzc⟩ := infoP_
  go_enter Try.func9, Try.ntmps9
  go_wp2
  go_loopg [5, 6] 5 (fun gh s5 s6 wx => ∃ (j c : Nat) (A : Option Addr), j + gh = 5 ∧ j ≤ 4 ∧ s5 = .slice A j c ∧ s6 = .int .i64 (j : Nat) ∧ Hid (wx.ownsRow W.heap.size 22 1 (.slice A j c) j (ptC (seatsI id salt j))) ∧ Hid (Below W.heap.size W wx))
  case atStart => exact ⟨0, 0, none, by omega, by omega, rfl, rfl, World.ownsRow_nil _ _ _ _, Below.refl _ _⟩
  case round =>
    obtain ⟨j, c, A, hjg, hj, rfl, rfl, HO, HB⟩ := hrel
    by_cases hlt : j < 4
    · have i1 : (j : Int) < 4 := by omega
      have z5 : IntKind.i64.wrap ((j : Int) + 1) = (j : Int) + 1 := by rw [IntKind.wrap_i64]; omega
      have z6 : IntKind.u64.wrap (j : Int) = (j : Int) := by rw [IntKind.wrap_u64]; omega
      obtain ⟨kk, hkk⟩ : ∃ kk, seatI id salt (j : Nat) = kk := ⟨_, rfl⟩
      have HKK := Lib.hid hkk
      clear hkk
      go_wp2_with (first
        | (go_at_call 16; (with_reducible refine (refMix_any _ _).mono ?_); rintro e w1 ⟨rfl, rfl⟩; rw [show mixI _ = kk from HKK.out])
        | (at_builtin; go_must (refine wpList_append_own _ rfl (.tmp 11) (.tmp 23) 23 rfl W.heap.size 22 i0 z0 1 8 Try.underlying23 hi0 hz hsL hbL hzc (by decide) _ _ _ rfl (HO.out.alloc _) ⟨wr.heap.size, 0, none⟩ 1 1 (ptC [kk]) rfl rfl (pt_new wr kk) (pt_one _) (by unfold maxLen; omega) (by omega) (by have := HB.out.size; simp <;> omega) ?_); intro x2 w2 hown2 hg2 hnil2; obtain ⟨A2, c2, rfl⟩ := own_slice hown2; have HB2 := Lib.hid ((HB.out.alloc HB.out.size _).grown hg2 (by have := HB.out.size; simp <;> omega) (own_lt HO.out)); have HO2 := Lib.hid hown2; clear hown2 hg2 hnil2))
      go_roundg (gk - 1)
      case measure => omega
      case rel =>
        have h5 := HO2.out
        rw [← HKK.out, ← ptC_append, ← seatsI_snoc] at h5
        exact ⟨j + 1, c2, A2, by omega, by omega, rfl, by go_num, h5, HB2⟩
    · obtain rfl : j = 4 := by omega
      go_wp2_with fail
      go_ret
      exact ⟨A, c, by rw [seatsI_length]; rfl, by rw [seatsI_length]; exact HO.out, HB.out⟩
end Go.Proofs.Ytpgolebikjjdlaa
