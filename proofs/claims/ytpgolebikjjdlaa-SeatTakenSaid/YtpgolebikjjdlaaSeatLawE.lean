/-
  Beside one that sits already a node takes the seat that is farthest ahead of it (SeatOne).
-/
import Derived.Test.YtpgolebikjjdlaaSeatAlive
namespace Go.Proofs.Ytpgolebikjjdlaa
open Go.RowKit Pb

theorem far_zero {p t : Int} (hp : 0 ≤ p ∧ p < 18446744073709551616) (ht : 0 ≤ t ∧ t < 18446744073709551616) : farI p t = 0 ↔ p = t := by
  unfold farI
  rw [IntKind.wrap_u64]
  omega
theorem seats_range {id salt : Int} {n : Nat} {p : Int} (h : p ∈ seatsI id salt n) : 0 ≤ p ∧ p < 18446744073709551616 := by
  obtain ⟨k, -, rfl⟩ := List.mem_map.1 h
  exact mixI_range _
theorem seat_mem (id salt : Int) {n k : Nat} (h : k < n) : seatI id salt (k : Nat) ∈ seatsI id salt n := List.mem_map.2 ⟨k, by simpa using h, rfl⟩
theorem seat_ne (id salt : Int) : seatI id salt ((0 : Nat) : Int) ≠ seatI id salt ((1 : Nat) : Int) := by
  intro h
  unfold seatI at h
  generalize IntKind.u64.wrap (IntKind.u64.wrap (IntKind.u64.wrap id * 1000003) + IntKind.u64.wrap (IntKind.u64.wrap salt * 7919)) = x at h
  have h2 := mixI_inj _ _ (by rw [IntKind.wrap_u64]; omega) (by rw [IntKind.wrap_u64]; omega) (by rw [IntKind.wrap_u64]; omega) (by rw [IntKind.wrap_u64]; omega) h
  rw [IntKind.wrap_u64, IntKind.wrap_u64] at h2
  omega
theorem one_room (p o : Int) : roomI p [o] = farI p o := rfl
theorem one_free {p o : Int} (h : freeI p [o] = false) : farI p o = 0 := by
  simpa [freeI] using h
theorem one_picked (id salt o : Int) (ho : 0 ≤ o ∧ o < 18446744073709551616) :
    0 < (pickS [o] (seatsI id salt 4)).1 ∧ farI (pickS [o] (seatsI id salt 4)).2.1 o = (pickS [o] (seatsI id salt 4)).1 := by
  obtain ⟨h1, h2⟩ := pickInv [o] (seatsI id salt 4)
  generalize pickS [o] (seatsI id salt 4) = s at *
  obtain ⟨s1, s2, s3⟩ := s
  cases s3 with
  | false =>
    obtain ⟨-, h⟩ := h1 rfl
    have a0 := (far_zero (mixI_range _) ho).1 (one_free (h _ (seat_mem id salt (k := 0) (by decide))))
    have a1 := (far_zero (mixI_range _) ho).1 (one_free (h _ (seat_mem id salt (k := 1) (by decide))))
    exact absurd (a0.trans a1.symm) (seat_ne id salt)
  | true =>
    obtain ⟨-, a, b, -⟩ := h2 rfl
    rw [free_iff _ (by simp)] at b
    have c := of_decide_eq_true b
    have a' : s1 = farI s2 o := a
    have c' : 0 < farI s2 o := c
    exact ⟨(by omega : 0 < s1), a'.symm⟩
theorem pt_box (w : World) (x : Int) : PtAt (w.alloc (.cells #[.int .u64 x] 22)) (some ⟨w.heap.size, 0, none⟩) [x] := by
  refine ⟨w.heap.size, 0, fun i hi => ?_⟩
  obtain rfl : i = 0 := by simpa using hi
  exact ⟨rfl, by simp, by go_simp⟩
set_option maxRecDepth 20000 in
set_option maxHeartbeats 4000000 in
theorem seatOne_any (id salt o : Int) (W : World) (h0 : 0 ≤ o) (h1 : o ≤ 18446744073709551615) :
    Calls Try.prog 7 #[.int .i64 id, .int .i64 salt, .int .u64 o] W fun e w' => e = .returned (.bool true) ∧ Below W.heap.size W w' := by
  have CA := Lib.hid seatAlive_any
  obtain ⟨hq1, hq2⟩ := one_picked id salt o ⟨h0, by omega⟩
  have CP : Hid (∀ w A c, PtAt w A [o] → Calls Try.prog 13 #[.int .i64 id, .int .i64 salt, .slice A 1 c] w fun e w' => e = .returned (.tuple #[.int .u64 (pickS [o] (seatsI id salt 4)).2.1, .bool true]) ∧ Below w.heap.size w w') := fun w A c h => by
    have z := seatPick_any id salt A c 1 [o] w h rfl (by decide)
    rw [show pickV id salt [o] = .tuple #[.int .u64 (pickS [o] (seatsI id salt 4)).2.1, .bool true] by
      unfold pickV pickI
      rw [if_neg (by simp), (pickS_flag (by simp) _).1, decide_eq_true hq1]] at z
    exact z
  obtain ⟨l, hs⟩ : ∃ l, seatsI id salt 4 = l := ⟨_, rfl⟩
  have hll : l.length = 4 := by rw [← hs, seatsI_length]
  have CS := Lib.hid (seatSeats_any id salt)
  rw [hs] at CS CP hq1 hq2
  have HL := Lib.hid hll
  have HST : Hid (∀ (i : Nat) (hi : i < l.length), (pickS [o] (l.take (i + 1))).1 = if (pickS [o] (l.take i)).1 < farI l[i] o then farI l[i] o else (pickS [o] (l.take i)).1) := fun i hi => by
    rw [take_snoc_at l i hi, pickS_snoc, pickStep_of (by simp)]
    split <;> rename_i hh <;> rw [one_room] at hh
    · rw [if_pos hh]; rfl
    · rw [if_neg hh]
  have HE : Hid (l.take 4 = l) := List.take_of_length_le (by rw [hll]; exact Nat.le_refl _)
  have HQ : Hid ((pickS [o] l).1 = (pickS [o] l).1) := rfl
  obtain ⟨x, hx⟩ : ∃ x, (pickS [o] l).2.1 = x := ⟨_, rfl⟩
  obtain ⟨m, hm⟩ : ∃ m, (pickS [o] l).1 = m := ⟨_, rfl⟩
  rw [hx] at CP hq2
  rw [hm] at hq1 hq2
  have HM := Lib.hid hm
  have CF : Hid (∀ w, Calls Try.prog 17 #[.int .u64 x, .int .u64 o] w fun e w' => e = .returned (.int .u64 m) ∧ w = w') := fun w => by rw [← hq2]; exact seatFar_any x o w
  have d1 : decide (0 < m) = true := decide_eq_true hq1
  have HD := Lib.hid d1
  clear hs hll hx hm hq1 hq2 h0 h1 d1 HQ
  go_enter Try.func7, Try.ntmps7
  go_wp2_with (first
    | (go_at_call 8; (with_reducible refine (CA.out _).mono ?_); rintro e w1 ⟨rfl, h1⟩; have H1 := Lib.hid h1; have HP := Lib.hid (pt_box w1 o); have B1 := Lib.hid (h1.alloc h1.size (.cells #[.int .u64 o] 22)); clear h1)
    | (go_at_call 13; (with_reducible refine (CP.out _ _ _ HP.out).mono ?_); rintro e w2 ⟨rfl, h2⟩; have H2 : Hid (Below W.heap.size W w2) := acc B1.out h2; clear h2)
    | (go_at_call 11; (with_reducible refine (CS.out _).mono ?_); rintro e w3 ⟨Al, cl, rfl, hown1, hb1⟩; rw [HL.out] at hown1; rw [HL.out]; have H3 := Lib.hid (acc H2.out hb1); have HO1 : Hid (PtAt w3 Al l) := Lib.hid (PtAt.own hown1 HL.out); clear hb1 hown1))
  go_loopg [10, 12, 31] 5 (fun gh s10 s12 s31 wx => ∃ i : Nat, i + gh = 5 ∧ i ≤ 4 ∧ s31 = .int .i64 (i : Nat) ∧ s10 = .int .u64 (pickS [o] (l.take i)).1 ∧ Hid (Below w3.heap.size w3 wx))
  case atStart => exact ⟨0, by omega, by omega, rfl, rfl, Below.refl _ _⟩
  case round =>
    obtain ⟨i, hig, hi, rfl, rfl, HB⟩ := hrel
    by_cases hlt : i < 4
    · have i1 : (i : Int) < 4 := by omega
      have zi : IntKind.i64.wrap ((i : Int) + 1) = (i : Int) + 1 := by rw [IntKind.wrap_i64]; omega
      have hst := HST.out i (by rw [HL.out]; exact hlt)
      obtain ⟨b2, o2, h2⟩ := HO1.out.below HB.out
      obtain ⟨rfl, -, e2⟩ := h2 i (by rw [HL.out]; exact hlt)
      generalize l[i]'(by rw [HL.out]; exact hlt) = p at e2 hst
      have CG : Hid (∀ w, Calls Try.prog 17 #[.int .u64 p, .int .u64 o] w fun e w' => e = .returned (.int .u64 (farI p o)) ∧ w = w') := fun w => seatFar_any p o w
      generalize farI p o = d at CG hst
      generalize (pickS [o] (l.take i)).1 = k at *
      have HS := Lib.hid hst
      clear hst h2
      have hc : k < d ∨ ¬ k < d := by omega
      rcases hc with hc | hc
      all_goals
        go_wp2_with (go_at_call 17; (with_reducible refine (CG.out _).mono ?_); rintro e w2 ⟨rfl, rfl⟩)
        go_roundg (gk - 1)
        case measure => omega
        case rel =>
          have g1 := HS.out
          split at g1 <;> exact ⟨i + 1, by omega, by omega, by go_num, by (first | (rw [g1]; done) | (exfalso; omega)), HB.out⟩
    · obtain rfl : i = 4 := by omega
      rw [HE.out, HM.out]
      have hd := of_decide_eq_true HD.out
      go_wp2_with (go_at_call 17; (with_reducible refine (CF.out _).mono ?_); rintro e w4 ⟨rfl, rfl⟩)
      go_ret
      exact ⟨rfl, acc H3.out HB.out⟩
end Go.Proofs.Ytpgolebikjjdlaa
