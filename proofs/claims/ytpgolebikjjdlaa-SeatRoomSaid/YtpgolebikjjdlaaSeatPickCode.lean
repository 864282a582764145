/-
  The code's Pick.
-/
import Derived.Test.YtpgolebikjjdlaaSeatCode
import Derived.WalkMore
namespace Go.Proofs.Ytpgolebikjjdlaa
open Go.RowKit Pb

set_option maxRecDepth 20000 in
set_option maxHeartbeats 4000000 in
theorem seatPick_any (id salt : Int) (A : Option Addr) (c n : Nat) (ts : List Int) (W : World) (hA : PtAt W A ts) (hn : ts.length = n) (hl : n ≤ 100000) :
    Calls Try.prog 13 #[.int .i64 id, .int .i64 salt, .slice A n c] W fun e w' =>
      e = .returned (pickV id salt ts) ∧ Below W.heap.size W w' := by
  have HA := Lib.hid hA
  have HN := Lib.hid hn
  obtain ⟨l, hs⟩ : ∃ l, seatsI id salt 4 = l := ⟨_, rfl⟩
  have hll : l.length = 4 := by rw [← hs, seatsI_length]
  have hl0 : l[0]? = some (seatI id salt 0) := by subst hs; rfl
  have CM := Lib.hid (seatSeats_any id salt)
  rw [hs] at CM
  have HV1 : Hid (ts = [] → pickV id salt ts = .tuple #[.int .u64 (seatI id salt 0), .bool true]) := fun h => by simp [pickV, pickI, h]
  have HV2 : Hid (ts ≠ [] → pickV id salt ts = .tuple #[.int .u64 (pickS ts l).2.1, .bool (decide (0 < (pickS ts l).1))]) := fun h => by simp [pickV, pickI, h, hs, (pickS_flag h l).1]
  generalize pickV id salt ts = V at *
  have HL := Lib.hid hll
  have HL0 := Lib.hid hl0
  clear hA hn hs hl0 hll
  by_cases hn0 : n = 0
  · subst hn0
    have HTE : Hid (ts = []) := List.length_eq_zero_iff.1 HN.out
    have e3 : l[0]'(by rw [HL.out]; omega) = seatI id salt 0 := by
      have h := HL0.out
      rw [List.getElem?_eq_getElem (by rw [HL.out]; omega)] at h
      exact Option.some.inj h
    have E3 := Lib.hid e3
    clear e3
    go_enter Try.func13, Try.ntmps13
    go_wp2
    go_step3
    go_wp2_with (go_at_call 11; (with_reducible refine (CM.out _).mono ?_); rintro e w1 ⟨Al, cl, rfl, hown1, hb1⟩; rw [HL.out] at hown1; rw [HL.out]; have HB1 := Lib.hid hb1; obtain ⟨b2, o2, h2⟩ : PtAt w1 Al l := PtAt.own hown1 HL.out; obtain ⟨rfl, -, e2⟩ := h2 0 (by rw [HL.out]; omega); rw [E3.out, Nat.add_zero] at e2; clear hb1 hown1 h2)
    rw [Exit.noGoto_ret]
    go_ret2
    rw [HV1.out HTE.out]
    exact ⟨rfl, HB1.out⟩
  have hn1 : ¬ ((n : Int) = 0) := by omega
  have HTE : Hid (ts ≠ []) := fun h => hn0 (by have := HN.out; rw [h] at this; exact this.symm)
  have HST := Lib.hid (fun (i : Nat) (hi : i < l.length) => pickStep_of HTE.out (l.take i) (l[i]))
  have HRM : Hid (∀ (p : Int) (k : Nat), k < n → roomI p ts ≤ roomI p (ts.take (k + 1))) := fun p k hk => room_mono p ts k (by rw [HN.out]; exact hk)
  go_enter Try.func13, Try.ntmps13
  go_wp2
  go_step3
  go_wp2
  go_step3
  go_wp2_with (go_at_call 11; (with_reducible refine (CM.out _).mono ?_); rintro e w1 ⟨Al, cl, rfl, hown1, hb1⟩; rw [HL.out] at hown1; rw [HL.out]; have HB1 := Lib.hid hb1; have HO1 : Hid (PtAt w1 Al l) := Lib.hid (PtAt.own hown1 HL.out); clear hb1 hown1)
  go_loopg [8, 9, 11, 12, 14, 27] 5 (fun gh s8 s9 s11 s12 s14 s27 wx => ∃ (i : Nat) (S : Int × Int × Bool), i + gh = 5 ∧ i ≤ 4 ∧ s27 = .int .i64 (i : Nat) ∧ s8 = .int .u64 S.2.1 ∧ s9 = .int .u64 S.1 ∧ Hid (S = pickS ts (l.take i)) ∧ Hid (Below w1.heap.size w1 wx))
  case atStart => exact ⟨0, (0, 0, false), by omega, by omega, rfl, rfl, rfl, rfl, Below.refl _ _⟩
  case round =>
    obtain ⟨i, ⟨S1, S2, S3⟩, hig, hi, rfl, rfl, rfl, HS, HB⟩ := hrel
    by_cases hlt : i < 4
    · have i1 : (i : Int) < 4 := by omega
      have zi : IntKind.i64.wrap ((i : Int) + 1) = (i : Int) + 1 := by rw [IntKind.wrap_i64]; omega
      obtain ⟨p, hp⟩ : ∃ p, l[i]'(by rw [HL.out]; exact hlt) = p := ⟨_, rfl⟩
      have hst : pickS ts (l.take (i + 1)) = if S1 < roomI p ts then (roomI p ts, p, true) else (S1, S2, S3) := by
        rw [take_snoc_at l i (by rw [HL.out]; exact hlt), pickS_snoc, HST.out i (by rw [HL.out]; exact hlt), hp, ← HS.out]
      have HST2 := Lib.hid hst
      obtain ⟨b2, o2, h2⟩ := HO1.out.below HB.out
      obtain ⟨rfl, -, e2⟩ := h2 i (by rw [HL.out]; exact hlt)
      rw [hp] at e2
      obtain ⟨b1, o1, h1⟩ := (HA.out.below HB1.out).below HB.out
      obtain ⟨rfl, -, e1⟩ := h1 0 (by rw [HN.out]; omega)
      rw [Nat.add_zero] at e1
      obtain ⟨t0, ht0⟩ : ∃ t0, ts[0]'(by rw [HN.out]; omega) = t0 := ⟨_, rfl⟩
      rw [ht0] at e1
      have h10 : ts.take (0 + 1) = [t0] := by rw [take_snoc_at ts 0 (by rw [HN.out]; omega), ht0]; rfl
      have H10 := Lib.hid h10
      clear h1 h2 hp hst h10 ht0
      go_wp2_with (go_at_call 17; (with_reducible refine (seatFar_any _ _ _).mono ?_); rintro e w2 ⟨rfl, rfl⟩)
      clear e1 e2
      obtain ⟨gz, rfl⟩ : ∃ gz : Nat, gz = gk := ⟨_, rfl⟩
      obtain ⟨wo, rfl⟩ : ∃ wo : World, wo = wr := ⟨_, rfl⟩
      go_loopg [12, 14, 38] (n + 1) (fun gh s12 s14 s38 wx => ∃ (k : Nat), k + gh = n + 1 ∧ k ≤ n ∧ s38 = .int .i64 (k : Nat) ∧ s12 = .int .u64 (roomI p (ts.take (k - 1 + 1))) ∧ Hid (k ≠ 0 → S1 < roomI p (ts.take k)) ∧ Hid (Below w1.heap.size w1 wx))
      case atStart => exact ⟨0, by omega, by omega, rfl, by rw [H10.out]; rfl, fun h => absurd rfl h, HB⟩
      case round =>
        obtain ⟨k, hkg, hk, rfl, rfl, HR, HK⟩ := hrel
        by_cases hkn : k < n
        · have k1 : (k : Int) < (n : Int) := by omega
          have zk : IntKind.i64.wrap ((k : Int) + 1) = (k : Int) + 1 := by rw [IntKind.wrap_i64]; omega
          obtain ⟨b1, o1, h1⟩ := (HA.out.below HB1.out).below HK.out
          obtain ⟨hae, -, e1⟩ := h1 k (by rw [HN.out]; exact hkn)
          injection hae with hae
          injection hae with hae1 hae2
          subst hae1 hae2
          have hts := take_snoc_at ts k (by rw [HN.out]; exact hkn)
          generalize ts[k]'(by rw [HN.out]; exact hkn) = x at e1 hts
          have hr : roomI p (ts.take (k + 1)) = if farI p x < roomI p (ts.take (k - 1 + 1)) then farI p x else roomI p (ts.take (k - 1 + 1)) := by
            by_cases h : k = 0
            · subst h
              have h3 := H10.out
              rw [hts] at h3
              have h4 : x = t0 := by simpa using h3
              rw [hts, h3, h4]
              show farI p t0 = _
              split <;> rfl
            · rw [hts, roomI_snoc _ _ _ fun h0 => by have := congrArg List.length h0; rw [List.length_take, HN.out] at this; simp at this; omega]
              rw [show k - 1 + 1 = k by omega]
          have hm := HRM.out p k hkn
          obtain ⟨m, hmm⟩ : ∃ m, roomI p (ts.take (k - 1 + 1)) = m := ⟨_, rfl⟩
          obtain ⟨d, hd⟩ : ∃ d, farI p x = d := ⟨_, rfl⟩
          rw [hmm, hd] at hr
          rw [hmm]
          clear h1 hts hmm
          have HRR := Lib.hid hr
          have HM := Lib.hid hm
          clear hr hm
          have CF : Hid (∀ w, Calls Try.prog 17 #[.int .u64 p, .int .u64 x] w fun e w' => e = .returned (.int .u64 d) ∧ w = w') := fun w => by rw [← hd]; exact seatFar_any p x w
          clear hd
          have hc : (d < m ∧ d ≤ S1) ∨ (d < m ∧ ¬ d ≤ S1) ∨ (¬ d < m ∧ m ≤ S1) ∨ (¬ d < m ∧ ¬ m ≤ S1) := by omega
          rcases hc with ⟨c1, c2⟩ | ⟨c1, c2⟩ | ⟨c1, c2⟩ | ⟨c1, c2⟩
          all_goals
            go_wp2_with (go_at_call 17; (with_reducible refine (CF.out _).mono ?_); rintro e w2 ⟨rfl, rfl⟩)
            first
            | (go_roundg (gz - 1)
               case measure => omega
               case rel =>
                 have g1 := HRR.out
                 have g2 := HM.out
                 have g3 := HST2.out
                 split at g1 <;> rw [if_neg (show ¬ S1 < roomI p ts by omega)] at g3 <;> exact ⟨i + 1, (S1, S2, S3), by omega, by omega, by go_num, rfl, rfl, g3.symm, HK.out⟩)
            | (go_roundg (gk - 1)
               case measure => omega
               case rel =>
                 have g1 := HRR.out
                 split at g1 <;> exact ⟨k + 1, by omega, by omega, by go_num, by (first | (rw [show k + 1 - 1 + 1 = k + 1 by omega, g1]; done) | (exfalso; omega)), fun _ => by omega, HK.out⟩)
        · obtain rfl : n = k := by omega
          have hta : ts.take n = ts := List.take_of_length_le (by rw [HN.out]; exact Nat.le_refl _)
          have g1 := HR.out hn0
          rw [hta] at g1
          rw [show n - 1 + 1 = n by omega, hta]
          obtain ⟨m, hm⟩ : ∃ m, roomI p ts = m := ⟨_, rfl⟩
          have g3 := HST2.out
          rw [hm] at g1 g3 ⊢
          rw [if_pos g1] at g3
          have G3 := Lib.hid g3
          clear hta hm g1 g3
          go_wp2_with fail
          go_roundg (gz - 1)
          case measure => omega
          case rel => exact ⟨i + 1, (m, p, true), by omega, by omega, by go_num, rfl, rfl, G3.out.symm, HK.out⟩
    · obtain rfl : i = 4 := by omega
      have hta : l.take 4 = l := List.take_of_length_le (by rw [HL.out]; exact Nat.le_refl _)
      go_wp2_with fail
      (try rw [Exit.noGoto_ret])
      go_ret2
      have h1 := HS.out
      rw [hta] at h1
      rw [HV2.out HTE.out, ← h1]
      exact ⟨rfl, HB1.out.trans (HB.out.mono HB1.out.size)⟩
end Go.Proofs.Ytpgolebikjjdlaa
