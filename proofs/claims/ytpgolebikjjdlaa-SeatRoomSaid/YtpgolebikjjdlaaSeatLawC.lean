/-
  No other seat of a node has more room than the one that is picked, and that is free (SeatRoom).
-/
import Derived.Test.YtpgolebikjjdlaaSeatLawE
namespace Go.Proofs.Ytpgolebikjjdlaa
open Go.RowKit Pb

theorem picked_best (ts l : List Int) (h : ts ≠ []) :
    ((pickS ts l).2.2 = false → (pickS ts l).2.1 = 0) ∧ ((pickS ts l).2.2 = true → (pickS ts l).2.1 ∈ l ∧ 0 < roomI (pickS ts l).2.1 ts ∧ ∀ p ∈ l, roomI p ts ≤ roomI (pickS ts l).2.1 ts) := by
  obtain ⟨h1, h2⟩ := pickInv ts l
  generalize pickS ts l = s at *
  obtain ⟨s1, s2, s3⟩ := s
  cases s3 with
  | false =>
    refine ⟨fun _ => ?_, fun z => by cases z⟩
    have := (h1 rfl).1
    injection this with a b
    injection b with b c
  | true =>
    refine ⟨fun z => (by cases z), fun _ => ?_⟩
    obtain ⟨a, b, c, d⟩ := h2 rfl
    have b' : s1 = roomI s2 ts := b
    have c' : freeI s2 ts = true := c
    rw [free_iff _ h] at c'
    refine ⟨a, of_decide_eq_true c', fun p hp => ?_⟩
    show roomI p ts ≤ roomI s2 ts
    have c2 := of_decide_eq_true c'
    cases hf : freeI p ts with
    | true =>
      have z : roomI p ts ≤ s1 := d p hp hf
      omega
    | false =>
      rw [free_iff _ h] at hf
      have := of_decide_eq_false hf
      omega
set_option maxRecDepth 20000 in
set_option maxHeartbeats 4000000 in
theorem roomC_any (p : Int) (q : Nat) (A : Option Addr) (c n : Nat) (ts : List Int) (W : World) (hq : W.cell? ⟨q, 0, none⟩ = some (.slice A n c)) (hA : PtAt W A ts) (hn : ts.length = n) (hl : n ≤ 100000) (hn0 : n ≠ 0) :
    Calls Try.prog 21 #[.int .u64 p, .pointer (some ⟨q, 0, none⟩)] W fun e w' => e = .returned (.int .u64 (roomI p ts)) ∧ Below W.heap.size W w' := by
  have HA := Lib.hid hA
  have HN := Lib.hid hn
  obtain ⟨b1, o1, h1⟩ := hA
  obtain ⟨rfl, -, e1⟩ := h1 0 (by rw [hn]; omega)
  rw [Nat.add_zero] at e1
  obtain ⟨t0, ht0⟩ : ∃ t0, ts[0]'(by rw [hn]; omega) = t0 := ⟨_, rfl⟩
  rw [ht0] at e1
  have h10 : ts.take (0 + 1) = [t0] := by rw [take_snoc_at ts 0 (by rw [hn]; omega), ht0]; rfl
  have H10 := Lib.hid h10
  have HE : Hid (roomI p ts = roomI p (ts.take (n - 1 + 1))) := by
    show _ = _
    rw [show n - 1 + 1 = n by omega, List.take_of_length_le (by rw [hn]; exact Nat.le_refl _)]
  clear h1 ht0 h10 hn
  rw [HE.out]
  go_enter Try.func21, Try.ntmps21
  go_wp2_with (go_at_call 17; (with_reducible refine (seatFar_any _ _ _).mono ?_); rintro e w2 ⟨rfl, rfl⟩)
  obtain ⟨wo, rfl⟩ : ∃ wo : World, wo = W := ⟨_, rfl⟩
  go_loopg [4, 6, 14] (n + 1) (fun gh s4 s6 s14 wx => ∃ (k : Nat), k + gh = n + 1 ∧ k ≤ n ∧ s14 = .int .i64 (k : Nat) ∧ s4 = .int .u64 (roomI p (ts.take (k - 1 + 1))) ∧ Hid (Below wo.heap.size wo wx))
  case atStart => exact ⟨0, by omega, by omega, rfl, by rw [H10.out]; rfl, Below.refl _ _⟩
  case round =>
    obtain ⟨k, hkg, hk, rfl, rfl, HK⟩ := hrel
    by_cases hkn : k < n
    · have k1 : (k : Int) < (n : Int) := by omega
      have zk : IntKind.i64.wrap ((k : Int) + 1) = (k : Int) + 1 := by rw [IntKind.wrap_i64]; omega
      obtain ⟨b2, o2, h2⟩ := HA.out.below HK.out
      obtain ⟨hae, -, e2⟩ := h2 k (by rw [HN.out]; exact hkn)
      injection hae with hae
      injection hae with hae1 hae2
      subst hae1 hae2
      have hts := take_snoc_at ts k (by rw [HN.out]; exact hkn)
      generalize ts[k]'(by rw [HN.out]; exact hkn) = x at e2 hts
      have hr : roomI p (ts.take (k + 1)) = if farI p x < roomI p (ts.take (k - 1 + 1)) then farI p x else roomI p (ts.take (k - 1 + 1)) := by
        by_cases h : k = 0
        · subst h
          have h3 := H10.out
          rw [hts] at h3
          have h4 : x = t0 := by simpa using h3
          rw [hts, h3, h4]
          show farI p t0 = _
          split <;> rfl
        · rw [hts, roomI_snoc _ _ _ fun h0 => by have := congrArg List.length h0; rw [List.length_take, HN.out] at this; simp at this; omega]
          rw [show k - 1 + 1 = k by omega]
      obtain ⟨m, hmm⟩ : ∃ m, roomI p (ts.take (k - 1 + 1)) = m := ⟨_, rfl⟩
      obtain ⟨d, hd⟩ : ∃ d, farI p x = d := ⟨_, rfl⟩
      rw [hmm, hd] at hr
      rw [hmm]
      clear h2 hts hmm
      have HRR := Lib.hid hr
      clear hr
      have CF : Hid (∀ w, Calls Try.prog 17 #[.int .u64 p, .int .u64 x] w fun e w' => e = .returned (.int .u64 d) ∧ w = w') := fun w => by rw [← hd]; exact seatFar_any p x w
      clear hd
      have hc : d < m ∨ ¬ d < m := by omega
      rcases hc with c1 | c1
      all_goals
        go_wp2_with (go_at_call 17; (with_reducible refine (CF.out _).mono ?_); rintro e w2 ⟨rfl, rfl⟩)
        go_roundg (gk - 1)
        case measure => omega
        case rel =>
          have g1 := HRR.out
          split at g1 <;> exact ⟨k + 1, by omega, by omega, by go_num, by (first | (rw [show k + 1 - 1 + 1 = k + 1 by omega, g1]; done) | (exfalso; omega)), HK.out⟩
    · obtain rfl : n = k := by omega
      go_wp2_with fail
      go_ret
      exact ⟨rfl, HK.out⟩
abbrev boxS (W : World) (A : Option Addr) (n c : Nat) : World := W.alloc (.cells #[.slice A n c] 23)
set_option maxRecDepth 20000 in
set_option maxHeartbeats 4000000 in
theorem seatRoom_any (id salt : Int) (A : Option Addr) (c n : Nat) (ts : List Int) (W : World) (hA : PtAt W A ts) (hn : ts.length = n) :
    Calls Try.prog 4 #[.int .i64 id, .int .i64 salt, .slice A n c] W fun e w' => e = .returned (.bool true) ∧ Below W.heap.size W w' := by
  have CA := Lib.hid seatAlive_any
  have bw : Below W.heap.size W (boxS W A n c) := (Below.refl W.heap.size W).alloc (Nat.le_refl _) _
  have BW := Lib.hid bw
  have BR : Hid (Below (boxS W A n c).heap.size (boxS W A n c) (boxS W A n c)) := Below.refl _ _
  by_cases h0 : n = 0
  · subst h0
    clear bw
    go_enter Try.func4, Try.ntmps4
    go_wp2_with (go_at_call 8; (with_reducible refine (CA.out _).mono ?_); rintro e w1 ⟨rfl, h1⟩)
    go_ret
    exact ⟨rfl, acc BW.out h1⟩
  have hc0 : ((n : Int) == 0) = false := beq_eq_false_iff_ne.2 (by omega)
  have hm0 : ¬ (n : Int) = 0 := by omega
  by_cases h6 : 60 < n
  · have d6 : decide (60 < (n : Int)) = true := by simp; omega
    clear bw
    go_enter Try.func4, Try.ntmps4
    go_wp2_with (go_at_call 8; (with_reducible refine (CA.out _).mono ?_); rintro e w1 ⟨rfl, h1⟩)
    go_ret
    exact ⟨rfl, acc BW.out h1⟩
  have d6 : decide (60 < (n : Int)) = false := by simp; omega
  have hte : ts ≠ [] := fun h => h0 (by rw [h] at hn; exact hn.symm)
  obtain ⟨l, hs⟩ : ∃ l, seatsI id salt 4 = l := ⟨_, rfl⟩
  have hll : l.length = 4 := by rw [← hs, seatsI_length]
  have CS := Lib.hid (seatSeats_any id salt)
  rw [hs] at CS
  have HL := Lib.hid hll
  obtain ⟨g1, g2⟩ := picked_best ts l hte
  have up : ∀ w, Below (boxS W A n c).heap.size (boxS W A n c) w → PtAt w A ts ∧ w.cell? ⟨W.heap.size, 0, none⟩ = some (.slice A n c) := fun w hb => ⟨(hA.below bw).below hb, (hb.cell (p := ⟨W.heap.size, 0, none⟩) (by simp)).trans (by go_simp)⟩
  have CP : Hid (∀ w, Below (boxS W A n c).heap.size (boxS W A n c) w → Calls Try.prog 13 #[.int .i64 id, .int .i64 salt, .slice A n c] w fun e w' => e = .returned (.tuple #[.int .u64 (pickS ts l).2.1, .bool (pickS ts l).2.2]) ∧ Below w.heap.size w w') := fun w hb => by
    have z := seatPick_any id salt A c n ts w (up w hb).1 hn (by omega)
    unfold pickV pickI at z
    rw [if_neg hte, hs] at z
    exact z
  have CR : Hid (∀ w, Below (boxS W A n c).heap.size (boxS W A n c) w → ∀ p, Calls Try.prog 21 #[.int .u64 p, .pointer (some ⟨W.heap.size, 0, none⟩)] w fun e w' => e = .returned (.int .u64 (roomI p ts)) ∧ Below w.heap.size w w') :=
    fun w hb p => roomC_any p W.heap.size A c n ts w (up w hb).2 (up w hb).1 hn (by omega) h0
  have UP := Lib.hid (fun w hb => (up w hb).2)
  obtain ⟨x, hx⟩ : ∃ x, (pickS ts l).2.1 = x := ⟨_, rfl⟩
  obtain ⟨ok, hok⟩ : ∃ ok, (pickS ts l).2.2 = ok := ⟨_, rfl⟩
  rw [hx, hok] at CP
  rw [hx, hok] at g1 g2
  clear hs hll hx hok up bw hA
  have hi : ∀ a w, (callFunc 21 a).run Try.prog w = .ok (.enter 21 a) w := fun _ _ => by kernel_rfl
  cases ok with
  | false =>
    obtain rfl := g1 rfl
    clear g2 CR CS
    have e0 := UP.out _ BR.out
    go_enter Try.func4, Try.ntmps4
    go_wp2_with (first
      | (go_at_call 8; (with_reducible refine (CA.out _).mono ?_); rintro e w1 ⟨rfl, h1⟩; have H1 : Hid (Below (boxS W A n c).heap.size (boxS W A n c) w1) := acc BR.out h1; have e1 := UP.out _ H1.out; clear h1)
      | (go_at_call 13; (with_reducible refine (CP.out _ H1.out).mono ?_); rintro e w2 ⟨rfl, h2⟩; have H2 : Hid (Below (boxS W A n c).heap.size (boxS W A n c) w2) := acc H1.out h2; clear h2))
    go_ret
    exact ⟨rfl, BW.out.trans (H2.out.mono BW.out.size)⟩
  | true =>
    obtain ⟨k1, k2, k3⟩ := g2 rfl
    have K1 := Lib.hid k1
    have K3 := Lib.hid k3
    obtain ⟨m, hm⟩ : ∃ m, roomI x ts = m := ⟨_, rfl⟩
    have CX : Hid (∀ w, Below (boxS W A n c).heap.size (boxS W A n c) w → Calls Try.prog 21 #[.int .u64 x, .pointer (some ⟨W.heap.size, 0, none⟩)] w fun e w' => e = .returned (.int .u64 m) ∧ Below w.heap.size w w') :=
      fun w hb => by rw [← hm]; exact CR.out w hb x
    rw [hm] at k2 K3
    clear hm k1 k3 g1 g2
    have e0 := UP.out _ BR.out
    go_enter Try.func4, Try.ntmps4
    go_wp2_with (first
      | (go_at_call 8; (with_reducible refine (CA.out _).mono ?_); rintro e w1 ⟨rfl, h1⟩; have H1 : Hid (Below (boxS W A n c).heap.size (boxS W A n c) w1) := acc BR.out h1; have e1 := UP.out _ H1.out; clear h1)
      | (go_at_call 13; (with_reducible refine (CP.out _ H1.out).mono ?_); rintro e w2 ⟨rfl, h2⟩; have H2 : Hid (Below (boxS W A n c).heap.size (boxS W A n c) w2) := acc H1.out h2; clear h2)
      | (go_at_call 11; (with_reducible refine (CS.out _).mono ?_); rintro e w3 ⟨Al, cl, rfl, hown1, hb1⟩; rw [HL.out] at hown1; rw [HL.out]; have H3 : Hid (Below (boxS W A n c).heap.size (boxS W A n c) w3) := Lib.hid (acc H2.out hb1); have HO3 : Hid (PtAt w3 Al l) := Lib.hid (PtAt.own hown1 HL.out); clear hb1 hown1))
    go_loopg [10, 12, 42] 5 (fun gh s10 s12 s42 wx => ∃ (i : Nat), i + gh = 5 ∧ i ≤ 4 ∧ s42 = .int .i64 (i : Nat) ∧ s10 = .bool ((l.take i).any fun p => p == x) ∧ Hid (Below w3.heap.size w3 wx))
    case atStart => exact ⟨0, by omega, by omega, rfl, rfl, Below.refl _ _⟩
    case round =>
      obtain ⟨i, hig, hi4, rfl, rfl, HB⟩ := hrel
      have HX : Hid (Below (boxS W A n c).heap.size (boxS W A n c) wr) := acc H3.out HB.out
      by_cases hlt : i < 4
      · have i1 : (i : Int) < 4 := by omega
        have zi : IntKind.i64.wrap ((i : Int) + 1) = (i : Int) + 1 := by rw [IntKind.wrap_i64]; omega
        have hst := take_snoc_at l i (by rw [HL.out]; exact hlt)
        obtain ⟨b2, o2, h2⟩ := HO3.out.below HB.out
        obtain ⟨rfl, -, e2⟩ := h2 i (by rw [HL.out]; exact hlt)
        have hle := K3.out _ (List.getElem_mem (show i < l.length by rw [HL.out]; exact hlt))
        generalize l[i]'(by rw [HL.out]; exact hlt) = p at e2 hst hle
        have CY : Hid (∀ w, Below (boxS W A n c).heap.size (boxS W A n c) w → Calls Try.prog 21 #[.int .u64 p, .pointer (some ⟨W.heap.size, 0, none⟩)] w fun e w' => e = .returned (.int .u64 (roomI p ts)) ∧ Below w.heap.size w w') :=
          fun w hb => CR.out w hb p
        generalize roomI p ts = r at CY hle
        have hst2 : ((l.take (i + 1)).any fun p => p == x) = (((l.take i).any fun p => p == x) || (p == x)) := by rw [hst, List.any_append]; simp
        generalize ((l.take i).any fun p => p == x) = q at *
        have HQ := Lib.hid hst2
        clear hst hst2 h2
        cases q
        all_goals
          go_wp2_with (first
            | (go_at_call 21; (with_reducible refine (CY.out _ HX.out).mono ?_); rintro e w4 ⟨rfl, h4⟩; have HY : Hid (Below (boxS W A n c).heap.size (boxS W A n c) w4) := acc HX.out h4; have HZ : Hid (Below w3.heap.size w3 w4) := acc HB.out h4; clear h4)
            | (go_at_call 21; (with_reducible refine (CX.out _ HY.out).mono ?_); rintro e w5 ⟨rfl, h5⟩; have HV : Hid (Below w3.heap.size w3 w5) := acc HZ.out h5; clear h5))
          go_roundg (gk - 1)
          case measure => omega
          case rel => exact ⟨i + 1, by omega, by omega, by go_num, by rw [HQ.out]; rfl, HV.out⟩
      · obtain rfl : i = 4 := by omega
        have hle : l.take 4 = l := List.take_of_length_le (by rw [HL.out]; exact Nat.le_refl _)
        have hany : (l.any fun p => p == x) = true := List.any_eq_true.2 ⟨x, K1.out, by simp⟩
        rw [hle, hany]
        clear hle hany
        go_wp2_with (go_at_call 21; (with_reducible refine (CX.out _ HX.out).mono ?_); rintro e w4 ⟨rfl, h4⟩; have HY : Hid (Below (boxS W A n c).heap.size (boxS W A n c) w4) := acc HX.out h4; clear h4)
        go_ret
        exact ⟨rfl, BW.out.trans (HY.out.mono BW.out.size)⟩
end Go.Proofs.Ytpgolebikjjdlaa
