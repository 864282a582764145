/-
  A node all of whose seats are taken has none; with one that is free it has that (SeatTaken).
-/
import Derived.Test.YtpgolebikjjdlaaSeatLawE
namespace Go.Proofs.Ytpgolebikjjdlaa
open Go.RowKit Pb

theorem erase_snoc (a : List Int) (x : Int) (k : Nat) : (a ++ [x]).eraseIdx k = if k = a.length then a else a.eraseIdx k ++ [x] := by
  split
  · rename_i h
    subst h
    rw [List.eraseIdx_append_of_length_le (Nat.le_refl _)]
    simp
  · rename_i h
    by_cases h2 : k < a.length
    · rw [List.eraseIdx_append_of_lt_length h2]
    · rw [List.eraseIdx_of_length_le (by simp; omega), List.eraseIdx_of_length_le (by omega)]
/-- is the k-th there once more, among the first ones -/
def twB (l : List Int) (k i : Nat) : Bool := (List.range i).any fun j => !(j == k) && (l.getD j 0 == l.getD k 0)
theorem twB_snoc (l : List Int) (k i : Nat) : twB l k (i + 1) = (twB l k i || (!(i == k) && (l.getD i 0 == l.getD k 0))) := by
  simp [twB, List.range_succ, List.any_append]
theorem self_taken {p : Int} {ts : List Int} (hp : 0 ≤ p ∧ p < 18446744073709551616) (h : p ∈ ts) : freeI p ts = false := by
  refine List.all_eq_false.2 ⟨p, h, ?_⟩
  rw [(far_zero hp hp).2 rfl]
  decide
theorem none_free (id salt : Int) : (pickS (seatsI id salt 4) (seatsI id salt 4)).2.2 = false := by
  obtain ⟨-, h2⟩ := pickInv (seatsI id salt 4) (seatsI id salt 4)
  generalize pickS (seatsI id salt 4) (seatsI id salt 4) = s at *
  obtain ⟨s1, s2, s3⟩ := s
  cases s3 with
  | false => rfl
  | true =>
    obtain ⟨a, -, b, -⟩ := h2 rfl
    have a' : s2 ∈ seatsI id salt 4 := a
    have b' : freeI s2 (seatsI id salt 4) = true := b
    rw [self_taken (seats_range a') a'] at b'
    cases b'
theorem one_free_picked (id salt : Int) (k : Nat) (hk : k < (seatsI id salt 4).length) (h : twB (seatsI id salt 4) k 4 = false) :
    (pickS ((seatsI id salt 4).eraseIdx k) (seatsI id salt 4)).2 = ((seatsI id salt 4)[k], true) := by
  have hl : (seatsI id salt 4).length = 4 := seatsI_length _ _ _
  have hr : ∀ p ∈ seatsI id salt 4, 0 ≤ p ∧ p < 18446744073709551616 := fun p hp => seats_range hp
  generalize seatsI id salt 4 = l at *
  have hne : ∀ j (hj : j < l.length), j ≠ k → l[j] ≠ l[k] := fun j hj hjk e => by
    have z := List.any_eq_false.1 h j (by simp; omega)
    simp [List.getD_eq_getElem?_getD, hj, hk, hjk] at z
    exact z e
  have hfree : freeI l[k] (l.eraseIdx k) = true := by
    refine List.all_eq_true.2 fun t ht => ?_
    obtain ⟨j, hj, hjk, rfl⟩ := List.mem_eraseIdx_iff_getElem.1 ht
    simp
    intro e
    exact hne j hj hjk ((far_zero (hr _ (List.getElem_mem _)) (hr _ (List.getElem_mem _))).1 e).symm
  obtain ⟨h1, h2⟩ := pickInv (l.eraseIdx k) l
  generalize pickS (l.eraseIdx k) l = s at *
  obtain ⟨s1, s2, s3⟩ := s
  cases s3 with
  | false =>
    have z := (h1 rfl).2 _ (List.getElem_mem hk)
    rw [hfree] at z
    cases z
  | true =>
    obtain ⟨a, -, b, -⟩ := h2 rfl
    have a' : s2 ∈ l := a
    have b' : freeI s2 (l.eraseIdx k) = true := b
    obtain ⟨j, hj, rfl⟩ := List.mem_iff_getElem.1 a'
    by_cases hjk : j = k
    · subst hjk; rfl
    · rw [self_taken (hr _ a') (List.mem_eraseIdx_iff_getElem.2 ⟨j, hj, hjk, rfl⟩)] at b'
      cases b'
theorem turned (f : Int) : ∃ k : Nat, k < 4 ∧ (wrap64 (f.tmod 4 + 4)).tmod 4 = (k : Int) := by
  have b1 : -4 < f.tmod 4 := Int.lt_tmod_of_pos f (by decide)
  have b2 : f.tmod 4 < 4 := Int.tmod_lt_of_pos f (by decide)
  have b3 : wrap64 (f.tmod 4 + 4) = f.tmod 4 + 4 := by
    unfold wrap64; omega
  rw [b3, Int.tmod_eq_emod_of_nonneg (by omega)]
  exact ⟨((f.tmod 4 + 4) % 4).toNat, by omega, by omega⟩
set_option maxRecDepth 20000 in
set_option maxHeartbeats 4000000 in
theorem seatTaken_any (id salt f : Int) (W : World) :
    Calls Try.prog 6 #[.int .i64 id, .int .i64 salt, .int .i64 f] W fun e w' => e = .returned (.bool true) ∧ Below W.heap.size W w' := by
  obtain ⟨i0, z0, hi0, hz, hsL, hbL, hzc⟩ := infoP_
  have CA := Lib.hid seatAlive_any
  obtain ⟨l, hs⟩ : ∃ l, seatsI id salt 4 = l := ⟨_, rfl⟩
  have hll : l.length = 4 := by rw [← hs, seatsI_length]
  have CS := Lib.hid (seatSeats_any id salt)
  rw [hs] at CS
  have HL := Lib.hid hll
  obtain ⟨k, hk, hkf⟩ := turned f
  have hk' : k < l.length := by omega
  have hin : (seatsI id salt 4).length = 4 := seatsI_length _ _ _
  have CP : Hid (∀ w A c, PtAt w A (l.eraseIdx k) → Calls Try.prog 13 #[.int .i64 id, .int .i64 salt, .slice A 3 c] w fun e w' => (∃ a ok, e = .returned (.tuple #[.int .u64 a, .bool ok]) ∧ Hid (twB l k 4 = false → l[k]? = some a ∧ ok = true)) ∧ Below w.heap.size w w') := fun w A c h => by
    have h3 : (l.eraseIdx k).length = 3 := by rw [List.length_eraseIdx_of_lt hk']; omega
    have hne : l.eraseIdx k ≠ [] := fun h => by rw [h] at h3; cases h3
    refine (seatPick_any id salt A c 3 _ w h h3 (by decide)).mono ?_
    rintro e w' ⟨rfl, hb⟩
    refine ⟨⟨(pickI id salt (l.eraseIdx k)).1, (pickI id salt (l.eraseIdx k)).2, rfl, fun ht => ?_⟩, hb⟩
    have z := one_free_picked id salt k (by omega) (by rw [hs]; exact ht)
    unfold pickI
    rw [if_neg hne]
    subst hs
    rw [z]
    exact ⟨List.getElem?_eq_getElem _, rfl⟩
  have CN : Hid (∀ w A c, PtAt w A l → Calls Try.prog 13 #[.int .i64 id, .int .i64 salt, .slice A 4 c] w fun e w' => (∃ a, e = .returned (.tuple #[.int .u64 a, .bool false])) ∧ Below w.heap.size w w') := fun w A c h => by
    have hne : l ≠ [] := fun h => by rw [h] at hll; cases hll
    refine (seatPick_any id salt A c 4 _ w h hll (by decide)).mono ?_
    rintro e w' ⟨rfl, hb⟩
    refine ⟨⟨(pickI id salt l).1, ?_⟩, hb⟩
    have z := none_free id salt
    unfold pickV pickI
    rw [if_neg hne]
    rw [hs] at z ⊢
    rw [z]
  clear hs hin
  obtain ⟨v, hv⟩ : ∃ v, l[k] = v := ⟨_, rfl⟩
  have hv0 : l.getD k 0 = v := by rw [List.getD_eq_getElem?_getD, List.getElem?_eq_getElem hk', hv]; rfl
  have hv1 : l[k]? = some v := by rw [List.getElem?_eq_getElem hk', hv]
  rw [hv1] at CP
  have HV := Lib.hid hv
  go_enter Try.func6, Try.ntmps6
  go_wp2_with (first
    | (go_at_call 11; (with_reducible refine (CS.out _).mono ?_); rintro e w1 ⟨Al, cl, rfl, hown1, hb1⟩; rw [HL.out] at hown1; rw [HL.out]; have H1 := Lib.hid hb1; have HO1 : Hid (PtAt w1 Al l) := Lib.hid (PtAt.own hown1 HL.out); clear hb1 hown1)
    | (go_at_call 8; (with_reducible refine (CA.out _).mono ?_); rintro e w3 ⟨rfl, h3⟩; have HO3 := Lib.hid (HO1.out.below h3); have H3 : Hid (Below W.heap.size W w3) := acc H1.out h3; clear h3))
  clear hkf
  go_loopg [9, 10, 11, 35] 5 (fun gh s9 s10 s11 s35 wx => ∃ (i c n : Nat) (A : Option Addr), i + gh = 5 ∧ i ≤ 4 ∧ s35 = .int .i64 (i : Nat) ∧ s9 = .slice A n c ∧ n = ((l.take i).eraseIdx k).length ∧ Hid (wx.ownsRow w3.heap.size 22 1 (.slice A n c) n (ptC ((l.take i).eraseIdx k))) ∧ Hid (Below w3.heap.size w3 wx))
  case atStart => exact ⟨0, 0, 0, none, by omega, by omega, rfl, rfl, by simp, World.ownsRow_nil _ _ _ _, Below.refl _ _⟩
  case round =>
    obtain ⟨i, c, n, A, hig, hi, rfl, rfl, hn, HO, HB⟩ := hrel
    have hn4 : n ≤ 4 := by rw [hn, List.length_eraseIdx, List.length_take]; split <;> omega
    by_cases hlt : i < 4
    · have i1 : (i : Int) < 4 := by omega
      have zi : IntKind.i64.wrap ((i : Int) + 1) = (i : Int) + 1 := by rw [IntKind.wrap_i64]; omega
      have hst := take_snoc_at l i (by rw [HL.out]; exact hlt)
      obtain ⟨b2, o2, h2⟩ := HO3.out.below HB.out
      obtain ⟨rfl, -, e2⟩ := h2 i (by rw [HL.out]; exact hlt)
      generalize l[i]'(by rw [HL.out]; exact hlt) = p at e2 hst
      have hst2 : (l.take (i + 1)).eraseIdx k = if k = i then (l.take i).eraseIdx k else (l.take i).eraseIdx k ++ [p] := by
        have hle : (l.take i).length = i := by rw [List.length_take]; omega
        rw [hst, erase_snoc, hle]
        split
        · rename_i h; rw [List.eraseIdx_of_length_le (by omega)]
        · rfl
      generalize (l.take i).eraseIdx k = q at *
      have HQ := Lib.hid hst2
      clear hst hst2 h2
      subst hn
      by_cases hki : k = i
      · have hki2 : (i : Int) = (k : Int) := by omega
        go_wp2_with fail
        go_roundg (gk - 1)
        case measure => omega
        case rel =>
          have g1 := HQ.out
          rw [if_pos hki] at g1
          exact ⟨i + 1, c, q.length, A, by omega, by omega, by go_num, rfl, by rw [g1], by rw [g1]; exact HO.out, HB.out⟩
      · have hki2 : ¬ (i : Int) = (k : Int) := by omega
        go_wp2_with (at_builtin; go_must (refine wpList_append_own _ rfl (.tmp 43) (.tmp 45) 23 rfl w3.heap.size 22 i0 z0 1 8 Try.underlying23 hi0 hz hsL hbL hzc (by decide) _ _ _ rfl (HO.out.alloc _) ⟨wr.heap.size, 0, none⟩ 1 1 (ptC [p]) rfl rfl (pt_new wr p) (pt_one _) (by unfold maxLen; omega) (by omega) (by have := HB.out.size; simp <;> omega) ?_); intro x2 w2 hown2 hg2 hnil2; obtain ⟨A2, c2, rfl⟩ := own_slice hown2; have HB2 := Lib.hid ((HB.out.alloc HB.out.size _).grown hg2 (by have := HB.out.size; simp <;> omega) (own_lt HO.out)); have HO2 := Lib.hid hown2; clear hown2 hg2 hnil2)
        go_roundg (gk - 1)
        case measure => omega
        case rel =>
          have g1 := HQ.out
          rw [if_neg hki] at g1
          exact ⟨i + 1, c2, q.length + 1, A2, by omega, by omega, by go_num, rfl, by rw [g1]; simp, by rw [g1, ptC_append]; exact HO2.out, HB2.out⟩
    · obtain rfl : i = 4 := by omega
      have hle : l.take 4 = l := List.take_of_length_le (by rw [HL.out]; exact Nat.le_refl _)
      rw [hle] at hn HO
      have h3 : (l.eraseIdx k).length = 3 := by rw [List.length_eraseIdx_of_lt hk', HL.out]
      rw [h3] at hn
      subst hn
      have HE : Hid (PtAt wr A (l.eraseIdx k)) := PtAt.own HO.out h3
      obtain ⟨wm, rfl⟩ : ∃ wm : World, wm = wr := ⟨_, rfl⟩
      have HL4 := Lib.hid (HO3.out.below HB.out)
      have H4 : Hid (Below W.heap.size W wm) := acc H3.out HB.out
      clear HO HB hle h3 hn4
      go_wp2_with fail
      go_loopg [12, 13, 14, 50] 5 (fun gh s12 s13 s14 s50 wx => ∃ (i : Nat), i + gh = 5 ∧ i ≤ 4 ∧ s50 = .int .i64 (i : Nat) ∧ s12 = .bool (twB l k i) ∧ Hid (Below wm.heap.size wm wx))
      case atStart => exact ⟨0, by omega, by omega, rfl, rfl, Below.refl _ _⟩
      case round =>
        obtain ⟨i, hig, hi, rfl, rfl, HB⟩ := hrel
        by_cases hlt : i < 4
        · have i1 : (i : Int) < 4 := by omega
          have zi : IntKind.i64.wrap ((i : Int) + 1) = (i : Int) + 1 := by rw [IntKind.wrap_i64]; omega
          obtain ⟨b2, o2, h2⟩ := HL4.out.below HB.out
          obtain ⟨rfl, -, e2⟩ := h2 i (by rw [HL.out]; exact hlt)
          obtain ⟨-, -, e3⟩ := h2 k (by rw [HL.out]; exact hk)
          have hst := twB_snoc l k i
          have hv2 : l.getD i 0 = l[i]'(by rw [HL.out]; exact hlt) := by rw [List.getD_eq_getElem?_getD, List.getElem?_eq_getElem (by rw [HL.out]; exact hlt)]; rfl
          rw [HV.out] at e3
          rw [hv2, hv0] at hst
          generalize l[i]'(by rw [HL.out]; exact hlt) = p at e2 hst
          generalize twB l k i = q at *
          have HQ := Lib.hid hst
          clear hst h2 hv2
          have hc : ((i : Int) = (k : Int) ∧ i = k) ∨ (¬ (i : Int) = (k : Int) ∧ i ≠ k) := by omega
          cases q with
          | true =>
            go_wp2_with fail
            go_roundg (gk - 1)
            case measure => omega
            case rel => exact ⟨i + 1, by omega, by omega, by go_num, by rw [HQ.out]; rfl, HB.out⟩
          | false =>
            rcases hc with ⟨hc, hc2⟩ | ⟨hc, hc2⟩
            all_goals
              go_wp2_with fail
              go_roundg (gk - 1)
              case measure => omega
              case rel => exact ⟨i + 1, by omega, by omega, by go_num, by rw [HQ.out]; (first | (subst hc2; simp; done) | (rw [beq_eq_false_iff_ne.2 hc2, show ((i : Int) != (k : Int)) = true from bne_iff_ne.2 hc]; rfl)), HB.out⟩
        · obtain rfl : i = 4 := by omega
          have HL5 := Lib.hid (HL4.out.below HB.out)
          have HE5 := Lib.hid (HE.out.below HB.out)
          have H5 : Hid (Below W.heap.size W wr) := acc H4.out HB.out
          generalize twB l k 4 = tw at *
          clear HB
          go_upto_region 20 with (first
            | (go_at_call 13; (with_reducible refine (CP.out _ _ _ HE5.out).mono ?_); rintro e w6 ⟨⟨a, ok, rfl, hok⟩, h6⟩; have HK := Lib.hid hok; have HL6 := Lib.hid (HL5.out.below h6); have H6 : Hid (Below W.heap.size W w6) := acc H5.out h6; clear h6 hok)
            | (go_at_call 13; (with_reducible refine (CN.out _ _ _ HL6.out).mono ?_); rintro e w7 ⟨⟨aa, rfl⟩, h7⟩; have HL7 := Lib.hid (HL6.out.below h7); have H7 : Hid (Below W.heap.size W w7) := acc H6.out h7; clear h7))
          obtain ⟨b2, o2, h2⟩ := HL7.out
          obtain ⟨rfl, -, e3⟩ := h2 k (by rw [HL.out]; exact hk)
          rw [HV.out] at e3
          clear h2
          cases tw with
          | true =>
            go_wp2_with fail
            go_ret
            exact ⟨rfl, H7.out⟩
          | false =>
            obtain ⟨g1, rfl⟩ := HK.out.out rfl
            injection g1 with g1
            subst g1
            go_wp2_with fail
            go_ret
            exact ⟨rfl, H7.out⟩
end Go.Proofs.Ytpgolebikjjdlaa
