/-
  The book of points: are they as they were; marks are put. (Written by tools/genBookQ.py, out of the book of items.)
-/
import Derived.Test.YtfpoapmbpbkibaaPbBook
import Derived.Test.YtfpoapmbpbkibaaHeldTill
namespace Go.Proofs.Ytfpoapmbpbkibaa.Pb
open Go.RowKit Go.Proofs.Ytfpoapmbpbkibaa

set_option maxRecDepth 100000 in
set_option maxHeartbeats 2000000 in
theorem stillPoints_any (g : Nat) (va vb : Value) (es us : List (Value × List Int)) (W : World) (hB : BK W g va vb es us) (he : es.length ≤ 250) (hl : ∀ x ∈ es, x.2.length ≤ 100000) :
    Calls Try.prog 29 #[.pointer (some ⟨g, 0, none⟩)] W fun e w' => e = .returned (.bool true) ∧ Below W.heap.size W w' := by
  obtain ⟨A6, d6, rfl⟩ := own_slice hB.own6
  obtain ⟨A7, d7, rfl⟩ := own_slice hB.own7
  have hlu : us.length = es.length := by have := congrArg List.length hB.same; simpa using this
  have HB := Lib.hid hB
  have HL := Lib.hid hl
  obtain ⟨n, hn⟩ : ∃ n, es.length = n := ⟨_, rfl⟩
  have HN := Lib.hid hn
  have HM := Lib.hid (hlu.trans hn)
  have HC : Hid (∀ w', Below W.heap.size W w' → w'.cell? ⟨g, 4, none⟩ = some (.slice A6 n d6) ∧ w'.cell? ⟨g, 5, none⟩ = some (.slice A7 n d7)) := fun w' h => by
    have c6 := (h.cell (p := ⟨g, 4, none⟩) hB.lt).trans hB.c6
    have c7 := (h.cell (p := ⟨g, 5, none⟩) hB.lt).trans hB.c7
    rw [hlu, hn] at c7
    rw [hn] at c6
    exact ⟨c6, c7⟩
  rw [hn] at he
  clear hB hn hlu hl
  go_enter Try.func29, Try.ntmps29
  go_wp2
  go_loopg [3] (n + 1) (fun gh s3 wx => ∃ (i : Nat), i + gh = n + 1 ∧ i ≤ n ∧ s3 = .int .i64 i ∧ Hid (Below W.heap.size W wx))
  case atStart => exact ⟨0, by omega, by omega, rfl, Below.refl _ _⟩
  case round =>
    obtain ⟨i, hig, hi, rfl, HW⟩ := hrel
    obtain ⟨v6, v7⟩ := HC.out _ HW.out
    by_cases hlt : i < n
    · have h1 : i < es.length := by rw [HN.out]; exact hlt
      have h2 : i < us.length := by rw [HM.out]; exact hlt
      obtain ⟨q6, rfl⟩ := own_block HB.out.own6 (by omega)
      obtain ⟨q7, rfl⟩ := own_block HB.out.own7 (by omega)
      have l6 := (HB.out.own6.lt q6 rfl).2
      have l7 := (HB.out.own7.lt q7 rfl).2
      have p6 : W.cell? ⟨q6, i, none⟩ = some (es[i]).1 := (HB.out.own6.cellAt i (by omega)).trans (fst_at es i h1)
      have p7 : W.cell? ⟨q7, i, none⟩ = some (us[i]).1 := (HB.out.own7.cellAt i (by omega)).trans (fst_at us i h2)
      have hsa := same_at HB.out.same i h1 h2
      have CS : Hid (∀ w', Below wr.heap.size wr w' → Calls Try.prog 17 #[(es[i]).1, (us[i]).1] w' fun e w'' => e = .returned (.bool true) ∧ Below w'.heap.size w' w'') := fun w' h => same_calls (W := W) (x := es[i]) (y := us[i]) (HB.out.rows _ (List.getElem_mem h1)) (HB.out.copies _ (List.getElem_mem h2)) hsa (HL.out _ (List.getElem_mem h1)) w' (acc HW.out h)
      generalize (es[i]).1 = x at *
      generalize (us[i]).1 = y at *
      obtain ⟨wb, rfl⟩ : ∃ wb : World, wb = wr := ⟨_, rfl⟩
      have HSS : Hid (∀ w', Below wb.heap.size wb w' → Below wb.heap.size wb w' ∧ w'.cell? ⟨g, 4, none⟩ = some (.slice (some ⟨q6, 0, none⟩) n d6) ∧ w'.cell? ⟨g, 5, none⟩ = some (.slice (some ⟨q7, 0, none⟩) n d7) ∧ w'.cell? ⟨q6, i, none⟩ = some x ∧ w'.cell? ⟨q7, i, none⟩ = some y) := fun w' h =>
        have k := HC.out _ (acc HW.out h)
        ⟨h, k.1, k.2, ((acc HW.out h).cell (p := ⟨q6, i, none⟩) l6).trans p6, ((acc HW.out h).cell (p := ⟨q7, i, none⟩) l7).trans p7⟩
      clear l6 l7 p6 p7 hsa
      go_upto_region 4 with fail
      clear v6 v7
      refine wp_region_held_drew (S := (fun w' => Below wb.heap.size wb w' ∧ w'.cell? ⟨g, 4, none⟩ = some (.slice (some ⟨q6, 0, none⟩) n d6) ∧ w'.cell? ⟨g, 5, none⟩ = some (.slice (some ⟨q7, 0, none⟩) n d7) ∧ w'.cell? ⟨q6, i, none⟩ = some x ∧ w'.cell? ⟨q7, i, none⟩ = some y)) (by kernel_rfl) ?_ (fun hHeld => ?_)
      · (try dsimp only); exact HSS.out _ (Below.refl _ _).drew
      refine wpAnyH_take (i := 0) (oi := ⟨_, _, _, _, _, _⟩) (v := ?_) rfl (by kernel_rfl) (by kernel_rfl) (by kernel_rfl) (fun _ _ _ h => h) (Or.inl ⟨by rfl, ?_⟩) (by assumption) ?_
      rotate_left
      · (intro wS hSw; (try dsimp only at hSw); go_simp <;> with_reducible rfl)
      try simp only [Act.put, List.setIfInBounds_toArray, List.set_cons_zero, List.set_cons_succ]
      refine wpAnyH_take (i := 1) (oi := ⟨_, _, _, _, _, _⟩) (v := ?_) rfl (by kernel_rfl) (by kernel_rfl) (by kernel_rfl) (fun _ _ _ h => h) (Or.inl ⟨by rfl, ?_⟩) (by assumption) ?_
      rotate_left
      · (intro wS hSw; (try dsimp only at hSw); go_simp <;> with_reducible rfl)
      try simp only [Act.put, List.setIfInBounds_toArray, List.set_cons_zero, List.set_cons_succ]
      refine wpAnyH_take (i := 2) (oi := ⟨_, _, _, _, _, _⟩) (v := ?_) rfl (by kernel_rfl) (by kernel_rfl) (by kernel_rfl) (fun _ _ _ h => h) (Or.inl ⟨by rfl, ?_⟩) (by assumption) ?_
      rotate_left
      · (intro wS hSw; (try dsimp only at hSw); go_simp <;> with_reducible rfl)
      try simp only [Act.put, List.setIfInBounds_toArray, List.set_cons_zero, List.set_cons_succ]
      refine wpAnyH_take (i := 3) (oi := ⟨_, _, _, _, _, _⟩) (v := ?_) rfl (by kernel_rfl) (by kernel_rfl) (by kernel_rfl) (fun _ _ _ h => h) (Or.inl ⟨by rfl, ?_⟩) (by assumption) ?_
      rotate_left
      · (intro wS hSw; (try dsimp only at hSw); go_simp <;> with_reducible rfl)
      try simp only [Act.put, List.setIfInBounds_toArray, List.set_cons_zero, List.set_cons_succ]
      refine wpAnyH_take (i := 4) (oi := ⟨_, _, _, _, _, _⟩) (v := ?_) rfl (by kernel_rfl) (by kernel_rfl) (by kernel_rfl) (fun _ _ _ h => h) (Or.inl ⟨by rfl, ?_⟩) (by assumption) ?_
      rotate_left
      · (intro wS hSw; (try dsimp only at hSw); go_simp <;> with_reducible rfl)
      try simp only [Act.put, List.setIfInBounds_toArray, List.set_cons_zero, List.set_cons_succ]
      refine wpAnyH_take (i := 5) (oi := ⟨_, _, _, _, _, _⟩) (v := ?_) rfl (by kernel_rfl) (by kernel_rfl) (by kernel_rfl) (fun _ _ _ h => h) (Or.inl ⟨by rfl, ?_⟩) (by assumption) ?_
      rotate_left
      · (intro wS hSw; (try dsimp only at hSw); go_simp <;> with_reducible rfl)
      try simp only [Act.put, List.setIfInBounds_toArray, List.set_cons_zero, List.set_cons_succ]
      refine wpAnyH_take (i := 6) (oi := ⟨_, _, _, _, _, _⟩) (v := ?_) rfl (by kernel_rfl) (by kernel_rfl) (by kernel_rfl) (fun _ _ _ h => h) (Or.inl ⟨by rfl, ?_⟩) (by assumption) ?_
      rotate_left
      · (intro wS hSw; (try dsimp only at hSw); go_simp <;> with_reducible rfl)
      try simp only [Act.put, List.setIfInBounds_toArray, List.set_cons_zero, List.set_cons_succ]
      refine wpAnyH_take (i := 7) (oi := ⟨_, _, _, _, _, _⟩) (v := ?_) rfl (by kernel_rfl) (by kernel_rfl) (by kernel_rfl) (fun _ _ _ h => h) (Or.inl ⟨by rfl, ?_⟩) (by assumption) ?_
      rotate_left
      · (intro wS hSw; (try dsimp only at hSw); go_simp <;> with_reducible rfl)
      try simp only [Act.put, List.setIfInBounds_toArray, List.set_cons_zero, List.set_cons_succ]
      refine wpAnyH_take (i := 8) (oi := ⟨_, _, _, _, _, _⟩) (v := ?_) rfl (by kernel_rfl) (by kernel_rfl) (by kernel_rfl) (fun _ _ _ h => h) (Or.inl ⟨by rfl, ?_⟩) (by assumption) ?_
      rotate_left
      · (intro wS hSw; (try dsimp only at hSw); go_simp <;> with_reducible rfl)
      try simp only [Act.put, List.setIfInBounds_toArray, List.set_cons_zero, List.set_cons_succ]
      refine wpAnyH_take (i := 9) (oi := ⟨_, _, _, _, _, _⟩) (v := ?_) rfl (by kernel_rfl) (by kernel_rfl) (by kernel_rfl) (fun _ _ _ h => h) (Or.inl ⟨by rfl, ?_⟩) (by assumption) ?_
      rotate_left
      · (intro wS hSw; (try dsimp only at hSw); go_simp <;> with_reducible rfl)
      try simp only [Act.put, List.setIfInBounds_toArray, List.set_cons_zero, List.set_cons_succ]
      refine wpAnyH_take (i := 10) (oi := ⟨_, _, _, _, _, _⟩) (v := ?_) rfl (by kernel_rfl) (by kernel_rfl) (by kernel_rfl) (fun _ _ _ h => h) (Or.inl ⟨by rfl, ?_⟩) (by assumption) ?_
      rotate_left
      · (intro wS hSw; (try dsimp only at hSw); go_simp <;> with_reducible rfl)
      try simp only [Act.put, List.setIfInBounds_toArray, List.set_cons_zero, List.set_cons_succ]
      refine wpAnyH_take (i := 11) (oi := ⟨_, _, _, _, _, _⟩) (v := ?_) rfl (by kernel_rfl) (by kernel_rfl) (by kernel_rfl) (fun _ _ _ h => h) (Or.inl ⟨by rfl, ?_⟩) (by assumption) ?_
      rotate_left
      · (intro wS hSw; (try dsimp only at hSw); go_simp <;> with_reducible rfl)
      try simp only [Act.put, List.setIfInBounds_toArray, List.set_cons_zero, List.set_cons_succ]
      refine wpAnyH_take (i := 12) (oi := ⟨_, _, _, _, _, _⟩) (v := ?_) rfl (by kernel_rfl) (by kernel_rfl) (by kernel_rfl) (fun _ _ _ h => h) (Or.inl ⟨by rfl, ?_⟩) (by assumption) ?_
      rotate_left
      · (intro wS hSw; (try dsimp only at hSw); go_simp <;> with_reducible rfl)
      try simp only [Act.put, List.setIfInBounds_toArray, List.set_cons_zero, List.set_cons_succ]
      refine wpAnyH_take (i := 13) (oi := ⟨_, _, _, _, _, _⟩) (v := ?_) rfl (by kernel_rfl) (by kernel_rfl) (by kernel_rfl) (fun _ _ _ h => h) (Or.inl ⟨by rfl, ?_⟩) (by assumption) ?_
      rotate_left
      · (intro wS hSw; (try dsimp only at hSw); go_simp <;> with_reducible rfl)
      try simp only [Act.put, List.setIfInBounds_toArray, List.set_cons_zero, List.set_cons_succ]
      refine wpAnyH_ready (rs := [14]) (by kernel_rfl) (by simp) ?_
      refine AllReadyH.cons (o := ⟨_, _, _, _, _, _⟩) rfl (fun K hK => ?_) AllReadyH.nil
      go_simp
      (first | (go_at_call 17; (with_reducible refine (CS.out _ (Below.refl _ _).drew).mono ?_); rintro e w2 ⟨rfl, hb2⟩; have HB2 : Hid (Below wb.heap.size wb w2) := ((Below.refl wb.heap.size wb).drew).trans hb2; clear hb2))
      go_wp2_with fail
      refine hK.out _ _ (by (try dsimp only); exact HSS.out _ HB2.out) (fun hHeld => ?_)
      clear hK K
      try simp only [Act.put, List.setIfInBounds_toArray, List.set_cons_zero, List.set_cons_succ]
      refine wpAnyH_take (i := 15) (oi := ⟨_, _, _, _, _, _⟩) (v := ?_) rfl (by kernel_rfl) (by kernel_rfl) (by kernel_rfl) (fun _ _ _ h => h) (Or.inl ⟨by rfl, ?_⟩) (by assumption) ?_
      rotate_left
      · (intro wS hSw; (try dsimp only at hSw); go_simp <;> with_reducible rfl)
      try simp only [Act.put, List.setIfInBounds_toArray, List.set_cons_zero, List.set_cons_succ]
      refine wpAnyH_done (by kernel_rfl) ?_ _
      go_wp2_with fail
      go_roundg (gk - 1)
      case measure => omega
      case rel => exact ⟨i + 1, by omega, by omega, by go_num, acc HW.out HB2.out⟩
    · obtain rfl : i = n := by omega
      go_wp2
      go_ret
      exact ⟨rfl, HW.out⟩
set_option maxRecDepth 100000 in
set_option maxHeartbeats 4000000 in
theorem putPoints_any (g : Nat) (va : Value) (es : List (Value × List Int)) (W : World) (hB : BL W g va es) (he : es.length ≤ 250) (hl : ∀ x ∈ es, x.2.length ≤ 100000) :
    Calls Try.prog 38 #[.pointer (some ⟨g, 0, none⟩)] W fun e w' => e = .returned (.tuple #[]) ∧ BL w' g va (markTo es.length es) ∧ Touch (fps es) W w' := by
  obtain ⟨A6, d6, rfl⟩ := own_slice hB.own6
  have HB := Lib.hid hB
  have HL := Lib.hid hl
  obtain ⟨n, hn⟩ : ∃ n, es.length = n := ⟨_, rfl⟩
  have HN := Lib.hid hn
  rw [hn] at he
  clear hB hn hl
  go_enter Try.func38, Try.ntmps38
  go_wp2
  go_loopg [2] (n + 1) (fun gh s2 wx => ∃ (i : Nat), i + gh = n + 1 ∧ i ≤ n ∧ s2 = .int .i64 i ∧ Hid (BL wx g (.slice A6 es.length d6) (markTo i es)) ∧ Hid (Touch (fps es) W wx))
  case atStart => exact ⟨0, by omega, by omega, rfl, by rw [markTo_zero]; exact HB, Touch.refl _ _⟩
  case round =>
    obtain ⟨i, hig, hi, rfl, HBi, HT⟩ := hrel
    have c6 := HBi.out.c6
    rw [HN.out] at c6
    by_cases hlt : i < n
    · have h1 : i < es.length := by rw [HN.out]; exact hlt
      have h2 : i < (markTo i es).length := by rw [markTo_length]; exact h1
      have hx : (markTo i es)[i] = es[i] := by rw [markTo_at _ _ _ h2 h1, if_neg (by omega)]
      have hrow := HBi.out.rows _ (List.getElem_mem h2)
      have o6 := HBi.out.own6
      obtain ⟨q6, rfl⟩ := own_block HB.out.own6 (by omega)
      have p6 : wr.cell? ⟨q6, i, none⟩ = some (es[i]).1 := by
        rw [markTo_length] at o6
        exact (o6.cellAt i (by omega)).trans ((fst_at (markTo i es) i h2).trans (by rw [hx]))
      have hlen := HL.out _ (List.getElem_mem h1)
      rw [hx] at hrow
      obtain ⟨A, c, e1, r1⟩ := hrow
      have HE := Lib.hid e1
      rw [e1] at p6 r1
      have HR := Lib.hid r1
      obtain ⟨m, hm⟩ : ∃ m, (es[i]).2.length = m := ⟨_, rfl⟩
      have HM := Lib.hid hm
      rw [hm] at p6 hlen
      have CM : Hid (∀ W1, Calls Try.prog 70 #[.int .i64 (i : Nat), .int .i64 0, .int .i64 (m : Nat)] W1 (NewMarks W1 i m)) := fun W1 => (markPoints_any i 0 m W1 (by omega) (by omega) hlen).mono fun _ _ h => h.marks
      clear o6 hx e1 r1 hm
      go_wp2_with (go_at_call 70; (with_reducible refine (CM.out _).mono ?_); rintro e w1 ⟨Am, cm, rfl, hown1, hb1⟩; have HB1 := Lib.hid hb1; have HO1 := Lib.hid hown1; clear hb1 hown1)
      obtain ⟨gz, rfl⟩ : ∃ gz : Nat, gz = gk := ⟨_, rfl⟩
      obtain ⟨wo, rfl⟩ : ∃ wo : World, wo = wr := ⟨_, rfl⟩
      have hgi : g ∉ blk (.slice A m c) := by
        have h := fun hq => HBi.out.ge (fps_at h2 hq)
        rw [markTo_at _ _ _ h2 h1, if_neg (by omega), HE.out, HM.out] at h
        exact h
      have h6i : q6 ∉ blk (.slice A m c) := by
        have h := fun hq => HBi.out.ae q6 (by simp [blk, Value.ownBlock]) (fps_at h2 hq)
        rw [markTo_at _ _ _ h2 h1, if_neg (by omega), HE.out, HM.out] at h
        exact h
      have HR' : Hid (wo.ownsRow 0 22 1 (.slice A m c) m (ptC (es[i]).2)) := by
        have h := HR.out
        rw [Row, HM.out] at h
        exact h
      have HP := Lib.hid (And.intro c6 p6)
      have HgW := Lib.hid HBi.out.lt
      have Hq6 : Hid (q6 < wo.heap.size) := row_lt HBi.out.own6 (by simp [blk, Value.ownBlock])
      clear c6 p6
      go_loopg [4] (m + 1) (fun gh s4 wx => ∃ (k : Nat), k + gh = m + 1 ∧ k ≤ m ∧ s4 = .int .i64 k ∧ Hid (wx.ownsRow 0 22 1 (.slice A m c) m (ptC (mixL (markL i 0 m) (es[i]).2 k))) ∧ Hid (Touch (blk (.slice A m c)) w1 wx))
      case atStart => exact ⟨0, by omega, by omega, rfl, by rw [mixL_zero]; exact (Touch.ofBelow (F := []) HB1.out).row HR'.out (by simp), Touch.refl _ _⟩
      case round =>
        obtain ⟨k, hkg, hk, rfl, HX, HTk⟩ := hrel
        have HTo : Hid (Touch (blk (.slice A m c)) wo wr) := (Touch.ofBelow HB1.out).trans HTk.out (fun x hx => .inl hx)
        by_cases hkm : k < m
        · obtain ⟨qi, rfl⟩ := own_at HX.out (by omega)
          obtain ⟨qm, rfl⟩ := own_at HO1.out (by omega)
          have c6 := (HTo.out.cell (p := ⟨g, 4, none⟩) HgW.out hgi).trans HP.out.1
          have p6 := (HTo.out.cell (p := ⟨q6, i, none⟩) Hq6.out h6i).trans HP.out.2
          have hqm : ∀ q, Value.ownBlock (.slice (some ⟨qm, 0, none⟩) m cm) = some q → q ∉ blk (.slice (some ⟨qi, 0, none⟩) m c) := fun q hq hb => by
            have z1 := (HO1.out.lt q hq).1
            have z2 := row_lt HR'.out hb
            omega
          have om := HTk.out.row HO1.out hqm
          have hml : k < (markL i 0 m).length := by rw [markL_length]; exact hkm
          have m0 := (om.cellAt k (by omega)).trans (ptC_get (markL i 0 m) k hml)
          have hmx : (mixL (markL i 0 m) (es[i]).2 k).length = m := by rw [mixL_length _ _ (by rw [markL_length, HM.out]) k (by rw [HM.out]; exact hk), HM.out]
          have hkx : k < (mixL (markL i 0 m) (es[i]).2 k).length := by rw [hmx]; exact hkm
          have d0 := (HX.out.cellAt k (by omega)).trans (ptC_get _ k hkx)
          have z0 := HX.out.frozenAt k
          have hset := mixL_set (markL i 0 m) (es[i]).2 (by rw [markL_length, HM.out]) k (by rw [HM.out]; exact hkm)
          generalize (markL i 0 m)[k] = x at *
          generalize (mixL (markL i 0 m) (es[i]).2 k)[k] = u at *
          have HST := Lib.hid hset
          clear hset hqm om hml hmx hkx
          go_upto_region 7 with fail
          go_region
          all_goals
            go_wp2
            go_roundg (gk - 1)
            case measure => omega
            case rel =>
              refine ⟨k + 1, by omega, by omega, by go_num, ?_, (HTk.out.set (.inl (by simp [blk, Value.ownBlock])) _).drew⟩
              have h9 := (HX.out.stored k (.int .u64 x)).1
              rw [ptC_set _ k x, HST.out] at h9
              exact h9
        · obtain rfl : k = m := by omega
          have hmix : mixL (markL i 0 k) (es[i]).2 k = markL i 0 k := by
            have h := mixL_all (markL i 0 k) (es[i]).2 (by rw [markL_length, HM.out])
            rw [HM.out] at h
            exact h
          have hXf := HX.out
          rw [hmix] at hXf
          have hxi : (markTo i es)[i] = es[i] := by rw [markTo_at _ _ _ h2 h1, if_neg (by omega)]
          have HF := Lib.hid (HBi.out.turn (i := i) h2 (W1 := wr) (by rw [hxi, HE.out, HM.out]; exact HTo.out) (l := markL i 0 k) (by
            rw [hxi, HE.out, HM.out]
            exact ⟨A, c, by rw [markL_length], by rw [Row, markL_length]; exact hXf⟩))
          have HTT : Hid (Touch (fps es) W wr) := HT.out.trans HTo.out (fun x hx => by
            refine .inl (fps_at h1 ?_)
            rw [HE.out, HM.out]
            exact hx)
          have HMS := Lib.hid (markTo_succ i es h1)
          have HX0 := Lib.hid hxi
          clear hmix hXf hxi
          go_wp2
          go_roundg (gz - 1)
          case measure => omega
          case rel =>
            refine ⟨i + 1, by omega, by omega, by go_num, ?_, HTT⟩
            have h9 := HF.out
            rw [HX0.out] at h9
            show BL _ _ _ _
            rw [HMS.out, HM.out]
            exact h9
    · obtain rfl : i = n := by omega
      go_wp2
      go_end0
      exact ⟨rfl, by have h := HBi.out; rw [← HN.out] at h; exact h, HT.out⟩

end Go.Proofs.Ytfpoapmbpbkibaa.Pb
