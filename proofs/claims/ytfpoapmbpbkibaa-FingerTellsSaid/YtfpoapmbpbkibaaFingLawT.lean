/-
  Of every seats whom each knows, whom it asks next, every way; what is handed in stays; lists kept, marked, grown (FingerTells).
-/
import Derived.Test.YtfpoapmbpbkibaaFingLawE
namespace Go.Proofs.Ytfpoapmbpbkibaa
open Go.RowKit Pb

set_option maxRecDepth 20000 in
set_option maxHeartbeats 8000000 in
theorem fingerTells_any (L : FingLaws) (me0 aim : Int) (A : Option Addr) (c n : Nat) (seats : List Int) (mine : Int) (W : World) (hme0 : Pt me0) (haim : Pt aim) (hp : ∀ s ∈ seats, Pt s) (hA : PtAt W A seats) (hn : seats.length = n) :
    Calls Try.prog 3 #[.int .u64 me0, .int .u64 aim, .slice A n c, .int .i64 mine] W fun e w' => e = .returned (.bool true) ∧ Below W.heap.size W w' := by
  have CA := Lib.hid (fingAlive_any L)
  by_cases q0 : 40 < n
  · have d0 : decide (40 < (n : Int)) = true := decide_eq_true (by omega)
    go_enter Try.func3, Try.ntmps3
    go_wp2_with (go_at_call 9; (with_reducible refine (CA.out _).mono ?_); rintro e w1 ⟨rfl, h1⟩)
    go_ret
    exact ⟨rfl, h1⟩
  have d0 : decide (40 < (n : Int)) = false := decide_eq_false (by omega)
  have HP := Lib.hid hp
  have HM0 := Lib.hid hme0
  have HAI := Lib.hid haim
  have HN := Lib.hid hn
  go_enter Try.func3, Try.ntmps3
  go_upto_region 3 with (go_at_call 9; (with_reducible refine (CA.out _).mono ?_); rintro e w2 ⟨rfl, h1⟩; have H2 := Lib.hid h1; have HAT := Lib.hid (hA.below h1); clear h1)
  clear hp hme0 haim hA hn
  obtain ⟨b, hb⟩ : ∃ b, decide (0 ≤ mine ∧ mine < n) = b := ⟨_, rfl⟩
  go_cut [36] (fun s36 wx => s36 = .bool b ∧ w2 = wx)
  case first =>
    have d1 : (decide (mine ≥ 0) = false ∧ decide (0 ≤ mine ∧ mine < n) = false) ∨ (decide (mine ≥ 0) = true ∧ decide (mine < n) = false ∧ decide (0 ≤ mine ∧ mine < n) = false) ∨ (decide (mine ≥ 0) = true ∧ decide (mine < n) = true ∧ decide (0 ≤ mine ∧ mine < n) = true) := by
      by_cases h : 0 ≤ mine
      · by_cases h2 : mine < n
        · exact .inr (.inr ⟨decide_eq_true h, decide_eq_true h2, decide_eq_true ⟨h, h2⟩⟩)
        · exact .inr (.inl ⟨decide_eq_true h, decide_eq_false h2, decide_eq_false (by omega)⟩)
      · exact .inl ⟨decide_eq_false h, decide_eq_false (by omega)⟩
    rcases d1 with ⟨d1, d3⟩ | ⟨d1, d2, d3⟩ | ⟨d1, d2, d3⟩
    all_goals
      rw [hb] at d3
      subst d3
      go_wp2_with fail
      go_meet
      exact ⟨rfl, rfl⟩
  case rest =>
  obtain ⟨rfl, rfl⟩ := hcut
  go_upto_if 36 with fail
  go_cut [0] (fun s0 wx => ∃ x, s0 = .int .u64 x ∧ Hid (Pt x) ∧ Hid (Below w2.heap.size w2 wx))
  case first =>
    cases b with
    | true =>
      have hr := of_decide_eq_true hb
      obtain ⟨k, rfl⟩ := Int.eq_ofNat_of_zero_le hr.1
      have hk4 : k < n := by omega
      have k1 : (k : Int) < (n : Int) := by omega
      obtain ⟨bl, ol, hl2⟩ := HAT.out
      have hkl : k < seats.length := by rw [HN.out]; exact hk4
      obtain ⟨rfl, hblt, e2⟩ := hl2 k hkl
      have hx := HP.out _ (List.getElem_mem hkl)
      generalize seats[k] = x at e2 hx
      have HX := Lib.hid hx
      clear hl2 hb hr hx
      go_wp2_with fail
      go_meet
      exact ⟨x, rfl, HX, Below.refl _ _⟩
    | false =>
      go_wp2_with fail
      go_meet
      exact ⟨me0, rfl, HM0, Below.refl _ _⟩
  case rest =>
    clear hb
    obtain ⟨me, rfl, HME, hb'⟩ := hcut
    have H3 : Hid (Below W.heap.size W wc) := acc H2.out hb'.out
    have HA := Lib.hid (HAT.out.below hb'.out)
    clear hb' H2 HAT HM0
    obtain ⟨wl, rfl⟩ : ∃ wl : World, wl = wc := ⟨_, rfl⟩
    have CL := Lib.hid (lentPts_any A c seats n wl HA.out HN.out (by omega))
    have hmf := finger_len me seats
    have hmw : (wayI me aim seats).length ≤ 101 := by
      unfold wayI
      split
      · have := wayGo_len aim seats 100 me; simp only [List.length_cons]; omega
      · simp
    have CF : Hid (∀ w B d, PtAt w B seats → Calls Try.prog 11 #[.int .u64 me, .slice B n d] w (NewPts w (fingersI me seats))) := fun w B d h => L.fingers me B d n seats w HME.out HP.out h HN.out (by omega)
    have CRF : Hid (∀ w B d, PtAt w B seats → Calls Try.prog 18 #[.int .u64 me, .slice B n d] w (NewPts w (fingersI me seats))) := fun w B d h => refFingers_any me B d n seats w h HN.out (by omega)
    have CH : Hid (∀ w B d, PtAt w B seats → Calls Try.prog 14 #[.int .u64 me, .int .u64 aim, .slice B n d] w fun e w' => e = .returned (hopV (hopI me aim seats)) ∧ Below w.heap.size w w') := fun w B d h => L.hop me aim B d n seats w HME.out HAI.out HP.out h HN.out (by omega)
    have CRH : Hid (∀ w B d, PtAt w B seats → Calls Try.prog 15 #[.int .u64 me, .int .u64 aim, .slice B n d] w fun e w' => e = .returned (hopV (hopI me aim seats)) ∧ Below w.heap.size w w') := fun w B d h => refHop_any me aim B d n seats w h HN.out (by omega)
    have CW : Hid (∀ w B d, PtAt w B seats → Calls Try.prog 12 #[.int .u64 me, .int .u64 aim, .slice B n d] w (WayPost w me aim seats)) := fun w B d h => L.way me aim B d n seats w HME.out HAI.out HP.out h HN.out (by omega)
    have CRW : Hid (∀ w B d, PtAt w B seats → Calls Try.prog 16 #[.int .u64 me, .int .u64 aim, .slice B n d] w (WayPost w me aim seats)) := fun w B d h => refWay_any me aim B d n seats w h HN.out (by omega)
    unfold WayPost at CW CRW
    unfold NewPts at CF CRF
    unfold hopV at CH CRH
    generalize (hopI me aim seats).getD 0 = hx at *
    generalize (hopI me aim seats).isSome = hs at *
    generalize decide (me ∈ seats) = dm at *
    generalize fingersI me seats = fs at *
    generalize wayI me aim seats = ws at *
    obtain ⟨mf, hf⟩ : ∃ m, fs.length = m := ⟨_, rfl⟩
    obtain ⟨mw, hw⟩ : ∃ m, ws.length = m := ⟨_, rfl⟩
    have HF := Lib.hid hf
    have HW := Lib.hid hw
    rw [hf] at hmf
    rw [hw] at hmw
    clear hf hw CA HP HAI d0
    go_upto_region 6 with (go_at_call 10; (with_reducible refine (CL.out).mono ?_); rintro e w3 ⟨A3, c3, rfl, hl3, hb3⟩; have HT3 := Lib.hid hl3; have HP3 := Lib.hid (HA.out.below hb3); have H4 : Hid (Below W.heap.size W w3) := acc H3.out hb3; clear hl3 hb3)
    have K0 : Hid (KB (w3.alloc (.cells #[.slice none 0 0, .slice none 0 0, .slice none 0 0, .slice none 0 0, .slice none 0 0, .slice none 0 0, .slice none 0 0, .slice none 0 0, .slice none 0 0, .slice none 0 0, .slice none 0 0, .slice none 0 0, .slice none 0 0, .slice none 0 0] 35)) (w3.alloc (.cells #[.slice none 0 0, .slice none 0 0, .slice none 0 0, .slice none 0 0, .slice none 0 0, .slice none 0 0, .slice none 0 0, .slice none 0 0, .slice none 0 0, .slice none 0 0, .slice none 0 0, .slice none 0 0, .slice none 0 0, .slice none 0 0] 35)) w3.heap.size [] [] []) := KB.start (Below.refl _ _)
    have H5 : Hid (Below w3.heap.size w3 (w3.alloc (.cells #[.slice none 0 0, .slice none 0 0, .slice none 0 0, .slice none 0 0, .slice none 0 0, .slice none 0 0, .slice none 0 0, .slice none 0 0, .slice none 0 0, .slice none 0 0, .slice none 0 0, .slice none 0 0, .slice none 0 0, .slice none 0 0] 35))) := (Below.refl _ _).alloc (Nat.le_refl _) _
    obtain ⟨w0, hw0⟩ : ∃ w0, w3.alloc (.cells #[.slice none 0 0, .slice none 0 0, .slice none 0 0, .slice none 0 0, .slice none 0 0, .slice none 0 0, .slice none 0 0, .slice none 0 0, .slice none 0 0, .slice none 0 0, .slice none 0 0, .slice none 0 0, .slice none 0 0, .slice none 0 0] 35) = w0 := ⟨_, rfl⟩
    obtain ⟨gb, hgb⟩ : ∃ gb, w3.heap.size = gb := ⟨_, rfl⟩
    go_upto_region 7 with fail
    rw [hw0] at K0 H5
    rw [hgb] at K0
    have HGB := Lib.hid hgb
    clear hw0 hgb CL HA
    -- what lay ahead of the book lies as it lay
    have ST : Hid (∀ w, Touch [gb] w0 w → PtAt w A seats ∧ Lent wl.heap.size w A3 c3 n seats) := fun w t =>
      have hG : ∀ q ∈ [gb], w3.heap.size ≤ q := fun q hq => by simp at hq; subst hq; rw [HGB.out]; exact Nat.le_refl _
      ⟨pt_touch HP3.out H5.out t hG, lent_touch HT3.out H5.out t hG⟩
    go_wp2_with (first
      | (go_at_call 11; (with_reducible refine (CF.out _ _ _ (ST.out _ K4.out.touch).2.ptAt).mono ?_); rintro e w5 ⟨Ab, cb, rfl, hown5, hb5⟩; have K5 : Hid (KB w0 w5 gb [] [(.slice Aa mf ca, fs), (.slice Ab mf cb, fs)] []) := K4.out.push (n := mf) hb5 HF.out hown5; rw [HF.out]; clear hb5 hown5)
      | (go_at_call 11; (with_reducible refine (CF.out _ _ _ (ST.out _ K0.out.touch).2.ptAt).mono ?_); rintro e w4 ⟨Aa, ca, rfl, hown4, hb4⟩; have K4 : Hid (KB w0 w4 gb [] [(.slice Aa mf ca, fs)] []) := K0.out.push (n := mf) hb4 HF.out hown4; rw [HF.out]; clear hb4 hown4)
      | (go_at_call 12; (with_reducible refine (CW.out _ _ _ (ST.out _ K5.out.touch).2.ptAt).mono ?_); rintro e w6 ⟨Ac, cc, rfl, hown6, hb6⟩; have K6 : Hid (KB w0 w6 gb [] [(.slice Aa mf ca, fs), (.slice Ab mf cb, fs), (.slice Ac mw cc, ws)] []) := K5.out.push (n := mw) hb6 HW.out hown6; rw [HW.out]; clear hb6 hown6)
      | (go_at_call 13; (with_reducible refine (K8.out.book HW.out (by simp) (by omega)).mono ?_); rintro e w9 ⟨rfl, h9, -⟩; have K9 : Hid (KB w0 w9 gb [(.slice Aa mf ca, fs), (.slice Ab mf cb, fs), (.slice Ac mw cc, ws)] [] []) := h9; clear h9)
      | (go_at_call 13; (with_reducible refine (K7.out.book HF.out (by simp) (by omega)).mono ?_); rintro e w8 ⟨rfl, h8, -⟩; have K8 : Hid (KB w0 w8 gb [(.slice Aa mf ca, fs), (.slice Ab mf cb, fs)] [(.slice Ac mw cc, ws)] []) := h8; clear h8)
      | (go_at_call 13; (with_reducible refine (K6.out.book HF.out (by simp) (by omega)).mono ?_); rintro e w7 ⟨rfl, h7, -⟩; have K7 : Hid (KB w0 w7 gb [(.slice Aa mf ca, fs)] [(.slice Ab mf cb, fs), (.slice Ac mw cc, ws)] []) := h7; clear h7)
      | (go_at_call 14; (with_reducible refine (CH.out _ _ _ (ST.out _ K9.out.touch).2.ptAt).mono ?_); rintro e w10 ⟨rfl, h10⟩; have K10 := Lib.hid (K9.out.below h10); clear h10)
      | (go_at_call 15; (with_reducible refine (CRH.out _ _ _ (ST.out _ K10.out.touch).1).mono ?_); rintro e w11 ⟨rfl, h11⟩; have K11 := Lib.hid (K10.out.below h11); clear h11)
      | (go_at_call 16; (with_reducible refine (CRW.out _ _ _ (ST.out _ K11.out.touch).1).mono ?_); rintro e w12 ⟨Av, cv, rfl, hown12, hb12⟩; have K12 := Lib.hid (K11.out.below hb12); rw [HW.out] at hown12; rw [HW.out]; have HV12 : Hid (PtAt w12 Av ws) := PtAt.own hown12 HW.out; clear hb12 hown12)
      | (go_at_call 18; (with_reducible refine (CRF.out _ _ _ (ST.out _ K12.out.touch).1).mono ?_); rintro e w13 ⟨Ar, cr, rfl, hown13, hb13⟩; have K13 := Lib.hid (K12.out.below hb13); rw [HF.out] at hown13; rw [HF.out]; have HR13 : Hid (PtAt w13 Ar fs) := PtAt.own hown13 HF.out; have HV13 := Lib.hid (HV12.out.below hb13); have HAA : Hid (PtAt w13 Aa fs) := kb_pts (c := ca) K13.out HF.out (by simp); clear hb13 hown13)
      | (go_at_call 17; (with_reducible refine (samePts_any _ _ _ _ mw ws _ HCC.out HV14.out HW.out (by omega)).mono ?_); rintro e w15 ⟨rfl, h15⟩; have K15 := Lib.hid (K14.out.below h15); clear h15)
      | (go_at_call 17; (with_reducible refine (samePts_any _ _ _ _ mf fs _ HAA.out HR13.out HF.out (by omega)).mono ?_); rintro e w14 ⟨rfl, h14⟩; have K14 := Lib.hid (K13.out.below h14); have HV14 := Lib.hid (HV13.out.below h14); have HCC : Hid (PtAt w14 Ac ws) := kb_pts (c := cc) K14.out HW.out (by simp); clear h14)
      | (go_at_call 19; (with_reducible refine (staysPts_any _ _ _ _ n wl.heap.size seats _ (ST.out _ K15.out.touch).2 (ST.out _ K15.out.touch).1 (by omega)).mono ?_); rintro e w16 ⟨rfl, h16⟩; have K16 := Lib.hid (K15.out.below h16); clear h16)
      | (go_at_call 20; (with_reducible refine (K16.out.apart (by simp) (fun x hx => by simp at hx; rcases hx with rfl | rfl | rfl <;> first | (show fs.length ≤ 90000; rw [HF.out]; omega) | (show ws.length ≤ 90000; rw [HW.out]; omega))).mono ?_); rintro e w17 ⟨rfl, t17⟩))
    go_ret
    exact ⟨rfl, Touch.acc (acc H4.out H5.out) t17 (fun q hq => by simp at hq; subst hq; rw [← HGB.out]; exact H4.out.size)⟩
end Go.Proofs.Ytfpoapmbpbkibaa
