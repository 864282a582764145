/-
  The code's Fingers and Way; with its Hop: all that stage 12's statements ask of package finger (fingLaws).
-/
import Derived.Test.YtfpoapmbpbkibaaFingSeek
import Derived.WalkMore
namespace Go.Proofs.Ytfpoapmbpbkibaa
open Go.RowKit Pb

set_option maxRecDepth 100000 in
set_option maxHeartbeats 8000000 in
theorem fingers_any {me : Int} {A : Option Addr} {c n : Nat} {seats : List Int} {W : World} (hp : ∀ s ∈ seats, Pt s) (hA : PtAt W A seats) (hn : seats.length = n) (hl : n ≤ 1000) :
    Calls Try.prog 11 #[.int .u64 me, .slice A n c] W (NewPts W (fingersI me seats)) := by
  obtain ⟨i0, z0, hi0, hz, hsL, hbL, hzc⟩ := infoP_
  by_cases h0 : n = 0
  · subst h0
    obtain rfl : seats = [] := List.eq_nil_of_length_eq_zero hn
    have hf : fingersI me [] = [] := List.eq_nil_iff_forall_not_mem.2 fun x hx => by
      have := (finger_seat hx).1
      cases this
    rw [hf]
    clear hf hA hn hp hl
    go_enter Try.func11, Try.ntmps11
    go_wp2_with fail
    go_ret
    exact ⟨none, 0, rfl, World.ownsRow_nil _ _ _ _, Below.refl _ _⟩
  · have hs := seated seats hp
    have HS := Lib.hid hs
    have CS := Lib.hid (fun (c : Nat) => sortedVals_any (c := c) hA hn (by omega) (by omega))
    have HLS : Hid ((sortU seats).length = n) := (sortU_length seats).trans hn
    obtain ⟨sl, hsl⟩ : ∃ sl, sortU seats = sl := ⟨_, rfl⟩
    rw [hsl] at HS CS HLS
    have n1 : ((n : Int) == 0) = false := by rw [beq_eq_false_iff_ne]; omega
    have CF : Hid (∀ w B k cc, k < 64 → PtAt w B sl → Calls Try.prog 24 #[.int .u64 me, .int .i64 (k : Nat), .slice B n cc] w fun e w' => ∃ b, e = .returned (.int .u64 b) ∧ nearI (upI me k) seats = some b ∧ w' = w) := fun w B k cc hk hB => finger_any hk hB HLS.out (by omega) (by omega) HS.out
    have CV : Hid (∀ w cc, Calls Try.prog 23 #[.slice A n cc] w fun e w' => e = .returned (.func (.func 57) #[] #[.pointer (some ⟨w.heap.size, 0, none⟩)]) ∧ w' = w.alloc (.cells #[.slice A n cc] 23)) := fun w cc => vals_any _ w ⟨_, _, _, rfl⟩
    clear hA hn hp hs hsl
    go_enter Try.func11, Try.ntmps11
    go_wp2_with (first
      | (go_at_call 23; (with_reducible refine (CV.out _ _).mono ?_); rintro e w1 ⟨rfl, rfl⟩)
      | (go_at_call 22; (with_reducible refine (CS.out _).mono ?_); rintro e w2 ⟨B, k2, rfl, h1, h2⟩; rw [HLS.out] at h1; rw [HLS.out]; have HR : Hid (PtAt w2 B sl) := PtAt.own h1 HLS.out; have HB := Lib.hid h2; clear h1 h2))
    obtain ⟨V0, hV0⟩ : ∃ V0 : World, V0 = w2 := ⟨_, rfl⟩
    have HR0 : Hid (PtAt V0 B sl) := by rw [hV0]; exact HR.out
    have HB0 : Hid (Below W.heap.size W V0) := by rw [hV0]; exact HB.out
    rw [← hV0]
    clear HR HB hV0 CS CV
    go_loopg [6, 15] 65 (fun gh s6 s15 wx => ∃ (k c' m : Nat) (A' : Option Addr), k + gh = 65 ∧ k ≤ 64 ∧ s15 = .int .i64 (k : Nat) ∧ s6 = .slice A' m c' ∧ (fingersTo me seats k).length = m ∧ Hid (wx.ownsRow V0.heap.size 22 1 (.slice A' m c') m (ptC (fingersTo me seats k))) ∧ Hid (Below V0.heap.size V0 wx))
    case atStart => exact ⟨0, 0, 0, none, by omega, by omega, rfl, rfl, rfl, World.ownsRow_nil _ _ _ _, Below.refl _ _⟩
    case round =>
      obtain ⟨k, c', m, A', hkg, hk, rfl, rfl, hm, HO, HBX⟩ := hrel
      by_cases hlt : k < 64
      · have i1 : (k : Int) < 64 := by omega
        have zk : IntKind.i64.wrap ((k : Int) + 1) = (k : Int) + 1 := by rw [IntKind.wrap_i64]; omega
        have hfs := fingersTo_succ me seats k
        unfold fingerStep at hfs
        obtain ⟨out, hout⟩ : ∃ out, fingersTo me seats k = out := ⟨_, rfl⟩
        rw [hout] at hfs hm HO
        have hm64 : m ≤ 64 := by have := (fingersTo_ok me seats k).1; rw [hout] at this; omega
        have HFS := Lib.hid hfs
        have HM := Lib.hid hm
        have HPR : Hid (PtAt wr B sl) := HR0.out.below HBX.out
        have CC := Lib.hid (fun (x : Int) => contains_any (c := c') x (PtAt.own HO.out hm) hm (by omega))
        clear hfs hout hm
        go_upto_region 9 with (go_at_call 24; (with_reducible refine (CF.out _ _ k _ hlt HPR.out).mono ?_); rintro e w3 ⟨b, rfl, hnear, rfl⟩)
        have hfs := HFS.out
        rw [hnear] at hfs
        have HFS2 := Lib.hid hfs
        clear hfs hnear HFS
        by_cases hb : b = me
        · subst hb
          have HC : Hid (fingersTo b seats (k + 1) = out) := HFS2.out.trans (if_pos (.inl rfl))
          have bb : (b != b) = false := by simp
          go_wp2_with fail
          go_roundg (gk - 1)
          case measure => omega
          case rel => exact ⟨k + 1, c', m, A', by omega, by omega, by go_num, rfl, by rw [HC.out]; exact HM.out, by rw [HC.out]; exact HO.out, HBX⟩
        · have bb : (b != me) = true := bne_iff_ne.2 hb
          by_cases hin : b ∈ out
          · have CB : Hid (∀ w, w = w3 → Calls Try.prog 25 #[.slice A' m c', .int .u64 b] w fun e w' => e = .returned (.bool true) ∧ w' = w) := fun w hw => by
              subst hw
              have h := CC.out b
              rwa [decide_eq_true hin] at h
            have HC : Hid (fingersTo me seats (k + 1) = out) := HFS2.out.trans (if_pos (.inr hin))
            clear hin
            go_wp2_with (go_at_call 25; (with_reducible refine (CB.out _ rfl).mono ?_); rintro e w4 ⟨rfl, rfl⟩)
            go_roundg (gk - 1)
            case measure => omega
            case rel => exact ⟨k + 1, c', m, A', by omega, by omega, by go_num, rfl, by rw [HC.out]; exact HM.out, by rw [HC.out]; exact HO.out, HBX⟩
          · have CB : Hid (∀ w, w = w3 → Calls Try.prog 25 #[.slice A' m c', .int .u64 b] w fun e w' => e = .returned (.bool false) ∧ w' = w) := fun w hw => by
              subst hw
              have h := CC.out b
              rwa [decide_eq_false hin] at h
            have HC : Hid (fingersTo me seats (k + 1) = out ++ [b]) := HFS2.out.trans (if_neg (fun z => z.elim hb hin))
            clear hin
            go_wp2_with (first
              | (go_at_call 25; (with_reducible refine (CB.out _ rfl).mono ?_); rintro e w4 ⟨rfl, hw4⟩; subst hw4)
              | (at_builtin; go_must (refine wpList_append_own _ rfl (.tmp 31) (.tmp 33) 23 rfl V0.heap.size 22 i0 z0 1 8 Try.underlying23 hi0 hz hsL hbL hzc (by decide) _ _ _ rfl (HO.out.alloc _) ⟨w4.heap.size, 0, none⟩ 1 1 (ptC [b]) rfl rfl (pt_new w4 b) (pt_one _) (by unfold maxLen; omega) (by omega) (by have := HBX.out.size; simp <;> omega) ?_); intro x2 w2 hown2 hg2 hnil2; obtain ⟨A2, c2, rfl⟩ := own_slice hown2; have HB3 := Lib.hid ((HBX.out.alloc HBX.out.size _).grown hg2 (by have := HBX.out.size; simp <;> omega) (own_lt HO.out)); have HO3 := Lib.hid hown2; clear hown2 hg2 hnil2))
            go_roundg (gk - 1)
            case measure => omega
            case rel => exact ⟨k + 1, c2, m + 1, A2, by omega, by omega, by go_num, rfl, by rw [HC.out, List.length_append, HM.out]; rfl, by rw [HC.out, ptC_append]; exact HO3.out, HB3⟩
      · obtain rfl : k = 64 := by omega
        go_wp2_with fail
        go_ret
        exact ⟨A', c', by rw [← hm]; rfl, own_lower (by subst hm; exact HO.out) HB0.out.size, HB0.out.trans (HBX.out.mono HB0.out.size)⟩
theorem hop_oneYes {me aim x : Int} (h : leads me aim x) : hopI me aim [x] = some x := by
  unfold hopI
  show hopStep me aim none x = _
  unfold hopStep
  rw [if_pos ⟨fun e => by have := h.1; rw [e, far_self] at this; omega, h.2, fun b hb => by cases hb⟩]
theorem hop_oneNo {me aim x : Int} (hme : Pt me) (hx : Pt x) (h : ¬ leads me aim x) : hopI me aim [x] = none := by
  unfold hopI
  show hopStep me aim none x = _
  unfold hopStep
  rw [if_neg (fun z => h ⟨far_pos hme hx (Ne.symm z.1), z.2.1⟩)]
theorem way_end {aim me : Int} {seats : List Int} (h : hopI me aim (fingersI me seats) = none) (n : Nat) : wayGo aim seats n me = [] := by
  cases n with
  | zero => rfl
  | succ m => unfold wayGo; rw [h]
theorem way_on {aim me f : Int} {seats : List Int} (h : hopI me aim (fingersI me seats) = some f) (n : Nat) : wayGo aim seats (n + 1) me = f :: wayGo aim seats n f := by
  conv => lhs; unfold wayGo
  rw [h]
/-- a hop comes nearer by half -/
theorem hop_down {aim me f T : Int} {seats : List Int} {k : Nat} (hp : ∀ s ∈ seats, Pt s) (hT : Best aim seats T) (hme : me ∈ seats) (hd : farI me T < pow2 (k + 1)) (h : hopI me aim (fingersI me seats) = some f) : f ∈ seats ∧ farI f T < pow2 k := by
  have h2 := (hop_ok me aim (fingersI me seats)).2 f h
  refine ⟨(finger_seat h2.1).1, ?_⟩
  have e : T ≠ me := fun e => by
    subst e
    rw [hop_end hp hT] at h
    cases h
  have hle : farI me T ≤ farI me aim := by
    have h1 := hT.2 me hme
    have := far_behind h1
    have := (farI_range T aim).1
    omega
  obtain ⟨g, g1, g2, g3, g4, g5, g6⟩ := hop_half hp (hp me hme) (fun s hs _ => hT.2 s hs) hT.1 e hle
  rw [h] at g1
  obtain rfl := Option.some.inj g1
  have : pow2 (k + 1) = 2 * pow2 k := by unfold pow2; rw [Nat.pow_succ]; omega
  omega
theorem hop_stays {aim me T : Int} {seats : List Int} (hp : ∀ s ∈ seats, Pt s) (hT : Best aim seats T) (hme : me ∈ seats) (hd : farI me T < pow2 0) : hopI me aim (fingersI me seats) = none := by
  have hd : farI me T < 1 := hd
  have e : me = T := far_nil (hp me hme) (hp T hT.1) (by have := (farI_range me T).1; omega)
  subst e
  exact hop_end hp hT
def HopOne (x aim y : Int) (W : World) (e : Ending) (w' : World) : Prop :=
  ∃ (v : Int) (r : Bool), e = .returned (.tuple #[.int .u64 v, .bool r]) ∧ ((r = true ∧ v = y ∧ leads x aim y) ∨ (r = false ∧ ¬ leads x aim y)) ∧ w' = W
theorem hop_one {x aim y : Int} {B : Option Addr} {w : World} (hx : Pt x) (hy : Pt y) (hB : PtAt w B [y]) : Calls Try.prog 14 #[.int .u64 x, .int .u64 aim, .slice B 1 1] w (HopOne x aim y w) := by
  have h := hop_any (aim := aim) (c := 1) (n := 1) (fs := [y]) hx (fun s hs => by rw [List.mem_singleton.1 hs]; exact hy) hB rfl (by decide)
  by_cases hl : leads x aim y
  · rw [hop_oneYes hl] at h
    exact h.mono fun e w' ⟨a, b⟩ => ⟨y, true, a, .inl ⟨rfl, rfl, hl⟩, b⟩
  · rw [hop_oneNo hx hy hl] at h
    exact h.mono fun e w' ⟨a, b⟩ => ⟨0, false, a, .inr ⟨rfl, hl⟩, b⟩
set_option maxRecDepth 100000 in
set_option maxHeartbeats 8000000 in
theorem way_any {me aim : Int} {A : Option Addr} {c n : Nat} {seats : List Int} {W : World} (hp : ∀ s ∈ seats, Pt s) (hA : PtAt W A seats) (hn : seats.length = n) (hl : n ≤ 1000) :
    Calls Try.prog 12 #[.int .u64 me, .int .u64 aim, .slice A n c] W (WayPost W me aim seats) := by
  obtain ⟨i0, z0, hi0, hz, hsL, hbL, hzc⟩ := infoP_
  have CC := Lib.hid (contains_any (c := c) me hA hn (by omega))
  unfold WayPost
  by_cases hme : me ∈ seats
  · have h0 : 0 < n := by rw [← hn]; exact List.length_pos_of_mem hme
    rw [decide_eq_true hme] at CC ⊢
    have hs := seated seats hp
    have HS := Lib.hid hs
    have CS := Lib.hid (fun (c : Nat) => sortedVals_any (c := c) hA hn (by omega) h0)
    have HLS : Hid ((sortU seats).length = n) := (sortU_length seats).trans hn
    obtain ⟨sl, hsl⟩ : ∃ sl, sortU seats = sl := ⟨_, rfl⟩
    rw [hsl] at HS CS HLS
    have hw : wayI me aim seats = me :: wayGo aim seats 100 me := if_pos hme
    obtain ⟨tot, ht⟩ : ∃ tot, wayI me aim seats = tot := ⟨_, rfl⟩
    rw [ht] at hw ⊢
    obtain ⟨T, hT⟩ := best_some (aim := aim) (seats := seats) (fun e => by rw [e] at hme; cases hme)
    have hd0 : farI me T < pow2 64 := by
      have h1 := (farI_range me T).2
      show farI me T < ((2 ^ 64 : Nat) : Int)
      have h2 : (2 : Nat) ^ 64 = 18446744073709551616 := by decide
      rw [h2]
      omega
    have CF : Hid (∀ w x B k cc, k < 64 → PtAt w B sl → Calls Try.prog 24 #[.int .u64 x, .int .i64 (k : Nat), .slice B n cc] w fun e w' => ∃ b, e = .returned (.int .u64 b) ∧ nearI (upI x k) seats = some b ∧ w' = w) := fun w x B k cc hk hB => finger_any hk hB HLS.out (by omega) (by omega) HS.out
    have CH : Hid (∀ w x y B, Pt x → Pt y → PtAt w B [y] → Calls Try.prog 14 #[.int .u64 x, .int .u64 aim, .slice B 1 1] w (HopOne x aim y w)) := fun w x y B hx hy hB => hop_one hx hy hB
    have CV : Hid (∀ w cc, Calls Try.prog 23 #[.slice A n cc] w fun e w' => e = .returned (.func (.func 57) #[] #[.pointer (some ⟨w.heap.size, 0, none⟩)]) ∧ w' = w.alloc (.cells #[.slice A n cc] 23)) := fun w cc => vals_any _ w ⟨_, _, _, rfl⟩
    have HT := Lib.hid hT
    have HW := Lib.hid hw
    have HP := Lib.hid hp
    have HD := Lib.hid hd0
    have HME := Lib.hid hme
    clear hA hn hp hs hsl hT hw ht hd0 hme
    go_enter Try.func12, Try.ntmps12
    go_wp2
    go_step3
    go_wp2_with (first
      | (go_at_call 25; (with_reducible refine CC.out.mono ?_); rintro e w0 ⟨rfl, hw0⟩; subst hw0)
      | (go_at_call 23; (with_reducible refine (CV.out _ _).mono ?_); rintro e w1 ⟨rfl, rfl⟩)
      | (go_at_call 22; (with_reducible refine (CS.out _).mono ?_); rintro e w2 ⟨B, k2, rfl, h1, h2⟩; rw [HLS.out] at h1; rw [HLS.out]; have HR : Hid (PtAt w2 B sl) := PtAt.own h1 HLS.out; have HB := Lib.hid h2; clear h1 h2))
    have HO0 : Hid ((w2.alloc (.cells #[.int .u64 me] 22)).ownsRow w2.heap.size 22 1 (.slice (some ⟨w2.heap.size, 0, none⟩) 1 1) 1 (ptC [me])) := World.ownsRow_lit (size := 1) w2 #[.int .u64 me] 1 (Nat.le_refl _) (by unfold maxLen; omega) rfl
    have HB0 : Hid (Below w2.heap.size w2 (w2.alloc (.cells #[.int .u64 me] 22))) := (Below.refl _ _).alloc (Nat.le_refl _) _
    obtain ⟨V0, hV0⟩ : ∃ V0 : World, V0 = w2 := ⟨_, rfl⟩
    have HR0 : Hid (PtAt V0 B sl) := by rw [hV0]; exact HR.out
    have HBW : Hid (Below w0.heap.size w0 V0) := by rw [hV0]; exact HB.out
    rw [← hV0] at HO0 HB0 ⊢
    clear HR HB hV0 CS CV CC
    go_step3
    go_wp2_with fail
    go_loopg [9] 64 (fun k s9 wx => ∃ (m c' : Nat) (A' : Option Addr) (cur : Int) (q : List Int), s9 = .slice A' (m + 1) c' ∧ q.length = m ∧ m + k = 64 ∧ Hid (cur ∈ seats) ∧ Hid (farI cur T < pow2 k) ∧ Hid (tot = (q ++ [cur]) ++ wayGo aim seats (k + 36) cur) ∧ Hid (wx.ownsRow V0.heap.size 22 1 (.slice A' (m + 1) c') (m + 1) (ptC (q ++ [cur]))) ∧ Hid (Below V0.heap.size V0 wx))
    case atStart => exact ⟨0, 1, _, me, [], rfl, rfl, rfl, HME.out, HD.out, HW.out, HO0, HB0⟩
    case round =>
      obtain ⟨m, c', A', cur, q, rfl, hqm, hmk, HCU, HDC, HTT, HO, HBX⟩ := hrel
      obtain ⟨gz, rfl⟩ : ∃ gz : Nat, gz = gk := ⟨_, rfl⟩
      obtain ⟨wo, rfl⟩ : ∃ wo : World, wo = wr := ⟨_, rfl⟩
      have HQM := Lib.hid hqm
      have zq : IntKind.i64.wrap (((m + 1 : Nat) : Int) - 1) = (m : Int) := by rw [IntKind.wrap_i64]; omega
      obtain ⟨b1, o1, h1⟩ := PtAt.own HO.out (by rw [List.length_append, hqm]; rfl)
      obtain ⟨rfl, -, e1⟩ := h1 m (by rw [List.length_append, hqm]; simp)
      rw [show (q ++ [cur])[m]'(by rw [List.length_append, hqm]; simp) = cur by subst hqm; simp] at e1
      clear h1 hqm
      go_wp2_with fail
      go_loopg [9, 11] 64 (fun r s9 s11 wx => ∃ z : Int, s9 = .slice (some ⟨b1, o1, none⟩) (m + 1) c' ∧ s11 = .int .i64 z ∧ z = (r : Int) - 1 ∧ r ≤ 64 ∧ Hid (∀ i, r ≤ i → i < 64 → ∀ y, nearI (upI cur i) seats = some y → ¬ leads cur aim y) ∧ Hid (Below wo.heap.size wo wx))
      case atStart => exact ⟨63, rfl, rfl, by decide, by omega, (fun i h1 h2 => by omega), Below.refl _ _⟩
      case round =>
        obtain ⟨z, rfl, rfl, hz, hr, HNO, HBY⟩ := hrel
        cases gk with
        | zero =>
          have zz : ¬ (z ≥ 0) := by omega
          have hnone := hop_nowhere HP.out (HP.out cur HCU.out) (fun k hk x hx => HNO.out k (Nat.zero_le _) hk x hx)
          have hte := HTT.out
          rw [way_end hnone, List.append_nil] at hte
          have HTE := Lib.hid hte
          clear hz hnone hte
          go_wp2_with fail
          go_ret2
          have HOX := ((Touch.ofBelow (F := []) HBY.out).row HO.out (by simp))
          have hb5 : Below w0.heap.size w0 wr := HBW.out.trans ((HBX.out.trans (HBY.out.mono HBX.out.size)).mono HBW.out.size)
          have hlen : tot.length = m + 1 := by rw [HTE.out, List.length_append, HQM.out]; rfl
          exact ⟨some ⟨b1, o1, none⟩, c', by rw [hlen]; rfl, by rw [hlen, HTE.out]; exact own_lower HOX HBW.out.size, hb5⟩
        | succ j =>
          obtain rfl : z = (j : Int) := by omega
          clear hz
          have HRY : Hid (PtAt wr B sl) := HR0.out.below (HBX.out.trans (HBY.out.mono HBX.out.size))
          go_upto_region 10 with (first
            | (go_at_call 24; (with_reducible refine (CF.out _ cur _ j _ (by omega) HRY.out).mono ?_); rintro e w3 ⟨b, rfl, hnear, hw3⟩; subst hw3; have HNE := Lib.hid hnear; have hbs := ((near_ok _ _).2 b hnear).1; have HBS := Lib.hid hbs; have HPB : Hid (PtAt (w3.alloc (.cells #[.int .u64 b] 22)) (some ⟨w3.heap.size, 0, none⟩) [b]) := pts_lit w3 [b] 1 rfl (by decide); clear hnear hbs)
            | (go_at_call 14; (with_reducible refine (CH.out _ cur b _ (HP.out cur HCU.out) (HP.out b HBS.out) HPB.out).mono ?_); rintro e w4 ⟨v, r, rfl, hvr, hw4⟩; have HB4 : Hid (Below wo.heap.size wo w4) := (by rw [hw4]; exact HBY.out.alloc HBY.out.size _); have HVR := Lib.hid hvr; clear hw4 hvr))
          rcases HVR.out with ⟨hr1, hv, hlead⟩ | ⟨hr1, hnl⟩
          · subst hr1 hv
            have hf := hop_first HCU.out HP.out (by omega) HNE.out hlead (fun i h1 h2 => HNO.out i (by omega) h2)
            cases gz with
            | zero =>
              exfalso
              rw [hop_stays HP.out HT.out HCU.out HDC.out] at hf
              cases hf
            | succ gy =>
              obtain ⟨d1, d2⟩ := hop_down HP.out HT.out HCU.out HDC.out hf
              have hte := HTT.out
              rw [show gy + 1 + 36 = (gy + 36) + 1 by omega, way_on hf] at hte
              have HTE : Hid (tot = ((q ++ [cur]) ++ [v]) ++ wayGo aim seats (gy + 36) v) := hte.trans (List.append_assoc (q ++ [cur]) [v] _).symm
              have HD1 := Lib.hid d1
              have HD2 := Lib.hid d2
              have HO4 := Lib.hid ((Touch.ofBelow (F := []) HB4.out).row HO.out (by simp))
              have HBZ : Hid (Below V0.heap.size V0 w4) := HBX.out.trans (HB4.out.mono HBX.out.size)
              clear hf hlead d1 d2 hte
              go_wp2_with (at_builtin; go_must (refine wpList_append_own _ rfl (.tmp 45) (.tmp 47) 23 rfl V0.heap.size 22 i0 z0 1 8 Try.underlying23 hi0 hz hsL hbL hzc (by decide) _ _ _ rfl (HO4.out.alloc _) ⟨w4.heap.size, 0, none⟩ 1 1 (ptC [v]) rfl rfl (pt_new w4 v) (pt_one _) (by unfold maxLen; omega) (by omega) (by have := HBZ.out.size; simp <;> omega) ?_); intro x2 w5 hown2 hg2 hnil2; obtain ⟨A2, c2, rfl⟩ := own_slice hown2; have HB5 := Lib.hid ((HBZ.out.alloc HBZ.out.size _).grown hg2 (by have := HBZ.out.size; simp <;> omega) (own_lt HO4.out)); have HO5 := Lib.hid hown2; clear hown2 hg2 hnil2)
              go_roundg gy
              case measure => omega
              case rel => exact ⟨m + 1, c2, A2, v, q ++ [cur], rfl, by rw [List.length_append, HQM.out]; rfl, by omega, HD1, HD2, HTE, by rw [ptC_append]; exact HO5.out, HB5⟩
          · subst hr1
            have HNO2 : Hid (∀ i, j ≤ i → i < 64 → ∀ y, nearI (upI cur i) seats = some y → ¬ leads cur aim y) := fun i h1 h2 y hy => by
              rcases Nat.lt_or_eq_of_le h1 with z | rfl
              · exact HNO.out i z h2 y hy
              · rw [HNE.out] at hy
                obtain rfl := Option.some.inj hy
                exact hnl
            clear hnl
            go_wp2_with fail
            go_roundg j
            case measure => omega
            case rel => exact ⟨(j : Int) - 1, rfl, by go_num, rfl, by omega, HNO2, HB4⟩
  · rw [decide_eq_false hme] at CC ⊢
    have hw : wayI me aim seats = [] := if_neg hme
    rw [hw]
    clear hA hn hp hw hme
    go_enter Try.func12, Try.ntmps12
    go_wp2
    go_step3
    go_wp2_with (go_at_call 25; (with_reducible refine CC.out.mono ?_); rintro e w0 ⟨rfl, hw0⟩; subst hw0)
    rw [Exit.noGoto_ret]
    go_ret2
    exact ⟨none, 0, rfl, World.ownsRow_nil _ _ _ _, Below.refl _ _⟩
theorem fingLaws : FingLaws where
  fingers := fun _ _ _ _ _ _ _ hp hA hn hl => fingers_any hp hA hn hl
  hop := fun _ _ _ _ _ _ _ hme _ hp hA hn hl => (hop_any hme hp hA hn (by omega)).mono fun e w' ⟨x, y⟩ => ⟨x, by rw [y]; exact Below.refl _ _⟩
  way := fun _ _ _ _ _ _ _ _ _ hp hA hn hl => way_any hp hA hn hl
end Go.Proofs.Ytfpoapmbpbkibaa
