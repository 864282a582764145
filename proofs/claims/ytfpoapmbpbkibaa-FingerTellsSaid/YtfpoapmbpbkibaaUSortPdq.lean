/-
  The library's pdqsort at numbers: a row comes out of it sorted.
-/
import Derived.Test.YtfpoapmbpbkibaaUSortA
import Derived.Test.YtfpoapmbpbkibaaUSortB
import Derived.Test.YtfpoapmbpbkibaaUSortPick
import Derived.Test.YtfpoapmbpbkibaaUSortPart
import Derived.Test.YtfpoapmbpbkibaaUSortPIns
import Derived.Test.YtfpoapmbpbkibaaUSortD
import Derived.Sort.LotD3
namespace Go.Proofs.Ytfpoapmbpbkibaa
open Go.RowKit Go.Sort
def SortPost (B g c : Nat) (d : Array Int) (W : World) (a b : Nat) (e : Ending) (w' : World) : Prop :=
  ∃ E : Array Int, e = .returned (.tuple #[]) ∧ PermIn a b d E ∧ SortedIn ltInt a b E ∧ UR B W g c E w'
/-- what is owed still: whoever sorts the rest has sorted all -/
def Owed (a0 b0 : Nat) (d : Array Int) (a b : Nat) (D : Array Int) : Prop := ∀ R, PermIn a b D R → SortedIn ltInt a b R → PermIn a0 b0 d R ∧ SortedIn ltInt a0 b0 R
theorem Owed.perm {a0 b0 a b : Nat} {d D E : Array Int} (h : Owed a0 b0 d a b D) (k : PermIn a b D E) : Owed a0 b0 d a b E := fun R hR hs => h R (permIn_trans _ _ _ _ _ k hR) hs
set_option maxHeartbeats 16000000 in
set_option maxRecDepth 100000 in
theorem uPdq_any {B g c n : Nat} (hlen : n ≤ 1000000) : ∀ (N a0 b0 l0 : Nat) (d : Array Int) (W : World), UR B W g c d W → d.size = n → a0 ≤ b0 → b0 ≤ n → b0 - a0 < N → l0 ≤ 1000 → Go.Sort.Below ltInt a0 b0 d →
    Calls Try.prog 74 #[.slice (some ⟨g, 0, none⟩) n c, .int .i64 a0, .int .i64 b0, .int .i64 l0] W (SortPost B g c d W a0 b0) := by
  intro N
  induction N with
  | zero => intro a0 b0 l0 d W _ _ _ _ h; omega
  | succ N ih =>
    intro a0 b0 l0 d W h hn hab hb0 hN hl0 hbel
    have H := Lib.hid h
    have HN := Lib.hid hn
    have HBEL := Lib.hid hbel
    have IH : Hid (∀ (a b l : Nat) (D : Array Int) (w : World), UR B w g c D w → D.size = n → a ≤ b → b ≤ n → b - a < N → l ≤ 1000 → Go.Sort.Below ltInt a b D → Calls Try.prog 74 #[.slice (some ⟨g, 0, none⟩) n c, .int .i64 (a : Nat), .int .i64 (b : Nat), .int .i64 (l : Nat)] w (SortPost B g c D w a b)) := ih
    have CI : Hid (∀ (a b : Nat) (D : Array Int) (w : World), UR B W g c D w → D.size = n → a ≤ b → b ≤ n → Calls Try.prog 81 #[.slice (some ⟨g, 0, none⟩) n c, .int .i64 (a : Nat), .int .i64 (b : Nat)] w (SortPost B g c D W a b)) := fun a b D w hu hs h1 h2 =>
      (uInsertion_any hu.self hs hlen h1 h2).mono fun e w' ⟨x, y⟩ => ⟨_, x, (insertionSort_holds swo_ltInt D a b h1 (by omega)).1, (insertionSort_holds swo_ltInt D a b h1 (by omega)).2, hu.trans y⟩
    have CH : Hid (∀ (a b : Nat) (D : Array Int) (w : World), UR B W g c D w → D.size = n → a < b → b ≤ n → Calls Try.prog 82 #[.slice (some ⟨g, 0, none⟩) n c, .int .i64 (a : Nat), .int .i64 (b : Nat)] w (SortPost B g c D W a b)) := fun a b D w hu hs h1 h2 =>
      (uHeap_any hu.self hs hlen h1 h2).mono fun e w' ⟨x, y⟩ => ⟨_, x, (heapSort_holds swo_ltInt D a b (by omega) (by omega)).1, (heapSort_holds swo_ltInt D a b (by omega) (by omega)).2, hu.trans y⟩
    have CB : Hid (∀ (a b : Nat) (D : Array Int) (w : World), UR B W g c D w → D.size = n → a + 12 < b → b ≤ n → Calls Try.prog 83 #[.slice (some ⟨g, 0, none⟩) n c, .int .i64 (a : Nat), .int .i64 (b : Nat)] w (MovePost B g c D W a b)) := fun a b D w hu hs h1 h2 =>
      (uBreak_any hu.self hs hlen h1 h2).mono fun e w' ⟨E, x, y, z⟩ => ⟨E, x, y, hu.trans z⟩
    have CP : Hid (∀ (a b : Nat) (D : Array Int) (w : World), UR B W g c D w → D.size = n → a + 12 < b → b ≤ n → Calls Try.prog 84 #[.slice (some ⟨g, 0, none⟩) n c, .int .i64 (a : Nat), .int .i64 (b : Nat)] w (PickPost B g c D W a b)) := fun a b D w hu hs h1 h2 =>
      (uPick_any hu.self hs hlen h1 h2).mono fun e w' ⟨p, t, x, y1, y2, y3, z⟩ => ⟨p, t, x, y1, y2, y3, hu.trans z⟩
    have CR : Hid (∀ (a b : Nat) (D : Array Int) (w : World), UR B W g c D w → D.size = n → a < b → b ≤ n → Calls Try.prog 85 #[.slice (some ⟨g, 0, none⟩) n c, .int .i64 (a : Nat), .int .i64 (b : Nat)] w (MovePost B g c D W a b)) := fun a b D w hu hs h1 h2 =>
      (uReverse_any hu.self hs hlen h1 h2).mono fun e w' ⟨x, y⟩ => ⟨_, x, reverseRange_holds D a b (by omega) (by omega), hu.trans y⟩
    have CS : Hid (∀ (a b : Nat) (D : Array Int) (w : World), UR B W g c D w → D.size = n → a < b → b ≤ n → Go.Sort.Below ltInt a b D → Calls Try.prog 86 #[.slice (some ⟨g, 0, none⟩) n c, .int .i64 (a : Nat), .int .i64 (b : Nat)] w fun e w' => ∃ (t : Bool) (E : Array Int), e = .returned (.bool t) ∧ PermIn a b D E ∧ (t = true → SortedIn ltInt a b E) ∧ UR B W g c E w') := fun a b D w hu hs h1 h2 h3 =>
      (uPartIns_any hu.self hs hlen h1 h2).mono fun e w' ⟨t, x, y, z⟩ => ⟨t, _, x, (partialInsertionSort_holds swo_ltInt D a b h1 (by omega) h3).1, fun ht => (partialInsertionSort_holds swo_ltInt D a b h1 (by omega) h3).2 (by rw [← y]; exact ht), hu.trans z⟩
    have CE : Hid (∀ (a b p : Nat) (D : Array Int) (w : World), UR B W g c D w → D.size = n → a ≤ p → p < b → b ≤ n → Calls Try.prog 87 #[.slice (some ⟨g, 0, none⟩) n c, .int .i64 (a : Nat), .int .i64 (b : Nat), .int .i64 (p : Nat)] w fun e w' => ∃ (m : Nat) (E : Array Int), e = .returned (.int .i64 (m : Nat)) ∧ partitionEqual ltInt D a b p = (m, E) ∧ UR B W g c E w') := fun a b p D w hu hs h1 h2 h3 =>
      (uPartEq_any hu.self hs hlen h1 h2 h3).mono fun e w' ⟨x, y⟩ => ⟨_, _, x, rfl, hu.trans y⟩
    have CT : Hid (∀ (a b p : Nat) (D : Array Int) (w : World), UR B W g c D w → D.size = n → a ≤ p → p < b → b ≤ n → Calls Try.prog 88 #[.slice (some ⟨g, 0, none⟩) n c, .int .i64 (a : Nat), .int .i64 (b : Nat), .int .i64 (p : Nat)] w fun e w' => ∃ (m : Nat) (t u : Bool) (E : Array Int), e = .returned (.tuple #[.int .i64 (m : Nat), .bool t]) ∧ partition ltInt D a b p = (m, u, E) ∧ UR B W g c E w') := fun a b p D w hu hs h1 h2 h3 =>
      (uPart_any hu.self hs hlen h1 h2 h3).mono fun e w' ⟨m, t, x, y, z⟩ => ⟨m, t, (partition ltInt D a b p).2.1, (partition ltInt D a b p).2.2, x, by rw [y], hu.trans z⟩
    clear h hn hbel ih
    go_enter Try.func74, Try.ntmps74
    go_wp2_with fail
    go_loopg [1, 2, 3, 8, 9] (b0 - a0) (fun k s1 s2 s3 s8 s9 wx => ∃ (a b l : Nat) (wb wp : Bool) (D : Array Int), s1 = .int .i64 (a : Nat) ∧ s2 = .int .i64 (b : Nat) ∧ s3 = .int .i64 (l : Nat) ∧ s8 = .bool wb ∧ s9 = .bool wp ∧ b - a ≤ k ∧ a ≤ b ∧ b ≤ n ∧ b - a ≤ b0 - a0 ∧ l ≤ 1000 ∧ Hid (D.size = n) ∧ Hid (UR B W g c D wx) ∧ Hid (Go.Sort.Below ltInt a b D) ∧ Hid (Owed a0 b0 d a b D))
    case atStart => exact ⟨a0, b0, l0, true, true, d, rfl, rfl, rfl, rfl, rfl, Nat.le_refl _, by omega, by omega, Nat.le_refl _, by omega, HN.out, H.out, HBEL.out, fun R h1 h2 => ⟨h1, h2⟩⟩
    case round =>
      obtain ⟨a, b, l, wb, wp, D, rfl, rfl, rfl, rfl, rfl, hk, hab, hb, hba, hl, HS, HU, HBL, HOW⟩ := hrel
      obtain ⟨m, hm⟩ : ∃ m, b - a = m := ⟨_, rfl⟩
      have zm : IntKind.i64.wrap ((b : Int) - (a : Int)) = (m : Int) := by rw [IntKind.wrap_i64]; omega
      have ham : a + m = b := by omega
      clear hm
      by_cases h12 : m ≤ 12
      · have i1 : (m : Int) ≤ 12 := by omega
        go_wp2_with (go_at_call 81; (with_reducible refine (CI.out a b D _ HU.out HS.out hab hb).mono ?_); rintro e w1 ⟨E, rfl, hp, hs, hu⟩; have HE := Lib.hid (And.intro (HOW.out E hp hs) hu); clear hp hs hu)
        exact bodyPost_ret (results_none rfl _ _ _) rfl ⟨E, rfl, HE.out.1.1, HE.out.1.2, HE.out.2⟩
      · have i1 : ¬ (m : Int) ≤ 12 := by omega
        by_cases hl0 : l = 0
        · subst hl0
          go_wp2_with (go_at_call 82; (with_reducible refine (CH.out a b D _ HU.out HS.out (by omega) hb).mono ?_); rintro e w1 ⟨E, rfl, hp, hs, hu⟩; have HE := Lib.hid (And.intro (HOW.out E hp hs) hu); clear hp hs hu)
          exact bodyPost_ret (results_none rfl _ _ _) rfl ⟨E, rfl, HE.out.1.1, HE.out.1.2, HE.out.2⟩
        · have i2 : ((l : Int) == 0) = false := by rw [beq_eq_false_iff_ne]; omega
          go_upto_if 35 with fail
          go_cut [3] (fun s3 wx => ∃ (l2 : Nat) (E : Array Int), s3 = .int .i64 (l2 : Nat) ∧ l2 ≤ 1000 ∧ Hid (PermIn a b D E) ∧ Hid (UR B W g c E wx))
          case first =>
            cases wb with
            | true =>
              go_wp2_with fail
              go_meet
              exact ⟨l, D, rfl, by omega, permIn_refl _ _ _, HU⟩
            | false =>
              go_wp2_with (go_at_call 83; (with_reducible refine (CB.out a b D _ HU.out HS.out (by omega) hb).mono ?_); rintro e w1 ⟨E, rfl, hp, hu⟩; have HP := Lib.hid hp; have HUE := Lib.hid hu; clear hp hu)
              go_meet
              exact ⟨l - 1, E, by congr 1; omega, by omega, HP, HUE⟩
          case rest =>
            obtain ⟨l2, D1, rfl, hl2, HP1, HU1⟩ := hcut
            obtain ⟨w1, rfl⟩ : ∃ w : World, w = wc := ⟨_, rfl⟩
            have HS1 : Hid (D1.size = n) := HP1.out.1.trans HS.out
            go_upto_if 50 with (go_at_call 84; (with_reducible refine (CP.out a b D1 _ HU1.out HS1.out (by omega) hb).mono ?_); rintro e w2 ⟨p, t, rfl, hp1, hp2, ht, hu⟩; have HU2 := Lib.hid hu; clear hu)
            go_cut [11, 12] (fun s11 s12 wx => ∃ (p2 : Nat) (t2 : Int) (E : Array Int), s11 = .int .i64 (p2 : Nat) ∧ s12 = .int .i64 t2 ∧ a ≤ p2 ∧ p2 < b ∧ Hid (PermIn a b D E) ∧ Hid (UR B W g c E wx))
            case first =>
              by_cases t2 : t = 2
              · subst t2
                have zb : IntKind.i64.wrap ((b : Int) - 1 - ((p : Int) - (a : Int))) = (b : Int) - 1 - ((p : Int) - (a : Int)) := by rw [IntKind.wrap_i64]; omega
                go_wp2_with (go_at_call 85; (with_reducible refine (CR.out a b D1 _ HU2.out HS1.out (by omega) hb).mono ?_); rintro e w3 ⟨E, rfl, hp, hu⟩; have HP := Lib.hid (permIn_trans _ _ _ _ _ HP1.out hp); have HUE := Lib.hid hu; clear hp hu)
                go_meet
                exact ⟨b - 1 - (p - a), 1, E, by congr 1; omega, rfl, by omega, by omega, HP, HUE⟩
              · have t3 : (t == 2) = false := by rw [beq_eq_false_iff_ne]; exact t2
                go_wp2_with fail
                go_meet
                exact ⟨p, t, D1, rfl, rfl, hp1, hp2, HP1, HU2⟩
            case rest =>
              clear hp1 hp2 ht HU2
              obtain ⟨p2, t2, D2, rfl, rfl, hp1, hp2, HP2, HU2⟩ := hcut
              obtain ⟨w2, rfl⟩ : ∃ w : World, w = wc := ⟨_, rfl⟩
              have HS2 : Hid (D2.size = n) := HP2.out.1.trans HS.out
              have HB2 : Hid (Go.Sort.Below ltInt a b D2) := HBL.out.perm (by rw [HS.out]; exact hb) HP2.out
              have HO2 : Hid (Owed a0 b0 d a b D2) := HOW.out.perm HP2.out
              clear HS1 HU1 HP1
              go_upto_region 15 with fail
              go_cut [68] (fun s68 wx => ∃ q : Bool, s68 = .bool q ∧ wx = w2)
              case first =>
                obtain ⟨q1, hq1⟩ : ∃ q, (t2 == 1) = q := ⟨_, rfl⟩
                cases wb
                · go_wp2_with fail
                  go_meet
                  exact ⟨false, rfl, rfl⟩
                · cases wp
                  · go_wp2_with fail
                    go_meet
                    exact ⟨false, rfl, rfl⟩
                  · go_wp2_with fail
                    go_meet
                    exact ⟨q1, rfl, rfl⟩
              case rest =>
                obtain ⟨q, rfl, rfl⟩ := hcut
                go_upto_if 68 with fail
                go_cut [11] (fun s11 wx => ∃ (E : Array Int), s11 = .int .i64 (p2 : Nat) ∧ Hid (PermIn a b D2 E) ∧ Hid (UR B W g c E wx))
                case first =>
                  cases q with
                  | false =>
                    go_wp2_with fail
                    go_meet
                    exact ⟨D2, rfl, permIn_refl _ _ _, HU2⟩
                  | true =>
                    go_wp2_with (go_at_call 86; (with_reducible refine (CS.out a b D2 _ HU2.out HS2.out (by omega) hb HB2.out).mono ?_); rintro e w3 ⟨r, E, rfl, hp, hs, hu⟩; have HP := Lib.hid hp; have HSR := Lib.hid hs; have HUE := Lib.hid hu; clear hp hs hu; cases r)
                    · go_meet
                      exact ⟨E, rfl, HP, HUE⟩
                    · have HE := HO2.out E HP.out (HSR.out (by first | trivial | rfl))
                      exact bodyPost_ret (results_none rfl _ _ _) rfl ⟨E, rfl, HE.1, HE.2, HUE.out⟩
                case rest =>
                  obtain ⟨D3, rfl, HP3, HU3⟩ := hcut
                  obtain ⟨w3, rfl⟩ : ∃ w : World, w = wc := ⟨_, rfl⟩
                  have HS3 : Hid (D3.size = n) := HP3.out.1.trans HS2.out
                  have HB3 : Hid (Go.Sort.Below ltInt a b D3) := HB2.out.perm (by rw [HS2.out]; exact hb) HP3.out
                  have HO3 : Hid (Owed a0 b0 d a b D3) := HO2.out.perm HP3.out
                  clear HS2 HU2 HP2 HB2 HO2 HS HU HBL HOW
                  go_upto_region 17 with fail
                  go_cut [87] (fun s87 wx => ∃ q : Bool, s87 = .bool q ∧ Hid (q = true → 0 < a ∧ ltInt D3[a - 1]! D3[p2]! = false) ∧ Hid (UR B W g c D3 wx))
                  case first =>
                    by_cases ha : 0 < a
                    · have i3 : (a : Int) > 0 := by omega
                      have cx := HU3.out.cell (i := a - 1) (by rw [HS3.out]; omega)
                      have cy := HU3.out.cell (i := p2) (by rw [HS3.out]; omega)
                      obtain ⟨x, hx⟩ := bang_eq D3 (a - 1)
                      obtain ⟨y, hy⟩ := bang_eq D3 p2
                      obtain ⟨r, hr⟩ : ∃ r, ltInt x y = r := ⟨_, rfl⟩
                      rw [hx] at cx
                      rw [hy] at cy
                      have HX := Lib.hid hx
                      have HY := Lib.hid hy
                      have HR := Lib.hid hr
                      clear hx hy hr
                      go_wp2_with fail
                      go_quiet (first | (go_at_call 76; refine Calls.quiet_of_same (uLess_eq HR.out _)))
                      go_wp2_with fail
                      go_meet
                      exact ⟨!r, rfl, fun h => ⟨ha, by rw [HX.out, HY.out, HR.out]; simpa using h⟩, HU3.out.drewN _⟩
                    · have i3 : ¬ (a : Int) > 0 := by omega
                      go_wp2_with fail
                      go_quiet (fail)
                      go_wp2_with fail
                      go_meet
                      exact ⟨false, rfl, (fun h => (by cases h)), HU3.out.drewN _⟩
                  case rest =>
                    clear HU3
                    obtain ⟨q2, rfl, HQ2, HU3⟩ := hcut
                    obtain ⟨w4, rfl⟩ : ∃ w : World, w = wc := ⟨_, rfl⟩
                    cases q2 with
                    | true =>
                      obtain ⟨ha, hnl⟩ := HQ2.out rfl
                      have HNL := Lib.hid hnl
                      clear hnl
                      go_wp2_with (go_at_call 87; (with_reducible refine (CE.out a b p2 D3 _ HU3.out HS3.out hp1 hp2 hb).mono ?_); rintro e w5 ⟨m2, E, rfl, hx, hu⟩; have HUE := Lib.hid hu; obtain ⟨r1, r2, r3, r4, r5⟩ := round_eq swo_ltInt (partitionEqual_holds ltInt) ha hp1 hp2 (by rw [HS3.out]; exact hb) HB3.out HNL.out hx; have HR4 := Lib.hid r4; have HR5 := Lib.hid r5; have HR3 : Hid (E.size = n) := r3.trans HS3.out; clear hx hu r3 r4 r5)
                      go_roundg (b - m2)
                      case measure => omega
                      case rel => exact ⟨m2, b, l2, wb, wp, E, rfl, rfl, rfl, rfl, rfl, Nat.le_refl _, by omega, hb, by omega, hl2, HR3, HUE, HR4, fun R h1 h2 => (HO3.out R (HR5.out R h1 h2).1 (HR5.out R h1 h2).2)⟩
                    | false =>
                      clear HQ2
                      go_upto_if 113 with (go_at_call 88; (with_reducible refine (CT.out a b p2 D3 _ HU3.out HS3.out hp1 hp2 hb).mono ?_); rintro e w5 ⟨m2, t, u, E, rfl, hx, hu⟩; have HUE := Lib.hid hu; obtain ⟨r1, r2, r3, r4, r5, r6, r7⟩ := round_part swo_ltInt (partition_holds ltInt) hp1 hp2 (by rw [HS3.out]; exact hb) HB3.out hx; have HR4 := Lib.hid r4; have HR5 := Lib.hid r5; have HR6 := Lib.hid r6; have HR7 := Lib.hid r7; have HR3 : Hid (E.size = n) := r3.trans HS3.out; clear hx hu r3 r4 r5 r6 r7)
                      by_cases hs : m2 - a < b - m2
                      · have i5 : (m2 : Int) - (a : Int) < (b : Int) - (m2 : Int) := by omega
                        go_wp2_with (go_at_call 74; (with_reducible refine (IH.out a m2 l2 E _ HUE.out.self HR3.out r1 (by omega) (by omega) hl2 HR4.out).mono ?_); rintro e w6 ⟨F, rfl, hp, hso, hu⟩; have HUF := Lib.hid (HUE.out.trans hu); obtain ⟨s1, s2⟩ := HR6.out F hp hso; have HS1 := Lib.hid s1; have HS2 := Lib.hid s2; have HSF : Hid (F.size = n) := hp.1.trans HR3.out; clear hp hso hu s1 s2)
                        go_roundg (b - (m2 + 1))
                        case measure => omega
                        case rel => exact ⟨m2 + 1, b, l2, _, t, F, by go_num, rfl, rfl, rfl, rfl, Nat.le_refl _, by omega, hb, by omega, hl2, HSF, HUF, HS1, fun R h1 h2 => (HO3.out R (HS2.out R h1 h2).1 (HS2.out R h1 h2).2)⟩
                      · have i5 : ¬ (m2 : Int) - (a : Int) < (b : Int) - (m2 : Int) := by omega
                        have IHR : Hid (∀ w, UR B w g c E w → Calls Try.prog 74 #[.slice (some ⟨g, 0, none⟩) n c, .int .i64 ((m2 : Int) + 1), .int .i64 (b : Nat), .int .i64 (l2 : Nat)] w (SortPost B g c E w (m2 + 1) b)) := fun w hw => IH.out (m2 + 1) b l2 E w hw HR3.out (by omega) hb (by omega) hl2 HR5.out
                        go_wp2_with (go_at_call 74; (with_reducible refine (IHR.out _ HUE.out.self).mono ?_); rintro e w6 ⟨F, rfl, hp, hso, hu⟩; have HUF := Lib.hid (HUE.out.trans hu); obtain ⟨s1, s2⟩ := HR7.out F hp hso; have HS1 := Lib.hid s1; have HS2 := Lib.hid s2; have HSF : Hid (F.size = n) := hp.1.trans HR3.out; clear hp hso hu s1 s2)
                        go_roundg (m2 - a)
                        case measure => omega
                        case rel => exact ⟨a, m2, l2, _, t, F, rfl, rfl, rfl, rfl, rfl, Nat.le_refl _, by omega, by omega, by omega, hl2, HSF, HUF, HS1, fun R h1 h2 => (HO3.out R (HS2.out R h1 h2).1 (HS2.out R h1 h2).2)⟩
theorem below_zero (b : Nat) (d : Array Int) : Go.Sort.Below ltInt 0 b d := .inl rfl
/-- the whole row -/
def sortU (zs : List Int) : List Int := zs.mergeSort fun x y => !ltInt y x
theorem sortU_mem (zs : List Int) (x : Int) : x ∈ sortU zs ↔ x ∈ zs := List.mem_mergeSort
theorem sortU_length (zs : List Int) : (sortU zs).length = zs.length := List.length_mergeSort _
theorem sortU_sorted (zs : List Int) : (sortU zs).Pairwise (· ≤ ·) := by
  have h := List.pairwise_mergeSort (le := fun x y : Int => !ltInt y x) (fun a b c h1 h2 => by unfold ltInt at *; simp at h1 h2 ⊢; omega) (fun a b => by unfold ltInt; simp; omega) zs
  exact h.imp fun z => by unfold ltInt at z; simpa using z
set_option maxHeartbeats 2000000 in
set_option maxRecDepth 100000 in
/-- slices.Sort of numbers: the row is sorted -/
theorem uSort_any {B g c n : Nat} {zs : List Int} {W : World} (h : W.ownsRow B 22 1 (.slice (some ⟨g, 0, none⟩) n c) n (zs.map (Value.int .u64))) (hlen : n ≤ 1000000) :
    Calls Try.prog 56 #[.slice (some ⟨g, 0, none⟩) n c] W fun e w' => e = .returned (.tuple #[]) ∧ w'.ownsRow B 22 1 (.slice (some ⟨g, 0, none⟩) n c) n ((sortU zs).map (Value.int .u64)) ∧ Touch [g] W w' := by
  have hz : zs.length = n := by have := h.1; simpa using this
  have hsz : zs.toArray.size = n := by simpa using hz
  have hu : UR B W g c zs.toArray W := .start (by rw [hsz]; exact h)
  obtain ⟨k, hk⟩ : ∃ k, Lib.bitLen n = k := ⟨_, rfl⟩
  have hk64 : k ≤ 1000 := by rw [← hk]; exact Nat.le_trans (Lib.bitLen_le n 20 (by decide) (Nat.lt_of_le_of_lt hlen (by decide))) (by decide)
  have CL : Hid (∀ w, Calls Try.prog 75 #[.int .u64 n] w fun e w' => e = .returned (.int .i64 k) ∧ w' = w) := fun w => by rw [← hk]; exact uLen_any n (by omega) w
  have CP : Hid (∀ w, UR B w g c zs.toArray w → Calls Try.prog 74 #[.slice (some ⟨g, 0, none⟩) n c, .int .i64 0, .int .i64 n, .int .i64 k] w (SortPost B g c zs.toArray w 0 n)) := fun w hw => uPdq_any hlen (n + 1) 0 n k zs.toArray w hw hsz (by omega) (Nat.le_refl _) (by omega) hk64 (below_zero _ _)
  have wr : IntKind.u64.wrap (n : Int) = n := by rw [IntKind.wrap_u64]; omega
  have HU := Lib.hid hu
  have HZ := Lib.hid hz
  clear h hu hk hk64 hz hsz
  go_enter Try.func56, Try.ntmps56
  go_wp2_with (first
    | (go_at_call 75; (with_reducible refine (CL.out _).mono ?_); rintro e w1 ⟨rfl, rfl⟩)
    | (go_at_call 74; (with_reducible refine (CP.out _ HU.out).mono ?_); rintro e w2 ⟨E, rfl, hp, hs, hu⟩; have HP := Lib.hid hp; have HS := Lib.hid hs; have HE := Lib.hid hu; clear hp hs hu))
  go_end0
  have hzz : zs.toArray.size = n := by simpa using HZ.out
  have e1 := sorted_unique_holds swo_ltInt (fun x y h1 h2 => by unfold ltInt at h1 h2; simp at h1 h2; omega) zs.toArray E (by rw [hzz]; exact HP.out) (by rw [hzz]; exact HS.out)
  have hr := HE.out.row
  have hes : E.size = n := HP.out.1.trans hzz
  unfold uC at hr
  rw [hes, e1] at hr
  exact ⟨rfl, hr, HE.out.touch⟩
end Go.Proofs.Ytfpoapmbpbkibaa
