/-
  The library's partition at numbers. (Written by tools/genUS.py.)
-/
import Derived.Test.YtfpoapmbpbkibaaUSortPEq
namespace Go.Proofs.Ytfpoapmbpbkibaa
open Go.RowKit Go.Sort
/-- where the pivot lies then, and the row -/
def PartPost (B g c : Nat) (d : Array Int) (W : World) (a b p : Nat) (e : Ending) (w' : World) : Prop :=
  ∃ (m : Nat) (t : Bool), e = .returned (.tuple #[.int .i64 m, .bool t]) ∧ m = (partition ltInt d a b p).1 ∧ UR B W g c (partition ltInt d a b p).2.2 w'
set_option maxHeartbeats 8000000 in
set_option maxRecDepth 100000 in
theorem uPart_any {B g c a b p n : Nat} {d : Array Int} {W : World} (h : UR B W g c d W) (hn : d.size = n) (hlen : n ≤ 1000000) (hap : a ≤ p) (hpb : p < b) (hb : b ≤ n) :
    Calls Try.prog 88 #[.slice (some ⟨g, 0, none⟩) n c, .int .i64 a, .int .i64 b, .int .i64 p] W (PartPost B g c d W a b p) := by
  have H := Lib.hid h
  have HN := Lib.hid hn
  clear h hn
  have hpf := partition_fst ltInt d a b p
  have hpa := partition_arr ltInt d a b p
  go_enter Try.func88, Try.ntmps88
  go_upto_region 1 with fail
  go_cut [8] (fun s8 wx => s8 = .int .i64 0 ∧ Hid (UR B W g c (swp d a p) wx))
  case first =>
    have cx := H.out.cell (i := a) (by rw [HN.out]; omega)
    have fx := H.out.free (a)
    obtain ⟨x, hx⟩ := bang_eq d (a)
    rw [hx] at cx
    have Hx := Lib.hid hx
    clear hx
    have cy := H.out.cell (i := p) (by rw [HN.out]; omega)
    have fy := H.out.free (p)
    obtain ⟨y, hy⟩ := bang_eq d (p)
    rw [hy] at cy
    have Hy := Lib.hid hy
    clear hy
    by_cases he : a = p
    · subst he
      obtain rfl : x = y := Hx.out.symm.trans Hy.out
      go_region
      all_goals go_wp2_with fail
      all_goals go_meet
      all_goals exact ⟨rfl, (H.out.swapped Hx.out Hy.out).drew⟩
    · have hne2 : ¬ (p = a) := fun e => he e.symm
      go_region
      all_goals go_wp2_with fail
      all_goals go_meet
      all_goals exact ⟨rfl, (H.out.swapped Hx.out Hy.out).drew⟩
  case rest =>
    obtain ⟨rfl, HU1⟩ := hcut
    obtain ⟨w1, rfl⟩ : ∃ w : World, w = wc := ⟨_, rfl⟩
    obtain ⟨D, hD1⟩ : ∃ D, swp d a p = D := ⟨_, rfl⟩
    have hs1 : D.size = n := by rw [← hD1, size_swp]; exact HN.out
    rw [hD1] at HU1 hpf hpa
    have HS := Lib.hid hs1
    go_upto_block 0 with fail
    obtain ⟨i0, hi0⟩ : ∃ i0 : Nat, (a : Int) + 1 = (i0 : Int) := ⟨a + 1, by omega⟩
    obtain ⟨j0, hj0⟩ : ∃ j0 : Nat, (b : Int) - 1 = (j0 : Int) := ⟨b - 1, by omega⟩
    rw [hi0, hj0]
    rw [show a + 1 = i0 by omega, show b - 1 = j0 by omega] at hpf hpa
    have HPF : Hid ((partition ltInt d a b p).1 = (partLoop ltInt a i0 j0 D).1) := hpf
    have HPA : Hid ((partition ltInt d a b p).2.2 = swp (partLoop ltInt a i0 j0 D).2 (partLoop ltInt a i0 j0 D).1 a) := hpa
    have ia : a < i0 := by omega
    have jb : j0 < b := by omega
    have ij : i0 ≤ j0 + 1 := by omega
    clear hi0 hj0 hD1 hs1 hpf hpa
    go_upto_block 0 with fail
    go_cut [10] (fun s wx => ∃ e : Nat, s = .int .i64 (e : Nat) ∧ i0 ≤ e ∧ e ≤ j0 + 1 ∧ Hid (scanUp (fun x => ltInt x D[a]!) D j0 i0 = e) ∧ Hid (e ≤ j0 → (fun x => ltInt x D[a]!) D[e]! = false) ∧ Hid (UR B W g c D wx))
    case first =>
      go_wp2_with fail
      go_loopg [10] (j0 + 1 - i0) (fun k s wx => ∃ i : Nat, s = .int .i64 (i : Nat) ∧ j0 + 1 - i ≤ k ∧ i0 ≤ i ∧ i ≤ j0 + 1 ∧ Hid (scanUp (fun x => ltInt x D[a]!) D j0 i0 = scanUp (fun x => ltInt x D[a]!) D j0 i) ∧ Hid (UR B W g c D wx))
      case atStart => exact ⟨i0, rfl, by omega, by omega, by omega, rfl, HU1⟩
      case round =>
        obtain ⟨i, rfl, hk, h1, h2, HQ2, HU2⟩ := hrel
        by_cases hij : i ≤ j0
        · have cxi := HU2.out.cell (i := i) (by rw [HS.out]; omega)
          have fxi := HU2.out.free (i)
          obtain ⟨xi, hxi⟩ := bang_eq D (i)
          rw [hxi] at cxi
          have Hxi := Lib.hid hxi
          clear hxi
          have cxa := HU2.out.cell (i := a) (by rw [HS.out]; omega)
          have fxa := HU2.out.free (a)
          obtain ⟨xa, hxa⟩ := bang_eq D (a)
          rw [hxa] at cxa
          have Hxa := Lib.hid hxa
          clear hxa
          obtain ⟨r, hr⟩ : ∃ r, ltInt xi xa = r := ⟨_, rfl⟩
          have Hr := Lib.hid hr
          clear hr
          have i1 : (i : Int) ≤ (j0 : Int) := by omega
          go_wp2
          go_quiet (first | (go_at_call 76; refine Calls.quiet_of_same (uLess_eq Hr.out _)))
          cases r with
          | true =>
            go_wp2
            go_roundg (j0 + 1 - (i + 1))
            case measure => omega
            case rel => exact ⟨i + 1, by go_num, by omega, by omega, by omega, by rw [HQ2.out]; exact sup_go hij (by simp only [Hxi.out, Hxa.out, Hr.out]), HU2.out.drewN _⟩
          | false =>
            go_wp2
            go_meet
            exact ⟨i, rfl, by omega, by omega, by rw [HQ2.out]; exact sup_end (.inr (by simp only [Hxi.out, Hxa.out, Hr.out])), fun _ => by simp only [Hxi.out, Hxa.out, Hr.out], HU2.out.drewN _⟩
        · have i1 : ¬ (i : Int) ≤ (j0 : Int) := by omega
          go_wp2
          go_quiet (fail)
          go_wp2
          go_meet
          exact ⟨i, rfl, by omega, by omega, by rw [HQ2.out]; exact sup_end (.inl hij), fun h => absurd h hij, HU2.out.drewN _⟩
    case rest =>
      obtain ⟨e1, rfl, he11, he12, HQ1, HT1, HU4⟩ := hcut
      obtain ⟨we1, rfl⟩ : ∃ w : World, w = wc := ⟨_, rfl⟩
      go_upto_block 2 with fail
      go_cut [11] (fun s wx => ∃ e : Nat, s = .int .i64 (e : Nat) ∧ e1 ≤ e + 1 ∧ e ≤ j0 ∧ Hid (scanDown (fun x => !ltInt x D[a]!) D e1 j0 = e) ∧ Hid (e1 ≤ e → (fun x => !ltInt x D[a]!) D[e]! = false) ∧ Hid (UR B W g c D wx))
      case first =>
        go_wp2_with fail
        go_loopg [11] (j0) (fun k s wx => ∃ i : Nat, s = .int .i64 (i : Nat) ∧ i ≤ k ∧ e1 ≤ i + 1 ∧ i ≤ j0 ∧ Hid (scanDown (fun x => !ltInt x D[a]!) D e1 j0 = scanDown (fun x => !ltInt x D[a]!) D e1 i) ∧ Hid (UR B W g c D wx))
        case atStart => exact ⟨j0, rfl, by omega, by omega, by omega, rfl, HU4⟩
        case round =>
          obtain ⟨i, rfl, hk, h1, h2, HQ2, HU2⟩ := hrel
          by_cases hij : e1 ≤ i
          · have cxi := HU2.out.cell (i := i) (by rw [HS.out]; omega)
            have fxi := HU2.out.free (i)
            obtain ⟨xi, hxi⟩ := bang_eq D (i)
            rw [hxi] at cxi
            have Hxi := Lib.hid hxi
            clear hxi
            have cxa := HU2.out.cell (i := a) (by rw [HS.out]; omega)
            have fxa := HU2.out.free (a)
            obtain ⟨xa, hxa⟩ := bang_eq D (a)
            rw [hxa] at cxa
            have Hxa := Lib.hid hxa
            clear hxa
            obtain ⟨r, hr⟩ : ∃ r, ltInt xi xa = r := ⟨_, rfl⟩
            have Hr := Lib.hid hr
            clear hr
            have i1 : (e1 : Int) ≤ (i : Int) := by omega
            go_wp2
            go_quiet (first | (go_at_call 76; refine Calls.quiet_of_same (uLess_eq Hr.out _)))
            cases r with
            | false =>
              go_wp2
              go_roundg (i - 1)
              case measure => omega
              case rel => exact ⟨i - 1, by congr 1; omega, by omega, by omega, by omega, by rw [HQ2.out]; exact sdn_go (by omega) hij (by simp only [Hxi.out, Hxa.out, Hr.out]; rfl), HU2.out.drewN _⟩
            | true =>
              go_wp2
              go_meet
              exact ⟨i, rfl, by omega, by omega, by rw [HQ2.out]; exact sdn_end (.inr (by simp only [Hxi.out, Hxa.out, Hr.out]; rfl)), fun _ => by simp only [Hxi.out, Hxa.out, Hr.out]; rfl, HU2.out.drewN _⟩
          · have i1 : ¬ (e1 : Int) ≤ (i : Int) := by omega
            go_wp2
            go_quiet (fail)
            go_wp2
            go_meet
            exact ⟨i, rfl, by omega, by omega, by rw [HQ2.out]; exact sdn_end (.inl hij), fun h => absurd h hij, HU2.out.drewN _⟩
      case rest =>
        obtain ⟨e2, rfl, he21, he22, HQ5, HT5, HU5⟩ := hcut
        obtain ⟨we2, rfl⟩ : ∃ w : World, w = wc := ⟨_, rfl⟩
        have HPQ : Hid (partLoop ltInt a i0 j0 D = if e1 > e2 then (e2, D) else partLoop ltInt a (e1 + 1) (e2 - 1) (swp D e1 e2)) := by
          rw [partLoop_eq, HQ1.out, HQ5.out]
          exact rfl
        by_cases hgt : e1 > e2
        · have i1 : (e1 : Int) > (e2 : Int) := by omega
          have HR : Hid (partLoop ltInt a i0 j0 D = (e2, D)) := by rw [HPQ.out, if_pos hgt]; exact rfl
          have cx := HU5.out.cell (i := e2) (by rw [HS.out]; omega)
          have fx := HU5.out.free (e2)
          obtain ⟨x, hx⟩ := bang_eq D (e2)
          rw [hx] at cx
          have Hx := Lib.hid hx
          clear hx
          have cy := HU5.out.cell (i := a) (by rw [HS.out]; omega)
          have fy := HU5.out.free (a)
          obtain ⟨y, hy⟩ := bang_eq D (a)
          rw [hy] at cy
          have Hy := Lib.hid hy
          clear hy
          by_cases he : e2 = a
          · subst he
            obtain rfl : x = y := Hx.out.symm.trans Hy.out
            go_wp2_with fail
            go_region
            all_goals go_wp2_with fail
            go_ret2
            exact ⟨e2, true, rfl, by rw [HPF.out, HR.out], by rw [HPA.out, HR.out]; exact (HU5.out.swapped (i := e2) (j := e2) Hx.out Hy.out).drew⟩
          · have hne2 : ¬ (a = e2) := fun e => he e.symm
            go_wp2_with fail
            go_region
            all_goals go_wp2_with fail
            go_ret2
            exact ⟨e2, true, rfl, by rw [HPF.out, HR.out], by rw [HPA.out, HR.out]; exact (HU5.out.swapped (i := e2) (j := a) Hx.out Hy.out).drew⟩
        · have i1 : ¬ (e1 : Int) > (e2 : Int) := by omega
          have hlt : e1 < e2 := by
            rcases Nat.lt_or_eq_of_le (Nat.le_of_not_lt hgt) with z | z
            · exact z
            · have h6 := HT1.out (by omega)
              have h7 := HT5.out (by omega)
              rw [← z] at h7
              simp only at h6 h7
              rw [h6] at h7
              cases h7
          have HR : Hid (partLoop ltInt a i0 j0 D = partLoop ltInt a (e1 + 1) (e2 - 1) (swp D e1 e2)) := by rw [HPQ.out, if_neg hgt]; exact rfl
          have cx := HU5.out.cell (i := e1) (by rw [HS.out]; omega)
          have fx := HU5.out.free (e1)
          obtain ⟨x, hx⟩ := bang_eq D (e1)
          rw [hx] at cx
          have Hx := Lib.hid hx
          clear hx
          have cy := HU5.out.cell (i := e2) (by rw [HS.out]; omega)
          have fy := HU5.out.free (e2)
          obtain ⟨y, hy⟩ := bang_eq D (e2)
          rw [hy] at cy
          have Hy := Lib.hid hy
          clear hy
          go_wp2_with fail
          go_region
          all_goals go_wp2_with fail
          go_loopg [10, 11] (b - a) (fun k s10 s11 wx => ∃ (i j : Nat) (E : Array Int), s10 = .int .i64 (i : Nat) ∧ s11 = .int .i64 (j : Nat) ∧ j + 1 - i ≤ k ∧ a < i ∧ i ≤ j + 1 ∧ j < b ∧ Hid (E.size = n) ∧ Hid (UR B W g c E wx) ∧ Hid (partLoop ltInt a i0 j0 D = partLoop ltInt a i j E))
          case atStart => exact ⟨e1 + 1, e2 - 1, swp D e1 e2, by go_num, by congr 1; omega, by omega, by omega, by omega, by omega, by rw [size_swp]; exact HS.out, (HU5.out.swapped Hx.out Hy.out).drew, HR⟩
          case round =>
            obtain ⟨i3, j3, E, rfl, rfl, hk0, ia3, ij3, jb3, HSE, HUE, HP⟩ := hrel
            obtain ⟨gz, rfl⟩ : ∃ gz : Nat, gz = gk := ⟨_, rfl⟩
            obtain ⟨wo, rfl⟩ : ∃ wo : World, wo = wr := ⟨_, rfl⟩
            go_upto_block 6 with fail
            go_cut [10] (fun s wx => ∃ e : Nat, s = .int .i64 (e : Nat) ∧ i3 ≤ e ∧ e ≤ j3 + 1 ∧ Hid (scanUp (fun x => ltInt x E[a]!) E j3 i3 = e) ∧ Hid (e ≤ j3 → (fun x => ltInt x E[a]!) E[e]! = false) ∧ Hid (UR B W g c E wx))
            case first =>
              go_wp2_with fail
              go_loopg [10] (j3 + 1 - i3) (fun k s wx => ∃ i : Nat, s = .int .i64 (i : Nat) ∧ j3 + 1 - i ≤ k ∧ i3 ≤ i ∧ i ≤ j3 + 1 ∧ Hid (scanUp (fun x => ltInt x E[a]!) E j3 i3 = scanUp (fun x => ltInt x E[a]!) E j3 i) ∧ Hid (UR B W g c E wx))
              case atStart => exact ⟨i3, rfl, by omega, by omega, by omega, rfl, HUE⟩
              case round =>
                obtain ⟨i, rfl, hk, h1, h2, HQ2, HU2⟩ := hrel
                by_cases hij : i ≤ j3
                · have cxi := HU2.out.cell (i := i) (by rw [HSE.out]; omega)
                  have fxi := HU2.out.free (i)
                  obtain ⟨xi, hxi⟩ := bang_eq E (i)
                  rw [hxi] at cxi
                  have Hxi := Lib.hid hxi
                  clear hxi
                  have cxa := HU2.out.cell (i := a) (by rw [HSE.out]; omega)
                  have fxa := HU2.out.free (a)
                  obtain ⟨xa, hxa⟩ := bang_eq E (a)
                  rw [hxa] at cxa
                  have Hxa := Lib.hid hxa
                  clear hxa
                  obtain ⟨r, hr⟩ : ∃ r, ltInt xi xa = r := ⟨_, rfl⟩
                  have Hr := Lib.hid hr
                  clear hr
                  have i1 : (i : Int) ≤ (j3 : Int) := by omega
                  go_wp2
                  go_quiet (first | (go_at_call 76; refine Calls.quiet_of_same (uLess_eq Hr.out _)))
                  cases r with
                  | true =>
                    go_wp2
                    go_roundg (j3 + 1 - (i + 1))
                    case measure => omega
                    case rel => exact ⟨i + 1, by go_num, by omega, by omega, by omega, by rw [HQ2.out]; exact sup_go hij (by simp only [Hxi.out, Hxa.out, Hr.out]), HU2.out.drewN _⟩
                  | false =>
                    go_wp2
                    go_meet
                    exact ⟨i, rfl, by omega, by omega, by rw [HQ2.out]; exact sup_end (.inr (by simp only [Hxi.out, Hxa.out, Hr.out])), fun _ => by simp only [Hxi.out, Hxa.out, Hr.out], HU2.out.drewN _⟩
                · have i1 : ¬ (i : Int) ≤ (j3 : Int) := by omega
                  go_wp2
                  go_quiet (fail)
                  go_wp2
                  go_meet
                  exact ⟨i, rfl, by omega, by omega, by rw [HQ2.out]; exact sup_end (.inl hij), fun h => absurd h hij, HU2.out.drewN _⟩
            case rest =>
              obtain ⟨f1, rfl, hf11, hf12, HQ6, HT6, HU6⟩ := hcut
              obtain ⟨wf1, rfl⟩ : ∃ w : World, w = wc := ⟨_, rfl⟩
              go_upto_block 8 with fail
              go_cut [11] (fun s wx => ∃ e : Nat, s = .int .i64 (e : Nat) ∧ f1 ≤ e + 1 ∧ e ≤ j3 ∧ Hid (scanDown (fun x => !ltInt x E[a]!) E f1 j3 = e) ∧ Hid (f1 ≤ e → (fun x => !ltInt x E[a]!) E[e]! = false) ∧ Hid (UR B W g c E wx))
              case first =>
                go_wp2_with fail
                go_loopg [11] (j3) (fun k s wx => ∃ i : Nat, s = .int .i64 (i : Nat) ∧ i ≤ k ∧ f1 ≤ i + 1 ∧ i ≤ j3 ∧ Hid (scanDown (fun x => !ltInt x E[a]!) E f1 j3 = scanDown (fun x => !ltInt x E[a]!) E f1 i) ∧ Hid (UR B W g c E wx))
                case atStart => exact ⟨j3, rfl, by omega, by omega, by omega, rfl, HU6⟩
                case round =>
                  obtain ⟨i, rfl, hk, h1, h2, HQ2, HU2⟩ := hrel
                  by_cases hij : f1 ≤ i
                  · have cxi := HU2.out.cell (i := i) (by rw [HSE.out]; omega)
                    have fxi := HU2.out.free (i)
                    obtain ⟨xi, hxi⟩ := bang_eq E (i)
                    rw [hxi] at cxi
                    have Hxi := Lib.hid hxi
                    clear hxi
                    have cxa := HU2.out.cell (i := a) (by rw [HSE.out]; omega)
                    have fxa := HU2.out.free (a)
                    obtain ⟨xa, hxa⟩ := bang_eq E (a)
                    rw [hxa] at cxa
                    have Hxa := Lib.hid hxa
                    clear hxa
                    obtain ⟨r, hr⟩ : ∃ r, ltInt xi xa = r := ⟨_, rfl⟩
                    have Hr := Lib.hid hr
                    clear hr
                    have i1 : (f1 : Int) ≤ (i : Int) := by omega
                    go_wp2
                    go_quiet (first | (go_at_call 76; refine Calls.quiet_of_same (uLess_eq Hr.out _)))
                    cases r with
                    | false =>
                      go_wp2
                      go_roundg (i - 1)
                      case measure => omega
                      case rel => exact ⟨i - 1, by congr 1; omega, by omega, by omega, by omega, by rw [HQ2.out]; exact sdn_go (by omega) hij (by simp only [Hxi.out, Hxa.out, Hr.out]; rfl), HU2.out.drewN _⟩
                    | true =>
                      go_wp2
                      go_meet
                      exact ⟨i, rfl, by omega, by omega, by rw [HQ2.out]; exact sdn_end (.inr (by simp only [Hxi.out, Hxa.out, Hr.out]; rfl)), fun _ => by simp only [Hxi.out, Hxa.out, Hr.out]; rfl, HU2.out.drewN _⟩
                  · have i1 : ¬ (f1 : Int) ≤ (i : Int) := by omega
                    go_wp2
                    go_quiet (fail)
                    go_wp2
                    go_meet
                    exact ⟨i, rfl, by omega, by omega, by rw [HQ2.out]; exact sdn_end (.inl hij), fun h => absurd h hij, HU2.out.drewN _⟩
              case rest =>
                obtain ⟨f2, rfl, hf21, hf22, HQ7, HT7, HU7⟩ := hcut
                obtain ⟨wf2, rfl⟩ : ∃ w : World, w = wc := ⟨_, rfl⟩
                have HPQ2 : Hid (partLoop ltInt a i3 j3 E = if f1 > f2 then (f2, E) else partLoop ltInt a (f1 + 1) (f2 - 1) (swp E f1 f2)) := by
                  rw [partLoop_eq, HQ6.out, HQ7.out]
                  exact rfl
                by_cases hgt2 : f1 > f2
                · have i2 : (f1 : Int) > (f2 : Int) := by omega
                  have HR2 : Hid (partLoop ltInt a i0 j0 D = (f2, E)) := by rw [HP.out, HPQ2.out, if_pos hgt2]; exact rfl
                  have cx2 := HU7.out.cell (i := f2) (by rw [HSE.out]; omega)
                  have fx2 := HU7.out.free (f2)
                  obtain ⟨x2, hx2⟩ := bang_eq E (f2)
                  rw [hx2] at cx2
                  have Hx2 := Lib.hid hx2
                  clear hx2
                  have cy2 := HU7.out.cell (i := a) (by rw [HSE.out]; omega)
                  have fy2 := HU7.out.free (a)
                  obtain ⟨y2, hy2⟩ := bang_eq E (a)
                  rw [hy2] at cy2
                  have Hy2 := Lib.hid hy2
                  clear hy2
                  by_cases he : f2 = a
                  · subst he
                    obtain rfl : x2 = y2 := Hx2.out.symm.trans Hy2.out
                    go_wp2_with fail
                    go_region
                    all_goals go_wp2_with fail
                    go_ret2
                    exact ⟨f2, false, rfl, by rw [HPF.out, HR2.out], by rw [HPA.out, HR2.out]; exact (HU7.out.swapped (i := f2) (j := f2) Hx2.out Hy2.out).drew⟩
                  · have hne2 : ¬ (a = f2) := fun e => he e.symm
                    go_wp2_with fail
                    go_region
                    all_goals go_wp2_with fail
                    go_ret2
                    exact ⟨f2, false, rfl, by rw [HPF.out, HR2.out], by rw [HPA.out, HR2.out]; exact (HU7.out.swapped (i := f2) (j := a) Hx2.out Hy2.out).drew⟩
                · have i2 : ¬ (f1 : Int) > (f2 : Int) := by omega
                  have hlt2 : f1 < f2 := by
                    rcases Nat.lt_or_eq_of_le (Nat.le_of_not_lt hgt2) with z | z
                    · exact z
                    · have h6 := HT6.out (by omega)
                      have h7 := HT7.out (by omega)
                      rw [← z] at h7
                      simp only at h6 h7
                      rw [h6] at h7
                      cases h7
                  have HR2 : Hid (partLoop ltInt a i0 j0 D = partLoop ltInt a (f1 + 1) (f2 - 1) (swp E f1 f2)) := by rw [HP.out, HPQ2.out, if_neg hgt2]; exact rfl
                  have cx2 := HU7.out.cell (i := f1) (by rw [HSE.out]; omega)
                  have fx2 := HU7.out.free (f1)
                  obtain ⟨x2, hx2⟩ := bang_eq E (f1)
                  rw [hx2] at cx2
                  have Hx2 := Lib.hid hx2
                  clear hx2
                  have cy2 := HU7.out.cell (i := f2) (by rw [HSE.out]; omega)
                  have fy2 := HU7.out.free (f2)
                  obtain ⟨y2, hy2⟩ := bang_eq E (f2)
                  rw [hy2] at cy2
                  have Hy2 := Lib.hid hy2
                  clear hy2
                  go_wp2_with fail
                  go_region
                  all_goals go_wp2_with fail
                  go_roundg (gz - 1)
                  case measure => omega
                  case rel => exact ⟨f1 + 1, f2 - 1, swp E f1 f2, by go_num, by congr 1; omega, by omega, by omega, by omega, by omega, by rw [size_swp]; exact HSE.out, (HU7.out.swapped Hx2.out Hy2.out).drew, HR2⟩
end Go.Proofs.Ytfpoapmbpbkibaa
