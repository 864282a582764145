/-
  The library's partitionEqual at numbers. (Written by tools/genUS.py.)
-/
import Derived.Test.YtfpoapmbpbkibaaUSortA
import Derived.Sort.LotC
import Derived.Deep.CutBlock
namespace Go.Proofs.Ytfpoapmbpbkibaa
open Go.RowKit Go.Sort
theorem sup_go {q : Int → Bool} {d : Array Int} {i j : Nat} (h : i ≤ j) (hp : q d[i]! = true) : scanUp q d j i = scanUp q d j (i + 1) := by
  conv => lhs; rw [scanUp]
  rw [if_pos (by simp [h, hp])]
theorem sup_end {q : Int → Bool} {d : Array Int} {i j : Nat} (h : ¬ i ≤ j ∨ q d[i]! = false) : scanUp q d j i = i := by
  rw [scanUp, if_neg]
  rcases h with h | h
  · simp [h]
  · simp [h]
theorem sdn_go {q : Int → Bool} {d : Array Int} {i j : Nat} (hj : 1 ≤ j) (h : i ≤ j) (hp : q d[j]! = true) : scanDown q d i j = scanDown q d i (j - 1) := by
  obtain ⟨k, rfl⟩ : ∃ k, j = k + 1 := ⟨j - 1, by omega⟩
  conv => lhs; rw [scanDown]
  rw [if_pos (by simp [h, hp])]
  rfl
theorem sdn_end {q : Int → Bool} {d : Array Int} {i j : Nat} (h : ¬ i ≤ j ∨ q d[j]! = false) : scanDown q d i j = j := by
  cases j with
  | zero => rfl
  | succ k =>
    rw [scanDown, if_neg]
    rcases h with h | h
    · simp [h]
    · simp [h]
set_option maxHeartbeats 8000000 in
set_option maxRecDepth 100000 in
theorem uPartEq_any {B g c a b p n : Nat} {d : Array Int} {W : World} (h : UR B W g c d W) (hn : d.size = n) (hlen : n ≤ 1000000) (hap : a ≤ p) (hpb : p < b) (hb : b ≤ n) :
    Calls Try.prog 87 #[.slice (some ⟨g, 0, none⟩) n c, .int .i64 a, .int .i64 b, .int .i64 p] W (fun e w' => e = .returned (.int .i64 ((partitionEqual ltInt d a b p).1 : Nat)) ∧ UR B W g c (partitionEqual ltInt d a b p).2 w') := by
  have H := Lib.hid h
  have HN := Lib.hid hn
  clear h hn
  go_enter Try.func87, Try.ntmps87
  go_upto_region 1 with fail
  go_cut [8] (fun s8 wx => s8 = .int .i64 0 ∧ Hid (UR B W g c (swp d a p) wx))
  case first =>
    have cx := H.out.cell (i := a) (by rw [HN.out]; omega)
    have fx := H.out.free (a)
    obtain ⟨x, hx⟩ := bang_eq d (a)
    rw [hx] at cx
    have Hx := Lib.hid hx
    clear hx
    have cy := H.out.cell (i := p) (by rw [HN.out]; omega)
    have fy := H.out.free (p)
    obtain ⟨y, hy⟩ := bang_eq d (p)
    rw [hy] at cy
    have Hy := Lib.hid hy
    clear hy
    by_cases he : a = p
    · subst he
      obtain rfl : x = y := Hx.out.symm.trans Hy.out
      go_region
      all_goals go_wp2_with fail
      all_goals go_meet
      all_goals exact ⟨rfl, (H.out.swapped Hx.out Hy.out).drew⟩
    · have hne2 : ¬ (p = a) := fun e => he e.symm
      go_region
      all_goals go_wp2_with fail
      all_goals go_meet
      all_goals exact ⟨rfl, (H.out.swapped Hx.out Hy.out).drew⟩
  case rest =>
    obtain ⟨rfl, HU1⟩ := hcut
    obtain ⟨w1, rfl⟩ : ∃ w : World, w = wc := ⟨_, rfl⟩
    obtain ⟨D1, hD1⟩ : ∃ D, swp d a p = D := ⟨_, rfl⟩
    have hs1 : D1.size = n := by rw [← hD1, size_swp]; exact HN.out
    have hpe : partitionEqual ltInt d a b p = partEqLoop ltInt a (a + 1) (b - 1) D1 := by rw [← hD1]; rfl
    rw [hD1] at HU1
    have HS1 := Lib.hid hs1
    go_upto_block 0 with fail
    obtain ⟨i0, hi0⟩ : ∃ i0 : Nat, (a : Int) + 1 = (i0 : Int) := ⟨a + 1, by omega⟩
    obtain ⟨j0, hj0⟩ : ∃ j0 : Nat, (b : Int) - 1 = (j0 : Int) := ⟨b - 1, by omega⟩
    rw [hi0, hj0]
    have HPE : Hid (partitionEqual ltInt d a b p = partEqLoop ltInt a i0 j0 D1) := by
      rw [hpe, show a + 1 = i0 by omega, show b - 1 = j0 by omega]
      exact (rfl : partEqLoop ltInt a i0 j0 D1 = _)
    clear hD1 hs1 hpe
    have ia : a < i0 := by omega
    have jb : j0 < b := by omega
    have ij : i0 ≤ j0 + 1 := by omega
    clear hi0 hj0
    go_wp2_with fail
    go_loopg [9, 10] (j0 + 1 - i0) (fun k s9 s10 wx => ∃ (i j : Nat) (D : Array Int), s9 = .int .i64 (i : Nat) ∧ s10 = .int .i64 (j : Nat) ∧ j + 1 - i ≤ k ∧ a < i ∧ i ≤ j + 1 ∧ j < b ∧ Hid (D.size = n) ∧ Hid (UR B W g c D wx) ∧ Hid (partitionEqual ltInt d a b p = partEqLoop ltInt a i j D))
    case atStart => exact ⟨i0, j0, D1, rfl, rfl, by omega, by omega, by omega, by omega, HS1, HU1, HPE⟩
    case round =>
      obtain ⟨i3, j3, D, rfl, rfl, hk0, ia3, ij3, jb3, HS, HU, HP⟩ := hrel
      obtain ⟨gz, rfl⟩ : ∃ gz : Nat, gz = gk := ⟨_, rfl⟩
      obtain ⟨wo, rfl⟩ : ∃ wo : World, wo = wr := ⟨_, rfl⟩
      go_upto_block 2 with fail
      go_cut [9] (fun s wx => ∃ e : Nat, s = .int .i64 (e : Nat) ∧ i3 ≤ e ∧ e ≤ j3 + 1 ∧ Hid (scanUp (fun x => !ltInt D[a]! x) D j3 i3 = e) ∧ Hid (e ≤ j3 → (fun x => !ltInt D[a]! x) D[e]! = false) ∧ Hid (UR B W g c D wx))
      case first =>
        go_wp2_with fail
        go_loopg [9] (j3 + 1 - i3) (fun k s wx => ∃ i : Nat, s = .int .i64 (i : Nat) ∧ j3 + 1 - i ≤ k ∧ i3 ≤ i ∧ i ≤ j3 + 1 ∧ Hid (scanUp (fun x => !ltInt D[a]! x) D j3 i3 = scanUp (fun x => !ltInt D[a]! x) D j3 i) ∧ Hid (UR B W g c D wx))
        case atStart => exact ⟨i3, rfl, by omega, by omega, by omega, rfl, HU⟩
        case round =>
          obtain ⟨i, rfl, hk, h1, h2, HQ2, HU2⟩ := hrel
          by_cases hij : i ≤ j3
          · have cxi := HU2.out.cell (i := i) (by rw [HS.out]; omega)
            have fxi := HU2.out.free (i)
            obtain ⟨xi, hxi⟩ := bang_eq D (i)
            rw [hxi] at cxi
            have Hxi := Lib.hid hxi
            clear hxi
            have cxa := HU2.out.cell (i := a) (by rw [HS.out]; omega)
            have fxa := HU2.out.free (a)
            obtain ⟨xa, hxa⟩ := bang_eq D (a)
            rw [hxa] at cxa
            have Hxa := Lib.hid hxa
            clear hxa
            obtain ⟨r, hr⟩ : ∃ r, ltInt xa xi = r := ⟨_, rfl⟩
            have Hr := Lib.hid hr
            clear hr
            have i1 : (i : Int) ≤ (j3 : Int) := by omega
            go_wp2
            go_quiet (first | (go_at_call 76; refine Calls.quiet_of_same (uLess_eq Hr.out _)))
            cases r with
            | false =>
              go_wp2
              go_roundg (j3 + 1 - (i + 1))
              case measure => omega
              case rel => exact ⟨i + 1, by go_num, by omega, by omega, by omega, by rw [HQ2.out]; exact sup_go hij (by simp only [Hxi.out, Hxa.out, Hr.out]; rfl), HU2.out.drewN _⟩
            | true =>
              go_wp2
              go_meet
              exact ⟨i, rfl, by omega, by omega, by rw [HQ2.out]; exact sup_end (.inr (by simp only [Hxi.out, Hxa.out, Hr.out]; rfl)), fun _ => by simp only [Hxi.out, Hxa.out, Hr.out]; rfl, HU2.out.drewN _⟩
          · have i1 : ¬ (i : Int) ≤ (j3 : Int) := by omega
            go_wp2
            go_quiet (fail)
            go_wp2
            go_meet
            exact ⟨i, rfl, by omega, by omega, by rw [HQ2.out]; exact sup_end (.inl hij), fun h => absurd h hij, HU2.out.drewN _⟩
      case rest =>
        obtain ⟨e1, rfl, he11, he12, HQ1, HT1, HU4⟩ := hcut
        obtain ⟨we1, rfl⟩ : ∃ w : World, w = wc := ⟨_, rfl⟩
        go_upto_block 4 with fail
        go_cut [10] (fun s wx => ∃ e : Nat, s = .int .i64 (e : Nat) ∧ e1 ≤ e + 1 ∧ e ≤ j3 ∧ Hid (scanDown (fun x => ltInt D[a]! x) D e1 j3 = e) ∧ Hid (e1 ≤ e → (fun x => ltInt D[a]! x) D[e]! = false) ∧ Hid (UR B W g c D wx))
        case first =>
          go_wp2_with fail
          go_loopg [10] (j3) (fun k s wx => ∃ i : Nat, s = .int .i64 (i : Nat) ∧ i ≤ k ∧ e1 ≤ i + 1 ∧ i ≤ j3 ∧ Hid (scanDown (fun x => ltInt D[a]! x) D e1 j3 = scanDown (fun x => ltInt D[a]! x) D e1 i) ∧ Hid (UR B W g c D wx))
          case atStart => exact ⟨j3, rfl, by omega, by omega, by omega, rfl, HU4⟩
          case round =>
            obtain ⟨i, rfl, hk, h1, h2, HQ2, HU2⟩ := hrel
            by_cases hij : e1 ≤ i
            · have cxi := HU2.out.cell (i := i) (by rw [HS.out]; omega)
              have fxi := HU2.out.free (i)
              obtain ⟨xi, hxi⟩ := bang_eq D (i)
              rw [hxi] at cxi
              have Hxi := Lib.hid hxi
              clear hxi
              have cxa := HU2.out.cell (i := a) (by rw [HS.out]; omega)
              have fxa := HU2.out.free (a)
              obtain ⟨xa, hxa⟩ := bang_eq D (a)
              rw [hxa] at cxa
              have Hxa := Lib.hid hxa
              clear hxa
              obtain ⟨r, hr⟩ : ∃ r, ltInt xa xi = r := ⟨_, rfl⟩
              have Hr := Lib.hid hr
              clear hr
              have i1 : (e1 : Int) ≤ (i : Int) := by omega
              go_wp2
              go_quiet (first | (go_at_call 76; refine Calls.quiet_of_same (uLess_eq Hr.out _)))
              cases r with
              | true =>
                go_wp2
                go_roundg (i - 1)
                case measure => omega
                case rel => exact ⟨i - 1, by congr 1; omega, by omega, by omega, by omega, by rw [HQ2.out]; exact sdn_go (by omega) hij (by simp only [Hxi.out, Hxa.out, Hr.out]), HU2.out.drewN _⟩
              | false =>
                go_wp2
                go_meet
                exact ⟨i, rfl, by omega, by omega, by rw [HQ2.out]; exact sdn_end (.inr (by simp only [Hxi.out, Hxa.out, Hr.out])), fun _ => by simp only [Hxi.out, Hxa.out, Hr.out], HU2.out.drewN _⟩
            · have i1 : ¬ (e1 : Int) ≤ (i : Int) := by omega
              go_wp2
              go_quiet (fail)
              go_wp2
              go_meet
              exact ⟨i, rfl, by omega, by omega, by rw [HQ2.out]; exact sdn_end (.inl hij), fun h => absurd h hij, HU2.out.drewN _⟩
        case rest =>
          obtain ⟨e2, rfl, he21, he22, HQ5, HT5, HU5⟩ := hcut
          obtain ⟨we2, rfl⟩ : ∃ w : World, w = wc := ⟨_, rfl⟩
          have HPQ : Hid (partEqLoop ltInt a i3 j3 D = if e1 > e2 then (e1, D) else partEqLoop ltInt a (e1 + 1) (e2 - 1) (swp D e1 e2)) := by
            rw [partEqLoop_eq, HQ1.out, HQ5.out]
            exact rfl
          by_cases hgt : e1 > e2
          · have i1 : (e1 : Int) > (e2 : Int) := by omega
            have HR : Hid (partitionEqual ltInt d a b p = (e1, D)) := by rw [HP.out, HPQ.out, if_pos hgt]; exact rfl
            go_wp2_with fail
            go_ret
            rw [HR.out]
            exact ⟨rfl, HU5.out⟩
          · have i1 : ¬ (e1 : Int) > (e2 : Int) := by omega
            have hlt : e1 < e2 := by
              rcases Nat.lt_or_eq_of_le (Nat.le_of_not_lt hgt) with z | z
              · exact z
              · have h6 := HT1.out (by omega)
                have h7 := HT5.out (by omega)
                rw [← z] at h7
                simp only at h6 h7
                rw [h7] at h6
                cases h6
            have HR : Hid (partitionEqual ltInt d a b p = partEqLoop ltInt a (e1 + 1) (e2 - 1) (swp D e1 e2)) := by rw [HP.out, HPQ.out, if_neg hgt]; exact rfl
            have cx := HU5.out.cell (i := e1) (by rw [HS.out]; omega)
            have fx := HU5.out.free (e1)
            obtain ⟨x, hx⟩ := bang_eq D (e1)
            rw [hx] at cx
            have Hx := Lib.hid hx
            clear hx
            have cy := HU5.out.cell (i := e2) (by rw [HS.out]; omega)
            have fy := HU5.out.free (e2)
            obtain ⟨y, hy⟩ := bang_eq D (e2)
            rw [hy] at cy
            have Hy := Lib.hid hy
            clear hy
            go_wp2_with fail
            go_region
            all_goals go_wp2_with fail
            go_roundg (gz - 1)
            case measure => omega
            case rel => exact ⟨e1 + 1, e2 - 1, swp D e1 e2, by go_num, by congr 1; omega, by omega, by omega, by omega, by omega, by rw [size_swp]; exact HS.out, (HU5.out.swapped Hx.out Hy.out).drew, HR⟩
end Go.Proofs.Ytfpoapmbpbkibaa
