/-
  The library's partialInsertionSort at numbers. (Written by tools/genUS.py.)
-/
import Derived.Test.YtfpoapmbpbkibaaUSortA
import Derived.Deep.CutBlock
namespace Go.Proofs.Ytfpoapmbpbkibaa
open Go.RowKit Go.Sort
theorem size_shiftDown (j : Nat) (d : Array Int) : (shiftDown ltInt j d).size = d.size := by
  fun_induction shiftDown ltInt j d <;> simp_all [size_swp]
theorem size_shiftUp (b j : Nat) (d : Array Int) : (shiftUp ltInt b j d).size = d.size := by
  fun_induction shiftUp ltInt b j d <;> simp_all [size_swp]
theorem ss_go {d : Array Int} {b i : Nat} (h : i < b) (hl : ltInt d[i]! d[i - 1]! = false) : scanSorted ltInt d b i = scanSorted ltInt d b (i + 1) := by
  conv => lhs; rw [scanSorted]
  rw [if_pos (by simp [h, hl])]
theorem ss_end {d : Array Int} {b i : Nat} (h : ¬ i < b ∨ ltInt d[i]! d[i - 1]! = true) : scanSorted ltInt d b i = i := by
  rw [scanSorted, if_neg]
  rcases h with h | h
  · simp [h]
  · simp [h]
theorem sd_go {d : Array Int} {j : Nat} (h : 1 ≤ j) (hl : ltInt d[j]! d[j - 1]! = true) : shiftDown ltInt j d = shiftDown ltInt (j - 1) (swp d j (j - 1)) := by
  obtain ⟨k, rfl⟩ : ∃ k, j = k + 1 := ⟨j - 1, by omega⟩
  simp only [Nat.add_sub_cancel] at hl ⊢
  rw [shiftDown, hl]
  rfl
theorem sd_end {d : Array Int} {j : Nat} (h : j = 0 ∨ ltInt d[j]! d[j - 1]! = false) : shiftDown ltInt j d = d := by
  cases j with
  | zero => rfl
  | succ k =>
    rcases h with h | h
    · omega
    · simp only [Nat.add_sub_cancel] at h
      rw [shiftDown, h]
      rfl
theorem su_go {d : Array Int} {b j : Nat} (h : j < b) (hl : ltInt d[j]! d[j - 1]! = true) : shiftUp ltInt b j d = shiftUp ltInt b (j + 1) (swp d j (j - 1)) := by
  conv => lhs; rw [shiftUp]
  rw [if_pos h, hl]
  rfl
theorem su_end {d : Array Int} {b j : Nat} (h : ¬ j < b ∨ ltInt d[j]! d[j - 1]! = false) : shiftUp ltInt b j d = d := by
  rw [shiftUp]
  by_cases z : j < b
  · rcases h with h | h
    · exact absurd z h
    · rw [if_pos z, h]
      rfl
  · rw [if_neg z]
def PartInsPost (B g c : Nat) (d : Array Int) (W : World) (a b : Nat) (e : Ending) (w' : World) : Prop :=
  ∃ t : Bool, e = .returned (.bool t) ∧ t = (partialInsertionSort ltInt d a b).2 ∧ UR B W g c (partialInsertionSort ltInt d a b).1 w'
set_option maxHeartbeats 8000000 in
set_option maxRecDepth 100000 in
theorem uPartIns_any {B g c a b n : Nat} {d : Array Int} {W : World} (h : UR B W g c d W) (hn : d.size = n) (hlen : n ≤ 1000000) (hab : a < b) (hb : b ≤ n) :
    Calls Try.prog 86 #[.slice (some ⟨g, 0, none⟩) n c, .int .i64 a, .int .i64 b] W (PartInsPost B g c d W a b) := by
  have H := Lib.hid h
  have HN := Lib.hid hn
  clear h hn
  go_enter Try.func86, Try.ntmps86
  go_wp2_with fail
  go_loopg [7, 8] 5 (fun k s7 s8 wx => ∃ (i j : Nat) (D : Array Int), s7 = .int .i64 (i : Nat) ∧ s8 = .int .i64 (j : Nat) ∧ j + k = 5 ∧ a < i ∧ i ≤ b ∧ Hid (D.size = n) ∧ Hid (UR B W g c D wx) ∧ Hid (partialInsertionSort ltInt d a b = partialIns ltInt a b k i D))
  case atStart => exact ⟨a + 1, 0, d, by go_num, rfl, by omega, by omega, by omega, HN.out, H.out, rfl⟩
  case round =>
    obtain ⟨i3, j3, D, rfl, rfl, hk0, ia3, ib3, HS, HU, HP⟩ := hrel
    cases gk with
    | zero =>
      have jj : ¬ (j3 : Int) < 5 := by omega
      go_wp2_with fail
      go_ret
      exact ⟨false, rfl, by rw [HP.out]; rfl, by rw [HP.out]; exact HU.out⟩
    | succ gz =>
      obtain ⟨wo, rfl⟩ : ∃ wo : World, wo = wr := ⟨_, rfl⟩
      have jj : (j3 : Int) < 5 := by omega
      go_upto_block 2 with fail
      go_cut [7] (fun s wx => ∃ e : Nat, s = .int .i64 (e : Nat) ∧ a < e ∧ e ≤ b ∧ Hid (scanSorted ltInt D b i3 = e) ∧ Hid (UR B W g c D wx))
      case first =>
        go_wp2_with fail
        go_loopg [7] (b - i3) (fun k s wx => ∃ i : Nat, s = .int .i64 (i : Nat) ∧ b - i ≤ k ∧ a < i ∧ i ≤ b ∧ Hid (scanSorted ltInt D b i3 = scanSorted ltInt D b i) ∧ Hid (UR B W g c D wx))
        case atStart => exact ⟨i3, rfl, by omega, by omega, by omega, rfl, HU⟩
        case round =>
          obtain ⟨i, rfl, hk, h1, h2, HQ2, HU2⟩ := hrel
          by_cases hij : i < b
          · have cxi := HU2.out.cell (i := i) (by rw [HS.out]; omega)
            have fxi := HU2.out.free (i)
            obtain ⟨xi, hxi⟩ := bang_eq D (i)
            rw [hxi] at cxi
            have Hxi := Lib.hid hxi
            clear hxi
            have cxa := HU2.out.cell (i := i - 1) (by rw [HS.out]; omega)
            have fxa := HU2.out.free (i - 1)
            obtain ⟨xa, hxa⟩ := bang_eq D (i - 1)
            rw [hxa] at cxa
            have Hxa := Lib.hid hxa
            clear hxa
            obtain ⟨r, hr⟩ : ∃ r, ltInt xi xa = r := ⟨_, rfl⟩
            have Hr := Lib.hid hr
            clear hr
            have i1 : (i : Int) < (b : Int) := by omega
            go_wp2
            go_quiet (first | (go_at_call 76; refine Calls.quiet_of_same (uLess_eq Hr.out _)))
            cases r with
            | false =>
              go_wp2
              go_roundg (b - (i + 1))
              case measure => omega
              case rel => exact ⟨i + 1, by go_num, by omega, by omega, by omega, by rw [HQ2.out]; exact ss_go hij (by rw [Hxi.out, Hxa.out]; exact Hr.out), HU2.out.drewN _⟩
            | true =>
              go_wp2
              go_meet
              exact ⟨i, rfl, by omega, by omega, by rw [HQ2.out]; exact ss_end (.inr (by rw [Hxi.out, Hxa.out]; exact Hr.out)), HU2.out.drewN _⟩
          · have i1 : ¬ (i : Int) < (b : Int) := by omega
            go_wp2
            go_quiet (fail)
            go_wp2
            go_meet
            exact ⟨i, rfl, by omega, by omega, by rw [HQ2.out]; exact ss_end (.inl hij), HU2.out.drewN _⟩
      case rest =>
        obtain ⟨e1, rfl, he1, he2, HQ1, HU1⟩ := hcut
        obtain ⟨w1, rfl⟩ : ∃ w : World, w = wc := ⟨_, rfl⟩
        have HPQ : Hid (partialInsertionSort ltInt d a b = if e1 = b then (D, true) else if b - a < 50 then (D, false) else partialIns ltInt a b gz e1 (fixUp ltInt b e1 (fixDown ltInt a e1 (swp D e1 (e1 - 1))))) := by
          rw [HP.out, partialIns_succ, HQ1.out]
          exact rfl
        by_cases heb : e1 = b
        · subst heb
          have HR : Hid (partialInsertionSort ltInt d a e1 = (D, true)) := by rw [HPQ.out, if_pos rfl]; exact rfl
          go_wp2_with fail
          go_ret
          exact ⟨true, rfl, by rw [HR.out], by rw [HR.out]; exact HU1.out⟩
        · have n1 : ((e1 : Int) == (b : Int)) = false := by rw [beq_eq_false_iff_ne]; omega
          by_cases h50 : b - a < 50
          · have HR : Hid (partialInsertionSort ltInt d a b = (D, false)) := by rw [HPQ.out, if_neg heb, if_pos h50]; exact rfl
            have i5 : (b : Int) - (a : Int) < 50 := by omega
            go_wp2_with fail
            go_ret
            exact ⟨false, rfl, by rw [HR.out], by rw [HR.out]; exact HU1.out⟩
          · have i5 : ¬ (b : Int) - (a : Int) < 50 := by omega
            have HR : Hid (partialInsertionSort ltInt d a b = partialIns ltInt a b gz e1 (fixUp ltInt b e1 (fixDown ltInt a e1 (swp D e1 (e1 - 1))))) := by rw [HPQ.out, if_neg heb, if_neg h50]; exact rfl
            have cx := HU1.out.cell (i := e1) (by rw [HS.out]; omega)
            have fx := HU1.out.free (e1)
            obtain ⟨x, hx⟩ := bang_eq D (e1)
            rw [hx] at cx
            have Hx := Lib.hid hx
            clear hx
            have cy := HU1.out.cell (i := e1 - 1) (by rw [HS.out]; omega)
            have fy := HU1.out.free (e1 - 1)
            obtain ⟨y, hy⟩ := bang_eq D (e1 - 1)
            rw [hy] at cy
            have Hy := Lib.hid hy
            clear hy
            have HSW : Hid (UR B W g c (swp D e1 (e1 - 1)) (((w1.setCell ⟨g, e1, none⟩ (.int .u64 y)).setCell ⟨g, e1 - 1, none⟩ (.int .u64 x)).drew)) := (HU1.out.swapped Hx.out Hy.out).drew
            go_wp2_with fail
            go_region
            obtain ⟨w2, hw2⟩ : ∃ w, ((w1.setCell ⟨g, e1, none⟩ (.int .u64 y)).setCell ⟨g, e1 - 1, none⟩ (.int .u64 x)).drew = w := ⟨_, rfl⟩
            rw [hw2] at HSW
            rw [hw2]
            obtain ⟨E, hE⟩ : ∃ E, swp D e1 (e1 - 1) = E := ⟨_, rfl⟩
            have hes : E.size = n := by rw [← hE, size_swp]; exact HS.out
            rw [hE] at HSW HR
            have HSE := Lib.hid hes
            clear hw2 hE hes cx cy fx fy
            go_upto_if 61 with fail
            go_cut [7] (fun s wx => s = .int .i64 (e1 : Nat) ∧ Hid (UR B W g c (fixDown ltInt a e1 E) wx))
            case first =>
              by_cases h2 : e1 - a ≥ 2
              · have HFX : Hid (fixDown ltInt a e1 E = shiftDown ltInt (e1 - 1) E) := if_pos h2
                have i2 : (e1 : Int) - (a : Int) ≥ 2 := by omega
                go_wp2_with fail
                go_loopg [9] (e1 - 1) (fun k s wx => ∃ (i : Nat) (G : Array Int), s = .int .i64 (i : Nat) ∧ i ≤ k ∧ i < e1 ∧ 0 ≤ i ∧ Hid (G.size = n) ∧ Hid (shiftDown ltInt (e1 - 1) E = shiftDown ltInt i G) ∧ Hid (UR B W g c G wx))
                case atStart => exact ⟨e1 - 1, E, by congr 1; omega, by omega, by omega, by omega, HSE, rfl, HSW⟩
                case round =>
                  obtain ⟨i, G, rfl, hk, h1, h2, HSG, HQ2, HU2⟩ := hrel
                  by_cases hij : 1 ≤ i
                  · have cxi := HU2.out.cell (i := i) (by rw [HSG.out]; omega)
                    have fxi := HU2.out.free (i)
                    obtain ⟨xi, hxi⟩ := bang_eq G (i)
                    rw [hxi] at cxi
                    have Hxi := Lib.hid hxi
                    clear hxi
                    have cxa := HU2.out.cell (i := i - 1) (by rw [HSG.out]; omega)
                    have fxa := HU2.out.free (i - 1)
                    obtain ⟨xa, hxa⟩ := bang_eq G (i - 1)
                    rw [hxa] at cxa
                    have Hxa := Lib.hid hxa
                    clear hxa
                    obtain ⟨r, hr⟩ : ∃ r, ltInt xi xa = r := ⟨_, rfl⟩
                    have Hr := Lib.hid hr
                    clear hr
                    have i1 : (i : Int) ≥ 1 := by omega
                    go_wp2
                    go_quiet (first | (go_at_call 76; refine Calls.quiet_of_same (uLess_eq Hr.out _)))
                    cases r with
                    | true =>
                      go_wp2
                      go_region
                      all_goals go_wp2_with fail
                      go_roundg (i - 1)
                      case measure => omega
                      case rel => exact ⟨i - 1, swp G i (i - 1), by congr 1; omega, by omega, by omega, by omega, by rw [size_swp]; exact HSG.out, by rw [HQ2.out]; exact sd_go hij (by rw [Hxi.out, Hxa.out]; exact Hr.out), (HU2.out.drewN _).swapped Hxi.out Hxa.out⟩
                    | false =>
                      go_wp2
                      go_meet
                      exact ⟨rfl, by rw [HFX.out, HQ2.out, sd_end (.inr (by rw [Hxi.out, Hxa.out]; exact Hr.out))]; exact HU2.out.drewN _⟩
                  · have i1 : ¬ (i : Int) ≥ 1 := by omega
                    go_wp2_with fail
                    go_meet
                    exact ⟨rfl, by rw [HFX.out, HQ2.out, sd_end (.inl (by omega))]; exact HU2.out⟩
              · have HFX : Hid (fixDown ltInt a e1 E = E) := if_neg h2
                have i2 : ¬ (e1 : Int) - (a : Int) ≥ 2 := by omega
                go_wp2_with fail
                go_meet
                exact ⟨rfl, by rw [HFX.out]; exact HSW⟩
            case rest =>
              obtain ⟨rfl, HU3⟩ := hcut
              obtain ⟨w3, rfl⟩ : ∃ w : World, w = wc := ⟨_, rfl⟩
              obtain ⟨E2, hE2⟩ : ∃ E2, fixDown ltInt a e1 E = E2 := ⟨_, rfl⟩
              have hes2 : E2.size = n := by
                rw [← hE2]
                unfold fixDown
                split
                · rw [size_shiftDown]; exact HSE.out
                · exact HSE.out
              rw [hE2] at HU3 HR
              have HSE2 := Lib.hid hes2
              clear hE2 hes2
              go_upto_if 98 with fail
              by_cases h2 : b - e1 ≥ 2
              · have HFX : Hid (fixUp ltInt b e1 E2 = shiftUp ltInt b (e1 + 1) E2) := if_pos h2
                have i2 : (b : Int) - (e1 : Int) ≥ 2 := by omega
                go_wp2_with fail
                go_loopg [10] (b - (e1 + 1)) (fun k s wx => ∃ (i : Nat) (G : Array Int), s = .int .i64 (i : Nat) ∧ b - i ≤ k ∧ e1 < i ∧ i ≤ b ∧ Hid (G.size = n) ∧ Hid (shiftUp ltInt b (e1 + 1) E2 = shiftUp ltInt b i G) ∧ Hid (UR B W g c G wx))
                case atStart => exact ⟨e1 + 1, E2, by go_num, by omega, by omega, by omega, HSE2, rfl, HU3⟩
                case round =>
                  obtain ⟨i, G, rfl, hk, h1, h2, HSG, HQ2, HU2⟩ := hrel
                  by_cases hij : i < b
                  · have cxi := HU2.out.cell (i := i) (by rw [HSG.out]; omega)
                    have fxi := HU2.out.free (i)
                    obtain ⟨xi, hxi⟩ := bang_eq G (i)
                    rw [hxi] at cxi
                    have Hxi := Lib.hid hxi
                    clear hxi
                    have cxa := HU2.out.cell (i := i - 1) (by rw [HSG.out]; omega)
                    have fxa := HU2.out.free (i - 1)
                    obtain ⟨xa, hxa⟩ := bang_eq G (i - 1)
                    rw [hxa] at cxa
                    have Hxa := Lib.hid hxa
                    clear hxa
                    obtain ⟨r, hr⟩ : ∃ r, ltInt xi xa = r := ⟨_, rfl⟩
                    have Hr := Lib.hid hr
                    clear hr
                    have i1 : (i : Int) < (b : Int) := by omega
                    go_wp2
                    go_quiet (first | (go_at_call 76; refine Calls.quiet_of_same (uLess_eq Hr.out _)))
                    cases r with
                    | true =>
                      go_wp2
                      go_region
                      all_goals go_wp2_with fail
                      go_roundg (b - (i + 1))
                      case measure => omega
                      case rel => exact ⟨i + 1, swp G i (i - 1), by go_num, by omega, by omega, by omega, by rw [size_swp]; exact HSG.out, by rw [HQ2.out]; exact su_go hij (by rw [Hxi.out, Hxa.out]; exact Hr.out), (HU2.out.drewN _).swapped Hxi.out Hxa.out⟩
                    | false =>
                      go_wp2
                      go_roundg gz
                      case measure => omega
                      case rel => exact ⟨e1, j3 + 1, fixUp ltInt b e1 E2, rfl, by go_num, by omega, by omega, by omega, by rw [HFX.out, size_shiftUp]; exact HSE2.out, by rw [HFX.out, HQ2.out, su_end (.inr (by rw [Hxi.out, Hxa.out]; exact Hr.out))]; exact HU2.out.drewN _, HR⟩
                  · have i1 : ¬ (i : Int) < (b : Int) := by omega
                    go_wp2_with fail
                    go_roundg gz
                    case measure => omega
                    case rel => exact ⟨e1, j3 + 1, fixUp ltInt b e1 E2, rfl, by go_num, by omega, by omega, by omega, by rw [HFX.out, size_shiftUp]; exact HSE2.out, by rw [HFX.out, HQ2.out, su_end (.inl (by omega))]; exact HU2.out, HR⟩
              · have HFX : Hid (fixUp ltInt b e1 E2 = E2) := if_neg h2
                have i2 : ¬ (b : Int) - (e1 : Int) ≥ 2 := by omega
                go_wp2_with fail
                go_roundg gz
                case measure => omega
                case rel => exact ⟨e1, j3 + 1, fixUp ltInt b e1 E2, rfl, by go_num, by omega, by omega, by omega, by rw [HFX.out]; exact HSE2, by rw [HFX.out]; exact HU3, HR⟩
end Go.Proofs.Ytfpoapmbpbkibaa
