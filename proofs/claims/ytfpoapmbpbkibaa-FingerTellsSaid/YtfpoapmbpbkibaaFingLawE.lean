/-
  A way comes nearer hop by hop, ends at the seat that is nearest ahead of where it leads, and is short (FingerWays).
-/
import Derived.Test.YtfpoapmbpbkibaaFingLawD
import Derived.Test.YtfpoapmbpbkibaaPtRun
import Derived.Deep.DeepCutAuto
namespace Go.Proofs.Ytfpoapmbpbkibaa
open Go.RowKit Pb

set_option maxRecDepth 20000 in
set_option maxHeartbeats 8000000 in
theorem fingerWays_any (L : FingLaws) (me aim : Int) (A : Option Addr) (c n : Nat) (seats : List Int) (W : World) (hme : Pt me) (haim : Pt aim) (hp : ∀ s ∈ seats, Pt s) (hA : PtAt W A seats) (hn : seats.length = n) :
    Calls Try.prog 4 #[.int .u64 me, .int .u64 aim, .slice A n c] W fun e w' => e = .returned (.bool true) ∧ Below W.heap.size W w' := by
  obtain ⟨i0, z0, hi0, hz, hsL, hbL, hzc⟩ := infoP_
  have CA := Lib.hid (fingAlive_any L)
  by_cases q0 : 40 < n
  · have d0 : decide (40 < (n : Int)) = true := decide_eq_true (by omega)
    go_enter Try.func4, Try.ntmps4
    go_wp2_with (go_at_call 9; (with_reducible refine (CA.out _).mono ?_); rintro e w1 ⟨rfl, h1⟩)
    go_ret
    exact ⟨rfl, h1⟩
  have d0 : decide (40 < (n : Int)) = false := decide_eq_false (by omega)
  obtain ⟨all, hall⟩ : ∃ all, seats ++ [me] = all := ⟨_, rfl⟩
  have hal : all.length = n + 1 := by rw [← hall, List.length_append, hn]; rfl
  have hma : me ∈ all := by rw [← hall]; simp
  have hp2 : ∀ s ∈ all, Pt s := fun s hs => by
    rw [← hall] at hs
    rcases List.mem_append.1 hs with hs | hs
    · exact hp s hs
    · rw [List.mem_singleton.1 hs]; exact hme
  obtain ⟨l, T, h1, hT, h3, h4, h5, h6⟩ := way_seat (aim := aim) hma hp2
  obtain ⟨m, hm⟩ : ∃ m, l.length = m := ⟨_, rfl⟩
  have hlen : (me :: l).length = m + 1 := by rw [List.length_cons, hm]
  have hTm : (me :: l)[m]? = some T := by
    rw [List.getLast_eq_getElem] at h4
    simp only [List.length_cons, Nat.add_sub_cancel, hm] at h4
    rw [List.getElem?_eq_getElem (by omega), h4]
  have h0 : (me :: l)[0]? = some me := rfl
  have hin : ∀ x ∈ me :: l, x ∈ all := fun x hx => by
    rcases List.mem_cons.1 hx with rfl | hx
    · exact hma
    · exact h5 x hx
  have hfall : ∀ i x y, (me :: l)[i]? = some x → (me :: l)[i + 1]? = some y → farI y aim < farI x aim := fun i x y hx hy => by
    obtain ⟨i1, rfl⟩ := List.getElem?_eq_some_iff.1 hx
    obtain ⟨i2, rfl⟩ := List.getElem?_eq_some_iff.1 hy
    have g1 := (h6 i i2).1
    have g2 := far_behind (hT.2 _ (hin _ (List.getElem_mem i1)))
    have g3 := far_behind (hT.2 _ (hin _ (List.getElem_mem i2)))
    omega
  obtain ⟨tot, ht⟩ : ∃ tot, me :: l = tot := ⟨_, rfl⟩
  have CW : Hid (∀ w B d, PtAt w B all → Calls Try.prog 12 #[.int .u64 me, .int .u64 aim, .slice B (n + 1) d] w (WayC w tot (m + 1))) := fun w B d h => by
    refine (way_call L hme haim hp2 h hal (by omega) hma h1).mono ?_
    intro e w' z
    rw [ht] at z
    exact z.to_c (by rw [← ht]; exact hlen)
  unfold WayC at CW
  rw [ht] at hlen hTm h0
  simp only [ht] at hfall
  have HB := Lib.hid hT.2
  have HF := Lib.hid hfall
  have HLN := Lib.hid hlen
  have HTT := Lib.hid hTm
  have H00 := Lib.hid h0
  have HA := Lib.hid hA
  have HN := Lib.hid hn
  have HAL := Lib.hid hal
  have HALL := Lib.hid hall
  rw [hm] at h3
  have dm : decide ((m : Int) + 1 < 1) = false := decide_eq_false (by omega)
  have d66 : decide (66 < (m : Int) + 1) = false := decide_eq_false (by omega)
  clear hA hn hp hp2 h1 h4 h5 h6 hT hTm h0 hin hfall ht hm hlen hal hma hall haim hme
  go_enter Try.func4, Try.ntmps4
  go_upto_region 3 with (go_at_call 9; (with_reducible refine (CA.out _).mono ?_); rintro e w1 ⟨rfl, h1⟩; have H1 := Lib.hid h1; clear h1)
  obtain ⟨A4, c4, w4, hr4, ho4, hb4⟩ := run_append_pts A c n seats w1 (HA.out.below H1.out) HN.out (by omega)
  have HO4 : Hid (w4.ownsRow W.heap.size 22 1 (.slice A4 n c4) n (ptC seats)) := own_mono ho4 H1.out.size
  have HB4 : Hid (Below W.heap.size W w4) := acc H1.out hb4
  have HR4 := Lib.hid hr4
  clear ho4 hb4 hr4
  go_wp2_with (first
    | (at_builtin; (refine wpList_append_ran rfl (.const (.slice none 0 0)) (.tmp 22) 23 23 rfl _ _ rfl rfl HR4.out ?_))
    | (at_builtin; go_must (refine wpList_append_any rfl (.tmp 23) (.tmp 25) 23 rfl W.heap.size 22 i0 z0 1 8 Try.underlying23 hi0 hz hsL hbL hzc (by decide) (.slice A4 n c4) n (ptC seats) rfl (HO4.out.alloc _) (.slice (some ⟨w4.heap.size, 0, none⟩) 1 1) 1 (ptC [me]) rfl (.inr ⟨_, _, rfl, rfl, (fun j u hu => pt_new w4 me j u hu)⟩) (pt_one _) (by unfold maxLen; omega) (by omega) (by have := HB4.out.size; simp <;> omega) ?_); intro A5 c5 w5 hown5 hg5 hsn5; have H5 : Hid (Below W.heap.size W w5) := (HB4.out.alloc HB4.out.size _).grown hg5 (by have := HB4.out.size; simp <;> omega) (own_lt HO4.out); rw [← ptC_append, HALL.out] at hown5; have HP5 : Hid (PtAt w5 A5 all) := PtAt.own hown5 HAL.out; clear hown5 hg5 hsn5)
    | (go_at_call 12; (with_reducible refine (CW.out _ _ _ HP5.out).mono ?_); rintro e3 w3 ⟨q, d, rfl, hcl, h3w⟩; have e0 := hcl 0 _ H00.out; have HCL := Lib.hid hcl; have H3 : Hid (Below W.heap.size W w3) := acc H5.out h3w; have HP3 := Lib.hid (HP5.out.below h3w); clear hcl h3w))
  obtain ⟨ws, rfl⟩ : ∃ ws : World, ws = w3 := ⟨_, rfl⟩
  clear e0
  go_loopg [10] (m + 1) (fun gh s10 wx => ∃ (i : Nat), i + gh = m + 2 ∧ 1 ≤ i ∧ i ≤ m + 1 ∧ s10 = .int .i64 (i : Nat) ∧ Hid (Below ws.heap.size ws wx))
  case atStart => exact ⟨1, by omega, by omega, by omega, rfl, Below.refl _ _⟩
  case round =>
    obtain ⟨i, hig, hi1, hi, rfl, HB0⟩ := hrel
    have c3 := HCL.out m _ HTT.out
    have lq : q < ws.heap.size := World.block_lt_of_cell? _ _ c3
    have e3 := (HB0.out.cell (p := ⟨q, m, none⟩) lq).trans c3
    clear c3
    by_cases hlt : i < m + 1
    · obtain ⟨j, rfl⟩ : ∃ j, i = j + 1 := ⟨i - 1, by omega⟩
      have i1 : (j : Int) + 1 < (m : Int) + 1 := by omega
      have zi : IntKind.i64.wrap ((j : Int) + 1 + 1) = (j : Int) + 1 + 1 := by rw [IntKind.wrap_i64]; omega
      have zj : IntKind.i64.wrap ((j : Int) + 1 - 1) = (j : Int) := by rw [IntKind.wrap_i64]; omega
      have hj : j < tot.length := by rw [HLN.out]; omega
      have hj1 : j + 1 < tot.length := by rw [HLN.out]; omega
      have hf := HF.out j _ _ (List.getElem?_eq_getElem hj) (List.getElem?_eq_getElem hj1)
      have e1 := (HB0.out.cell (p := ⟨q, j, none⟩) lq).trans (HCL.out j _ (List.getElem?_eq_getElem hj))
      have e2 := (HB0.out.cell (p := ⟨q, j + 1, none⟩) lq).trans (HCL.out (j + 1) _ (List.getElem?_eq_getElem hj1))
      generalize tot[j + 1] = x2 at e2 hf
      generalize tot[j] = x1 at e1 hf
      obtain ⟨f1, hf1⟩ : ∃ f, farI x1 aim = f := ⟨_, rfl⟩
      obtain ⟨f2, hf2⟩ : ∃ f, farI x2 aim = f := ⟨_, rfl⟩
      have z1 : IntKind.u64.wrap (aim - x1) = f1 := hf1
      have z2 : IntKind.u64.wrap (aim - x2) = f2 := hf2
      rw [hf1, hf2] at hf
      have b1 : decide (f1 ≤ f2) = false := decide_eq_false (by omega)
      clear hf1 hf2 e3
      go_upto_region 10 with fail
      go_quiet (fail)
      go_wp2_with fail
      go_roundg (gk - 1)
      case measure => omega
      case rel => exact ⟨j + 1 + 1, by omega, by omega, by omega, by go_num, below_drewN HB0.out _⟩
    · have zm : IntKind.i64.wrap ((m : Int) + 1 - 1) = (m : Int) := by rw [IntKind.wrap_i64]; omega
      go_wp2_with fail
      have HK := Lib.hid (acc H3.out HB0.out)
      have HP4 := Lib.hid (HP3.out.below HB0.out)
      clear e3
      obtain ⟨wz, rfl⟩ : ∃ wz : World, wz = wr := ⟨_, rfl⟩
      obtain ⟨fT, hfT⟩ : ∃ f, farI T aim = f := ⟨_, rfl⟩
      have zT : IntKind.u64.wrap (aim - T) = fT := hfT
      have HFT := Lib.hid hfT
      clear hfT
      go_loopg [13, 81] (n + 2) (fun gh s13 s81 wx => ∃ (k : Nat), k + gh = n + 2 ∧ k ≤ n + 1 ∧ s81 = .int .i64 (k : Nat) ∧ wx = wz)
      case atStart => exact ⟨0, by omega, by omega, rfl, rfl⟩
      case round =>
        obtain ⟨k, hkg, hk, rfl, rfl⟩ := hrel
        by_cases hkn : k < n + 1
        · have k1 : (k : Int) < (n : Int) + 1 := by omega
          have zk : IntKind.i64.wrap ((k : Int) + 1) = (k : Int) + 1 := by rw [IntKind.wrap_i64]; omega
          obtain ⟨b1, o1, h1⟩ := HP4.out
          have hkl : k < all.length := by rw [HAL.out]; exact hkn
          obtain ⟨rfl, -, e1⟩ := h1 k hkl
          have hle := HB.out _ (List.getElem_mem hkl)
          rw [HFT.out] at hle
          generalize all[k] = s at e1 hle
          have b2 : decide (IntKind.u64.wrap (aim - s) < fT) = false := decide_eq_false (fun z => by have : farI s aim < fT := z; omega)
          clear h1 hle
          go_wp2_with fail
          go_roundg (gk - 1)
          case measure => omega
          case rel => exact ⟨k + 1, by omega, by omega, by go_num, rfl⟩
        · obtain rfl : n + 1 = k := by omega
          go_wp2_with fail
          go_ret
          exact ⟨rfl, HK.out⟩
end Go.Proofs.Ytfpoapmbpbkibaa
