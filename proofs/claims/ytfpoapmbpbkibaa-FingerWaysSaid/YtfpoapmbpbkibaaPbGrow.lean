/-
  The book of points: lists grow. (Written by tools/genBookQ.py, out of the book of items.)
-/
import Derived.Test.YtfpoapmbpbkibaaPbBook
namespace Go.Proofs.Ytfpoapmbpbkibaa.Pb
open Go.RowKit Go.Proofs.Ytfpoapmbpbkibaa

set_option maxRecDepth 100000 in
set_option maxHeartbeats 8000000 in
theorem growPoints_any (g : Nat) (va : Value) (es : List (Value × List Int)) (W : World) (hB : BL W g va es) (he : es.length ≤ 250) (hl : ∀ x ∈ es, x.2.length ≤ 90000) (hM : Marked es) :
    Calls Try.prog 43 #[.pointer (some ⟨g, 0, none⟩)] W (GrowPost W g va es) := by
  obtain ⟨A6, d6, rfl⟩ := own_slice hB.own6
  obtain ⟨i0, z0, hi0, hz, hsL, hbL, hzc⟩ := infoP_
  obtain ⟨i1, z1, hi1, hz1, hs1, hb24, hzc1⟩ := infoRow
  have HB := Lib.hid hB
  have HL := Lib.hid hl
  have HM := Lib.hid hM
  obtain ⟨n, hn⟩ : ∃ n, es.length = n := ⟨_, rfl⟩
  have HN := Lib.hid hn
  rw [hn] at he
  clear hB hn hl hM
  go_enter Try.func43, Try.ntmps43
  go_wp2
  go_loopg [3, 4] (n + 1) (fun gh s3 s4 wx => ∃ (i : Nat) (A : Option Addr) (c : Nat) (ys : List (Value × List Int)), i + gh = n + 1 ∧ i ≤ n ∧ s3 = .slice A i c ∧ s4 = .int .i64 i ∧ Hid (GrowRel W wx g (.slice A6 es.length d6) es i (.slice A i c) ys))
  case atStart => exact ⟨0, none, 0, [], by omega, by omega, rfl, rfl, ⟨rfl, World.ownsRow_nil _ _ _ _, (fun x hx => by cases hx), (fun j h => by cases h), (fun x hx => by cases hx), (fun q hq => by cases hq), HB.out, Touch.refl _ _⟩⟩
  case round =>
    obtain ⟨i, A, c, ys, hig, hi, rfl, rfl, HGR⟩ := hrel
    have HBi : Hid (BL wr g (.slice A6 es.length d6) es) := HGR.out.2.2.2.2.2.2.1
    have HO : Hid (wr.ownsRow W.heap.size 23 1 (.slice A i c) i (ys.map (·.1))) := HGR.out.2.1
    have c6 := HBi.out.c6
    rw [HN.out] at c6
    by_cases hlt : i < n
    · have h1 : i < es.length := by rw [HN.out]; exact hlt
      have hrow := HBi.out.rows _ (List.getElem_mem h1)
      obtain ⟨q6, rfl⟩ := own_block HB.out.own6 (by omega)
      have p6 : wr.cell? ⟨q6, i, none⟩ = some (es[i]).1 := (HBi.out.own6.cellAt i (by omega)).trans (fst_at es i h1)
      have hlen := HL.out _ (List.getElem_mem h1)
      have hmk := HM.out i h1
      obtain ⟨B, d, e1, r1⟩ := hrow
      have HE := Lib.hid e1
      rw [e1] at p6
      obtain ⟨m, hm⟩ : ∃ m, (es[i]).2.length = m := ⟨_, rfl⟩
      have HMm := Lib.hid hm
      rw [hm] at p6 hlen hmk
      have HMK := Lib.hid hmk
      have HR0 : Hid (wr.ownsRow 0 22 1 (.slice B m d) m (ptC (markL i 0 m))) := by
        rw [Row, e1, hm, hmk] at r1
        exact r1
      clear r1 e1 hm hmk
      obtain ⟨gz, rfl⟩ : ∃ gz : Nat, gz = gk := ⟨_, rfl⟩
      obtain ⟨wo, rfl⟩ : ∃ wo : World, wo = wr := ⟨_, rfl⟩
      go_wp2
      clear p6 c6
      go_loopg [5, 6] 13 (fun gh s5 s6 wx => ∃ (t N : Nat) (Al : Option Addr) (cl : Nat), t + gh = 13 ∧ t ≤ 12 ∧ m + t ≤ N ∧ N ≤ m + t ∧ s5 = .slice Al N cl ∧ s6 = .int .i64 t ∧ Hid (GR wo wx i (.slice B m d) m (.slice Al N cl) N))
      case atStart => exact ⟨0, m, B, d, by omega, by omega, by omega, by omega, rfl, rfl, GR.start HR0.out⟩
      case round =>
        obtain ⟨t, N, Al, cl, htg, ht, hN1, hN2, rfl, rfl, HG⟩ := hrel
        by_cases h12 : t < 12
        · have hd : decide ((t : Int) < 12) = true := by simp; omega
          have CM : Hid (∀ W1, Calls Try.prog 70 #[.int .i64 (i : Nat), .int .i64 (N : Nat), .int .i64 1] W1 (NewMarksF W1 i N 1)) := fun W1 => (markPoints_any i N 1 W1 (by omega) (by omega) (by omega)).mono fun _ _ h => h.marksF
          go_wp2_with (first
            | (go_at_call 70; ((with_reducible refine (CM.out _).mono ?_); rintro e w1 ⟨Am, cm, rfl, hown1, hb1⟩; obtain ⟨qm, rfl⟩ := own_at hown1 (by omega); have HG1 := Lib.hid (HG.out.below hb1); have HO1 := Lib.hid hown1; clear hb1 hown1))
            | (at_builtin; go_must (refine wpList_append_old rfl (.tmp 27) (.tmp 31) 23 rfl 0 22 i0 z0 1 8 Try.underlying23 hi0 hz hsL hbL hzc (by decide) (.slice Al N cl) N (ptC (markL i 0 N)) rfl HG1.out.row ⟨qm, 0, none⟩ 1 cm (ptC (markL i N 1)) rfl (by rw [ptC_length, markL_length]) (HO1.out.cells (g := qm) rfl) (pt_one _) (by unfold maxLen; omega) (by omega) (Nat.zero_le _) ?_); intro x2 w2 ho2 hg2 hnil2 hold2 hsn2; obtain ⟨A2, c2, rfl⟩ := own_slice ho2; have HG2 := Lib.hid (HG1.out.grown ho2 hg2 hold2 hsn2); clear ho2 hg2 hnil2 hold2 hsn2))
          go_roundg (gk - 1)
          case measure => omega
          case rel => exact ⟨t + 1, N + 1, A2, c2, by omega, by omega, by omega, by omega, rfl, by go_num, HG2⟩
        · obtain rfl : t = 12 := by omega
          have hd : decide (((12 : Nat) : Int) < 12) = false := by decide
          have CM : Hid (∀ W1, Calls Try.prog 70 #[.int .i64 (i : Nat), .int .i64 (N : Nat), .int .i64 60] W1 (NewMarksF W1 i N 60)) := fun W1 => (markPoints_any i N 60 W1 (by omega) (by omega) (by omega)).mono fun _ _ h => h.marksF
          have HlW := Lib.hid (fun q hq => HB.out.ltF q (List.mem_cons_of_mem _ (List.mem_append_right _ hq)))
          have HOt : Hid (∀ w1, Touch (blk (.slice B m d)) wo w1 → w1.ownsRow W.heap.size 23 1 (.slice A i c) i (ys.map (·.1))) := fun w1 h => h.row HO.out (fun q hq hb => by
            have z1 := (HO.out.lt q hq).1
            have z2 := HlW.out q (fps_at h1 (by rw [HE.out, HMm.out]; exact hb))
            omega)
          have HzW := Lib.hid HGR.out.2.2.2.2.2.2.2.size
          go_wp2_with (first
            | (go_at_call 70; ((with_reducible refine (CM.out _).mono ?_); rintro e w1 ⟨Am, cm, rfl, hown1, hb1⟩; obtain ⟨qm, rfl⟩ := own_at hown1 (by omega); have HG1 := Lib.hid (HG.out.below hb1); have HO1 := Lib.hid hown1; clear hb1 hown1))
            | (at_builtin; (refine wpList_append_old rfl (.tmp 34) (.tmp 38) 23 rfl 0 22 i0 z0 1 8 Try.underlying23 hi0 hz hsL hbL hzc (by decide) (.slice Al N cl) N (ptC (markL i 0 N)) rfl HG1.out.row ⟨qm, 0, none⟩ 60 cm (ptC (markL i N 60)) rfl (by rw [ptC_length, markL_length]) (HO1.out.cells (g := qm) rfl) (pt_one _) (by unfold maxLen; omega) (by omega) (Nat.zero_le _) ?_); intro x2 w2 ho2 hg2 hnil2 hold2 hsn2; obtain ⟨A2, c2, rfl⟩ := own_slice ho2; have HG2 := Lib.hid (HG1.out.grown ho2 hg2 hold2 hsn2); have HO2 := Lib.hid (HOt.out _ HG2.out.touch); have HZ2 := Lib.hid HG2.out.touch.size; clear ho2 hg2 hnil2 hold2 hsn2)
            | (at_builtin; (refine wpList_append_old rfl (.tmp 33) (.tmp 40) 29 rfl W.heap.size 23 i1 z1 1 24 Try.underlying29 hi1 hz1 hs1 hb24 hzc1 (by decide) (.slice A i c) i (ys.map (·.1)) rfl (HO2.out.alloc _) ⟨w2.heap.size, 0, none⟩ 1 1 [.slice A2 (N + 60) c2] rfl rfl (cell_one_new _ _ _) (fun x hx => by simp at hx; subst hx; rfl) (by unfold maxLen; omega) (by omega) (by have a1 := HZ2.out; have a2 := HzW.out; simp <;> omega) ?_); intro x3 w3 ho3 hg3 hnil3 hold3 hsn3; obtain ⟨A3, c3, rfl⟩ := own_slice ho3; have HF3 := Lib.hid (grow_end HlW.out HGR.out HB.out.lt (fun q hq => HB.out.ltF q (List.mem_cons_of_mem _ (List.mem_append_left _ hq))) h1 HMK.out (show N + 60 ≤ 100000 by omega) ⟨B, d, by rw [HE.out, HMm.out]⟩ (by rw [HE.out, HMm.out]; exact HG2.out) ho3 hg3 hsn3); clear ho3 hg3 hnil3 hold3 hsn3))
          go_roundg (gz - 1)
          case measure => omega
          case rel => exact ⟨i + 1, A3, c3, _, by omega, by omega, rfl, by go_num, HF3⟩
    · obtain rfl : i = n := by omega
      go_wp2
      go_ret
      obtain ⟨hY, hO, hR, hMY, hLY, hF, hB9, hT9⟩ := HGR.out
      exact ⟨A, c, ys, by rw [hY, HN.out], by rw [HN.out]; rfl, by rw [HN.out]; exact hO, hR, hMY, hLY, hB9, hT9⟩
end Go.Proofs.Ytfpoapmbpbkibaa.Pb
