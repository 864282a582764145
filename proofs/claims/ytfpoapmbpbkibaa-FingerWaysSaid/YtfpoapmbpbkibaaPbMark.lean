/-
  The book of points: are they all marks? (Written by tools/genBookQ.py, out of the book of items.)
-/
import Derived.Test.YtfpoapmbpbkibaaPbBook
namespace Go.Proofs.Ytfpoapmbpbkibaa.Pb
open Go.RowKit Go.Proofs.Ytfpoapmbpbkibaa

set_option maxRecDepth 100000 in
set_option maxHeartbeats 4000000 in
theorem markedPoints_any (b : Nat) (A : Option Addr) (c : Nat) (es : List (Value × List Int)) (W : World) (ho : W.ownsRow b 23 1 (.slice A es.length c) es.length (es.map (·.1))) (hr : ∀ x ∈ es, rowOk W x) (hM : Marked es) (hl : ∀ x ∈ es, x.2.length ≤ 100000) (he : es.length ≤ 250) :
    Calls Try.prog 50 #[.slice A es.length c] W fun e w' => e = .returned (.bool true) ∧ Below W.heap.size W w' := by
  have HO := Lib.hid ho
  have HR := Lib.hid hr
  have HM := Lib.hid hM
  have HL := Lib.hid hl
  obtain ⟨n, hn⟩ : ∃ n, es.length = n := ⟨_, rfl⟩
  have HN := Lib.hid hn
  rw [hn] at he ⊢
  clear ho hr hM hl hn
  go_enter Try.func50, Try.ntmps50
  go_wp2
  go_loopg [3] (n + 1) (fun gh s3 wx => ∃ (i : Nat), i + gh = n + 1 ∧ i ≤ n ∧ s3 = .int .i64 i ∧ Hid (Below W.heap.size W wx))
  case atStart => exact ⟨0, by omega, by omega, rfl, Below.refl _ _⟩
  case round =>
    obtain ⟨i, hig, hi, rfl, HB⟩ := hrel
    by_cases hlt : i < n
    · have h1 : i < es.length := by rw [HN.out]; exact hlt
      have hrow : rowOk wr es[i] := (HR.out _ (List.getElem_mem h1)).touch (Touch.ofBelow (F := []) HB.out) (by simp)
      obtain ⟨q, rfl⟩ := own_block HO.out (by omega)
      have hqW : q < W.heap.size := (HO.out.lt q rfl).2
      have hmk := HM.out i h1
      have hlen := HL.out _ (List.getElem_mem h1)
      obtain ⟨m, hm⟩ : ∃ m, (es[i]).2.length = m := ⟨_, rfl⟩
      rw [hm] at hmk hlen
      obtain ⟨B, d, e1, r1⟩ := hrow
      rw [hm] at e1
      have hc0 : wr.cell? ⟨q, i, none⟩ = some (.slice B m d) := (HB.out.cell (p := ⟨q, i, none⟩) hqW).trans ((HO.out.cellAt i (by omega)).trans ((fst_at es i h1).trans (by rw [e1])))
      have HR1 : Hid (wr.ownsRow 0 22 1 (.slice B m d) m (ptC (markL i 0 m))) := by rw [Row, e1, hm, hmk] at r1; exact r1
      have CM : Hid (∀ W1, Calls Try.prog 70 #[.int .i64 (i : Nat), .int .i64 0, .int .i64 (m : Nat)] W1 (NewMarksF W1 i 0 m)) := fun W1 => (markPoints_any i 0 m W1 (by omega) (by omega) hlen).mono fun _ _ h => h.marksF
      have CS : Hid (∀ (w1 : World) (Am : Option Addr) (cm : Nat), Below wr.drew.heap.size wr.drew w1 → w1.ownsRow wr.drew.heap.size 22 1 (.slice Am m cm) m (ptC (markL i 0 m)) → Calls Try.prog 17 #[.slice B m d, .slice Am m cm] w1 fun e w' => e = .returned (.bool true) ∧ Below w1.heap.size w1 w') := by
        intro w1 Am cm hb1 ho1
        have x1 : w1.ownsRow 0 22 1 (.slice B m d) m (ptC (markL i 0 m)) := (Touch.ofBelow (F := []) hb1).row (show wr.drew.ownsRow 0 22 1 (.slice B m d) m (ptC (markL i 0 m)) from HR1.out) (by simp)
        exact samePts_any B Am d cm m (markL i 0 m) w1 (PtAt.own x1 (markL_length i 0 m)) (PtAt.own ho1 (markL_length i 0 m)) (markL_length i 0 m) (by omega)
      clear hmk r1 e1 hm
      obtain ⟨wb, rfl⟩ : ∃ wb : World, wb = wr := ⟨_, rfl⟩
      have hqb : q < wb.heap.size := Nat.lt_of_lt_of_le hqW HB.out.size
      have HSS : Hid (∀ w', Below wb.heap.size wb w' → Below wb.heap.size wb w' ∧ w'.cell? ⟨q, i, none⟩ = some (.slice B m d)) := fun w' h => ⟨h, (h.cell (p := ⟨q, i, none⟩) hqb).trans hc0⟩
      clear hc0 hqW hqb
      go_upto_region 4 with fail
      refine wp_region_held_drew (S := (fun w' => Below wb.heap.size wb w' ∧ w'.cell? ⟨q, i, none⟩ = some (.slice B m d))) (by kernel_rfl) ?_ (fun hHeld => ?_)
      · (try dsimp only); (first | assumption | exact HSS.out _ ((Below.refl _ _).drew) | exact below_step HSS.out (by assumption) (by assumption))
      refine wpAnyH_take (i := 0) (oi := ⟨_, _, _, _, _, _⟩) (v := ?_) rfl (by kernel_rfl) (by kernel_rfl) (by kernel_rfl) (fun _ _ _ h => h) (Or.inl ⟨by rfl, ?_⟩) (by assumption) ?_
      rotate_left
      · (intro wS hSw; (try dsimp only at hSw); go_simp <;> with_reducible rfl)
      try simp only [Act.put, List.setIfInBounds_toArray, List.set_cons_zero, List.set_cons_succ]
      refine wpAnyH_take (i := 1) (oi := ⟨_, _, _, _, _, _⟩) (v := ?_) rfl (by kernel_rfl) (by kernel_rfl) (by kernel_rfl) (fun _ _ _ h => h) (Or.inl ⟨by rfl, ?_⟩) (by assumption) ?_
      rotate_left
      · (intro wS hSw; (try dsimp only at hSw); go_simp <;> with_reducible rfl)
      try simp only [Act.put, List.setIfInBounds_toArray, List.set_cons_zero, List.set_cons_succ]
      refine wpAnyH_take (i := 2) (oi := ⟨_, _, _, _, _, _⟩) (v := ?_) rfl (by kernel_rfl) (by kernel_rfl) (by kernel_rfl) (fun _ _ _ h => h) (Or.inl ⟨by rfl, ?_⟩) (by assumption) ?_
      rotate_left
      · (intro wS hSw; (try dsimp only at hSw); go_simp <;> with_reducible rfl)
      try simp only [Act.put, List.setIfInBounds_toArray, List.set_cons_zero, List.set_cons_succ]
      refine wpAnyH_take (i := 3) (oi := ⟨_, _, _, _, _, _⟩) (v := ?_) rfl (by kernel_rfl) (by kernel_rfl) (by kernel_rfl) (fun _ _ _ h => h) (Or.inl ⟨by rfl, ?_⟩) (by assumption) ?_
      rotate_left
      · (intro wS hSw; (try dsimp only at hSw); go_simp <;> with_reducible rfl)
      try simp only [Act.put, List.setIfInBounds_toArray, List.set_cons_zero, List.set_cons_succ]
      refine wpAnyH_take (i := 4) (oi := ⟨_, _, _, _, _, _⟩) (v := ?_) rfl (by kernel_rfl) (by kernel_rfl) (by kernel_rfl) (fun _ _ _ h => h) (Or.inl ⟨by rfl, ?_⟩) (by assumption) ?_
      rotate_left
      · (intro wS hSw; (try dsimp only at hSw); go_simp <;> with_reducible rfl)
      try simp only [Act.put, List.setIfInBounds_toArray, List.set_cons_zero, List.set_cons_succ]
      refine wpAnyH_take (i := 5) (oi := ⟨_, _, _, _, _, _⟩) (v := ?_) rfl (by kernel_rfl) (by kernel_rfl) (by kernel_rfl) (fun _ _ _ h => h) (Or.inl ⟨by rfl, ?_⟩) (by assumption) ?_
      rotate_left
      · (intro wS hSw; (try dsimp only at hSw); go_simp <;> with_reducible rfl)
      try simp only [Act.put, List.setIfInBounds_toArray, List.set_cons_zero, List.set_cons_succ]
      refine wpAnyH_take (i := 6) (oi := ⟨_, _, _, _, _, _⟩) (v := ?_) rfl (by kernel_rfl) (by kernel_rfl) (by kernel_rfl) (fun _ _ _ h => h) (Or.inl ⟨by rfl, ?_⟩) (by assumption) ?_
      rotate_left
      · (intro wS hSw; (try dsimp only at hSw); go_simp <;> with_reducible rfl)
      try simp only [Act.put, List.setIfInBounds_toArray, List.set_cons_zero, List.set_cons_succ]
      refine wpAnyH_take (i := 7) (oi := ⟨_, _, _, _, _, _⟩) (v := ?_) rfl (by kernel_rfl) (by kernel_rfl) (by kernel_rfl) (fun _ _ _ h => h) (Or.inl ⟨by rfl, ?_⟩) (by assumption) ?_
      rotate_left
      · (intro wS hSw; (try dsimp only at hSw); go_simp <;> with_reducible rfl)
      try simp only [Act.put, List.setIfInBounds_toArray, List.set_cons_zero, List.set_cons_succ]
      refine wpAnyH_take (i := 8) (oi := ⟨_, _, _, _, _, _⟩) (v := ?_) rfl (by kernel_rfl) (by kernel_rfl) (by kernel_rfl) (fun _ _ _ h => h) (Or.inl ⟨by rfl, ?_⟩) (by assumption) ?_
      rotate_left
      · (intro wS hSw; (try dsimp only at hSw); go_simp <;> with_reducible rfl)
      try simp only [Act.put, List.setIfInBounds_toArray, List.set_cons_zero, List.set_cons_succ]
      refine wpAnyH_take (i := 9) (oi := ⟨_, _, _, _, _, _⟩) (v := ?_) rfl (by kernel_rfl) (by kernel_rfl) (by kernel_rfl) (fun _ _ _ h => h) (Or.inl ⟨by rfl, ?_⟩) (by assumption) ?_
      rotate_left
      · (intro wS hSw; (try dsimp only at hSw); go_simp <;> with_reducible rfl)
      try simp only [Act.put, List.setIfInBounds_toArray, List.set_cons_zero, List.set_cons_succ]
      refine wpAnyH_ready (rs := [10]) (by kernel_rfl) (by simp) ?_
      refine AllReadyH.cons (o := ⟨_, _, _, _, _, _⟩) rfl (fun K hK => ?_) AllReadyH.nil
      go_simp
      (first | (go_at_call 70; (with_reducible refine (CM.out _).mono ?_); rintro e w1 ⟨Am, cm, rfl, hown1, hb1⟩; have HO1 := Lib.hid hown1; have HB1 := Lib.hid hb1) | (go_at_call 17; (with_reducible refine (CS.out _ _ _ HB1.out HO1.out).mono ?_); rintro e w2 ⟨rfl, hb2⟩))
      go_wp2_with fail
      refine hK.out _ _ (by (try dsimp only); (first | assumption | exact HSS.out _ ((Below.refl _ _).drew) | exact below_step HSS.out (by assumption) (by assumption))) (fun hHeld => ?_)
      clear hK K
      try simp only [Act.put, List.setIfInBounds_toArray, List.set_cons_zero, List.set_cons_succ]
      refine wpAnyH_ready (rs := [11]) (by kernel_rfl) (by simp) ?_
      refine AllReadyH.cons (o := ⟨_, _, _, _, _, _⟩) rfl (fun K hK => ?_) AllReadyH.nil
      go_simp
      (first | (go_at_call 70; (with_reducible refine (CM.out _).mono ?_); rintro e w1 ⟨Am, cm, rfl, hown1, hb1⟩; have HO1 := Lib.hid hown1; have HB1 := Lib.hid hb1) | (go_at_call 17; (with_reducible refine (CS.out _ _ _ HB1.out HO1.out).mono ?_); rintro e w2 ⟨rfl, hb2⟩))
      go_wp2_with fail
      refine hK.out _ _ (by (try dsimp only); (first | assumption | exact HSS.out _ ((Below.refl _ _).drew) | exact below_step HSS.out (by assumption) (by assumption))) (fun hHeld => ?_)
      clear hK K
      try simp only [Act.put, List.setIfInBounds_toArray, List.set_cons_zero, List.set_cons_succ]
      refine wpAnyH_take (i := 12) (oi := ⟨_, _, _, _, _, _⟩) (v := ?_) rfl (by kernel_rfl) (by kernel_rfl) (by kernel_rfl) (fun _ _ _ h => h) (Or.inl ⟨by rfl, ?_⟩) (by assumption) ?_
      rotate_left
      · (intro wS hSw; (try dsimp only at hSw); go_simp <;> with_reducible rfl)
      try simp only [Act.put, List.setIfInBounds_toArray, List.set_cons_zero, List.set_cons_succ]
      refine wpAnyH_done (by kernel_rfl) ?_ _
      go_wp2
      go_roundg (gk - 1)
      case measure => omega
      case rel => exact ⟨i + 1, by omega, by omega, by go_num, acc HB.out hHeld.1⟩
    · obtain rfl : i = n := by omega
      go_wp2
      go_ret
      exact ⟨rfl, HB.out⟩

end Go.Proofs.Ytfpoapmbpbkibaa.Pb
