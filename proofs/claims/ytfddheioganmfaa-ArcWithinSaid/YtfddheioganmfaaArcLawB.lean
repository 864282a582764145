/-
  The walk of the statement ArcWithin of chapter 2.
-/
import Derived.Test.YtfddheioganmfaaArcKeep
import Derived.Deep.RegionHeld3
import Derived.Deep.DeepCutAuto
namespace Go.Proofs.Ytfddheioganmfaa
open Go.RowKit

set_option maxHeartbeats 1600000 in
theorem arcWithin_walk (f t g u x : Nat) (w : World) (hf : f < 18446744073709551616) (ht : t < 18446744073709551616) (hg : g < 18446744073709551616) (hu : u < 18446744073709551616) (hx : x < 18446744073709551616) :
    Calls Try.prog 7 #[.agg #[.int .u64 f, .int .u64 t], .agg #[.int .u64 g, .int .u64 u], .int .u64 x] w fun e w' => e = .returned (.bool true) ∧ Below w.heap.size w w' := by
  have H0 := Lib.hid (Two.start w f t g u)
  have C1 := Lib.hid (fun W => within_any f t g u W hf ht hg hu)
  have C2 := Lib.hid (fun W => in_any g u x W hg hu hx)
  have C3 := Lib.hid (fun W => in_any f t x W hf ht hx)
  have C4 := Lib.hid (fun W => apart_any f t g u W hf ht hg hu)
  have cA := fun W => apart_any g u f t W hg hu hf ht
  rw [apart_comm] at cA
  have C5 := Lib.hid cA
  have cW := fun W => within_any f t f t W hf ht hf ht
  rw [within_self f t hf ht] at cW
  have C6 := Lib.hid cW
  have cS := fun W => apart_any f t f t W hf ht hf ht
  rw [apart_self f t hf ht] at cS
  have C7 := Lib.hid cS
  have c0 := fun W => within_any 0 0 f t W (by omega) (by omega) hf ht
  rw [within_whole] at c0
  have C8 : Hid (∀ W, Calls Try.prog 19 #[.agg #[.int .u64 0, .int .u64 0], .agg #[.int .u64 f, .int .u64 t]] W fun e w' => e = .returned (.bool true) ∧ Below W.heap.size W w') := c0
  have T1 := Lib.hid (fun h h2 => within_in hf ht hg hu hx h h2)
  have T2 := Lib.hid (fun h h2 => apart_in hf ht hg hu hx h h2)
  have T3 := Lib.hid (fun h => apart_within (f := f) (t := t) (g := g) (u := u) h)
  clear cA cW cS c0 hf ht hg hu hx
  generalize withinB f t g u = wi at *
  generalize apartB f t g u = ap at *
  generalize inB g u x = q at *
  generalize inB f t x = p at *
  go_enter Try.func7, Try.ntmps7
  go_upto_region 3 with (first
    | (go_at_call 11; ((with_reducible refine (alive_any _).mono ?_); rintro e w1 ⟨rfl, hb1⟩; have HT : Hid (Two w w1 f t g u) := (by first | exact Lib.hid (Two.step (Hid.out (by assumption)) hb1)); obtain ⟨hz1, hB1, h0, h1, h2, h3⟩ := HT.out; clear hb1)))
  go_cut [22] (fun s22 wx => s22 = .bool false ∧ Hid (Two w wx f t g u))
  case first =>
    have hT := T1.out
    clear T1 T2 T3
    cases wi <;> cases q <;> cases p <;> first | (exfalso; simp at hT; done) | skip
    all_goals clear hT
    all_goals
      go_wp2_with (first
        | (go_at_call 19; ((with_reducible refine (C1.out _).mono ?_); rintro e w2 ⟨rfl, hb2⟩; have HT : Hid (Two w w2 f t g u) := (by first | exact Lib.hid (Two.step (Hid.out (by assumption)) hb2)); obtain ⟨hz2, hB2, h0, h1, h2, h3⟩ := HT.out; clear hb2))
        | (go_at_call 14; ((with_reducible refine (C2.out _).mono ?_); rintro e w3 ⟨rfl, hb3⟩; have HT : Hid (Two w w3 f t g u) := (by first | exact Lib.hid (Two.step (Hid.out (by assumption)) hb3)); obtain ⟨hz3, hB3, h0, h1, h2, h3⟩ := HT.out; clear hb3))
        | (go_at_call 14; ((with_reducible refine (C3.out _).mono ?_); rintro e w4 ⟨rfl, hb4⟩; have HT : Hid (Two w w4 f t g u) := (by first | exact Lib.hid (Two.step (Hid.out (by assumption)) hb4)); obtain ⟨hz4, hB4, h0, h1, h2, h3⟩ := HT.out; clear hb4)))
      go_meet
      exact ⟨rfl, by assumption⟩
  case rest =>
    clear HT h0 h1 h2 h3 hB1 hz1
    obtain ⟨rfl, HT⟩ := hcut
    obtain ⟨wd, rfl⟩ : ∃ wd : World, wd = wc := ⟨_, rfl⟩
    obtain ⟨hz1, hB1, h0, h1, h2, h3⟩ := HT.out
    go_upto_region 5 with fail
    go_cut [35] (fun s35 wx => s35 = .bool false ∧ Hid (Two w wx f t g u))
    case first =>
      have hT := T2.out
      clear T1 T2 T3
      cases ap <;> cases p <;> cases q <;> first | (exfalso; simp at hT; done) | skip
      all_goals clear hT
      all_goals
        go_wp2_with (first
          | (go_at_call 21; ((with_reducible refine (C4.out _).mono ?_); rintro e w5 ⟨rfl, hb5⟩; have HT : Hid (Two w w5 f t g u) := (by first | exact Lib.hid (Two.step (Hid.out (by assumption)) hb5)); obtain ⟨hz5, hB5, h0, h1, h2, h3⟩ := HT.out; clear hb5))
          | (go_at_call 14; ((with_reducible refine (C2.out _).mono ?_); rintro e w6 ⟨rfl, hb6⟩; have HT : Hid (Two w w6 f t g u) := (by first | exact Lib.hid (Two.step (Hid.out (by assumption)) hb6)); obtain ⟨hz6, hB6, h0, h1, h2, h3⟩ := HT.out; clear hb6))
          | (go_at_call 14; ((with_reducible refine (C3.out _).mono ?_); rintro e w7 ⟨rfl, hb7⟩; have HT : Hid (Two w w7 f t g u) := (by first | exact Lib.hid (Two.step (Hid.out (by assumption)) hb7)); obtain ⟨hz7, hB7, h0, h1, h2, h3⟩ := HT.out; clear hb7)))
        go_meet
        exact ⟨rfl, by assumption⟩
    case rest =>
      clear HT h0 h1 h2 h3 hB1 hz1 C2 C3
      obtain ⟨rfl, HT⟩ := hcut
      obtain ⟨wb, rfl⟩ : ∃ wb : World, wb = wc := ⟨_, rfl⟩
      obtain ⟨hz1, hB', h0, h1, h2, h3⟩ := HT.out
      have hT := T3.out
      clear T1 T2 T3 HT
      have hza : w.heap.size < wb.heap.size := by omega
      go_upto_region 7 with fail
      have zA0 : w.heap.size < wb.heap.size := hza
      have g00 : wb.cell? ⟨w.heap.size, 0, none⟩ = some (.int .u64 (f : Nat)) := h0
      have g01 : wb.cell? ⟨w.heap.size, 1, none⟩ = some (.int .u64 (t : Nat)) := h1
      have zA1 : w.heap.size + 1 < wb.heap.size := hz1
      have g10 : wb.cell? ⟨w.heap.size + 1, 0, none⟩ = some (.int .u64 (g : Nat)) := h2
      have g11 : wb.cell? ⟨w.heap.size + 1, 1, none⟩ = some (.int .u64 (u : Nat)) := h3
      have HSS := Lib.hid (keep4 zA0 g00 g01 zA1 g10 g11)
      clear g00 g01 g10 g11
      cases ap
      · clear hT
        refine wp_region_held_drew (S := (fun w' => Below wb.heap.size wb w' ∧ (w'.cell? ⟨w.heap.size, 0, none⟩ = some (.int .u64 (f : Nat)) ∧ w'.cell? ⟨w.heap.size, 1, none⟩ = some (.int .u64 (t : Nat)) ∧ w'.cell? ⟨w.heap.size + 1, 0, none⟩ = some (.int .u64 (g : Nat)) ∧ w'.cell? ⟨w.heap.size + 1, 1, none⟩ = some (.int .u64 (u : Nat))))) (by kernel_rfl) ?_ (fun hHeld => ?_)
        · (try dsimp only); (first | assumption | exact HSS.out _ ((Below.refl _ _).drew) | exact keep_step HSS.out (by assumption) (by assumption))
        refine wpAnyH_take (i := 0) (oi := ⟨_, _, _, _, _, _⟩) (v := ?_) rfl (by kernel_rfl) (by kernel_rfl) (by kernel_rfl) (fun _ _ _ h => h) (Or.inl ⟨by rfl, ?_⟩) (by assumption) ?_
        rotate_left
        · (intro wS hSw; (try dsimp only at hSw); go_simp <;> with_reducible rfl)
        try simp only [Act.put, List.setIfInBounds_toArray, List.set_cons_zero, List.set_cons_succ]
        refine wpAnyH_take (i := 1) (oi := ⟨_, _, _, _, _, _⟩) (v := ?_) rfl (by kernel_rfl) (by kernel_rfl) (by kernel_rfl) (fun _ _ _ h => h) (Or.inl ⟨by rfl, ?_⟩) (by assumption) ?_
        rotate_left
        · (intro wS hSw; (try dsimp only at hSw); go_simp <;> with_reducible rfl)
        try simp only [Act.put, List.setIfInBounds_toArray, List.set_cons_zero, List.set_cons_succ]
        refine wpAnyH_ready (rs := [2]) (by kernel_rfl) (by simp) ?_
        refine AllReadyH.cons (o := ⟨_, _, _, _, _, _⟩) rfl (fun K hK => ?_) AllReadyH.nil
        go_simp
        (first | (go_at_call 19; (with_reducible refine (C6.out _).mono ?_); rintro e w9 ⟨rfl, hb9⟩) | (go_at_call 21; (with_reducible refine (C7.out _).mono ?_); rintro e w9 ⟨rfl, hb9⟩) | (go_at_call 21; (with_reducible refine (C4.out _).mono ?_); rintro e w9 ⟨rfl, hb9⟩) | (go_at_call 21; (with_reducible refine (C5.out _).mono ?_); rintro e w9 ⟨rfl, hb9⟩) | (go_at_call 19; (with_reducible refine (C8.out _).mono ?_); rintro e w9 ⟨rfl, hb9⟩) | (go_at_call 19; (with_reducible refine (C1.out _).mono ?_); rintro e w9 ⟨rfl, hb9⟩))
        go_wp2_with fail
        refine hK.out _ _ (by (try dsimp only); (first | assumption | exact HSS.out _ ((Below.refl _ _).drew) | exact keep_step HSS.out (by assumption) (by assumption))) (fun hHeld => ?_)
        clear hK K
        try simp only [Act.put, List.setIfInBounds_toArray, List.set_cons_zero, List.set_cons_succ]
        refine wpAnyH_take (i := 3) (oi := ⟨_, _, _, _, _, _⟩) (v := ?_) rfl (by kernel_rfl) (by kernel_rfl) (by kernel_rfl) (fun _ _ _ h => h) (Or.inl ⟨by rfl, ?_⟩) (by assumption) ?_
        rotate_left
        · (intro wS hSw; (try dsimp only at hSw); go_simp <;> with_reducible rfl)
        try simp only [Act.put, List.setIfInBounds_toArray, List.set_cons_zero, List.set_cons_succ]
        refine wpAnyH_take (i := 4) (oi := ⟨_, _, _, _, _, _⟩) (v := ?_) rfl (by kernel_rfl) (by kernel_rfl) (by kernel_rfl) (fun _ _ _ h => h) (Or.inl ⟨by rfl, ?_⟩) (by assumption) ?_
        rotate_left
        · (intro wS hSw; (try dsimp only at hSw); go_simp <;> with_reducible rfl)
        try simp only [Act.put, List.setIfInBounds_toArray, List.set_cons_zero, List.set_cons_succ]
        refine wpAnyH_take (i := 5) (oi := ⟨_, _, _, _, _, _⟩) (v := ?_) rfl (by kernel_rfl) (by kernel_rfl) (by kernel_rfl) (fun _ _ _ h => h) (Or.inl ⟨by rfl, ?_⟩) (by assumption) ?_
        rotate_left
        · (intro wS hSw; (try dsimp only at hSw); go_simp <;> with_reducible rfl)
        try simp only [Act.put, List.setIfInBounds_toArray, List.set_cons_zero, List.set_cons_succ]
        refine wpAnyH_ready (rs := [6]) (by kernel_rfl) (by simp) ?_
        refine AllReadyH.cons (o := ⟨_, _, _, _, _, _⟩) rfl (fun K hK => ?_) AllReadyH.nil
        go_simp
        (first | (go_at_call 19; (with_reducible refine (C6.out _).mono ?_); rintro e w9 ⟨rfl, hb9⟩) | (go_at_call 21; (with_reducible refine (C7.out _).mono ?_); rintro e w9 ⟨rfl, hb9⟩) | (go_at_call 21; (with_reducible refine (C4.out _).mono ?_); rintro e w9 ⟨rfl, hb9⟩) | (go_at_call 21; (with_reducible refine (C5.out _).mono ?_); rintro e w9 ⟨rfl, hb9⟩) | (go_at_call 19; (with_reducible refine (C8.out _).mono ?_); rintro e w9 ⟨rfl, hb9⟩) | (go_at_call 19; (with_reducible refine (C1.out _).mono ?_); rintro e w9 ⟨rfl, hb9⟩))
        go_wp2_with fail
        refine hK.out _ _ (by (try dsimp only); (first | assumption | exact HSS.out _ ((Below.refl _ _).drew) | exact keep_step HSS.out (by assumption) (by assumption))) (fun hHeld => ?_)
        clear hK K
        try simp only [Act.put, List.setIfInBounds_toArray, List.set_cons_zero, List.set_cons_succ]
        refine wpAnyH_take (i := 7) (oi := ⟨_, _, _, _, _, _⟩) (v := ?_) rfl (by kernel_rfl) (by kernel_rfl) (by kernel_rfl) (fun _ _ _ h => h) (Or.inl ⟨by rfl, ?_⟩) (by assumption) ?_
        rotate_left
        · (intro wS hSw; (try dsimp only at hSw); go_simp <;> with_reducible rfl)
        try simp only [Act.put, List.setIfInBounds_toArray, List.set_cons_zero, List.set_cons_succ]
        refine wpAnyH_take (i := 8) (oi := ⟨_, _, _, _, _, _⟩) (v := ?_) rfl (by kernel_rfl) (by kernel_rfl) (by kernel_rfl) (fun _ _ _ h => h) (Or.inl ⟨by rfl, ?_⟩) (by assumption) ?_
        rotate_left
        · (intro wS hSw; (try dsimp only at hSw); go_simp <;> with_reducible rfl)
        try simp only [Act.put, List.setIfInBounds_toArray, List.set_cons_zero, List.set_cons_succ]
        refine wpAnyH_take (i := 9) (oi := ⟨_, _, _, _, _, _⟩) (v := ?_) rfl (by kernel_rfl) (by kernel_rfl) (by kernel_rfl) (fun _ _ _ h => h) (Or.inl ⟨by rfl, ?_⟩) (by assumption) ?_
        rotate_left
        · (intro wS hSw; (try dsimp only at hSw); go_simp <;> with_reducible rfl)
        try simp only [Act.put, List.setIfInBounds_toArray, List.set_cons_zero, List.set_cons_succ]
        refine wpAnyH_take (i := 10) (oi := ⟨_, _, _, _, _, _⟩) (v := ?_) rfl (by kernel_rfl) (by kernel_rfl) (by kernel_rfl) (fun _ _ _ h => h) (Or.inl ⟨by rfl, ?_⟩) (by assumption) ?_
        rotate_left
        · (intro wS hSw; (try dsimp only at hSw); go_simp <;> with_reducible rfl)
        try simp only [Act.put, List.setIfInBounds_toArray, List.set_cons_zero, List.set_cons_succ]
        refine wpAnyH_take (i := 11) (oi := ⟨_, _, _, _, _, _⟩) (v := ?_) rfl (by kernel_rfl) (by kernel_rfl) (by kernel_rfl) (fun _ _ _ h => h) (Or.inl ⟨by rfl, ?_⟩) (by assumption) ?_
        rotate_left
        · (intro wS hSw; (try dsimp only at hSw); go_simp <;> with_reducible rfl)
        try simp only [Act.put, List.setIfInBounds_toArray, List.set_cons_zero, List.set_cons_succ]
        refine wpAnyH_take (i := 13) (oi := ⟨_, _, _, _, _, _⟩) (v := ?_) rfl (by kernel_rfl) (by kernel_rfl) (by kernel_rfl) (fun _ _ _ h => h) (Or.inl ⟨by rfl, ?_⟩) (by assumption) ?_
        rotate_left
        · (intro wS hSw; (try dsimp only at hSw); go_simp <;> with_reducible rfl)
        try simp only [Act.put, List.setIfInBounds_toArray, List.set_cons_zero, List.set_cons_succ]
        refine wpAnyH_take (i := 14) (oi := ⟨_, _, _, _, _, _⟩) (v := ?_) rfl (by kernel_rfl) (by kernel_rfl) (by kernel_rfl) (fun _ _ _ h => h) (Or.inl ⟨by rfl, ?_⟩) (by assumption) ?_
        rotate_left
        · (intro wS hSw; (try dsimp only at hSw); go_simp <;> with_reducible rfl)
        try simp only [Act.put, List.setIfInBounds_toArray, List.set_cons_zero, List.set_cons_succ]
        refine wpAnyH_ready (rs := [12]) (by kernel_rfl) (by simp) ?_
        refine AllReadyH.cons (o := ⟨_, _, _, _, _, _⟩) rfl (fun K hK => ?_) AllReadyH.nil
        go_simp
        (first | (go_at_call 19; (with_reducible refine (C6.out _).mono ?_); rintro e w9 ⟨rfl, hb9⟩) | (go_at_call 21; (with_reducible refine (C7.out _).mono ?_); rintro e w9 ⟨rfl, hb9⟩) | (go_at_call 21; (with_reducible refine (C4.out _).mono ?_); rintro e w9 ⟨rfl, hb9⟩) | (go_at_call 21; (with_reducible refine (C5.out _).mono ?_); rintro e w9 ⟨rfl, hb9⟩) | (go_at_call 19; (with_reducible refine (C8.out _).mono ?_); rintro e w9 ⟨rfl, hb9⟩) | (go_at_call 19; (with_reducible refine (C1.out _).mono ?_); rintro e w9 ⟨rfl, hb9⟩))
        go_wp2_with fail
        refine hK.out _ _ (by (try dsimp only); (first | assumption | exact HSS.out _ ((Below.refl _ _).drew) | exact keep_step HSS.out (by assumption) (by assumption))) (fun hHeld => ?_)
        clear hK K
        try simp only [Act.put, List.setIfInBounds_toArray, List.set_cons_zero, List.set_cons_succ]
        refine wpAnyH_ready (rs := [15]) (by kernel_rfl) (by simp) ?_
        refine AllReadyH.cons (o := ⟨_, _, _, _, _, _⟩) rfl (fun K hK => ?_) AllReadyH.nil
        go_simp
        (first | (go_at_call 19; (with_reducible refine (C6.out _).mono ?_); rintro e w9 ⟨rfl, hb9⟩) | (go_at_call 21; (with_reducible refine (C7.out _).mono ?_); rintro e w9 ⟨rfl, hb9⟩) | (go_at_call 21; (with_reducible refine (C4.out _).mono ?_); rintro e w9 ⟨rfl, hb9⟩) | (go_at_call 21; (with_reducible refine (C5.out _).mono ?_); rintro e w9 ⟨rfl, hb9⟩) | (go_at_call 19; (with_reducible refine (C8.out _).mono ?_); rintro e w9 ⟨rfl, hb9⟩) | (go_at_call 19; (with_reducible refine (C1.out _).mono ?_); rintro e w9 ⟨rfl, hb9⟩))
        go_wp2_with fail
        refine hK.out _ _ (by (try dsimp only); (first | assumption | exact HSS.out _ ((Below.refl _ _).drew) | exact keep_step HSS.out (by assumption) (by assumption))) (fun hHeld => ?_)
        clear hK K
        try simp only [Act.put, List.setIfInBounds_toArray, List.set_cons_zero, List.set_cons_succ]
        refine wpAnyH_take (i := 16) (oi := ⟨_, _, _, _, _, _⟩) (v := ?_) rfl (by kernel_rfl) (by kernel_rfl) (by kernel_rfl) (fun _ _ _ h => h) (Or.inl ⟨by rfl, ?_⟩) (by assumption) ?_
        rotate_left
        · (intro wS hSw; (try dsimp only at hSw); go_simp <;> with_reducible rfl)
        try simp only [Act.put, List.setIfInBounds_toArray, List.set_cons_zero, List.set_cons_succ]
        refine wpAnyH_take (i := 17) (oi := ⟨_, _, _, _, _, _⟩) (v := ?_) rfl (by kernel_rfl) (by kernel_rfl) (by kernel_rfl) (fun _ _ _ h => h) (Or.inl ⟨by rfl, ?_⟩) (by assumption) ?_
        rotate_left
        · (intro wS hSw; (try dsimp only at hSw); go_simp <;> with_reducible rfl)
        try simp only [Act.put, List.setIfInBounds_toArray, List.set_cons_zero, List.set_cons_succ]
        refine wpAnyH_take (i := 18) (oi := ⟨_, _, _, _, _, _⟩) (v := ?_) rfl (by kernel_rfl) (by kernel_rfl) (by kernel_rfl) (fun _ _ _ h => h) (Or.inl ⟨by rfl, ?_⟩) (by assumption) ?_
        rotate_left
        · (intro wS hSw; (try dsimp only at hSw); go_simp <;> with_reducible rfl)
        try simp only [Act.put, List.setIfInBounds_toArray, List.set_cons_zero, List.set_cons_succ]
        refine wpAnyH_take (i := 19) (oi := ⟨_, _, _, _, _, _⟩) (v := ?_) rfl (by kernel_rfl) (by kernel_rfl) (by kernel_rfl) (fun _ _ _ h => h) (Or.inl ⟨by rfl, ?_⟩) (by assumption) ?_
        rotate_left
        · (intro wS hSw; (try dsimp only at hSw); go_simp <;> with_reducible rfl)
        try simp only [Act.put, List.setIfInBounds_toArray, List.set_cons_zero, List.set_cons_succ]
        refine wpAnyH_take (i := 20) (oi := ⟨_, _, _, _, _, _⟩) (v := ?_) rfl (by kernel_rfl) (by kernel_rfl) (by kernel_rfl) (fun _ _ _ h => h) (Or.inl ⟨by rfl, ?_⟩) (by assumption) ?_
        rotate_left
        · (intro wS hSw; (try dsimp only at hSw); go_simp <;> with_reducible rfl)
        try simp only [Act.put, List.setIfInBounds_toArray, List.set_cons_zero, List.set_cons_succ]
        refine wpAnyH_ready (rs := [21]) (by kernel_rfl) (by simp) ?_
        refine AllReadyH.cons (o := ⟨_, _, _, _, _, _⟩) rfl (fun K hK => ?_) AllReadyH.nil
        go_simp
        (first | (go_at_call 19; (with_reducible refine (C6.out _).mono ?_); rintro e w9 ⟨rfl, hb9⟩) | (go_at_call 21; (with_reducible refine (C7.out _).mono ?_); rintro e w9 ⟨rfl, hb9⟩) | (go_at_call 21; (with_reducible refine (C4.out _).mono ?_); rintro e w9 ⟨rfl, hb9⟩) | (go_at_call 21; (with_reducible refine (C5.out _).mono ?_); rintro e w9 ⟨rfl, hb9⟩) | (go_at_call 19; (with_reducible refine (C8.out _).mono ?_); rintro e w9 ⟨rfl, hb9⟩) | (go_at_call 19; (with_reducible refine (C1.out _).mono ?_); rintro e w9 ⟨rfl, hb9⟩))
        go_wp2_with fail
        refine hK.out _ _ (by (try dsimp only); (first | assumption | exact HSS.out _ ((Below.refl _ _).drew) | exact keep_step HSS.out (by assumption) (by assumption))) (fun hHeld => ?_)
        clear hK K
        try simp only [Act.put, List.setIfInBounds_toArray, List.set_cons_zero, List.set_cons_succ]
        refine wpAnyH_take (i := 22) (oi := ⟨_, _, _, _, _, _⟩) (v := ?_) rfl (by kernel_rfl) (by kernel_rfl) (by kernel_rfl) (fun _ _ _ h => h) (Or.inl ⟨by rfl, ?_⟩) (by assumption) ?_
        rotate_left
        · (intro wS hSw; (try dsimp only at hSw); go_simp <;> with_reducible rfl)
        try simp only [Act.put, List.setIfInBounds_toArray, List.set_cons_zero, List.set_cons_succ]
        refine wpAnyH_take (i := 23) (oi := ⟨_, _, _, _, _, _⟩) (v := ?_) rfl (by kernel_rfl) (by kernel_rfl) (by kernel_rfl) (fun _ _ _ h => h) (Or.inl ⟨by rfl, ?_⟩) (by assumption) ?_
        rotate_left
        · (intro wS hSw; (try dsimp only at hSw); go_simp <;> with_reducible rfl)
        try simp only [Act.put, List.setIfInBounds_toArray, List.set_cons_zero, List.set_cons_succ]
        refine wpAnyH_take (i := 24) (oi := ⟨_, _, _, _, _, _⟩) (v := ?_) rfl (by kernel_rfl) (by kernel_rfl) (by kernel_rfl) (fun _ _ _ h => h) (Or.inl ⟨by rfl, ?_⟩) (by assumption) ?_
        rotate_left
        · (intro wS hSw; (try dsimp only at hSw); go_simp <;> with_reducible rfl)
        try simp only [Act.put, List.setIfInBounds_toArray, List.set_cons_zero, List.set_cons_succ]
        refine wpAnyH_take (i := 25) (oi := ⟨_, _, _, _, _, _⟩) (v := ?_) rfl (by kernel_rfl) (by kernel_rfl) (by kernel_rfl) (fun _ _ _ h => h) (Or.inl ⟨by rfl, ?_⟩) (by assumption) ?_
        rotate_left
        · (intro wS hSw; (try dsimp only at hSw); go_simp <;> with_reducible rfl)
        try simp only [Act.put, List.setIfInBounds_toArray, List.set_cons_zero, List.set_cons_succ]
        refine wpAnyH_ready (rs := [26]) (by kernel_rfl) (by simp) ?_
        refine AllReadyH.cons (o := ⟨_, _, _, _, _, _⟩) rfl (fun K hK => ?_) AllReadyH.nil
        go_simp
        (first | (go_at_call 19; (with_reducible refine (C6.out _).mono ?_); rintro e w9 ⟨rfl, hb9⟩) | (go_at_call 21; (with_reducible refine (C7.out _).mono ?_); rintro e w9 ⟨rfl, hb9⟩) | (go_at_call 21; (with_reducible refine (C4.out _).mono ?_); rintro e w9 ⟨rfl, hb9⟩) | (go_at_call 21; (with_reducible refine (C5.out _).mono ?_); rintro e w9 ⟨rfl, hb9⟩) | (go_at_call 19; (with_reducible refine (C8.out _).mono ?_); rintro e w9 ⟨rfl, hb9⟩) | (go_at_call 19; (with_reducible refine (C1.out _).mono ?_); rintro e w9 ⟨rfl, hb9⟩))
        go_wp2_with fail
        refine hK.out _ _ (by (try dsimp only); (first | assumption | exact HSS.out _ ((Below.refl _ _).drew) | exact keep_step HSS.out (by assumption) (by assumption))) (fun hHeld => ?_)
        clear hK K
        try simp only [Act.put, List.setIfInBounds_toArray, List.set_cons_zero, List.set_cons_succ]
        refine wpAnyH_take (i := 27) (oi := ⟨_, _, _, _, _, _⟩) (v := ?_) rfl (by kernel_rfl) (by kernel_rfl) (by kernel_rfl) (fun _ _ _ h => h) (Or.inl ⟨by rfl, ?_⟩) (by assumption) ?_
        rotate_left
        · (intro wS hSw; (try dsimp only at hSw); go_simp <;> with_reducible rfl)
        try simp only [Act.put, List.setIfInBounds_toArray, List.set_cons_zero, List.set_cons_succ]
        refine wpAnyH_take (i := 28) (oi := ⟨_, _, _, _, _, _⟩) (v := undef) rfl (by kernel_rfl) (by kernel_rfl) (by kernel_rfl) (fun _ _ _ h => h) (Or.inr ⟨by rfl, rfl⟩) (by assumption) ?_
        try simp only [Act.put, List.setIfInBounds_toArray, List.set_cons_zero, List.set_cons_succ]
        refine wpAnyH_take (i := 29) (oi := ⟨_, _, _, _, _, _⟩) (v := undef) rfl (by kernel_rfl) (by kernel_rfl) (by kernel_rfl) (fun _ _ _ h => h) (Or.inr ⟨by rfl, rfl⟩) (by assumption) ?_
        try simp only [Act.put, List.setIfInBounds_toArray, List.set_cons_zero, List.set_cons_succ]
        refine wpAnyH_take (i := 30) (oi := ⟨_, _, _, _, _, _⟩) (v := undef) rfl (by kernel_rfl) (by kernel_rfl) (by kernel_rfl) (fun _ _ _ h => h) (Or.inr ⟨by rfl, rfl⟩) (by assumption) ?_
        try simp only [Act.put, List.setIfInBounds_toArray, List.set_cons_zero, List.set_cons_succ]
        refine wpAnyH_take (i := 31) (oi := ⟨_, _, _, _, _, _⟩) (v := ?_) rfl (by kernel_rfl) (by kernel_rfl) (by kernel_rfl) (fun _ _ _ h => h) (Or.inl ⟨by rfl, ?_⟩) (by assumption) ?_
        rotate_left
        · (intro wS hSw; (try dsimp only at hSw); go_simp <;> with_reducible rfl)
        try simp only [Act.put, List.setIfInBounds_toArray, List.set_cons_zero, List.set_cons_succ]
        refine wpAnyH_take (i := 32) (oi := ⟨_, _, _, _, _, _⟩) (v := ?_) rfl (by kernel_rfl) (by kernel_rfl) (by kernel_rfl) (fun _ _ _ h => h) (Or.inl ⟨by rfl, ?_⟩) (by assumption) ?_
        rotate_left
        · (intro wS hSw; (try dsimp only at hSw); go_simp <;> with_reducible rfl)
        try simp only [Act.put, List.setIfInBounds_toArray, List.set_cons_zero, List.set_cons_succ]
        refine wpAnyH_take (i := 33) (oi := ⟨_, _, _, _, _, _⟩) (v := ?_) rfl (by kernel_rfl) (by kernel_rfl) (by kernel_rfl) (fun _ _ _ h => h) (Or.inl ⟨by rfl, ?_⟩) (by assumption) ?_
        rotate_left
        · (intro wS hSw; (try dsimp only at hSw); go_simp <;> with_reducible rfl)
        try simp only [Act.put, List.setIfInBounds_toArray, List.set_cons_zero, List.set_cons_succ]
        refine wpAnyH_take (i := 34) (oi := ⟨_, _, _, _, _, _⟩) (v := ?_) rfl (by kernel_rfl) (by kernel_rfl) (by kernel_rfl) (fun _ _ _ h => h) (Or.inl ⟨by rfl, ?_⟩) (by assumption) ?_
        rotate_left
        · (intro wS hSw; (try dsimp only at hSw); go_simp <;> with_reducible rfl)
        try simp only [Act.put, List.setIfInBounds_toArray, List.set_cons_zero, List.set_cons_succ]
        refine wpAnyH_done (by kernel_rfl) ?_ _
        go_wp2
        go_ret
        exact ⟨rfl, fin hB' (by assumption)⟩
      · obtain rfl := hT rfl
        clear hT
        first | go_region_held3 (fun w' => Below wb.heap.size wb w' ∧ (w'.cell? ⟨w.heap.size, 0, none⟩ = some (.int .u64 (f : Nat)) ∧ w'.cell? ⟨w.heap.size, 1, none⟩ = some (.int .u64 (t : Nat)) ∧ w'.cell? ⟨w.heap.size + 1, 0, none⟩ = some (.int .u64 (g : Nat)) ∧ w'.cell? ⟨w.heap.size + 1, 1, none⟩ = some (.int .u64 (u : Nat)))) ((first | assumption | exact HSS.out _ ((Below.refl _ _).drew) | exact keep_step HSS.out (by assumption) (by assumption)))
          (first | (go_at_call 19; (with_reducible refine (C6.out _).mono ?_); rintro e w9 ⟨rfl, hb9⟩) | (go_at_call 21; (with_reducible refine (C7.out _).mono ?_); rintro e w9 ⟨rfl, hb9⟩) | (go_at_call 21; (with_reducible refine (C4.out _).mono ?_); rintro e w9 ⟨rfl, hb9⟩) | (go_at_call 21; (with_reducible refine (C5.out _).mono ?_); rintro e w9 ⟨rfl, hb9⟩) | (go_at_call 19; (with_reducible refine (C8.out _).mono ?_); rintro e w9 ⟨rfl, hb9⟩) | (go_at_call 19; (with_reducible refine (C1.out _).mono ?_); rintro e w9 ⟨rfl, hb9⟩)) | fail
        go_wp2
        go_ret
        exact ⟨rfl, fin hB' (by assumption)⟩
end Go.Proofs.Ytfddheioganmfaa
