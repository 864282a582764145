/-
  The walk of WalkMiddle over ShelfLaws and WalkLaws. (Written by tools/genWMid.py.)
-/
import Derived.Test.YtglinhcldgpphaaWalkAlive
namespace Go.Proofs.Ytglinhcldgpphaa
open Go.RowKit

theorem ItemsAt.below {W w : World} {A : Option Addr} {zs : List Item} (h : ItemsAt W A zs) (hb : Below W.heap.size W w) : ItemsAt w A zs := by
  obtain ⟨b, off, h⟩ := h
  refine ⟨b, off, fun i hi => ?_⟩
  obtain ⟨a, c, d, e⟩ := h i hi
  exact ⟨a, Nat.lt_of_lt_of_le c hb.size, (hb.cell (p := ⟨b, off + i * 2, none⟩) c).trans d, (hb.cell (p := ⟨b, off + i * 2 + 1, none⟩) c).trans e⟩
/-- Filled, as the statements call it: ahead of every way -/
theorem filledW {SH : ShP} {SQ : SqP} (L : ShelfLaws SH) (A : Option Addr) (c : Nat) (zs : List Item) (W w : World) (hb : Below W.heap.size W w) (hA : ItemsAt W A zs) (hz : zs.length ≤ 9223372036854775807) {n : Nat} (hn : zs.length = n) :
    Calls Try.prog 13 #[.slice A n c] w fun e w' => ∃ gs gr, e = .returned (.tuple #[.pointer (some ⟨gs, 0, none⟩), .pointer (some ⟨gr, 0, none⟩)]) ∧ OSW SH SQ w w' gs gr (fillL zs) [] := by
  subst hn
  refine (filled_any L A c zs w w (Below.refl _ _) (hA.below hb) hz).mono ?_
  rintro e w' ⟨gs, gr, rfl, z⟩
  exact ⟨gs, gr, rfl, z.ways⟩
theorem fillL_small (zs : List Item) : ∀ x ∈ fillL zs, x.1.size ≤ 16 := fun x hx => ((fillL_fine zs).2 x hx).2
theorem fillL_goes (zs : List Item) : Goes (fillL zs) := (fillL_fine zs).1.goes

set_option maxRecDepth 100000 in
set_option maxHeartbeats 8000000 in
theorem walkMiddle_any {SH : ShP} {SQ : SqP} (L : ShelfLaws SH) (K : WalkLaws SH SQ) (A : Option Addr) (c : Nat) (zs : List Item) (f t : Nat) (W : World) (hA : ItemsAt W A zs) (hz : zs.length ≤ 9223372036854775807) (hf : f < 18446744073709551616) (ht : t < 18446744073709551616) :
    Calls Try.prog 4 #[.slice A zs.length c, .agg #[.int .u64 (f : Nat), .int .u64 (t : Nat)]] W fun e w' => e = .returned (.bool true) ∧ Below W.heap.size W w' := by
  have HL : Hid (ShelfLaws SH) := L
  have HK : Hid (WalkLaws SH SQ) := K
  have CA : Hid (∀ w, Calls Try.prog 12 #[] w fun e w' => e = .returned (.bool true) ∧ Below w.heap.size w w') := fun w => walkAlive_any L K w w (Below.refl _ _)
  obtain ⟨l, hl⟩ : ∃ l, fillL zs = l := ⟨_, rfl⟩
  have hlen : l.length ≤ 60 := by rw [← hl]; exact fillL_length zs
  have hls : ∀ x ∈ l, x.1.size ≤ 16 := by rw [← hl]; exact fillL_small zs
  have hgo : Goes l := by rw [← hl]; exact fillL_goes zs
  obtain ⟨n, hn⟩ : ∃ n, zs.length = n := ⟨_, rfl⟩
  have CF : Hid (∀ w, Below W.heap.size W w → Calls Try.prog 13 #[.slice A n c] w fun e w' => ∃ gs gr, e = .returned (.tuple #[.pointer (some ⟨gs, 0, none⟩), .pointer (some ⟨gr, 0, none⟩)]) ∧ OSW SH SQ w w' gs gr l []) := fun w h => by
    have z := filledW (SQ := SQ) L A c zs W w h hA hz hn
    rwa [hl] at z
  obtain ⟨N, hN⟩ : ∃ N, (arcL l f t).length = N := ⟨_, rfl⟩
  have hN60 : N ≤ 120 := by
    rw [← hN, arcL, List.length_append]
    have h1 := List.length_filter_le (inA f t false) l
    have h2 := List.length_filter_le (inA f t true) l
    omega
  obtain ⟨o, ho⟩ : ∃ o, midL (arcL l f t) = o := ⟨_, rfl⟩
  have CM : Hid (∀ V w gs gr, OSW SH SQ V w gs gr l [] → Calls Try.prog 16 #[.pointer (some ⟨gs, 0, none⟩), .agg #[.int .u64 (f : Nat), .int .u64 (t : Nat)]] w fun e w' => e = .returned (midV o) ∧ OSW SH SQ V w' gs gr l [] ∧ Below w.heap.size w w') := fun V w gs gr h => h.middle L K hls f t hf ht ho
  have CN : Hid (∀ V w gs gr, OSW SH SQ V w gs gr l [] → Calls Try.prog 19 #[.pointer (some ⟨gs, 0, none⟩), .agg #[.int .u64 (f : Nat), .int .u64 (t : Nat)]] w fun e w' => e = .returned (.int .i64 (N : Nat)) ∧ OSW SH SQ V w' gs gr l [] ∧ Below w.heap.size w w') := fun V w gs gr h => h.count L K hls f t hf ht hN
  have HX : Hid ((W.alloc (.cells #[.int .u64 (f : Nat), .int .u64 (t : Nat)] 25)).cell? ⟨W.heap.size, 0, none⟩ = some (.int .u64 (f : Nat)) ∧ (W.alloc (.cells #[.int .u64 (f : Nat), .int .u64 (t : Nat)] 25)).cell? ⟨W.heap.size, 1, none⟩ = some (.int .u64 (t : Nat)) ∧ W.heap.size < (W.alloc (.cells #[.int .u64 (f : Nat), .int .u64 (t : Nat)] 25)).heap.size ∧ Below W.heap.size W (W.alloc (.cells #[.int .u64 (f : Nat), .int .u64 (t : Nat)] 25))) := ⟨by go_simp, by go_simp, by simp, (Below.refl _ _).alloc (Nat.le_refl _) _⟩
  rw [hn] at hz ⊢
  by_cases h60 : 60 < n
  · have d0 : decide ((60 : Int) < (n : Int)) = true := by simp; omega
    clear CF CM CN hA hl ho hN hls hgo
    go_enter Try.func4, Try.ntmps4
    go_wp2_with (go_at_call 12; (with_reducible refine (CA.out _).mono ?_); rintro e w1 ⟨rfl, h1⟩)
    go_ret
    exact ⟨rfl, acc HX.out.2.2.2 h1⟩
  have d0 : decide ((60 : Int) < (n : Int)) = false := by simp; omega
  obtain ⟨x0, x1, hbx, HBX⟩ := HX.out


  cases o with
  | none =>
    clear hA hl ho hN hls hgo
    go_enter Try.func4, Try.ntmps4
    go_wp2_with (first
      | (go_at_call 12; (with_reducible refine (CA.out _).mono ?_); rintro e w1 ⟨rfl, h1⟩; have HB1 := Lib.hid (acc HBX h1); have y0 := (h1.cell (p := ⟨W.heap.size, 0, none⟩) hbx).trans x0; have y1 := (h1.cell (p := ⟨W.heap.size, 1, none⟩) hbx).trans x1; have hb1 : W.heap.size < w1.heap.size := Nat.lt_of_lt_of_le hbx h1.size; clear h1)
      | (go_at_call 13; (with_reducible refine (CF.out _ HB1.out).mono ?_); rintro e w2 ⟨gs, gr, rfl, h2⟩; have H2 := Lib.hid h2; have a0 := (h2.1.cell (p := ⟨W.heap.size, 0, none⟩) hb1).trans y0; have a1 := (h2.1.cell (p := ⟨W.heap.size, 1, none⟩) hb1).trans y1; clear h2)
      | (go_at_call 16; (with_reducible refine (CM.out _ _ _ _ H2.out).mono ?_); rintro e w3 ⟨rfl, h3, -⟩; have H3 := Lib.hid h3; have b0 := (h3.1.cell (p := ⟨W.heap.size, 0, none⟩) hb1).trans y0; have b1 := (h3.1.cell (p := ⟨W.heap.size, 1, none⟩) hb1).trans y1; unfold midV; clear h3)
      | (go_at_call 19; (with_reducible refine (CN.out _ _ _ _ H3.out).mono ?_); rintro e w4 ⟨rfl, h4, -⟩; have H4 := Lib.hid h4; clear h4))
    go_ret
    exact ⟨rfl, acc HB1.out H4.out.1⟩
  | some m =>
    obtain ⟨hm, hmf, i, i1, i2, i3, i4, i5⟩ := middle_parts hgo hf ht ho
    rw [hN] at i2 i3 i5
    obtain ⟨hh, hhh⟩ : ∃ hh, N - i = hh := ⟨_, rfl⟩
    rw [hhh] at i5
    have C1 : Hid (∀ V w gs gr, OSW SH SQ V w gs gr l [] → Calls Try.prog 19 #[.pointer (some ⟨gs, 0, none⟩), .agg #[.int .u64 (f : Nat), .int .u64 (m : Nat)]] w fun e w' => e = .returned (.int .i64 (i : Nat)) ∧ OSW SH SQ V w' gs gr l [] ∧ Below w.heap.size w w') := fun V w gs gr h => h.count L K hls f m hf hm i4
    have C2 : Hid (∀ V w gs gr, OSW SH SQ V w gs gr l [] → Calls Try.prog 19 #[.pointer (some ⟨gs, 0, none⟩), .agg #[.int .u64 (m : Nat), .int .u64 (t : Nat)]] w fun e w' => e = .returned (.int .i64 (hh : Nat)) ∧ OSW SH SQ V w' gs gr l [] ∧ Below w.heap.size w w') := fun V w gs gr h => h.count L K hls m t hm ht i5
    have e1 : ((m : Int) != (f : Int)) = true := by simp; omega
    have e2 : decide ((1 : Int) ≤ (i : Int)) = true := by simp; omega
    have e3 : decide ((1 : Int) ≤ (hh : Int)) = true := by simp; omega
    have e4 : decide ((N : Int) ≤ 2 * (i : Int)) = true := by simp; omega
    have e5 : ((i : Int) + (hh : Int) == (N : Int)) = true := by simp; omega
    clear hA hl ho hN hls hgo i4 i5
    go_enter Try.func4, Try.ntmps4
    go_upto_region 8 with (first
      | (go_at_call 12; (with_reducible refine (CA.out _).mono ?_); rintro e w1 ⟨rfl, h1⟩; have HB1 := Lib.hid (acc HBX h1); have y0 := (h1.cell (p := ⟨W.heap.size, 0, none⟩) hbx).trans x0; have y1 := (h1.cell (p := ⟨W.heap.size, 1, none⟩) hbx).trans x1; have hb1 : W.heap.size < w1.heap.size := Nat.lt_of_lt_of_le hbx h1.size; clear h1)
      | (go_at_call 13; (with_reducible refine (CF.out _ HB1.out).mono ?_); rintro e w2 ⟨gs, gr, rfl, h2⟩; have H2 := Lib.hid h2; have a0 := (h2.1.cell (p := ⟨W.heap.size, 0, none⟩) hb1).trans y0; have a1 := (h2.1.cell (p := ⟨W.heap.size, 1, none⟩) hb1).trans y1; clear h2)
      | (go_at_call 16; (with_reducible refine (CM.out _ _ _ _ H2.out).mono ?_); rintro e w3 ⟨rfl, h3, -⟩; have H3 := Lib.hid h3; have b0 := (h3.1.cell (p := ⟨W.heap.size, 0, none⟩) hb1).trans y0; have b1 := (h3.1.cell (p := ⟨W.heap.size, 1, none⟩) hb1).trans y1; unfold midV; clear h3)
      | (go_at_call 19; (with_reducible refine (CN.out _ _ _ _ H3.out).mono ?_); rintro e w4 ⟨rfl, h4, -⟩; have H4 := Lib.hid h4; clear h4))
    have HSS : Hid (∀ w', Below w1.heap.size w1 w' → w'.cell? ⟨W.heap.size, 0, none⟩ = some (.int .u64 (f : Nat)) ∧ w'.cell? ⟨W.heap.size, 1, none⟩ = some (.int .u64 (t : Nat))) := fun w' h => ⟨(h.cell (p := ⟨W.heap.size, 0, none⟩) hb1).trans y0, (h.cell (p := ⟨W.heap.size, 1, none⟩) hb1).trans y1⟩
    have HP0 := Lib.hid (H4.out.below L K (Below.refl _ _).drew)
    have hbb0 := HP0.out.1
    refine wp_region_held_drew (S := (fun w' => w'.cell? ⟨W.heap.size, 0, none⟩ = some (.int .u64 (f : Nat)) ∧ w'.cell? ⟨W.heap.size, 1, none⟩ = some (.int .u64 (t : Nat)))) (by kernel_rfl) ?_ (fun hHeld => ?_)
    · (try dsimp only); (first | assumption | exact HSS.out _ (by assumption))
    refine wpAnyH_take (i := 0) (oi := ⟨_, _, _, _, _, _⟩) (v := ?_) rfl (by kernel_rfl) (by kernel_rfl) (by kernel_rfl) (fun _ _ _ h => h) (Or.inl ⟨by rfl, ?_⟩) (by assumption) ?_
    rotate_left
    · (intro wS hSw; (try dsimp only at hSw); go_simp <;> with_reducible rfl)
    try simp only [Act.put, List.setIfInBounds_toArray, List.set_cons_zero, List.set_cons_succ]
    refine wpAnyH_take (i := 1) (oi := ⟨_, _, _, _, _, _⟩) (v := ?_) rfl (by kernel_rfl) (by kernel_rfl) (by kernel_rfl) (fun _ _ _ h => h) (Or.inl ⟨by rfl, ?_⟩) (by assumption) ?_
    rotate_left
    · (intro wS hSw; (try dsimp only at hSw); go_simp <;> with_reducible rfl)
    try simp only [Act.put, List.setIfInBounds_toArray, List.set_cons_zero, List.set_cons_succ]
    refine wpAnyH_take (i := 2) (oi := ⟨_, _, _, _, _, _⟩) (v := ?_) rfl (by kernel_rfl) (by kernel_rfl) (by kernel_rfl) (fun _ _ _ h => h) (Or.inl ⟨by rfl, ?_⟩) (by assumption) ?_
    rotate_left
    · (intro wS hSw; (try dsimp only at hSw); go_simp <;> with_reducible rfl)
    try simp only [Act.put, List.setIfInBounds_toArray, List.set_cons_zero, List.set_cons_succ]
    refine wpAnyH_take (i := 3) (oi := ⟨_, _, _, _, _, _⟩) (v := ?_) rfl (by kernel_rfl) (by kernel_rfl) (by kernel_rfl) (fun _ _ _ h => h) (Or.inl ⟨by rfl, ?_⟩) (by assumption) ?_
    rotate_left
    · (intro wS hSw; (try dsimp only at hSw); go_simp <;> with_reducible rfl)
    try simp only [Act.put, List.setIfInBounds_toArray, List.set_cons_zero, List.set_cons_succ]
    refine wpAnyH_take (i := 4) (oi := ⟨_, _, _, _, _, _⟩) (v := ?_) rfl (by kernel_rfl) (by kernel_rfl) (by kernel_rfl) (fun _ _ _ h => h) (Or.inl ⟨by rfl, ?_⟩) (by assumption) ?_
    rotate_left
    · (intro wS hSw; (try dsimp only at hSw); go_simp <;> with_reducible rfl)
    try simp only [Act.put, List.setIfInBounds_toArray, List.set_cons_zero, List.set_cons_succ]
    refine wpAnyH_take (i := 6) (oi := ⟨_, _, _, _, _, _⟩) (v := ?_) rfl (by kernel_rfl) (by kernel_rfl) (by kernel_rfl) (fun _ _ _ h => h) (Or.inl ⟨by rfl, ?_⟩) (by assumption) ?_
    rotate_left
    · (intro wS hSw; (try dsimp only at hSw); go_simp <;> with_reducible rfl)
    try simp only [Act.put, List.setIfInBounds_toArray, List.set_cons_zero, List.set_cons_succ]
    refine wpAnyH_take (i := 7) (oi := ⟨_, _, _, _, _, _⟩) (v := ?_) rfl (by kernel_rfl) (by kernel_rfl) (by kernel_rfl) (fun _ _ _ h => h) (Or.inl ⟨by rfl, ?_⟩) (by assumption) ?_
    rotate_left
    · (intro wS hSw; (try dsimp only at hSw); go_simp <;> with_reducible rfl)
    try simp only [Act.put, List.setIfInBounds_toArray, List.set_cons_zero, List.set_cons_succ]
    refine wpAnyH_take (i := 8) (oi := ⟨_, _, _, _, _, _⟩) (v := ?_) rfl (by kernel_rfl) (by kernel_rfl) (by kernel_rfl) (fun _ _ _ h => h) (Or.inl ⟨by rfl, ?_⟩) (by assumption) ?_
    rotate_left
    · (intro wS hSw; (try dsimp only at hSw); go_simp <;> with_reducible rfl)
    try simp only [Act.put, List.setIfInBounds_toArray, List.set_cons_zero, List.set_cons_succ]
    refine wpAnyH_take (i := 9) (oi := ⟨_, _, _, _, _, _⟩) (v := ?_) rfl (by kernel_rfl) (by kernel_rfl) (by kernel_rfl) (fun _ _ _ h => h) (Or.inl ⟨by rfl, ?_⟩) (by assumption) ?_
    rotate_left
    · (intro wS hSw; (try dsimp only at hSw); go_simp <;> with_reducible rfl)
    try simp only [Act.put, List.setIfInBounds_toArray, List.set_cons_zero, List.set_cons_succ]
    refine wpAnyH_take (i := 10) (oi := ⟨_, _, _, _, _, _⟩) (v := ?_) rfl (by kernel_rfl) (by kernel_rfl) (by kernel_rfl) (fun _ _ _ h => h) (Or.inl ⟨by rfl, ?_⟩) (by assumption) ?_
    rotate_left
    · (intro wS hSw; (try dsimp only at hSw); go_simp <;> with_reducible rfl)
    try simp only [Act.put, List.setIfInBounds_toArray, List.set_cons_zero, List.set_cons_succ]
    refine wpAnyH_ready (rs := [5]) (by kernel_rfl) (by simp) ?_
    refine AllReadyH.cons (o := ⟨_, _, _, _, _, _⟩) rfl (fun K hK => ?_) AllReadyH.nil
    go_simp
    (first | (go_at_call 19; (with_reducible refine (C1.out _ _ _ _ HP0.out).mono ?_); rintro e w5 ⟨rfl, h5, -⟩; have HP5 := Lib.hid h5; have hbb5 := h5.1; clear h5) | (go_at_call 19; (with_reducible refine (C2.out _ _ _ _ HP5.out).mono ?_); rintro e w6 ⟨rfl, h6, -⟩; have HP6 := Lib.hid h6; have hbb6 := h6.1; clear h6))
    go_wp2_with fail
    refine hK.out _ _ (by (try dsimp only); (first | assumption | exact HSS.out _ (by assumption))) (fun hHeld => ?_)
    clear hK K
    try simp only [Act.put, List.setIfInBounds_toArray, List.set_cons_zero, List.set_cons_succ]
    refine wpAnyH_ready (rs := [11]) (by kernel_rfl) (by simp) ?_
    refine AllReadyH.cons (o := ⟨_, _, _, _, _, _⟩) rfl (fun K hK => ?_) AllReadyH.nil
    go_simp
    (first | (go_at_call 19; (with_reducible refine (C1.out _ _ _ _ HP0.out).mono ?_); rintro e w5 ⟨rfl, h5, -⟩; have HP5 := Lib.hid h5; have hbb5 := h5.1; clear h5) | (go_at_call 19; (with_reducible refine (C2.out _ _ _ _ HP5.out).mono ?_); rintro e w6 ⟨rfl, h6, -⟩; have HP6 := Lib.hid h6; have hbb6 := h6.1; clear h6))
    go_wp2_with fail
    refine hK.out _ _ (by (try dsimp only); (first | assumption | exact HSS.out _ (by assumption))) (fun hHeld => ?_)
    clear hK K
    try simp only [Act.put, List.setIfInBounds_toArray, List.set_cons_zero, List.set_cons_succ]
    refine wpAnyH_take (i := 12) (oi := ⟨_, _, _, _, _, _⟩) (v := ?_) rfl (by kernel_rfl) (by kernel_rfl) (by kernel_rfl) (fun _ _ _ h => h) (Or.inl ⟨by rfl, ?_⟩) (by assumption) ?_
    rotate_left
    · (intro wS hSw; (try dsimp only at hSw); go_simp <;> with_reducible rfl)
    try simp only [Act.put, List.setIfInBounds_toArray, List.set_cons_zero, List.set_cons_succ]
    refine wpAnyH_take (i := 13) (oi := ⟨_, _, _, _, _, _⟩) (v := ?_) rfl (by kernel_rfl) (by kernel_rfl) (by kernel_rfl) (fun _ _ _ h => h) (Or.inl ⟨by rfl, ?_⟩) (by assumption) ?_
    rotate_left
    · (intro wS hSw; (try dsimp only at hSw); go_simp <;> with_reducible rfl)
    try simp only [Act.put, List.setIfInBounds_toArray, List.set_cons_zero, List.set_cons_succ]
    refine wpAnyH_done (by kernel_rfl) ?_ _
    have z0 := (HP6.out.1.cell (p := ⟨W.heap.size, 0, none⟩) hb1).trans y0
    go_wp2_with fail
    go_ret
    exact ⟨rfl, acc HB1.out HP6.out.1⟩
end Go.Proofs.Ytglinhcldgpphaa
