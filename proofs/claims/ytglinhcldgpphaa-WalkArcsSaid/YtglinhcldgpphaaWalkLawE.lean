/-
  The walk of WalkArcs over ShelfLaws and WalkLaws. (Written by tools/genWArc.py.)
-/
import Derived.Test.YtglinhcldgpphaaWalkLawC
import Derived.Test.YtglinhcldgpphaaArcSplit
namespace Go.Proofs.Ytglinhcldgpphaa
open Go.RowKit

theorem arcL_few (l : List Item) (f t : Nat) : (arcL l f t).length ≤ l.length := by
  rw [arcL_rot]
  refine Nat.le_trans (List.length_filter_le _ _) ?_
  rw [rot, List.length_append]
  induction l with
  | nil => simp
  | cons x l ih =>
    by_cases h : f ≤ adr x
    · rw [List.filter_cons_of_pos (by simpa using h), List.filter_cons_of_neg (by simpa using Nat.not_lt.2 h)]
      simp only [List.length_cons]
      omega
    · rw [List.filter_cons_of_neg (by simpa using h), List.filter_cons_of_pos (by simpa using Nat.lt_of_not_le h)]
      simp only [List.length_cons]
      omega

set_option maxRecDepth 100000 in
set_option maxHeartbeats 16000000 in
theorem walkArcs_any {SH : ShP} {SQ : SqP} (L : ShelfLaws SH) (KW : WalkLaws SH SQ) (A : Option Addr) (c : Nat) (zs : List Item) (f t x : Nat) (W : World) (hA : ItemsAt W A zs) (hz : zs.length ≤ 9223372036854775807) (hf : f < 18446744073709551616) (ht : t < 18446744073709551616) (hx : x < 18446744073709551616) :
    Calls Try.prog 7 #[.slice A zs.length c, .agg #[.int .u64 (f : Nat), .int .u64 (t : Nat)], .int .u64 (x : Nat)] W fun e w' => e = .returned (.bool true) ∧ Below W.heap.size W w' := by
  have CA : Hid (∀ w, Calls Try.prog 12 #[] w fun e w' => e = .returned (.bool true) ∧ Below w.heap.size w w') := fun w => walkAlive_any L KW w w (Below.refl _ _)
  obtain ⟨i0, hi0, hz0, hs0, hb0⟩ := infoItems
  obtain ⟨l, hl⟩ : ∃ l, fillL zs = l := ⟨_, rfl⟩
  have hlen : l.length ≤ 60 := by rw [← hl]; exact fillL_length zs
  have hls : ∀ x ∈ l, x.1.size ≤ 16 := by rw [← hl]; exact fillL_small zs
  have hgo : Goes l := by rw [← hl]; exact fillL_goes zs
  obtain ⟨n, hn⟩ : ∃ n, zs.length = n := ⟨_, rfl⟩
  have CF : Hid (∀ w, Below W.heap.size W w → Calls Try.prog 13 #[.slice A n c] w fun e w' => ∃ gs gr, e = .returned (.tuple #[.pointer (some ⟨gs, 0, none⟩), .pointer (some ⟨gr, 0, none⟩)]) ∧ OSW SH SQ w w' gs gr l []) := fun w h => by
    have z := filledW (SQ := SQ) L A c zs W w h hA hz hn
    rwa [hl] at z
  have few : ∀ f t, (arcL l f t).length ≤ 60 := fun f t => Nat.le_trans (arcL_few l f t) hlen
  have tk : ∀ f t, (wayL (.arc f t) l).take (Int.toNat 99) = arcL l f t := fun f t => List.take_of_length_le (by have := few f t; show (arcL l f t).length ≤ 99; omega)
  obtain ⟨la, hla⟩ : ∃ x, arcL l f t = x := ⟨_, rfl⟩
  have ELA : Hid ((wayL (.arc f t) l).take (Int.toNat 99) = la) := (tk f t).trans hla
  have HLA := Lib.hid hla
  obtain ⟨na, hna⟩ : ∃ x, la.length = x := ⟨_, rfl⟩
  have HNA := Lib.hid hna
  have HF := Lib.hid hf
  have HT := Lib.hid ht
  have HXX := Lib.hid hx
  have HLS := Lib.hid hls
  have HSP := Lib.hid (fun w => arcSplit_any f t x w hf ht hx)
  have HX : Hid ((W.alloc (.cells #[.int .u64 (f : Nat), .int .u64 (t : Nat)] 25)).cell? ⟨W.heap.size, 0, none⟩ = some (.int .u64 (f : Nat)) ∧ (W.alloc (.cells #[.int .u64 (f : Nat), .int .u64 (t : Nat)] 25)).cell? ⟨W.heap.size, 1, none⟩ = some (.int .u64 (t : Nat)) ∧ W.heap.size < (W.alloc (.cells #[.int .u64 (f : Nat), .int .u64 (t : Nat)] 25)).heap.size ∧ Below W.heap.size W (W.alloc (.cells #[.int .u64 (f : Nat), .int .u64 (t : Nat)] 25))) := ⟨by go_simp, by go_simp, by simp, (Below.refl _ _).alloc (Nat.le_refl _) _⟩
  rw [hn] at hz ⊢
  by_cases h60 : 60 < n
  · have d0 : decide ((60 : Int) < (n : Int)) = true := by simp; omega
    clear CF hA hl hls hgo few tk hla hna hf ht hx hlen
    go_enter Try.func7, Try.ntmps7
    go_wp2_with (go_at_call 12; (with_reducible refine (CA.out _).mono ?_); rintro e w1 ⟨rfl, h1⟩)
    go_ret
    exact ⟨rfl, acc HX.out.2.2.2 h1⟩
  have d0 : decide ((60 : Int) < (n : Int)) = false := by simp; omega
  obtain ⟨x0, x1, hbx, HBX⟩ := HX.out
  obtain ⟨m, hm⟩ : ∃ m, mayB f t x = m := ⟨_, rfl⟩
  rw [hm] at HSP
  cases m with
  | false =>
    have CS : Hid (∀ w, Calls Try.prog 28 #[.agg #[.int .u64 (f : Nat), .int .u64 (t : Nat)], .int .u64 (x : Nat)] w fun e w' => e = .returned (.tuple #[.agg #[.int .u64 0, .int .u64 0], .agg #[.int .u64 0, .int .u64 0], .bool false]) ∧ Below w.heap.size w w') := HSP.out
    clear hA hl hls hgo few tk hla hna hf ht hx hlen hm HSP
    go_enter Try.func7, Try.ntmps7
    go_wp2_with (first
      | (go_at_call 12; (with_reducible refine (CA.out _).mono ?_); rintro e w1 ⟨rfl, h1⟩; have HB1 := Lib.hid (acc HBX h1); have y0 := (h1.cell (p := ⟨W.heap.size, 0, none⟩) hbx).trans x0; have y1 := (h1.cell (p := ⟨W.heap.size, 1, none⟩) hbx).trans x1; have hb1 : W.heap.size < w1.heap.size := Nat.lt_of_lt_of_le hbx h1.size; clear h1)
      | (go_at_call 13; (with_reducible refine (CF.out _ HB1.out).mono ?_); rintro e w2 ⟨gs, gr, rfl, h2⟩; have H2 := Lib.hid h2; have a0 := (h2.1.cell (p := ⟨W.heap.size, 0, none⟩) hb1).trans y0; have a1 := (h2.1.cell (p := ⟨W.heap.size, 1, none⟩) hb1).trans y1; clear h2)
      | (go_at_call 28; (with_reducible refine (CS.out _).mono ?_); rintro e w3 ⟨rfl, b3⟩; have H3 := Lib.hid (H2.out.below L KW b3); have e0 := (H3.out.1.cell (p := ⟨W.heap.size, 0, none⟩) hb1).trans y0; have e1 := (H3.out.1.cell (p := ⟨W.heap.size, 1, none⟩) hb1).trans y1; have hb3 : W.heap.size < w3.heap.size := Nat.lt_of_lt_of_le hb1 H3.out.1.size; have H3b := Lib.hid (fun o1 o2 => (H3.out.alloc L KW o1).alloc L KW o2); clear b3)
      | (go_at_call 29; (with_reducible refine ((H3b.out _ _).arc L KW f t HF.out HT.out).mono ?_); rintro e w4 ⟨fv4, rfl, h4, b4⟩; have H4 := Lib.hid h4; have B4 := Lib.hid b4; clear h4 b4)
      | (go_at_call 26; (with_reducible refine (H4.out.collect L KW (fv := fv4) (k := .arc f t) (by simp) HLS.out 99 (by omega) (by omega) (a := la) ELA.out).mono ?_); rintro e w5 ⟨A5, c5, rfl, z5, h5, b5⟩; rw [HNA.out] at z5 ⊢; have B5 := Lib.hid (acc B4.out b5); have H5 := Lib.hid h5; have HA5 := Lib.hid (own_mono z5 (Nat.zero_le _)); have f0 := (H5.out.1.cell (p := ⟨W.heap.size, 0, none⟩) hb1).trans y0; have f1 := (H5.out.1.cell (p := ⟨W.heap.size, 1, none⟩) hb1).trans y1; clear z5 h5 b5)
      | (go_at_call 19; (with_reducible refine (H5.out.count L KW HLS.out f t HF.out HT.out (n := na) (by rw [HLA.out]; exact HNA.out)).mono ?_); rintro e w6 ⟨rfl, h6, b6⟩; have B6 := Lib.hid (acc B5.out b6); have H6 := Lib.hid h6; have HA6 := Lib.hid ((Touch.ofBelow (F := []) b6).row HA5.out (by simp)); have g0 := (H6.out.1.cell (p := ⟨W.heap.size, 0, none⟩) hb1).trans y0; clear h6 b6))
    go_ret
    exact ⟨rfl, acc HB1.out H6.out.1⟩
  | true =>
    have CS : Hid (∀ w, Calls Try.prog 28 #[.agg #[.int .u64 (f : Nat), .int .u64 (t : Nat)], .int .u64 (x : Nat)] w fun e w' => e = .returned (.tuple #[.agg #[.int .u64 (f : Nat), .int .u64 (x : Nat)], .agg #[.int .u64 (x : Nat), .int .u64 (t : Nat)], .bool true]) ∧ Below w.heap.size w w') := HSP.out
    have hxf : x ≠ f ∧ inB f t x = true := by
      have z := hm
      simp [mayB] at z
      exact z
    obtain ⟨lp, hlp⟩ : ∃ y, arcL l f x = y := ⟨_, rfl⟩
    obtain ⟨lq, hlq⟩ : ∃ y, arcL l x t = y := ⟨_, rfl⟩
    have hsum : lp ++ lq = la := by rw [← hlp, ← hlq, ← hla]; exact arcL_cut hgo hf ht hx hxf.1 hxf.2
    have ELP : Hid ((wayL (.arc f x) l).take (Int.toNat 99) = lp) := (tk f x).trans hlp
    have ELQ : Hid ((wayL (.arc x t) l).take (Int.toNat 99) = lq) := (tk x t).trans hlq
    obtain ⟨np, hnp⟩ : ∃ y, lp.length = y := ⟨_, rfl⟩
    obtain ⟨nq, hnq⟩ : ∃ y, lq.length = y := ⟨_, rfl⟩
    have HLP := Lib.hid hlp
    have HLQ := Lib.hid hlq
    have HNP := Lib.hid hnp
    have HNQ := Lib.hid hnq
    have bp : np ≤ 60 := by rw [← hnp, ← hlp]; exact few f x
    have bq : nq ≤ 60 := by rw [← hnq, ← hlq]; exact few x t
    have hadd : np + nq = na := by rw [← hnp, ← hnq, ← hna, ← hsum, List.length_append]
    have t1 : IntKind.i64.wrap ((np : Int) + (nq : Int)) = (na : Int) := by rw [IntKind.wrap_i64]; omega
    have SA : Hid (∀ w A4 c4 Z d, w.ownsRow 0 32 2 (.slice A4 (np + nq) c4) (np + nq) (itemCells (lp ++ lq)) → w.ownsRow 0 32 2 (.slice Z na d) na (itemCells la) → Calls Try.prog 25 #[.slice A4 (np + nq) c4, .slice Z na d] w fun e w' => e = .returned (.bool true) ∧ ∃ k, w' = w.drewN k) := fun w A4 c4 Z d h1 h2 => by
      have hl1 : (lp ++ lq).length = np + nq := by rw [List.length_append, hnp, hnq]
      rw [← hl1] at h1 ⊢
      rw [← hna] at h2 ⊢
      refine (sameItems_any A4 Z c4 d (lp ++ lq) la w h1 h2).mono ?_
      rintro e w' ⟨rfl, k⟩
      exact ⟨by rw [(sameL_iff _ _).2 hsum], k⟩
    clear hA hl hls hgo few tk hla hna hf ht hx hlen hm HSP hsum hnp hnq hlp hlq hxf hadd
    go_enter Try.func7, Try.ntmps7
    go_upto_region 10 with (first
      | (go_at_call 12; (with_reducible refine (CA.out _).mono ?_); rintro e w1 ⟨rfl, h1⟩; have HB1 := Lib.hid (acc HBX h1); have y0 := (h1.cell (p := ⟨W.heap.size, 0, none⟩) hbx).trans x0; have y1 := (h1.cell (p := ⟨W.heap.size, 1, none⟩) hbx).trans x1; have hb1 : W.heap.size < w1.heap.size := Nat.lt_of_lt_of_le hbx h1.size; clear h1)
      | (go_at_call 13; (with_reducible refine (CF.out _ HB1.out).mono ?_); rintro e w2 ⟨gs, gr, rfl, h2⟩; have H2 := Lib.hid h2; have a0 := (h2.1.cell (p := ⟨W.heap.size, 0, none⟩) hb1).trans y0; have a1 := (h2.1.cell (p := ⟨W.heap.size, 1, none⟩) hb1).trans y1; clear h2)
      | (go_at_call 28; (with_reducible refine (CS.out _).mono ?_); rintro e w3 ⟨rfl, b3⟩; have H3 := Lib.hid (H2.out.below L KW b3); have e0 := (H3.out.1.cell (p := ⟨W.heap.size, 0, none⟩) hb1).trans y0; have e1 := (H3.out.1.cell (p := ⟨W.heap.size, 1, none⟩) hb1).trans y1; have hb3 : W.heap.size < w3.heap.size := Nat.lt_of_lt_of_le hb1 H3.out.1.size; have H3b := Lib.hid (fun o1 o2 => (H3.out.alloc L KW o1).alloc L KW o2); clear b3)
      | (go_at_call 29; (with_reducible refine ((H3b.out _ _).arc L KW f t HF.out HT.out).mono ?_); rintro e w4 ⟨fv4, rfl, h4, b4⟩; have H4 := Lib.hid h4; have B4 := Lib.hid b4; clear h4 b4)
      | (go_at_call 26; (with_reducible refine (H4.out.collect L KW (fv := fv4) (k := .arc f t) (by simp) HLS.out 99 (by omega) (by omega) (a := la) ELA.out).mono ?_); rintro e w5 ⟨A5, c5, rfl, z5, h5, b5⟩; rw [HNA.out] at z5 ⊢; have B5 := Lib.hid (acc B4.out b5); have H5 := Lib.hid h5; have HA5 := Lib.hid (own_mono z5 (Nat.zero_le _)); have f0 := (H5.out.1.cell (p := ⟨W.heap.size, 0, none⟩) hb1).trans y0; have f1 := (H5.out.1.cell (p := ⟨W.heap.size, 1, none⟩) hb1).trans y1; clear z5 h5 b5)
      | (go_at_call 19; (with_reducible refine (H5.out.count L KW HLS.out f t HF.out HT.out (n := na) (by rw [HLA.out]; exact HNA.out)).mono ?_); rintro e w6 ⟨rfl, h6, b6⟩; have B6 := Lib.hid (acc B5.out b6); have H6 := Lib.hid h6; have HA6 := Lib.hid ((Touch.ofBelow (F := []) b6).row HA5.out (by simp)); have g0 := (H6.out.1.cell (p := ⟨W.heap.size, 0, none⟩) hb1).trans y0; clear h6 b6))
    have hp0 : ((w3.alloc (.cells #[.int .u64 (f : Nat), .int .u64 (x : Nat)] 25)).alloc (.cells #[.int .u64 (x : Nat), .int .u64 (t : Nat)] 25)).cell? ⟨w3.heap.size, 0, none⟩ = some (.int .u64 (f : Nat)) := by go_simp
    have hp1 : ((w3.alloc (.cells #[.int .u64 (f : Nat), .int .u64 (x : Nat)] 25)).alloc (.cells #[.int .u64 (x : Nat), .int .u64 (t : Nat)] 25)).cell? ⟨w3.heap.size, 1, none⟩ = some (.int .u64 (x : Nat)) := by go_simp
    have hq0 : ((w3.alloc (.cells #[.int .u64 (f : Nat), .int .u64 (x : Nat)] 25)).alloc (.cells #[.int .u64 (x : Nat), .int .u64 (t : Nat)] 25)).cell? ⟨w3.heap.size + 1, 0, none⟩ = some (.int .u64 (x : Nat)) := by go_simp
    have hq1 : ((w3.alloc (.cells #[.int .u64 (f : Nat), .int .u64 (x : Nat)] 25)).alloc (.cells #[.int .u64 (x : Nat), .int .u64 (t : Nat)] 25)).cell? ⟨w3.heap.size + 1, 1, none⟩ = some (.int .u64 (t : Nat)) := by go_simp
    have hsz : w3.heap.size + 2 ≤ w6.heap.size := by have := B6.out.size; simpa using this
    have HSS : Hid (∀ w', Below w6.drew.heap.size w6.drew w' → w'.cell? ⟨w3.heap.size, 0, none⟩ = some (.int .u64 (f : Nat)) ∧ w'.cell? ⟨w3.heap.size, 1, none⟩ = some (.int .u64 (x : Nat)) ∧ w'.cell? ⟨w3.heap.size + 1, 0, none⟩ = some (.int .u64 (x : Nat)) ∧ w'.cell? ⟨w3.heap.size + 1, 1, none⟩ = some (.int .u64 (t : Nat))) := fun w' h => by
      have z : Below ((w3.alloc (.cells #[.int .u64 (f : Nat), .int .u64 (x : Nat)] 25)).alloc (.cells #[.int .u64 (x : Nat), .int .u64 (t : Nat)] 25)).heap.size ((w3.alloc (.cells #[.int .u64 (f : Nat), .int .u64 (x : Nat)] 25)).alloc (.cells #[.int .u64 (x : Nat), .int .u64 (t : Nat)] 25)) w' := acc B6.out (show Below w6.heap.size w6 w' from (show Below w6.heap.size w6 w6.drew from (Below.refl _ _).drew).trans h)
      exact ⟨(z.cell (p := ⟨w3.heap.size, 0, none⟩) (by simp; omega)).trans hp0, (z.cell (p := ⟨w3.heap.size, 1, none⟩) (by simp; omega)).trans hp1, (z.cell (p := ⟨w3.heap.size + 1, 0, none⟩) (by simp)).trans hq0, (z.cell (p := ⟨w3.heap.size + 1, 1, none⟩) (by simp)).trans hq1⟩
    have H0 := Lib.hid (H6.out.below L KW (Below.refl _ _).drew)
    have hw0 : Below w6.drew.heap.size w6.drew w6.drew := Below.refl _ _
    have HA0 : Hid (w6.drew.ownsRow 0 32 2 (.slice A5 na c5) na (itemCells la)) := HA6.out
    clear hp0 hp1 hq0 hq1 a0 a1 e0 e1 f0 f1 g0
    refine wp_region_held_drew (S := (fun w' => w'.cell? ⟨w3.heap.size, 0, none⟩ = some (.int .u64 (f : Nat)) ∧ w'.cell? ⟨w3.heap.size, 1, none⟩ = some (.int .u64 (x : Nat)) ∧ w'.cell? ⟨w3.heap.size + 1, 0, none⟩ = some (.int .u64 (x : Nat)) ∧ w'.cell? ⟨w3.heap.size + 1, 1, none⟩ = some (.int .u64 (t : Nat)))) (by kernel_rfl) ?_ (fun hHeld => ?_)
    · (try dsimp only); (first | assumption | exact HSS.out _ (by assumption))
    refine wpAnyH_take (i := 0) (oi := ⟨_, _, _, _, _, _⟩) (v := ?_) rfl (by kernel_rfl) (by kernel_rfl) (by kernel_rfl) (fun _ _ _ h => h) (Or.inl ⟨by rfl, ?_⟩) (by assumption) ?_
    rotate_left
    · (intro wS hSw; (try dsimp only at hSw); go_simp <;> with_reducible rfl)
    try simp only [Act.put, List.setIfInBounds_toArray, List.set_cons_zero, List.set_cons_succ]
    refine wpAnyH_take (i := 1) (oi := ⟨_, _, _, _, _, _⟩) (v := ?_) rfl (by kernel_rfl) (by kernel_rfl) (by kernel_rfl) (fun _ _ _ h => h) (Or.inl ⟨by rfl, ?_⟩) (by assumption) ?_
    rotate_left
    · (intro wS hSw; (try dsimp only at hSw); go_simp <;> with_reducible rfl)
    try simp only [Act.put, List.setIfInBounds_toArray, List.set_cons_zero, List.set_cons_succ]
    refine wpAnyH_take (i := 4) (oi := ⟨_, _, _, _, _, _⟩) (v := ?_) rfl (by kernel_rfl) (by kernel_rfl) (by kernel_rfl) (fun _ _ _ h => h) (Or.inl ⟨by rfl, ?_⟩) (by assumption) ?_
    rotate_left
    · (intro wS hSw; (try dsimp only at hSw); go_simp <;> with_reducible rfl)
    try simp only [Act.put, List.setIfInBounds_toArray, List.set_cons_zero, List.set_cons_succ]
    refine wpAnyH_take (i := 5) (oi := ⟨_, _, _, _, _, _⟩) (v := ?_) rfl (by kernel_rfl) (by kernel_rfl) (by kernel_rfl) (fun _ _ _ h => h) (Or.inl ⟨by rfl, ?_⟩) (by assumption) ?_
    rotate_left
    · (intro wS hSw; (try dsimp only at hSw); go_simp <;> with_reducible rfl)
    try simp only [Act.put, List.setIfInBounds_toArray, List.set_cons_zero, List.set_cons_succ]
    refine wpAnyH_take (i := 9) (oi := ⟨_, _, _, _, _, _⟩) (v := ?_) rfl (by kernel_rfl) (by kernel_rfl) (by kernel_rfl) (fun _ _ _ h => h) (Or.inl ⟨by rfl, ?_⟩) (by assumption) ?_
    rotate_left
    · (intro wS hSw; (try dsimp only at hSw); go_simp <;> with_reducible rfl)
    try simp only [Act.put, List.setIfInBounds_toArray, List.set_cons_zero, List.set_cons_succ]
    refine wpAnyH_ready (rs := [2]) (by kernel_rfl) (by simp) ?_
    refine AllReadyH.cons (o := ⟨_, _, _, _, _, _⟩) rfl (fun K hK => ?_) AllReadyH.nil
    go_simp
    (first | (go_at_call 29; (with_reducible refine (H0.out.arc L KW f x HF.out HXX.out).mono ?_); rintro e w7 ⟨fv7, rfl, h7, b7⟩; have H7 := Lib.hid h7; have hw7 := acc hw0 b7; have HA7 := Lib.hid ((Touch.ofBelow (F := []) b7).row HA0.out (by simp)); clear h7 b7) | (go_at_call 26; (with_reducible refine (H7.out.collect L KW (fv := fv7) (k := .arc f x) (by simp) HLS.out 99 (by omega) (by omega) (a := lp) ELP.out).mono ?_); rintro e w8 ⟨A8, c8, rfl, z8, h8, b8⟩; rw [HNP.out] at z8 ⊢; have H8 := Lib.hid h8; have hw8 := acc hw7 b8; have HO8 := Lib.hid z8; have HP8 := Lib.hid (own_mono z8 (Nat.zero_le _)); have HA8 := Lib.hid ((Touch.ofBelow (F := []) b8).row HA7.out (by simp)); clear z8 h8 b8) | (go_at_call 29; (with_reducible refine (H8.out.arc L KW x t HXX.out HT.out).mono ?_); rintro e w9 ⟨fv9, rfl, h9, b9⟩; have H9 := Lib.hid h9; have hw9 := acc hw8 b9; have HA9 := Lib.hid ((Touch.ofBelow (F := []) b9).row HA8.out (by simp)); have HP9 := Lib.hid ((Touch.ofBelow (F := []) b9).row HP8.out (by simp)); clear h9 b9) | (go_at_call 26; (with_reducible refine (H9.out.collect L KW (fv := fv9) (k := .arc x t) (by simp) HLS.out 99 (by omega) (by omega) (a := lq) ELQ.out).mono ?_); rintro e w10 ⟨A10, c10, rfl, z10, h10, b10⟩; rw [HNQ.out] at z10 ⊢; have H10 := Lib.hid h10; have hw10 := acc hw9 b10; have HO10 := Lib.hid z10; have HQ10 := Lib.hid (own_mono z10 (Nat.zero_le _)); have HA10 := Lib.hid ((Touch.ofBelow (F := []) b10).row HA9.out (by simp)); have HP10 := Lib.hid ((Touch.ofBelow (F := []) b10).row HP9.out (by simp)); clear z10 h10 b10) | (go_at_call 25; (with_reducible refine (SA.out _ _ _ _ _ (by rw [itemCells_append]; exact HS11.out) (STEP.out _ HG11.out).1).mono ?_); rintro e w12 ⟨rfl, k12, rfl⟩; have hw12 : Below w6.drew.heap.size w6.drew (w11.drewN k12) := acc hw11 (((Touch.refl [] w11).drewN k12).below (Nat.le_refl _) (by simp))) | (go_at_call 19; (with_reducible refine ((H0.out.below L KW hw12).count L KW HLS.out f x HF.out HXX.out (n := np) (by rw [HLP.out]; exact HNP.out)).mono ?_); rintro e w13 ⟨rfl, -, b13⟩; have hw13 := acc hw12 b13; clear b13) | (go_at_call 19; (with_reducible refine ((H0.out.below L KW hw13).count L KW HLS.out x t HXX.out HT.out (n := nq) (by rw [HLQ.out]; exact HNQ.out)).mono ?_); rintro e w14 ⟨rfl, -, b14⟩; have hw14 := acc hw13 b14; clear b14))
    go_wp2_with fail
    refine hK.out _ _ (by (try dsimp only); (first | assumption | exact HSS.out _ (by assumption))) (fun hHeld => ?_)
    clear hK K
    try simp only [Act.put, List.setIfInBounds_toArray, List.set_cons_zero, List.set_cons_succ]
    refine wpAnyH_ready (rs := [3]) (by kernel_rfl) (by simp) ?_
    refine AllReadyH.cons (o := ⟨_, _, _, _, _, _⟩) rfl (fun K hK => ?_) AllReadyH.nil
    go_simp
    (first | (go_at_call 29; (with_reducible refine (H0.out.arc L KW f x HF.out HXX.out).mono ?_); rintro e w7 ⟨fv7, rfl, h7, b7⟩; have H7 := Lib.hid h7; have hw7 := acc hw0 b7; have HA7 := Lib.hid ((Touch.ofBelow (F := []) b7).row HA0.out (by simp)); clear h7 b7) | (go_at_call 26; (with_reducible refine (H7.out.collect L KW (fv := fv7) (k := .arc f x) (by simp) HLS.out 99 (by omega) (by omega) (a := lp) ELP.out).mono ?_); rintro e w8 ⟨A8, c8, rfl, z8, h8, b8⟩; rw [HNP.out] at z8 ⊢; have H8 := Lib.hid h8; have hw8 := acc hw7 b8; have HO8 := Lib.hid z8; have HP8 := Lib.hid (own_mono z8 (Nat.zero_le _)); have HA8 := Lib.hid ((Touch.ofBelow (F := []) b8).row HA7.out (by simp)); clear z8 h8 b8) | (go_at_call 29; (with_reducible refine (H8.out.arc L KW x t HXX.out HT.out).mono ?_); rintro e w9 ⟨fv9, rfl, h9, b9⟩; have H9 := Lib.hid h9; have hw9 := acc hw8 b9; have HA9 := Lib.hid ((Touch.ofBelow (F := []) b9).row HA8.out (by simp)); have HP9 := Lib.hid ((Touch.ofBelow (F := []) b9).row HP8.out (by simp)); clear h9 b9) | (go_at_call 26; (with_reducible refine (H9.out.collect L KW (fv := fv9) (k := .arc x t) (by simp) HLS.out 99 (by omega) (by omega) (a := lq) ELQ.out).mono ?_); rintro e w10 ⟨A10, c10, rfl, z10, h10, b10⟩; rw [HNQ.out] at z10 ⊢; have H10 := Lib.hid h10; have hw10 := acc hw9 b10; have HO10 := Lib.hid z10; have HQ10 := Lib.hid (own_mono z10 (Nat.zero_le _)); have HA10 := Lib.hid ((Touch.ofBelow (F := []) b10).row HA9.out (by simp)); have HP10 := Lib.hid ((Touch.ofBelow (F := []) b10).row HP9.out (by simp)); clear z10 h10 b10) | (go_at_call 25; (with_reducible refine (SA.out _ _ _ _ _ (by rw [itemCells_append]; exact HS11.out) (STEP.out _ HG11.out).1).mono ?_); rintro e w12 ⟨rfl, k12, rfl⟩; have hw12 : Below w6.drew.heap.size w6.drew (w11.drewN k12) := acc hw11 (((Touch.refl [] w11).drewN k12).below (Nat.le_refl _) (by simp))) | (go_at_call 19; (with_reducible refine ((H0.out.below L KW hw12).count L KW HLS.out f x HF.out HXX.out (n := np) (by rw [HLP.out]; exact HNP.out)).mono ?_); rintro e w13 ⟨rfl, -, b13⟩; have hw13 := acc hw12 b13; clear b13) | (go_at_call 19; (with_reducible refine ((H0.out.below L KW hw13).count L KW HLS.out x t HXX.out HT.out (n := nq) (by rw [HLQ.out]; exact HNQ.out)).mono ?_); rintro e w14 ⟨rfl, -, b14⟩; have hw14 := acc hw13 b14; clear b14))
    go_wp2_with fail
    refine hK.out _ _ (by (try dsimp only); (first | assumption | exact HSS.out _ (by assumption))) (fun hHeld => ?_)
    clear hK K
    try simp only [Act.put, List.setIfInBounds_toArray, List.set_cons_zero, List.set_cons_succ]
    refine wpAnyH_ready (rs := [6]) (by kernel_rfl) (by simp) ?_
    refine AllReadyH.cons (o := ⟨_, _, _, _, _, _⟩) rfl (fun K hK => ?_) AllReadyH.nil
    go_simp
    (first | (go_at_call 29; (with_reducible refine (H0.out.arc L KW f x HF.out HXX.out).mono ?_); rintro e w7 ⟨fv7, rfl, h7, b7⟩; have H7 := Lib.hid h7; have hw7 := acc hw0 b7; have HA7 := Lib.hid ((Touch.ofBelow (F := []) b7).row HA0.out (by simp)); clear h7 b7) | (go_at_call 26; (with_reducible refine (H7.out.collect L KW (fv := fv7) (k := .arc f x) (by simp) HLS.out 99 (by omega) (by omega) (a := lp) ELP.out).mono ?_); rintro e w8 ⟨A8, c8, rfl, z8, h8, b8⟩; rw [HNP.out] at z8 ⊢; have H8 := Lib.hid h8; have hw8 := acc hw7 b8; have HO8 := Lib.hid z8; have HP8 := Lib.hid (own_mono z8 (Nat.zero_le _)); have HA8 := Lib.hid ((Touch.ofBelow (F := []) b8).row HA7.out (by simp)); clear z8 h8 b8) | (go_at_call 29; (with_reducible refine (H8.out.arc L KW x t HXX.out HT.out).mono ?_); rintro e w9 ⟨fv9, rfl, h9, b9⟩; have H9 := Lib.hid h9; have hw9 := acc hw8 b9; have HA9 := Lib.hid ((Touch.ofBelow (F := []) b9).row HA8.out (by simp)); have HP9 := Lib.hid ((Touch.ofBelow (F := []) b9).row HP8.out (by simp)); clear h9 b9) | (go_at_call 26; (with_reducible refine (H9.out.collect L KW (fv := fv9) (k := .arc x t) (by simp) HLS.out 99 (by omega) (by omega) (a := lq) ELQ.out).mono ?_); rintro e w10 ⟨A10, c10, rfl, z10, h10, b10⟩; rw [HNQ.out] at z10 ⊢; have H10 := Lib.hid h10; have hw10 := acc hw9 b10; have HO10 := Lib.hid z10; have HQ10 := Lib.hid (own_mono z10 (Nat.zero_le _)); have HA10 := Lib.hid ((Touch.ofBelow (F := []) b10).row HA9.out (by simp)); have HP10 := Lib.hid ((Touch.ofBelow (F := []) b10).row HP9.out (by simp)); clear z10 h10 b10) | (go_at_call 25; (with_reducible refine (SA.out _ _ _ _ _ (by rw [itemCells_append]; exact HS11.out) (STEP.out _ HG11.out).1).mono ?_); rintro e w12 ⟨rfl, k12, rfl⟩; have hw12 : Below w6.drew.heap.size w6.drew (w11.drewN k12) := acc hw11 (((Touch.refl [] w11).drewN k12).below (Nat.le_refl _) (by simp))) | (go_at_call 19; (with_reducible refine ((H0.out.below L KW hw12).count L KW HLS.out f x HF.out HXX.out (n := np) (by rw [HLP.out]; exact HNP.out)).mono ?_); rintro e w13 ⟨rfl, -, b13⟩; have hw13 := acc hw12 b13; clear b13) | (go_at_call 19; (with_reducible refine ((H0.out.below L KW hw13).count L KW HLS.out x t HXX.out HT.out (n := nq) (by rw [HLQ.out]; exact HNQ.out)).mono ?_); rintro e w14 ⟨rfl, -, b14⟩; have hw14 := acc hw13 b14; clear b14))
    go_wp2_with fail
    refine hK.out _ _ (by (try dsimp only); (first | assumption | exact HSS.out _ (by assumption))) (fun hHeld => ?_)
    clear hK K
    try simp only [Act.put, List.setIfInBounds_toArray, List.set_cons_zero, List.set_cons_succ]
    refine wpAnyH_ready (rs := [7]) (by kernel_rfl) (by simp) ?_
    refine AllReadyH.cons (o := ⟨_, _, _, _, _, _⟩) rfl (fun K hK => ?_) AllReadyH.nil
    go_simp
    (first | (go_at_call 29; (with_reducible refine (H0.out.arc L KW f x HF.out HXX.out).mono ?_); rintro e w7 ⟨fv7, rfl, h7, b7⟩; have H7 := Lib.hid h7; have hw7 := acc hw0 b7; have HA7 := Lib.hid ((Touch.ofBelow (F := []) b7).row HA0.out (by simp)); clear h7 b7) | (go_at_call 26; (with_reducible refine (H7.out.collect L KW (fv := fv7) (k := .arc f x) (by simp) HLS.out 99 (by omega) (by omega) (a := lp) ELP.out).mono ?_); rintro e w8 ⟨A8, c8, rfl, z8, h8, b8⟩; rw [HNP.out] at z8 ⊢; have H8 := Lib.hid h8; have hw8 := acc hw7 b8; have HO8 := Lib.hid z8; have HP8 := Lib.hid (own_mono z8 (Nat.zero_le _)); have HA8 := Lib.hid ((Touch.ofBelow (F := []) b8).row HA7.out (by simp)); clear z8 h8 b8) | (go_at_call 29; (with_reducible refine (H8.out.arc L KW x t HXX.out HT.out).mono ?_); rintro e w9 ⟨fv9, rfl, h9, b9⟩; have H9 := Lib.hid h9; have hw9 := acc hw8 b9; have HA9 := Lib.hid ((Touch.ofBelow (F := []) b9).row HA8.out (by simp)); have HP9 := Lib.hid ((Touch.ofBelow (F := []) b9).row HP8.out (by simp)); clear h9 b9) | (go_at_call 26; (with_reducible refine (H9.out.collect L KW (fv := fv9) (k := .arc x t) (by simp) HLS.out 99 (by omega) (by omega) (a := lq) ELQ.out).mono ?_); rintro e w10 ⟨A10, c10, rfl, z10, h10, b10⟩; rw [HNQ.out] at z10 ⊢; have H10 := Lib.hid h10; have hw10 := acc hw9 b10; have HO10 := Lib.hid z10; have HQ10 := Lib.hid (own_mono z10 (Nat.zero_le _)); have HA10 := Lib.hid ((Touch.ofBelow (F := []) b10).row HA9.out (by simp)); have HP10 := Lib.hid ((Touch.ofBelow (F := []) b10).row HP9.out (by simp)); clear z10 h10 b10) | (go_at_call 25; (with_reducible refine (SA.out _ _ _ _ _ (by rw [itemCells_append]; exact HS11.out) (STEP.out _ HG11.out).1).mono ?_); rintro e w12 ⟨rfl, k12, rfl⟩; have hw12 : Below w6.drew.heap.size w6.drew (w11.drewN k12) := acc hw11 (((Touch.refl [] w11).drewN k12).below (Nat.le_refl _) (by simp))) | (go_at_call 19; (with_reducible refine ((H0.out.below L KW hw12).count L KW HLS.out f x HF.out HXX.out (n := np) (by rw [HLP.out]; exact HNP.out)).mono ?_); rintro e w13 ⟨rfl, -, b13⟩; have hw13 := acc hw12 b13; clear b13) | (go_at_call 19; (with_reducible refine ((H0.out.below L KW hw13).count L KW HLS.out x t HXX.out HT.out (n := nq) (by rw [HLQ.out]; exact HNQ.out)).mono ?_); rintro e w14 ⟨rfl, -, b14⟩; have hw14 := acc hw13 b14; clear b14))
    go_wp2_with fail
    refine hK.out _ _ (by (try dsimp only); (first | assumption | exact HSS.out _ (by assumption))) (fun hHeld => ?_)
    clear hK K
    try simp only [Act.put, List.setIfInBounds_toArray, List.set_cons_zero, List.set_cons_succ]
    have STEP : Hid (∀ w11, w10.grownBy w11 (Value.slice A8 np c8).ownBlock → w11.ownsRow 0 32 2 (.slice A5 na c5) na (itemCells la) ∧ Below w6.drew.heap.size w6.drew w11) := fun w11 hg => by
      have tt : Touch (Value.slice A8 np c8).ownBlock.toList w10 w11 := (Touch.refl _ w10).grown hg (fun k hk => .inl (by simp [hk]))
      have hlo : ∀ q, (Value.slice A8 np c8).ownBlock = some q → w6.drew.heap.size ≤ q := fun q hq => Nat.le_trans hw7.size (HO8.out.lt q hq).1
      refine ⟨tt.row HA10.out (fun q hq e => ?_), Touch.acc hw10 tt (fun k hk => hlo k (by simpa using hk))⟩
      have z1 : q < w6.heap.size := (HA6.out.lt q hq).2
      have z2 : w6.heap.size ≤ q := hlo q (by simpa using e)
      omega
    refine wpAnyH_ready (rs := [8]) (by kernel_rfl) (by simp) ?_
    refine AllReadyH.cons (o := ⟨_, _, _, _, _, _⟩) rfl (fun K hK => ?_) AllReadyH.nil
    (refine step_append_any rfl (.tmp 48) (.tmp 52) 22 rfl 0 32 i0 (.agg #[.string ⟨#[]⟩, .string ⟨#[]⟩]) 2 32 Try.underlying22 hi0 hz0 hs0 hb0 rfl (by decide) (.slice A8 np c8) np (itemCells lp) (by simp [Act.eval]) HP10.out (.slice A10 nq c10) nq (itemCells lq) (by simp [Act.eval]) (From.own HQ10.out) (items_one _) (by unfold maxLen; omega) (by omega) (Nat.zero_le _) ?_; intro A11 c11 w11 ho11 hg11 hs11; have HS11 := Lib.hid ho11; have HG11 := Lib.hid hg11; have hw11 := (STEP.out _ hg11).2; clear ho11 hg11 hs11)
    refine hK.out _ _ (by (try dsimp only); (first | assumption | exact HSS.out _ (by assumption))) (fun hHeld => ?_)
    clear hK K
    try simp only [Act.put, List.setIfInBounds_toArray, List.set_cons_zero, List.set_cons_succ]
    refine wpAnyH_ready (rs := [10]) (by kernel_rfl) (by simp) ?_
    refine AllReadyH.cons (o := ⟨_, _, _, _, _, _⟩) rfl (fun K hK => ?_) AllReadyH.nil
    go_simp
    (first | (go_at_call 29; (with_reducible refine (H0.out.arc L KW f x HF.out HXX.out).mono ?_); rintro e w7 ⟨fv7, rfl, h7, b7⟩; have H7 := Lib.hid h7; have hw7 := acc hw0 b7; have HA7 := Lib.hid ((Touch.ofBelow (F := []) b7).row HA0.out (by simp)); clear h7 b7) | (go_at_call 26; (with_reducible refine (H7.out.collect L KW (fv := fv7) (k := .arc f x) (by simp) HLS.out 99 (by omega) (by omega) (a := lp) ELP.out).mono ?_); rintro e w8 ⟨A8, c8, rfl, z8, h8, b8⟩; rw [HNP.out] at z8 ⊢; have H8 := Lib.hid h8; have hw8 := acc hw7 b8; have HO8 := Lib.hid z8; have HP8 := Lib.hid (own_mono z8 (Nat.zero_le _)); have HA8 := Lib.hid ((Touch.ofBelow (F := []) b8).row HA7.out (by simp)); clear z8 h8 b8) | (go_at_call 29; (with_reducible refine (H8.out.arc L KW x t HXX.out HT.out).mono ?_); rintro e w9 ⟨fv9, rfl, h9, b9⟩; have H9 := Lib.hid h9; have hw9 := acc hw8 b9; have HA9 := Lib.hid ((Touch.ofBelow (F := []) b9).row HA8.out (by simp)); have HP9 := Lib.hid ((Touch.ofBelow (F := []) b9).row HP8.out (by simp)); clear h9 b9) | (go_at_call 26; (with_reducible refine (H9.out.collect L KW (fv := fv9) (k := .arc x t) (by simp) HLS.out 99 (by omega) (by omega) (a := lq) ELQ.out).mono ?_); rintro e w10 ⟨A10, c10, rfl, z10, h10, b10⟩; rw [HNQ.out] at z10 ⊢; have H10 := Lib.hid h10; have hw10 := acc hw9 b10; have HO10 := Lib.hid z10; have HQ10 := Lib.hid (own_mono z10 (Nat.zero_le _)); have HA10 := Lib.hid ((Touch.ofBelow (F := []) b10).row HA9.out (by simp)); have HP10 := Lib.hid ((Touch.ofBelow (F := []) b10).row HP9.out (by simp)); clear z10 h10 b10) | (go_at_call 25; (with_reducible refine (SA.out _ _ _ _ _ (by rw [itemCells_append]; exact HS11.out) (STEP.out _ HG11.out).1).mono ?_); rintro e w12 ⟨rfl, k12, rfl⟩; have hw12 : Below w6.drew.heap.size w6.drew (w11.drewN k12) := acc hw11 (((Touch.refl [] w11).drewN k12).below (Nat.le_refl _) (by simp))) | (go_at_call 19; (with_reducible refine ((H0.out.below L KW hw12).count L KW HLS.out f x HF.out HXX.out (n := np) (by rw [HLP.out]; exact HNP.out)).mono ?_); rintro e w13 ⟨rfl, -, b13⟩; have hw13 := acc hw12 b13; clear b13) | (go_at_call 19; (with_reducible refine ((H0.out.below L KW hw13).count L KW HLS.out x t HXX.out HT.out (n := nq) (by rw [HLQ.out]; exact HNQ.out)).mono ?_); rintro e w14 ⟨rfl, -, b14⟩; have hw14 := acc hw13 b14; clear b14))
    go_wp2_with fail
    refine hK.out _ _ (by (try dsimp only); (first | assumption | exact HSS.out _ (by assumption))) (fun hHeld => ?_)
    clear hK K
    try simp only [Act.put, List.setIfInBounds_toArray, List.set_cons_zero, List.set_cons_succ]
    refine wpAnyH_take (i := 11) (oi := ⟨_, _, _, _, _, _⟩) (v := ?_) rfl (by kernel_rfl) (by kernel_rfl) (by kernel_rfl) (fun _ _ _ h => h) (Or.inl ⟨by rfl, ?_⟩) (by assumption) ?_
    rotate_left
    · (intro wS hSw; (try dsimp only at hSw); go_simp <;> with_reducible rfl)
    try simp only [Act.put, List.setIfInBounds_toArray, List.set_cons_zero, List.set_cons_succ]
    refine wpAnyH_take (i := 12) (oi := ⟨_, _, _, _, _, _⟩) (v := ?_) rfl (by kernel_rfl) (by kernel_rfl) (by kernel_rfl) (fun _ _ _ h => h) (Or.inl ⟨by rfl, ?_⟩) (by assumption) ?_
    rotate_left
    · (intro wS hSw; (try dsimp only at hSw); go_simp <;> with_reducible rfl)
    try simp only [Act.put, List.setIfInBounds_toArray, List.set_cons_zero, List.set_cons_succ]
    refine wpAnyH_take (i := 13) (oi := ⟨_, _, _, _, _, _⟩) (v := ?_) rfl (by kernel_rfl) (by kernel_rfl) (by kernel_rfl) (fun _ _ _ h => h) (Or.inl ⟨by rfl, ?_⟩) (by assumption) ?_
    rotate_left
    · (intro wS hSw; (try dsimp only at hSw); go_simp <;> with_reducible rfl)
    try simp only [Act.put, List.setIfInBounds_toArray, List.set_cons_zero, List.set_cons_succ]
    refine wpAnyH_take (i := 15) (oi := ⟨_, _, _, _, _, _⟩) (v := ?_) rfl (by kernel_rfl) (by kernel_rfl) (by kernel_rfl) (fun _ _ _ h => h) (Or.inl ⟨by rfl, ?_⟩) (by assumption) ?_
    rotate_left
    · (intro wS hSw; (try dsimp only at hSw); go_simp <;> with_reducible rfl)
    try simp only [Act.put, List.setIfInBounds_toArray, List.set_cons_zero, List.set_cons_succ]
    refine wpAnyH_take (i := 16) (oi := ⟨_, _, _, _, _, _⟩) (v := ?_) rfl (by kernel_rfl) (by kernel_rfl) (by kernel_rfl) (fun _ _ _ h => h) (Or.inl ⟨by rfl, ?_⟩) (by assumption) ?_
    rotate_left
    · (intro wS hSw; (try dsimp only at hSw); go_simp <;> with_reducible rfl)
    try simp only [Act.put, List.setIfInBounds_toArray, List.set_cons_zero, List.set_cons_succ]
    refine wpAnyH_take (i := 19) (oi := ⟨_, _, _, _, _, _⟩) (v := ?_) rfl (by kernel_rfl) (by kernel_rfl) (by kernel_rfl) (fun _ _ _ h => h) (Or.inl ⟨by rfl, ?_⟩) (by assumption) ?_
    rotate_left
    · (intro wS hSw; (try dsimp only at hSw); go_simp <;> with_reducible rfl)
    try simp only [Act.put, List.setIfInBounds_toArray, List.set_cons_zero, List.set_cons_succ]
    refine wpAnyH_take (i := 20) (oi := ⟨_, _, _, _, _, _⟩) (v := ?_) rfl (by kernel_rfl) (by kernel_rfl) (by kernel_rfl) (fun _ _ _ h => h) (Or.inl ⟨by rfl, ?_⟩) (by assumption) ?_
    rotate_left
    · (intro wS hSw; (try dsimp only at hSw); go_simp <;> with_reducible rfl)
    try simp only [Act.put, List.setIfInBounds_toArray, List.set_cons_zero, List.set_cons_succ]
    refine wpAnyH_ready (rs := [14]) (by kernel_rfl) (by simp) ?_
    refine AllReadyH.cons (o := ⟨_, _, _, _, _, _⟩) rfl (fun K hK => ?_) AllReadyH.nil
    go_simp
    (first | (go_at_call 29; (with_reducible refine (H0.out.arc L KW f x HF.out HXX.out).mono ?_); rintro e w7 ⟨fv7, rfl, h7, b7⟩; have H7 := Lib.hid h7; have hw7 := acc hw0 b7; have HA7 := Lib.hid ((Touch.ofBelow (F := []) b7).row HA0.out (by simp)); clear h7 b7) | (go_at_call 26; (with_reducible refine (H7.out.collect L KW (fv := fv7) (k := .arc f x) (by simp) HLS.out 99 (by omega) (by omega) (a := lp) ELP.out).mono ?_); rintro e w8 ⟨A8, c8, rfl, z8, h8, b8⟩; rw [HNP.out] at z8 ⊢; have H8 := Lib.hid h8; have hw8 := acc hw7 b8; have HO8 := Lib.hid z8; have HP8 := Lib.hid (own_mono z8 (Nat.zero_le _)); have HA8 := Lib.hid ((Touch.ofBelow (F := []) b8).row HA7.out (by simp)); clear z8 h8 b8) | (go_at_call 29; (with_reducible refine (H8.out.arc L KW x t HXX.out HT.out).mono ?_); rintro e w9 ⟨fv9, rfl, h9, b9⟩; have H9 := Lib.hid h9; have hw9 := acc hw8 b9; have HA9 := Lib.hid ((Touch.ofBelow (F := []) b9).row HA8.out (by simp)); have HP9 := Lib.hid ((Touch.ofBelow (F := []) b9).row HP8.out (by simp)); clear h9 b9) | (go_at_call 26; (with_reducible refine (H9.out.collect L KW (fv := fv9) (k := .arc x t) (by simp) HLS.out 99 (by omega) (by omega) (a := lq) ELQ.out).mono ?_); rintro e w10 ⟨A10, c10, rfl, z10, h10, b10⟩; rw [HNQ.out] at z10 ⊢; have H10 := Lib.hid h10; have hw10 := acc hw9 b10; have HO10 := Lib.hid z10; have HQ10 := Lib.hid (own_mono z10 (Nat.zero_le _)); have HA10 := Lib.hid ((Touch.ofBelow (F := []) b10).row HA9.out (by simp)); have HP10 := Lib.hid ((Touch.ofBelow (F := []) b10).row HP9.out (by simp)); clear z10 h10 b10) | (go_at_call 25; (with_reducible refine (SA.out _ _ _ _ _ (by rw [itemCells_append]; exact HS11.out) (STEP.out _ HG11.out).1).mono ?_); rintro e w12 ⟨rfl, k12, rfl⟩; have hw12 : Below w6.drew.heap.size w6.drew (w11.drewN k12) := acc hw11 (((Touch.refl [] w11).drewN k12).below (Nat.le_refl _) (by simp))) | (go_at_call 19; (with_reducible refine ((H0.out.below L KW hw12).count L KW HLS.out f x HF.out HXX.out (n := np) (by rw [HLP.out]; exact HNP.out)).mono ?_); rintro e w13 ⟨rfl, -, b13⟩; have hw13 := acc hw12 b13; clear b13) | (go_at_call 19; (with_reducible refine ((H0.out.below L KW hw13).count L KW HLS.out x t HXX.out HT.out (n := nq) (by rw [HLQ.out]; exact HNQ.out)).mono ?_); rintro e w14 ⟨rfl, -, b14⟩; have hw14 := acc hw13 b14; clear b14))
    go_wp2_with fail
    refine hK.out _ _ (by (try dsimp only); (first | assumption | exact HSS.out _ (by assumption))) (fun hHeld => ?_)
    clear hK K
    try simp only [Act.put, List.setIfInBounds_toArray, List.set_cons_zero, List.set_cons_succ]
    refine wpAnyH_ready (rs := [17]) (by kernel_rfl) (by simp) ?_
    refine AllReadyH.cons (o := ⟨_, _, _, _, _, _⟩) rfl (fun K hK => ?_) AllReadyH.nil
    go_simp
    (first | (go_at_call 29; (with_reducible refine (H0.out.arc L KW f x HF.out HXX.out).mono ?_); rintro e w7 ⟨fv7, rfl, h7, b7⟩; have H7 := Lib.hid h7; have hw7 := acc hw0 b7; have HA7 := Lib.hid ((Touch.ofBelow (F := []) b7).row HA0.out (by simp)); clear h7 b7) | (go_at_call 26; (with_reducible refine (H7.out.collect L KW (fv := fv7) (k := .arc f x) (by simp) HLS.out 99 (by omega) (by omega) (a := lp) ELP.out).mono ?_); rintro e w8 ⟨A8, c8, rfl, z8, h8, b8⟩; rw [HNP.out] at z8 ⊢; have H8 := Lib.hid h8; have hw8 := acc hw7 b8; have HO8 := Lib.hid z8; have HP8 := Lib.hid (own_mono z8 (Nat.zero_le _)); have HA8 := Lib.hid ((Touch.ofBelow (F := []) b8).row HA7.out (by simp)); clear z8 h8 b8) | (go_at_call 29; (with_reducible refine (H8.out.arc L KW x t HXX.out HT.out).mono ?_); rintro e w9 ⟨fv9, rfl, h9, b9⟩; have H9 := Lib.hid h9; have hw9 := acc hw8 b9; have HA9 := Lib.hid ((Touch.ofBelow (F := []) b9).row HA8.out (by simp)); have HP9 := Lib.hid ((Touch.ofBelow (F := []) b9).row HP8.out (by simp)); clear h9 b9) | (go_at_call 26; (with_reducible refine (H9.out.collect L KW (fv := fv9) (k := .arc x t) (by simp) HLS.out 99 (by omega) (by omega) (a := lq) ELQ.out).mono ?_); rintro e w10 ⟨A10, c10, rfl, z10, h10, b10⟩; rw [HNQ.out] at z10 ⊢; have H10 := Lib.hid h10; have hw10 := acc hw9 b10; have HO10 := Lib.hid z10; have HQ10 := Lib.hid (own_mono z10 (Nat.zero_le _)); have HA10 := Lib.hid ((Touch.ofBelow (F := []) b10).row HA9.out (by simp)); have HP10 := Lib.hid ((Touch.ofBelow (F := []) b10).row HP9.out (by simp)); clear z10 h10 b10) | (go_at_call 25; (with_reducible refine (SA.out _ _ _ _ _ (by rw [itemCells_append]; exact HS11.out) (STEP.out _ HG11.out).1).mono ?_); rintro e w12 ⟨rfl, k12, rfl⟩; have hw12 : Below w6.drew.heap.size w6.drew (w11.drewN k12) := acc hw11 (((Touch.refl [] w11).drewN k12).below (Nat.le_refl _) (by simp))) | (go_at_call 19; (with_reducible refine ((H0.out.below L KW hw12).count L KW HLS.out f x HF.out HXX.out (n := np) (by rw [HLP.out]; exact HNP.out)).mono ?_); rintro e w13 ⟨rfl, -, b13⟩; have hw13 := acc hw12 b13; clear b13) | (go_at_call 19; (with_reducible refine ((H0.out.below L KW hw13).count L KW HLS.out x t HXX.out HT.out (n := nq) (by rw [HLQ.out]; exact HNQ.out)).mono ?_); rintro e w14 ⟨rfl, -, b14⟩; have hw14 := acc hw13 b14; clear b14))
    go_wp2_with fail
    refine hK.out _ _ (by (try dsimp only); (first | assumption | exact HSS.out _ (by assumption))) (fun hHeld => ?_)
    clear hK K
    try simp only [Act.put, List.setIfInBounds_toArray, List.set_cons_zero, List.set_cons_succ]
    refine wpAnyH_take (i := 18) (oi := ⟨_, _, _, _, _, _⟩) (v := ?_) rfl (by kernel_rfl) (by kernel_rfl) (by kernel_rfl) (fun _ _ _ h => h) (Or.inl ⟨by rfl, ?_⟩) (by assumption) ?_
    rotate_left
    · (intro wS hSw; (try dsimp only at hSw); go_simp <;> with_reducible rfl)
    try simp only [Act.put, List.setIfInBounds_toArray, List.set_cons_zero, List.set_cons_succ]
    refine wpAnyH_take (i := 21) (oi := ⟨_, _, _, _, _, _⟩) (v := ?_) rfl (by kernel_rfl) (by kernel_rfl) (by kernel_rfl) (fun _ _ _ h => h) (Or.inl ⟨by rfl, ?_⟩) (by assumption) ?_
    rotate_left
    · (intro wS hSw; (try dsimp only at hSw); go_simp <;> with_reducible rfl)
    try simp only [Act.put, List.setIfInBounds_toArray, List.set_cons_zero, List.set_cons_succ]
    refine wpAnyH_take (i := 22) (oi := ⟨_, _, _, _, _, _⟩) (v := ?_) rfl (by kernel_rfl) (by kernel_rfl) (by kernel_rfl) (fun _ _ _ h => h) (Or.inl ⟨by rfl, ?_⟩) (by assumption) ?_
    rotate_left
    · (intro wS hSw; (try dsimp only at hSw); go_simp <;> with_reducible rfl)
    try simp only [Act.put, List.setIfInBounds_toArray, List.set_cons_zero, List.set_cons_succ]
    refine wpAnyH_take (i := 23) (oi := ⟨_, _, _, _, _, _⟩) (v := ?_) rfl (by kernel_rfl) (by kernel_rfl) (by kernel_rfl) (fun _ _ _ h => h) (Or.inl ⟨by rfl, ?_⟩) (by assumption) ?_
    rotate_left
    · (intro wS hSw; (try dsimp only at hSw); go_simp <;> with_reducible rfl)
    try simp only [Act.put, List.setIfInBounds_toArray, List.set_cons_zero, List.set_cons_succ]
    refine wpAnyH_done (by kernel_rfl) ?_ _
    go_wp2_with fail
    go_ret
    exact ⟨rfl, acc HB1.out (H0.out.below L KW hw14).1⟩
end Go.Proofs.Ytglinhcldgpphaa
