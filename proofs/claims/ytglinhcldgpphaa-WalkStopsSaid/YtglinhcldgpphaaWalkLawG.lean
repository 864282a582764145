/-
  The walk of WalkStops over ShelfLaws and WalkLaws. (Written by tools/genWSto.py.)
-/
import Derived.Test.YtglinhcldgpphaaWalkYields
import Derived.Test.YtglinhcldgpphaaWalkLawC
namespace Go.Proofs.Ytglinhcldgpphaa
open Go.RowKit

set_option maxRecDepth 100000 in
set_option maxHeartbeats 16000000 in
theorem walkStops_any {SH : ShP} {SQ : SqP} (L : ShelfLaws SH) (KW : WalkLaws SH SQ) (A : Option Addr) (c : Nat) (zs : List Item) (a b : ByteArray) (f t : Nat) (W : World) (hA : ItemsAt W A zs) (hz : zs.length ≤ 9223372036854775807) (sa : a.size ≤ maxLen) (sb : b.size ≤ maxLen) (hf : f < 18446744073709551616) (ht : t < 18446744073709551616) :
    Calls Try.prog 9 #[.slice A zs.length c, .string a, .string b, .agg #[.int .u64 (f : Nat), .int .u64 (t : Nat)]] W fun e w' => e = .returned (.bool true) ∧ Below W.heap.size W w' := by
  have CA : Hid (∀ w, Calls Try.prog 12 #[] w fun e w' => e = .returned (.bool true) ∧ Below w.heap.size w w') := fun w => walkAlive_any L KW w w (Below.refl _ _)
  obtain ⟨l, hl⟩ : ∃ l, fillL zs = l := ⟨_, rfl⟩
  have hlen : l.length ≤ 60 := by rw [← hl]; exact fillL_length zs
  have hls : ∀ x ∈ l, x.1.size ≤ 16 := by rw [← hl]; exact fillL_small zs
  obtain ⟨n, hn⟩ : ∃ n, zs.length = n := ⟨_, rfl⟩
  have CF : Hid (∀ w, Below W.heap.size W w → Calls Try.prog 13 #[.slice A n c] w fun e w' => ∃ gs gr, e = .returned (.tuple #[.pointer (some ⟨gs, 0, none⟩), .pointer (some ⟨gr, 0, none⟩)]) ∧ OSW SH SQ w w' gs gr l []) := fun w h => by
    have z := filledW (SQ := SQ) L A c zs W w h hA hz hn
    rwa [hl] at z
  obtain ⟨lr, hlr⟩ : ∃ x, rangeL l a b = x := ⟨_, rfl⟩
  obtain ⟨la, hla⟩ : ∃ x, arcL l f t = x := ⟨_, rfl⟩
  obtain ⟨n0, hn0⟩ : ∃ x, l.length = x := ⟨_, rfl⟩
  obtain ⟨n1, hn1⟩ : ∃ x, lr.length = x := ⟨_, rfl⟩
  obtain ⟨n2, hn2⟩ : ∃ x, la.length = x := ⟨_, rfl⟩
  have ELR := Lib.hid hlr
  have ELA := Lib.hid hla
  have HN0 := Lib.hid hn0
  have HN1 := Lib.hid hn1
  have HN2 := Lib.hid hn2
  have HNN0 : Hid ((wayL .all l).length = n0) := hn0
  have HNN1 : Hid ((wayL (.range a b) l).length = n1) := by rw [← hn1, ← hlr]; rfl
  have HNN2 : Hid ((wayL (.arc f t) l).length = n2) := by rw [← hn2, ← hla]; rfl
  obtain ⟨m0, hm0⟩ : ∃ x, min n0 1 = x := ⟨_, rfl⟩
  have HM0 := Lib.hid hm0
  obtain ⟨m1, hm1⟩ : ∃ x, min n1 1 = x := ⟨_, rfl⟩
  have HM1 := Lib.hid hm1
  obtain ⟨m2, hm2⟩ : ∃ x, min n2 1 = x := ⟨_, rfl⟩
  have HM2 := Lib.hid hm2
  have HF := Lib.hid hf
  have HT := Lib.hid ht
  have HLS := Lib.hid hls
  have HLE := Lib.hid hlen
  have HX : Hid ((W.alloc (.cells #[.int .u64 (f : Nat), .int .u64 (t : Nat)] 25)).cell? ⟨W.heap.size, 0, none⟩ = some (.int .u64 (f : Nat)) ∧ (W.alloc (.cells #[.int .u64 (f : Nat), .int .u64 (t : Nat)] 25)).cell? ⟨W.heap.size, 1, none⟩ = some (.int .u64 (t : Nat)) ∧ W.heap.size < (W.alloc (.cells #[.int .u64 (f : Nat), .int .u64 (t : Nat)] 25)).heap.size ∧ Below W.heap.size W (W.alloc (.cells #[.int .u64 (f : Nat), .int .u64 (t : Nat)] 25))) := ⟨by go_simp, by go_simp, by simp, (Below.refl _ _).alloc (Nat.le_refl _) _⟩
  rw [hn] at hz ⊢
  obtain ⟨x0, x1, hbx, HBX⟩ := HX.out
  unfold maxLen at sa sb
  clear hA hl hlen hls hlr hla hn0 hn1 hn2 hn hf ht hm0 hm1 hm2
  by_cases c0 : 60 < n
  · have d0 : decide ((60 : Int) < (n : Int)) = true := by simp; omega
    clear CF
    go_enter Try.func9, Try.ntmps9
    go_wp2_with (go_at_call 12; (with_reducible refine (CA.out _).mono ?_); rintro e w1 ⟨rfl, h1⟩)
    go_ret
    exact ⟨rfl, acc HBX h1⟩
  have d0 : decide ((60 : Int) < (n : Int)) = false := by simp; omega
  by_cases c1 : 40 < a.size
  · have d1 : decide ((40 : Int) < (a.size : Int)) = true := by simp; omega
    clear CF
    go_enter Try.func9, Try.ntmps9
    go_wp2_with (go_at_call 12; (with_reducible refine (CA.out _).mono ?_); rintro e w1 ⟨rfl, h1⟩)
    go_ret
    exact ⟨rfl, acc HBX h1⟩
  have d1 : decide ((40 : Int) < (a.size : Int)) = false := by simp; omega
  by_cases c2 : 40 < b.size
  · have d2 : decide ((40 : Int) < (b.size : Int)) = true := by simp; omega
    clear CF
    go_enter Try.func9, Try.ntmps9
    go_wp2_with (go_at_call 12; (with_reducible refine (CA.out _).mono ?_); rintro e w1 ⟨rfl, h1⟩)
    go_ret
    exact ⟨rfl, acc HBX h1⟩
  have d2 : decide ((40 : Int) < (b.size : Int)) = false := by simp; omega
  have sa : a.size ≤ maxLen := by unfold maxLen; omega
  have sb : b.size ≤ maxLen := by unfold maxLen; omega
  · go_enter Try.func9, Try.ntmps9
    go_upto_region 4 with (first
      | (go_at_call 12; (with_reducible refine (CA.out _).mono ?_); rintro e w1 ⟨rfl, h1⟩; have HB1 := Lib.hid (acc HBX h1); have y0 := (h1.cell (p := ⟨W.heap.size, 0, none⟩) hbx).trans x0; have y1 := (h1.cell (p := ⟨W.heap.size, 1, none⟩) hbx).trans x1; have hb1 : W.heap.size < w1.heap.size := Nat.lt_of_lt_of_le hbx h1.size; clear h1)
      | (go_at_call 13; (with_reducible refine (CF.out _ HB1.out).mono ?_); rintro e w2 ⟨gs, gr, rfl, h2⟩; have H2 := Lib.hid h2; clear h2))
    have q0 := (H2.out.1.cell (p := ⟨W.heap.size, 0, none⟩) hb1).trans y0
    have q1 := (H2.out.1.cell (p := ⟨W.heap.size, 1, none⟩) hb1).trans y1
    have hbW : W.heap.size < w2.heap.size := Nat.lt_of_lt_of_le hb1 H2.out.1.size
    have HSS : Hid (∀ w', Below w2.drew.heap.size w2.drew w' → w'.cell? ⟨W.heap.size, 0, none⟩ = some (.int .u64 (f : Nat)) ∧ w'.cell? ⟨W.heap.size, 1, none⟩ = some (.int .u64 (t : Nat))) := fun w' h => by
      have z : Below w2.heap.size w2 w' := (show Below w2.heap.size w2 w2.drew from (Below.refl _ _).drew).trans h
      exact ⟨(z.cell (p := ⟨W.heap.size, 0, none⟩) hbW).trans q0, (z.cell (p := ⟨W.heap.size, 1, none⟩) hbW).trans q1⟩
    have H0 := Lib.hid (H2.out.below L KW (Below.refl _ _).drew)
    have hw0 : Below w2.drew.heap.size w2.drew w2.drew := Below.refl _ _
    clear q0 q1
    refine wp_region_held_drew (S := (fun w' => w'.cell? ⟨W.heap.size, 0, none⟩ = some (.int .u64 (f : Nat)) ∧ w'.cell? ⟨W.heap.size, 1, none⟩ = some (.int .u64 (t : Nat)))) (by kernel_rfl) ?_ (fun hHeld => ?_)
    · (try dsimp only); (first | assumption | exact HSS.out _ (by assumption))
    refine wpAnyH_take (i := 0) (oi := ⟨_, _, _, _, _, _⟩) (v := ?_) rfl (by kernel_rfl) (by kernel_rfl) (by kernel_rfl) (fun _ _ _ h => h) (Or.inl ⟨by rfl, ?_⟩) (by assumption) ?_
    rotate_left
    · (intro wS hSw; (try dsimp only at hSw); go_simp <;> with_reducible rfl)
    try simp only [Act.put, List.setIfInBounds_toArray, List.set_cons_zero, List.set_cons_succ]
    refine wpAnyH_take (i := 2) (oi := ⟨_, _, _, _, _, _⟩) (v := ?_) rfl (by kernel_rfl) (by kernel_rfl) (by kernel_rfl) (fun _ _ _ h => h) (Or.inl ⟨by rfl, ?_⟩) (by assumption) ?_
    rotate_left
    · (intro wS hSw; (try dsimp only at hSw); go_simp <;> with_reducible rfl)
    try simp only [Act.put, List.setIfInBounds_toArray, List.set_cons_zero, List.set_cons_succ]
    refine wpAnyH_take (i := 3) (oi := ⟨_, _, _, _, _, _⟩) (v := ?_) rfl (by kernel_rfl) (by kernel_rfl) (by kernel_rfl) (fun _ _ _ h => h) (Or.inl ⟨by rfl, ?_⟩) (by assumption) ?_
    rotate_left
    · (intro wS hSw; (try dsimp only at hSw); go_simp <;> with_reducible rfl)
    try simp only [Act.put, List.setIfInBounds_toArray, List.set_cons_zero, List.set_cons_succ]
    refine wpAnyH_take (i := 4) (oi := ⟨_, _, _, _, _, _⟩) (v := ?_) rfl (by kernel_rfl) (by kernel_rfl) (by kernel_rfl) (fun _ _ _ h => h) (Or.inl ⟨by rfl, ?_⟩) (by assumption) ?_
    rotate_left
    · (intro wS hSw; (try dsimp only at hSw); go_simp <;> with_reducible rfl)
    try simp only [Act.put, List.setIfInBounds_toArray, List.set_cons_zero, List.set_cons_succ]
    refine wpAnyH_take (i := 6) (oi := ⟨_, _, _, _, _, _⟩) (v := ?_) rfl (by kernel_rfl) (by kernel_rfl) (by kernel_rfl) (fun _ _ _ h => h) (Or.inl ⟨by rfl, ?_⟩) (by assumption) ?_
    rotate_left
    · (intro wS hSw; (try dsimp only at hSw); go_simp <;> with_reducible rfl)
    try simp only [Act.put, List.setIfInBounds_toArray, List.set_cons_zero, List.set_cons_succ]
    refine wpAnyH_take (i := 7) (oi := ⟨_, _, _, _, _, _⟩) (v := ?_) rfl (by kernel_rfl) (by kernel_rfl) (by kernel_rfl) (fun _ _ _ h => h) (Or.inl ⟨by rfl, ?_⟩) (by assumption) ?_
    rotate_left
    · (intro wS hSw; (try dsimp only at hSw); go_simp <;> with_reducible rfl)
    try simp only [Act.put, List.setIfInBounds_toArray, List.set_cons_zero, List.set_cons_succ]
    refine wpAnyH_take (i := 11) (oi := ⟨_, _, _, _, _, _⟩) (v := ?_) rfl (by kernel_rfl) (by kernel_rfl) (by kernel_rfl) (fun _ _ _ h => h) (Or.inl ⟨by rfl, ?_⟩) (by assumption) ?_
    rotate_left
    · (intro wS hSw; (try dsimp only at hSw); go_simp <;> with_reducible rfl)
    try simp only [Act.put, List.setIfInBounds_toArray, List.set_cons_zero, List.set_cons_succ]
    refine wpAnyH_ready (rs := [1]) (by kernel_rfl) (by simp) ?_
    refine AllReadyH.cons (o := ⟨_, _, _, _, _, _⟩) rfl (fun K hK => ?_) AllReadyH.nil
    go_simp
    (first | (go_at_call 21; (with_reducible refine (H0.out.all L KW).mono ?_); rintro e w3 ⟨fv0, rfl, h3, b3⟩; obtain ⟨i0, p0, rfl, he0, hg0⟩ := h3.go L KW (fv := fv0) (k := .all) (by simp); have HE0 := Lib.hid he0; have HG0 := Lib.hid hg0; have H3 := Lib.hid h3; have hw3 := acc hw0 b3; clear h3 b3 he0 hg0) | (go_at_call 27; (with_reducible refine (H3.out.range L KW a b sa sb).mono ?_); rintro e w4 ⟨fv1, rfl, h4, b4⟩; obtain ⟨i1, p1, rfl, he1, hg1⟩ := h4.go L KW (fv := fv1) (k := .range a b) (by simp); have HE1 := Lib.hid he1; have HG1 := Lib.hid hg1; have HB4 := Lib.hid b4; have H4 := Lib.hid h4; have hw4 := acc hw3 b4; clear h4 b4 he1 hg1) | (go_at_call 29; (with_reducible refine (H4.out.arc L KW f t HF.out HT.out).mono ?_); rintro e w5 ⟨fv2, rfl, h5, b5⟩; obtain ⟨i2, p2, rfl, he2, hg2⟩ := h5.go L KW (fv := fv2) (k := .arc f t) (by simp); have HE2 := Lib.hid he2; have HW2 := Lib.hid hg2; have HB5 := Lib.hid b5; have H5 := Lib.hid h5; have hw5 := acc hw4 b5; clear h5 b5 he2 hg2))
    go_wp2_with fail
    refine hK.out _ _ (by (try dsimp only); (first | assumption | exact HSS.out _ (by assumption))) (fun hHeld => ?_)
    clear hK K
    try simp only [Act.put, List.setIfInBounds_toArray, List.set_cons_zero, List.set_cons_succ]
    refine wpAnyH_ready (rs := [5]) (by kernel_rfl) (by simp) ?_
    refine AllReadyH.cons (o := ⟨_, _, _, _, _, _⟩) rfl (fun K hK => ?_) AllReadyH.nil
    go_simp
    (first | (go_at_call 21; (with_reducible refine (H0.out.all L KW).mono ?_); rintro e w3 ⟨fv0, rfl, h3, b3⟩; obtain ⟨i0, p0, rfl, he0, hg0⟩ := h3.go L KW (fv := fv0) (k := .all) (by simp); have HE0 := Lib.hid he0; have HG0 := Lib.hid hg0; have H3 := Lib.hid h3; have hw3 := acc hw0 b3; clear h3 b3 he0 hg0) | (go_at_call 27; (with_reducible refine (H3.out.range L KW a b sa sb).mono ?_); rintro e w4 ⟨fv1, rfl, h4, b4⟩; obtain ⟨i1, p1, rfl, he1, hg1⟩ := h4.go L KW (fv := fv1) (k := .range a b) (by simp); have HE1 := Lib.hid he1; have HG1 := Lib.hid hg1; have HB4 := Lib.hid b4; have H4 := Lib.hid h4; have hw4 := acc hw3 b4; clear h4 b4 he1 hg1) | (go_at_call 29; (with_reducible refine (H4.out.arc L KW f t HF.out HT.out).mono ?_); rintro e w5 ⟨fv2, rfl, h5, b5⟩; obtain ⟨i2, p2, rfl, he2, hg2⟩ := h5.go L KW (fv := fv2) (k := .arc f t) (by simp); have HE2 := Lib.hid he2; have HW2 := Lib.hid hg2; have HB5 := Lib.hid b5; have H5 := Lib.hid h5; have hw5 := acc hw4 b5; clear h5 b5 he2 hg2))
    go_wp2_with fail
    refine hK.out _ _ (by (try dsimp only); (first | assumption | exact HSS.out _ (by assumption))) (fun hHeld => ?_)
    clear hK K
    try simp only [Act.put, List.setIfInBounds_toArray, List.set_cons_zero, List.set_cons_succ]
    refine wpAnyH_ready (rs := [8]) (by kernel_rfl) (by simp) ?_
    refine AllReadyH.cons (o := ⟨_, _, _, _, _, _⟩) rfl (fun K hK => ?_) AllReadyH.nil
    go_simp
    (first | (go_at_call 21; (with_reducible refine (H0.out.all L KW).mono ?_); rintro e w3 ⟨fv0, rfl, h3, b3⟩; obtain ⟨i0, p0, rfl, he0, hg0⟩ := h3.go L KW (fv := fv0) (k := .all) (by simp); have HE0 := Lib.hid he0; have HG0 := Lib.hid hg0; have H3 := Lib.hid h3; have hw3 := acc hw0 b3; clear h3 b3 he0 hg0) | (go_at_call 27; (with_reducible refine (H3.out.range L KW a b sa sb).mono ?_); rintro e w4 ⟨fv1, rfl, h4, b4⟩; obtain ⟨i1, p1, rfl, he1, hg1⟩ := h4.go L KW (fv := fv1) (k := .range a b) (by simp); have HE1 := Lib.hid he1; have HG1 := Lib.hid hg1; have HB4 := Lib.hid b4; have H4 := Lib.hid h4; have hw4 := acc hw3 b4; clear h4 b4 he1 hg1) | (go_at_call 29; (with_reducible refine (H4.out.arc L KW f t HF.out HT.out).mono ?_); rintro e w5 ⟨fv2, rfl, h5, b5⟩; obtain ⟨i2, p2, rfl, he2, hg2⟩ := h5.go L KW (fv := fv2) (k := .arc f t) (by simp); have HE2 := Lib.hid he2; have HW2 := Lib.hid hg2; have HB5 := Lib.hid b5; have H5 := Lib.hid h5; have hw5 := acc hw4 b5; clear h5 b5 he2 hg2))
    go_wp2_with fail
    refine hK.out _ _ (by (try dsimp only); (first | assumption | exact HSS.out _ (by assumption))) (fun hHeld => ?_)
    clear hK K
    try simp only [Act.put, List.setIfInBounds_toArray, List.set_cons_zero, List.set_cons_succ]
    refine wpAnyH_ready (rs := [9]) (by kernel_rfl) (by simp) ?_
    refine AllReadyH.cons (o := ⟨_, _, _, _, _, _⟩) rfl (fun K hK => ?_) AllReadyH.nil
    go_simp
    refine hK.out _ _ (by (try dsimp only); exact HSS.out _ (hw5.alloc hw5.size _)) (fun hHeld => ?_)
    clear hK K
    try simp only [Act.put, List.setIfInBounds_toArray, List.set_cons_zero, List.set_cons_succ]
    refine wpAnyH_take (i := 10) (oi := ⟨_, _, _, _, _, _⟩) (v := ?_) rfl (by kernel_rfl) (by kernel_rfl) (by kernel_rfl) (fun _ _ _ h => h) (Or.inl ⟨by rfl, ?_⟩) (by assumption) ?_
    rotate_left
    · (intro wS hSw; (try dsimp only at hSw); go_simp <;> with_reducible rfl)
    try simp only [Act.put, List.setIfInBounds_toArray, List.set_cons_zero, List.set_cons_succ]
    refine wpAnyH_done (by kernel_rfl) ?_ _
    have HW0 : Hid (∀ w1, Below w5.heap.size w5 w1 → ∃ B, WayIn i0 p0 (wayL .all l) B w1 ∧ ∀ q ∈ B, q < w5.heap.size) := fun w1 h => by
      have z : Below w3.heap.size w3 w5 := acc HB4.out HB5.out
      obtain ⟨B, g1, g2⟩ := HG0.out w1 (acc z h)
      exact ⟨B, g1, fun q hq => Nat.lt_of_lt_of_le (g2 q hq) z.size⟩
    have HW1 : Hid (∀ w1, Below w5.heap.size w5 w1 → ∃ B, WayIn i1 p1 (wayL (.range a b) l) B w1 ∧ ∀ q ∈ B, q < w5.heap.size) := fun w1 h => by
      obtain ⟨B, g1, g2⟩ := HG1.out w1 (acc HB5.out h)
      exact ⟨B, g1, fun q hq => Nat.lt_of_lt_of_le (g2 q hq) HB5.out.size⟩
    have HO5 := Lib.hid (H5.out.alloc L KW (.cells #[.func (.func i0) #[] p0, .func (.func i1) #[] p1, .func (.func i2) #[] p2] 47))
    clear hw0 hw3 hw4 hw5
    go_wp2_with fail
    go_loopg [49] 4 (fun gh s49 wx => ∃ (k : Nat), k + gh = 4 ∧ k ≤ 3 ∧ s49 = .int .i64 (k : Nat) ∧ Hid (OSW SH SQ w1 wx gs gr l [(.func (.func i0) #[] p0, .all), (.func (.func i1) #[] p1, .range a b), (.func (.func i2) #[] p2, .arc f t)]) ∧ Hid (Below (w5.alloc (.cells #[.func (.func i0) #[] p0, .func (.func i1) #[] p1, .func (.func i2) #[] p2] 47)).heap.size (w5.alloc (.cells #[.func (.func i0) #[] p0, .func (.func i1) #[] p1, .func (.func i2) #[] p2] 47)) wx))
    case atStart => exact ⟨0, rfl, by omega, rfl, HO5, Below.refl _ _⟩
    case round =>
      obtain ⟨k, hk4, hk3, rfl, HO, HFB⟩ := hrel
      have HBW : Hid (Below w5.heap.size w5 wr) := ((Below.refl _ w5).alloc (Nat.le_refl _) _).trans (HFB.out.mono (by simp))
      have hk : k = 0 ∨ k = 1 ∨ k = 2 ∨ k = 3 := by omega
      rcases hk with rfl | rfl | rfl | rfl
      · -- way 0
        obtain ⟨B, hway, hBlt⟩ := HW0.out (wr.alloc (.cells #[.int .i64 0] 3)) ((show Below w5.heap.size w5 wr from HBW.out).alloc (HBW.out.size) _)
        have hvar := Var.new wr (.int .i64 0) 3
        have hst := stopWay hway hvar (fun z => by have := hBlt _ z; have := HBW.out.size; omega)
        rw [HNN0.out, HM0.out] at hst
        have HST := Lib.hid hst
        have cf : wr.cell? ⟨w5.heap.size, 0, none⟩ = some (.func (.func i0) #[] p0) := (HFB.out.cell (p := ⟨w5.heap.size, 0, none⟩) (by simp)).trans (by go_simp)
        have he := HE0.out
        clear hway hvar hst hBlt
        go_upto_region 9 with (refine HST.out.mono ?_; rintro e w10 ⟨rfl, v10, t10⟩)
        clear he cf
        have hB10 : Below wr.heap.size wr w10 := ((Below.refl _ wr).alloc (Nat.le_refl _) _).trans (t10.below (by simp) (by simp))
        have HV10 := Lib.hid v10
        have HP10 := Lib.hid (HO.out.below L KW hB10)
        have HF10 := Lib.hid (HFB.out.trans (hB10.mono HFB.out.size))
        obtain ⟨LA, lc, hgl, hgc, -⟩ := HP10.out.listW
        rw [HN0.out] at hgc
        have z0 := (HP10.out.1.cell (p := ⟨W.heap.size, 0, none⟩) hb1).trans y0
        have z1 := (HP10.out.1.cell (p := ⟨W.heap.size, 1, none⟩) hb1).trans y1
        have hbW : W.heap.size < w10.heap.size := Nat.lt_of_lt_of_le hb1 HP10.out.1.size
        have HS9 : Hid (∀ w', Below w10.drew.heap.size w10.drew w' → w'.cell? ⟨W.heap.size, 0, none⟩ = some (.int .u64 (f : Nat)) ∧ w'.cell? ⟨W.heap.size, 1, none⟩ = some (.int .u64 (t : Nat)) ∧ w'.cell? ⟨gr, 1, none⟩ = some (.slice LA n0 lc) ∧ w'.cell? ⟨wr.heap.size, 0, none⟩ = some (.int .i64 (m0 : Nat))) := fun w' h => by
          have z : Below w10.heap.size w10 w' := (show Below w10.heap.size w10 w10.drew from (Below.refl _ _).drew).trans h
          exact ⟨(z.cell (p := ⟨W.heap.size, 0, none⟩) hbW).trans z0, (z.cell (p := ⟨W.heap.size, 1, none⟩) hbW).trans z1, (z.cell (p := ⟨gr, 1, none⟩) hgl).trans hgc, (z.cell (p := ⟨wr.heap.size, 0, none⟩) HV10.out.lt).trans HV10.out.val⟩
        have HQ0 := Lib.hid (HP10.out.below L KW (Below.refl _ _).drew)
        have hv0 : Below w10.drew.heap.size w10.drew w10.drew := Below.refl _ _
        clear z0 z1 hgc hgl v10 t10 hB10
        refine wp_region_held_drew (S := (fun w' => w'.cell? ⟨W.heap.size, 0, none⟩ = some (.int .u64 (f : Nat)) ∧ w'.cell? ⟨W.heap.size, 1, none⟩ = some (.int .u64 (t : Nat)) ∧ w'.cell? ⟨gr, 1, none⟩ = some (.slice LA n0 lc) ∧ w'.cell? ⟨wr.heap.size, 0, none⟩ = some (.int .i64 (m0 : Nat)))) (by kernel_rfl) ?_ (fun hHeld => ?_)
        · (try dsimp only); (first | assumption | exact HS9.out _ (by assumption))
        refine wpAnyH_take (i := 0) (oi := ⟨_, _, _, _, _, _⟩) (v := ?_) rfl (by kernel_rfl) (by kernel_rfl) (by kernel_rfl) (fun _ _ _ h => h) (Or.inl ⟨by rfl, ?_⟩) (by assumption) ?_
        rotate_left
        · (intro wS hSw; (try dsimp only at hSw); go_simp <;> with_reducible rfl)
        try simp only [Act.put, List.setIfInBounds_toArray, List.set_cons_zero, List.set_cons_succ]
        refine wpAnyH_take (i := 1) (oi := ⟨_, _, _, _, _, _⟩) (v := ?_) rfl (by kernel_rfl) (by kernel_rfl) (by kernel_rfl) (fun _ _ _ h => h) (Or.inl ⟨by rfl, ?_⟩) (by assumption) ?_
        rotate_left
        · (intro wS hSw; (try dsimp only at hSw); go_simp <;> with_reducible rfl)
        try simp only [Act.put, List.setIfInBounds_toArray, List.set_cons_zero, List.set_cons_succ]
        refine wpAnyH_take (i := 2) (oi := ⟨_, _, _, _, _, _⟩) (v := ?_) rfl (by kernel_rfl) (by kernel_rfl) (by kernel_rfl) (fun _ _ _ h => h) (Or.inl ⟨by rfl, ?_⟩) (by assumption) ?_
        rotate_left
        · (intro wS hSw; (try dsimp only at hSw); go_simp <;> with_reducible rfl)
        try simp only [Act.put, List.setIfInBounds_toArray, List.set_cons_zero, List.set_cons_succ]
        refine wpAnyH_take (i := 3) (oi := ⟨_, _, _, _, _, _⟩) (v := ?_) rfl (by kernel_rfl) (by kernel_rfl) (by kernel_rfl) (fun _ _ _ h => h) (Or.inl ⟨by rfl, ?_⟩) (by assumption) ?_
        rotate_left
        · (intro wS hSw; (try dsimp only at hSw); go_simp <;> with_reducible rfl)
        try simp only [Act.put, List.setIfInBounds_toArray, List.set_cons_zero, List.set_cons_succ]
        refine wpAnyH_take (i := 4) (oi := ⟨_, _, _, _, _, _⟩) (v := ?_) rfl (by kernel_rfl) (by kernel_rfl) (by kernel_rfl) (fun _ _ _ h => h) (Or.inl ⟨by rfl, ?_⟩) (by assumption) ?_
        rotate_left
        · (intro wS hSw; (try dsimp only at hSw); go_simp <;> with_reducible rfl)
        try simp only [Act.put, List.setIfInBounds_toArray, List.set_cons_zero, List.set_cons_succ]
        refine wpAnyH_take (i := 5) (oi := ⟨_, _, _, _, _, _⟩) (v := ?_) rfl (by kernel_rfl) (by kernel_rfl) (by kernel_rfl) (fun _ _ _ h => h) (Or.inl ⟨by rfl, ?_⟩) (by assumption) ?_
        rotate_left
        · (intro wS hSw; (try dsimp only at hSw); go_simp <;> with_reducible rfl)
        try simp only [Act.put, List.setIfInBounds_toArray, List.set_cons_zero, List.set_cons_succ]
        refine wpAnyH_take (i := 6) (oi := ⟨_, _, _, _, _, _⟩) (v := ?_) rfl (by kernel_rfl) (by kernel_rfl) (by kernel_rfl) (fun _ _ _ h => h) (Or.inl ⟨by rfl, ?_⟩) (by assumption) ?_
        rotate_left
        · (intro wS hSw; (try dsimp only at hSw); go_simp <;> with_reducible rfl)
        try simp only [Act.put, List.setIfInBounds_toArray, List.set_cons_zero, List.set_cons_succ]
        refine wpAnyH_take (i := 8) (oi := ⟨_, _, _, _, _, _⟩) (v := ?_) rfl (by kernel_rfl) (by kernel_rfl) (by kernel_rfl) (fun _ _ _ h => h) (Or.inl ⟨by rfl, ?_⟩) (by assumption) ?_
        rotate_left
        · (intro wS hSw; (try dsimp only at hSw); go_simp <;> with_reducible rfl)
        try simp only [Act.put, List.setIfInBounds_toArray, List.set_cons_zero, List.set_cons_succ]
        refine wpAnyH_take (i := 9) (oi := ⟨_, _, _, _, _, _⟩) (v := ?_) rfl (by kernel_rfl) (by kernel_rfl) (by kernel_rfl) (fun _ _ _ h => h) (Or.inl ⟨by rfl, ?_⟩) (by assumption) ?_
        rotate_left
        · (intro wS hSw; (try dsimp only at hSw); go_simp <;> with_reducible rfl)
        try simp only [Act.put, List.setIfInBounds_toArray, List.set_cons_zero, List.set_cons_succ]
        refine wpAnyH_take (i := 12) (oi := ⟨_, _, _, _, _, _⟩) (v := ?_) rfl (by kernel_rfl) (by kernel_rfl) (by kernel_rfl) (fun _ _ _ h => h) (Or.inl ⟨by rfl, ?_⟩) (by assumption) ?_
        rotate_left
        · (intro wS hSw; (try dsimp only at hSw); go_simp <;> with_reducible rfl)
        try simp only [Act.put, List.setIfInBounds_toArray, List.set_cons_zero, List.set_cons_succ]
        refine wpAnyH_ready (rs := [7]) (by kernel_rfl) (by simp) ?_
        refine AllReadyH.cons (o := ⟨_, _, _, _, _, _⟩) rfl (fun K hK => ?_) AllReadyH.nil
        go_simp
        (first | (go_at_call 33; (with_reducible refine (HQ0.out.rrangeW L KW HLE.out a b ELR.out).mono ?_); rintro e w11 ⟨A11, c11, rfl, -, h11, b11⟩; rw [HN1.out]; have H11 := Lib.hid h11; have hw11 := acc hv0 b11; clear h11 b11) | (go_at_call 20; (with_reducible refine (H11.out.rarcW L KW HLE.out HLS.out f t HF.out HT.out ELA.out).mono ?_); rintro e w12 ⟨A12, c12, rfl, -, h12, b12⟩; rw [HN2.out]; have H12 := Lib.hid h12; have hw12 := acc hw11 b12; clear h12 b12))
        go_wp2_with fail
        refine hK.out _ _ (by (try dsimp only); (first | assumption | exact HS9.out _ (by assumption))) (fun hHeld => ?_)
        clear hK K
        try simp only [Act.put, List.setIfInBounds_toArray, List.set_cons_zero, List.set_cons_succ]
        refine wpAnyH_ready (rs := [10]) (by kernel_rfl) (by simp) ?_
        refine AllReadyH.cons (o := ⟨_, _, _, _, _, _⟩) rfl (fun K hK => ?_) AllReadyH.nil
        go_simp
        (first | (go_at_call 33; (with_reducible refine (HQ0.out.rrangeW L KW HLE.out a b ELR.out).mono ?_); rintro e w11 ⟨A11, c11, rfl, -, h11, b11⟩; rw [HN1.out]; have H11 := Lib.hid h11; have hw11 := acc hv0 b11; clear h11 b11) | (go_at_call 20; (with_reducible refine (H11.out.rarcW L KW HLE.out HLS.out f t HF.out HT.out ELA.out).mono ?_); rintro e w12 ⟨A12, c12, rfl, -, h12, b12⟩; rw [HN2.out]; have H12 := Lib.hid h12; have hw12 := acc hw11 b12; clear h12 b12))
        go_wp2_with fail
        refine hK.out _ _ (by (try dsimp only); (first | assumption | exact HS9.out _ (by assumption))) (fun hHeld => ?_)
        clear hK K
        try simp only [Act.put, List.setIfInBounds_toArray, List.set_cons_zero, List.set_cons_succ]
        refine wpAnyH_ready (rs := [11]) (by kernel_rfl) (by simp) ?_
        refine AllReadyH.cons (o := ⟨_, _, _, _, _, _⟩) rfl (fun K hK => ?_) AllReadyH.nil
        go_simp
        refine hK.out _ _ (by (try dsimp only); exact HS9.out _ (hw12.alloc hw12.size _)) (fun hHeld => ?_)
        clear hK K
        try simp only [Act.put, List.setIfInBounds_toArray, List.set_cons_zero, List.set_cons_succ]
        refine wpAnyH_take (i := 13) (oi := ⟨_, _, _, _, _, _⟩) (v := ?_) rfl (by kernel_rfl) (by kernel_rfl) (by kernel_rfl) (fun _ _ _ h => h) (Or.inl ⟨by rfl, ?_⟩) (by assumption) ?_
        rotate_left
        · (intro wS hSw; (try dsimp only at hSw); go_simp <;> with_reducible rfl)
        try simp only [Act.put, List.setIfInBounds_toArray, List.set_cons_zero, List.set_cons_succ]
        refine wpAnyH_ready (rs := [14]) (by kernel_rfl) (by simp) ?_
        refine AllReadyH.cons (o := ⟨_, _, _, _, _, _⟩) rfl (fun K hK => ?_) AllReadyH.nil
        go_simp
        refine hK.out _ _ (by (try dsimp only); exact HS9.out _ (hw12.alloc hw12.size _)) (fun hHeld => ?_)
        clear hK K
        try simp only [Act.put, List.setIfInBounds_toArray, List.set_cons_zero, List.set_cons_succ]
        refine wpAnyH_take (i := 15) (oi := ⟨_, _, _, _, _, _⟩) (v := ?_) rfl (by kernel_rfl) (by kernel_rfl) (by kernel_rfl) (fun _ _ _ h => h) (Or.inl ⟨by rfl, ?_⟩) (by assumption) ?_
        rotate_left
        · (intro wS hSw; (try dsimp only at hSw); go_simp <;> with_reducible rfl)
        try simp only [Act.put, List.setIfInBounds_toArray, List.set_cons_zero, List.set_cons_succ]
        refine wpAnyH_done (by kernel_rfl) ?_ _
        have hz12 : Below w10.drew.heap.size w10.drew (w12.alloc (.cells #[.slice LA n0 lc, .slice A11 n1 c11, .slice A12 n2 c12] 22)) := hw12.alloc hw12.size _
        have hN := (HS9.out _ hz12).2.2.2
        have HO12 := Lib.hid (HQ0.out.below L KW hz12)
        have HF12 := Lib.hid (HF10.out.trans ((show Below w10.heap.size w10 _ from (show Below w10.heap.size w10 w10.drew from (Below.refl _ _).drew).trans hz12).mono HF10.out.size))
        clear hz12
        have hmin : (if (1 : Int) < (n0 : Int) then (1 : Int) else (n0 : Int)) = (m0 : Int) := by rw [← HM0.out]; split <;> omega
        go_wp2_with fail
        go_roundg (gk - 1)
        case measure => omega
        case rel => exact ⟨1, by omega, by omega, by go_num, HO12, HF12⟩
      · -- way 1
        obtain ⟨B, hway, hBlt⟩ := HW1.out (wr.alloc (.cells #[.int .i64 0] 3)) ((show Below w5.heap.size w5 wr from HBW.out).alloc (HBW.out.size) _)
        have hvar := Var.new wr (.int .i64 0) 3
        have hst := stopWay hway hvar (fun z => by have := hBlt _ z; have := HBW.out.size; omega)
        rw [HNN1.out, HM1.out] at hst
        have HST := Lib.hid hst
        have cf : wr.cell? ⟨w5.heap.size, 1, none⟩ = some (.func (.func i1) #[] p1) := (HFB.out.cell (p := ⟨w5.heap.size, 1, none⟩) (by simp)).trans (by go_simp)
        have he := HE1.out
        clear hway hvar hst hBlt
        go_upto_region 9 with (refine HST.out.mono ?_; rintro e w10 ⟨rfl, v10, t10⟩)
        clear he cf
        have hB10 : Below wr.heap.size wr w10 := ((Below.refl _ wr).alloc (Nat.le_refl _) _).trans (t10.below (by simp) (by simp))
        have HV10 := Lib.hid v10
        have HP10 := Lib.hid (HO.out.below L KW hB10)
        have HF10 := Lib.hid (HFB.out.trans (hB10.mono HFB.out.size))
        obtain ⟨LA, lc, hgl, hgc, -⟩ := HP10.out.listW
        rw [HN0.out] at hgc
        have z0 := (HP10.out.1.cell (p := ⟨W.heap.size, 0, none⟩) hb1).trans y0
        have z1 := (HP10.out.1.cell (p := ⟨W.heap.size, 1, none⟩) hb1).trans y1
        have hbW : W.heap.size < w10.heap.size := Nat.lt_of_lt_of_le hb1 HP10.out.1.size
        have HS9 : Hid (∀ w', Below w10.drew.heap.size w10.drew w' → w'.cell? ⟨W.heap.size, 0, none⟩ = some (.int .u64 (f : Nat)) ∧ w'.cell? ⟨W.heap.size, 1, none⟩ = some (.int .u64 (t : Nat)) ∧ w'.cell? ⟨gr, 1, none⟩ = some (.slice LA n0 lc) ∧ w'.cell? ⟨wr.heap.size, 0, none⟩ = some (.int .i64 (m1 : Nat))) := fun w' h => by
          have z : Below w10.heap.size w10 w' := (show Below w10.heap.size w10 w10.drew from (Below.refl _ _).drew).trans h
          exact ⟨(z.cell (p := ⟨W.heap.size, 0, none⟩) hbW).trans z0, (z.cell (p := ⟨W.heap.size, 1, none⟩) hbW).trans z1, (z.cell (p := ⟨gr, 1, none⟩) hgl).trans hgc, (z.cell (p := ⟨wr.heap.size, 0, none⟩) HV10.out.lt).trans HV10.out.val⟩
        have HQ0 := Lib.hid (HP10.out.below L KW (Below.refl _ _).drew)
        have hv0 : Below w10.drew.heap.size w10.drew w10.drew := Below.refl _ _
        clear z0 z1 hgc hgl v10 t10 hB10
        refine wp_region_held_drew (S := (fun w' => w'.cell? ⟨W.heap.size, 0, none⟩ = some (.int .u64 (f : Nat)) ∧ w'.cell? ⟨W.heap.size, 1, none⟩ = some (.int .u64 (t : Nat)) ∧ w'.cell? ⟨gr, 1, none⟩ = some (.slice LA n0 lc) ∧ w'.cell? ⟨wr.heap.size, 0, none⟩ = some (.int .i64 (m1 : Nat)))) (by kernel_rfl) ?_ (fun hHeld => ?_)
        · (try dsimp only); (first | assumption | exact HS9.out _ (by assumption))
        refine wpAnyH_take (i := 0) (oi := ⟨_, _, _, _, _, _⟩) (v := ?_) rfl (by kernel_rfl) (by kernel_rfl) (by kernel_rfl) (fun _ _ _ h => h) (Or.inl ⟨by rfl, ?_⟩) (by assumption) ?_
        rotate_left
        · (intro wS hSw; (try dsimp only at hSw); go_simp <;> with_reducible rfl)
        try simp only [Act.put, List.setIfInBounds_toArray, List.set_cons_zero, List.set_cons_succ]
        refine wpAnyH_take (i := 1) (oi := ⟨_, _, _, _, _, _⟩) (v := ?_) rfl (by kernel_rfl) (by kernel_rfl) (by kernel_rfl) (fun _ _ _ h => h) (Or.inl ⟨by rfl, ?_⟩) (by assumption) ?_
        rotate_left
        · (intro wS hSw; (try dsimp only at hSw); go_simp <;> with_reducible rfl)
        try simp only [Act.put, List.setIfInBounds_toArray, List.set_cons_zero, List.set_cons_succ]
        refine wpAnyH_take (i := 2) (oi := ⟨_, _, _, _, _, _⟩) (v := ?_) rfl (by kernel_rfl) (by kernel_rfl) (by kernel_rfl) (fun _ _ _ h => h) (Or.inl ⟨by rfl, ?_⟩) (by assumption) ?_
        rotate_left
        · (intro wS hSw; (try dsimp only at hSw); go_simp <;> with_reducible rfl)
        try simp only [Act.put, List.setIfInBounds_toArray, List.set_cons_zero, List.set_cons_succ]
        refine wpAnyH_take (i := 3) (oi := ⟨_, _, _, _, _, _⟩) (v := ?_) rfl (by kernel_rfl) (by kernel_rfl) (by kernel_rfl) (fun _ _ _ h => h) (Or.inl ⟨by rfl, ?_⟩) (by assumption) ?_
        rotate_left
        · (intro wS hSw; (try dsimp only at hSw); go_simp <;> with_reducible rfl)
        try simp only [Act.put, List.setIfInBounds_toArray, List.set_cons_zero, List.set_cons_succ]
        refine wpAnyH_take (i := 4) (oi := ⟨_, _, _, _, _, _⟩) (v := ?_) rfl (by kernel_rfl) (by kernel_rfl) (by kernel_rfl) (fun _ _ _ h => h) (Or.inl ⟨by rfl, ?_⟩) (by assumption) ?_
        rotate_left
        · (intro wS hSw; (try dsimp only at hSw); go_simp <;> with_reducible rfl)
        try simp only [Act.put, List.setIfInBounds_toArray, List.set_cons_zero, List.set_cons_succ]
        refine wpAnyH_take (i := 5) (oi := ⟨_, _, _, _, _, _⟩) (v := ?_) rfl (by kernel_rfl) (by kernel_rfl) (by kernel_rfl) (fun _ _ _ h => h) (Or.inl ⟨by rfl, ?_⟩) (by assumption) ?_
        rotate_left
        · (intro wS hSw; (try dsimp only at hSw); go_simp <;> with_reducible rfl)
        try simp only [Act.put, List.setIfInBounds_toArray, List.set_cons_zero, List.set_cons_succ]
        refine wpAnyH_take (i := 6) (oi := ⟨_, _, _, _, _, _⟩) (v := ?_) rfl (by kernel_rfl) (by kernel_rfl) (by kernel_rfl) (fun _ _ _ h => h) (Or.inl ⟨by rfl, ?_⟩) (by assumption) ?_
        rotate_left
        · (intro wS hSw; (try dsimp only at hSw); go_simp <;> with_reducible rfl)
        try simp only [Act.put, List.setIfInBounds_toArray, List.set_cons_zero, List.set_cons_succ]
        refine wpAnyH_take (i := 8) (oi := ⟨_, _, _, _, _, _⟩) (v := ?_) rfl (by kernel_rfl) (by kernel_rfl) (by kernel_rfl) (fun _ _ _ h => h) (Or.inl ⟨by rfl, ?_⟩) (by assumption) ?_
        rotate_left
        · (intro wS hSw; (try dsimp only at hSw); go_simp <;> with_reducible rfl)
        try simp only [Act.put, List.setIfInBounds_toArray, List.set_cons_zero, List.set_cons_succ]
        refine wpAnyH_take (i := 9) (oi := ⟨_, _, _, _, _, _⟩) (v := ?_) rfl (by kernel_rfl) (by kernel_rfl) (by kernel_rfl) (fun _ _ _ h => h) (Or.inl ⟨by rfl, ?_⟩) (by assumption) ?_
        rotate_left
        · (intro wS hSw; (try dsimp only at hSw); go_simp <;> with_reducible rfl)
        try simp only [Act.put, List.setIfInBounds_toArray, List.set_cons_zero, List.set_cons_succ]
        refine wpAnyH_take (i := 12) (oi := ⟨_, _, _, _, _, _⟩) (v := ?_) rfl (by kernel_rfl) (by kernel_rfl) (by kernel_rfl) (fun _ _ _ h => h) (Or.inl ⟨by rfl, ?_⟩) (by assumption) ?_
        rotate_left
        · (intro wS hSw; (try dsimp only at hSw); go_simp <;> with_reducible rfl)
        try simp only [Act.put, List.setIfInBounds_toArray, List.set_cons_zero, List.set_cons_succ]
        refine wpAnyH_ready (rs := [7]) (by kernel_rfl) (by simp) ?_
        refine AllReadyH.cons (o := ⟨_, _, _, _, _, _⟩) rfl (fun K hK => ?_) AllReadyH.nil
        go_simp
        (first | (go_at_call 33; (with_reducible refine (HQ0.out.rrangeW L KW HLE.out a b ELR.out).mono ?_); rintro e w11 ⟨A11, c11, rfl, -, h11, b11⟩; rw [HN1.out]; have H11 := Lib.hid h11; have hw11 := acc hv0 b11; clear h11 b11) | (go_at_call 20; (with_reducible refine (H11.out.rarcW L KW HLE.out HLS.out f t HF.out HT.out ELA.out).mono ?_); rintro e w12 ⟨A12, c12, rfl, -, h12, b12⟩; rw [HN2.out]; have H12 := Lib.hid h12; have hw12 := acc hw11 b12; clear h12 b12))
        go_wp2_with fail
        refine hK.out _ _ (by (try dsimp only); (first | assumption | exact HS9.out _ (by assumption))) (fun hHeld => ?_)
        clear hK K
        try simp only [Act.put, List.setIfInBounds_toArray, List.set_cons_zero, List.set_cons_succ]
        refine wpAnyH_ready (rs := [10]) (by kernel_rfl) (by simp) ?_
        refine AllReadyH.cons (o := ⟨_, _, _, _, _, _⟩) rfl (fun K hK => ?_) AllReadyH.nil
        go_simp
        (first | (go_at_call 33; (with_reducible refine (HQ0.out.rrangeW L KW HLE.out a b ELR.out).mono ?_); rintro e w11 ⟨A11, c11, rfl, -, h11, b11⟩; rw [HN1.out]; have H11 := Lib.hid h11; have hw11 := acc hv0 b11; clear h11 b11) | (go_at_call 20; (with_reducible refine (H11.out.rarcW L KW HLE.out HLS.out f t HF.out HT.out ELA.out).mono ?_); rintro e w12 ⟨A12, c12, rfl, -, h12, b12⟩; rw [HN2.out]; have H12 := Lib.hid h12; have hw12 := acc hw11 b12; clear h12 b12))
        go_wp2_with fail
        refine hK.out _ _ (by (try dsimp only); (first | assumption | exact HS9.out _ (by assumption))) (fun hHeld => ?_)
        clear hK K
        try simp only [Act.put, List.setIfInBounds_toArray, List.set_cons_zero, List.set_cons_succ]
        refine wpAnyH_ready (rs := [11]) (by kernel_rfl) (by simp) ?_
        refine AllReadyH.cons (o := ⟨_, _, _, _, _, _⟩) rfl (fun K hK => ?_) AllReadyH.nil
        go_simp
        refine hK.out _ _ (by (try dsimp only); exact HS9.out _ (hw12.alloc hw12.size _)) (fun hHeld => ?_)
        clear hK K
        try simp only [Act.put, List.setIfInBounds_toArray, List.set_cons_zero, List.set_cons_succ]
        refine wpAnyH_take (i := 13) (oi := ⟨_, _, _, _, _, _⟩) (v := ?_) rfl (by kernel_rfl) (by kernel_rfl) (by kernel_rfl) (fun _ _ _ h => h) (Or.inl ⟨by rfl, ?_⟩) (by assumption) ?_
        rotate_left
        · (intro wS hSw; (try dsimp only at hSw); go_simp <;> with_reducible rfl)
        try simp only [Act.put, List.setIfInBounds_toArray, List.set_cons_zero, List.set_cons_succ]
        refine wpAnyH_ready (rs := [14]) (by kernel_rfl) (by simp) ?_
        refine AllReadyH.cons (o := ⟨_, _, _, _, _, _⟩) rfl (fun K hK => ?_) AllReadyH.nil
        go_simp
        refine hK.out _ _ (by (try dsimp only); exact HS9.out _ (hw12.alloc hw12.size _)) (fun hHeld => ?_)
        clear hK K
        try simp only [Act.put, List.setIfInBounds_toArray, List.set_cons_zero, List.set_cons_succ]
        refine wpAnyH_take (i := 15) (oi := ⟨_, _, _, _, _, _⟩) (v := ?_) rfl (by kernel_rfl) (by kernel_rfl) (by kernel_rfl) (fun _ _ _ h => h) (Or.inl ⟨by rfl, ?_⟩) (by assumption) ?_
        rotate_left
        · (intro wS hSw; (try dsimp only at hSw); go_simp <;> with_reducible rfl)
        try simp only [Act.put, List.setIfInBounds_toArray, List.set_cons_zero, List.set_cons_succ]
        refine wpAnyH_done (by kernel_rfl) ?_ _
        have hz12 : Below w10.drew.heap.size w10.drew (w12.alloc (.cells #[.slice LA n0 lc, .slice A11 n1 c11, .slice A12 n2 c12] 22)) := hw12.alloc hw12.size _
        have hN := (HS9.out _ hz12).2.2.2
        have HO12 := Lib.hid (HQ0.out.below L KW hz12)
        have HF12 := Lib.hid (HF10.out.trans ((show Below w10.heap.size w10 _ from (show Below w10.heap.size w10 w10.drew from (Below.refl _ _).drew).trans hz12).mono HF10.out.size))
        clear hz12
        have hmin : (if (1 : Int) < (n1 : Int) then (1 : Int) else (n1 : Int)) = (m1 : Int) := by rw [← HM1.out]; split <;> omega
        go_wp2_with fail
        go_roundg (gk - 1)
        case measure => omega
        case rel => exact ⟨2, by omega, by omega, by go_num, HO12, HF12⟩
      · -- way 2
        obtain ⟨B, hway, hBlt⟩ := HW2.out (wr.alloc (.cells #[.int .i64 0] 3)) ((show Below w5.heap.size w5 wr from HBW.out).alloc (HBW.out.size) _)
        have hvar := Var.new wr (.int .i64 0) 3
        have hst := stopWay hway hvar (fun z => by have := hBlt _ z; have := HBW.out.size; omega)
        rw [HNN2.out, HM2.out] at hst
        have HST := Lib.hid hst
        have cf : wr.cell? ⟨w5.heap.size, 2, none⟩ = some (.func (.func i2) #[] p2) := (HFB.out.cell (p := ⟨w5.heap.size, 2, none⟩) (by simp)).trans (by go_simp)
        have he := HE2.out
        clear hway hvar hst hBlt
        go_upto_region 9 with (refine HST.out.mono ?_; rintro e w10 ⟨rfl, v10, t10⟩)
        clear he cf
        have hB10 : Below wr.heap.size wr w10 := ((Below.refl _ wr).alloc (Nat.le_refl _) _).trans (t10.below (by simp) (by simp))
        have HV10 := Lib.hid v10
        have HP10 := Lib.hid (HO.out.below L KW hB10)
        have HF10 := Lib.hid (HFB.out.trans (hB10.mono HFB.out.size))
        obtain ⟨LA, lc, hgl, hgc, -⟩ := HP10.out.listW
        rw [HN0.out] at hgc
        have z0 := (HP10.out.1.cell (p := ⟨W.heap.size, 0, none⟩) hb1).trans y0
        have z1 := (HP10.out.1.cell (p := ⟨W.heap.size, 1, none⟩) hb1).trans y1
        have hbW : W.heap.size < w10.heap.size := Nat.lt_of_lt_of_le hb1 HP10.out.1.size
        have HS9 : Hid (∀ w', Below w10.drew.heap.size w10.drew w' → w'.cell? ⟨W.heap.size, 0, none⟩ = some (.int .u64 (f : Nat)) ∧ w'.cell? ⟨W.heap.size, 1, none⟩ = some (.int .u64 (t : Nat)) ∧ w'.cell? ⟨gr, 1, none⟩ = some (.slice LA n0 lc) ∧ w'.cell? ⟨wr.heap.size, 0, none⟩ = some (.int .i64 (m2 : Nat))) := fun w' h => by
          have z : Below w10.heap.size w10 w' := (show Below w10.heap.size w10 w10.drew from (Below.refl _ _).drew).trans h
          exact ⟨(z.cell (p := ⟨W.heap.size, 0, none⟩) hbW).trans z0, (z.cell (p := ⟨W.heap.size, 1, none⟩) hbW).trans z1, (z.cell (p := ⟨gr, 1, none⟩) hgl).trans hgc, (z.cell (p := ⟨wr.heap.size, 0, none⟩) HV10.out.lt).trans HV10.out.val⟩
        have HQ0 := Lib.hid (HP10.out.below L KW (Below.refl _ _).drew)
        have hv0 : Below w10.drew.heap.size w10.drew w10.drew := Below.refl _ _
        clear z0 z1 hgc hgl v10 t10 hB10
        refine wp_region_held_drew (S := (fun w' => w'.cell? ⟨W.heap.size, 0, none⟩ = some (.int .u64 (f : Nat)) ∧ w'.cell? ⟨W.heap.size, 1, none⟩ = some (.int .u64 (t : Nat)) ∧ w'.cell? ⟨gr, 1, none⟩ = some (.slice LA n0 lc) ∧ w'.cell? ⟨wr.heap.size, 0, none⟩ = some (.int .i64 (m2 : Nat)))) (by kernel_rfl) ?_ (fun hHeld => ?_)
        · (try dsimp only); (first | assumption | exact HS9.out _ (by assumption))
        refine wpAnyH_take (i := 0) (oi := ⟨_, _, _, _, _, _⟩) (v := ?_) rfl (by kernel_rfl) (by kernel_rfl) (by kernel_rfl) (fun _ _ _ h => h) (Or.inl ⟨by rfl, ?_⟩) (by assumption) ?_
        rotate_left
        · (intro wS hSw; (try dsimp only at hSw); go_simp <;> with_reducible rfl)
        try simp only [Act.put, List.setIfInBounds_toArray, List.set_cons_zero, List.set_cons_succ]
        refine wpAnyH_take (i := 1) (oi := ⟨_, _, _, _, _, _⟩) (v := ?_) rfl (by kernel_rfl) (by kernel_rfl) (by kernel_rfl) (fun _ _ _ h => h) (Or.inl ⟨by rfl, ?_⟩) (by assumption) ?_
        rotate_left
        · (intro wS hSw; (try dsimp only at hSw); go_simp <;> with_reducible rfl)
        try simp only [Act.put, List.setIfInBounds_toArray, List.set_cons_zero, List.set_cons_succ]
        refine wpAnyH_take (i := 2) (oi := ⟨_, _, _, _, _, _⟩) (v := ?_) rfl (by kernel_rfl) (by kernel_rfl) (by kernel_rfl) (fun _ _ _ h => h) (Or.inl ⟨by rfl, ?_⟩) (by assumption) ?_
        rotate_left
        · (intro wS hSw; (try dsimp only at hSw); go_simp <;> with_reducible rfl)
        try simp only [Act.put, List.setIfInBounds_toArray, List.set_cons_zero, List.set_cons_succ]
        refine wpAnyH_take (i := 3) (oi := ⟨_, _, _, _, _, _⟩) (v := ?_) rfl (by kernel_rfl) (by kernel_rfl) (by kernel_rfl) (fun _ _ _ h => h) (Or.inl ⟨by rfl, ?_⟩) (by assumption) ?_
        rotate_left
        · (intro wS hSw; (try dsimp only at hSw); go_simp <;> with_reducible rfl)
        try simp only [Act.put, List.setIfInBounds_toArray, List.set_cons_zero, List.set_cons_succ]
        refine wpAnyH_take (i := 4) (oi := ⟨_, _, _, _, _, _⟩) (v := ?_) rfl (by kernel_rfl) (by kernel_rfl) (by kernel_rfl) (fun _ _ _ h => h) (Or.inl ⟨by rfl, ?_⟩) (by assumption) ?_
        rotate_left
        · (intro wS hSw; (try dsimp only at hSw); go_simp <;> with_reducible rfl)
        try simp only [Act.put, List.setIfInBounds_toArray, List.set_cons_zero, List.set_cons_succ]
        refine wpAnyH_take (i := 5) (oi := ⟨_, _, _, _, _, _⟩) (v := ?_) rfl (by kernel_rfl) (by kernel_rfl) (by kernel_rfl) (fun _ _ _ h => h) (Or.inl ⟨by rfl, ?_⟩) (by assumption) ?_
        rotate_left
        · (intro wS hSw; (try dsimp only at hSw); go_simp <;> with_reducible rfl)
        try simp only [Act.put, List.setIfInBounds_toArray, List.set_cons_zero, List.set_cons_succ]
        refine wpAnyH_take (i := 6) (oi := ⟨_, _, _, _, _, _⟩) (v := ?_) rfl (by kernel_rfl) (by kernel_rfl) (by kernel_rfl) (fun _ _ _ h => h) (Or.inl ⟨by rfl, ?_⟩) (by assumption) ?_
        rotate_left
        · (intro wS hSw; (try dsimp only at hSw); go_simp <;> with_reducible rfl)
        try simp only [Act.put, List.setIfInBounds_toArray, List.set_cons_zero, List.set_cons_succ]
        refine wpAnyH_take (i := 8) (oi := ⟨_, _, _, _, _, _⟩) (v := ?_) rfl (by kernel_rfl) (by kernel_rfl) (by kernel_rfl) (fun _ _ _ h => h) (Or.inl ⟨by rfl, ?_⟩) (by assumption) ?_
        rotate_left
        · (intro wS hSw; (try dsimp only at hSw); go_simp <;> with_reducible rfl)
        try simp only [Act.put, List.setIfInBounds_toArray, List.set_cons_zero, List.set_cons_succ]
        refine wpAnyH_take (i := 9) (oi := ⟨_, _, _, _, _, _⟩) (v := ?_) rfl (by kernel_rfl) (by kernel_rfl) (by kernel_rfl) (fun _ _ _ h => h) (Or.inl ⟨by rfl, ?_⟩) (by assumption) ?_
        rotate_left
        · (intro wS hSw; (try dsimp only at hSw); go_simp <;> with_reducible rfl)
        try simp only [Act.put, List.setIfInBounds_toArray, List.set_cons_zero, List.set_cons_succ]
        refine wpAnyH_take (i := 12) (oi := ⟨_, _, _, _, _, _⟩) (v := ?_) rfl (by kernel_rfl) (by kernel_rfl) (by kernel_rfl) (fun _ _ _ h => h) (Or.inl ⟨by rfl, ?_⟩) (by assumption) ?_
        rotate_left
        · (intro wS hSw; (try dsimp only at hSw); go_simp <;> with_reducible rfl)
        try simp only [Act.put, List.setIfInBounds_toArray, List.set_cons_zero, List.set_cons_succ]
        refine wpAnyH_ready (rs := [7]) (by kernel_rfl) (by simp) ?_
        refine AllReadyH.cons (o := ⟨_, _, _, _, _, _⟩) rfl (fun K hK => ?_) AllReadyH.nil
        go_simp
        (first | (go_at_call 33; (with_reducible refine (HQ0.out.rrangeW L KW HLE.out a b ELR.out).mono ?_); rintro e w11 ⟨A11, c11, rfl, -, h11, b11⟩; rw [HN1.out]; have H11 := Lib.hid h11; have hw11 := acc hv0 b11; clear h11 b11) | (go_at_call 20; (with_reducible refine (H11.out.rarcW L KW HLE.out HLS.out f t HF.out HT.out ELA.out).mono ?_); rintro e w12 ⟨A12, c12, rfl, -, h12, b12⟩; rw [HN2.out]; have H12 := Lib.hid h12; have hw12 := acc hw11 b12; clear h12 b12))
        go_wp2_with fail
        refine hK.out _ _ (by (try dsimp only); (first | assumption | exact HS9.out _ (by assumption))) (fun hHeld => ?_)
        clear hK K
        try simp only [Act.put, List.setIfInBounds_toArray, List.set_cons_zero, List.set_cons_succ]
        refine wpAnyH_ready (rs := [10]) (by kernel_rfl) (by simp) ?_
        refine AllReadyH.cons (o := ⟨_, _, _, _, _, _⟩) rfl (fun K hK => ?_) AllReadyH.nil
        go_simp
        (first | (go_at_call 33; (with_reducible refine (HQ0.out.rrangeW L KW HLE.out a b ELR.out).mono ?_); rintro e w11 ⟨A11, c11, rfl, -, h11, b11⟩; rw [HN1.out]; have H11 := Lib.hid h11; have hw11 := acc hv0 b11; clear h11 b11) | (go_at_call 20; (with_reducible refine (H11.out.rarcW L KW HLE.out HLS.out f t HF.out HT.out ELA.out).mono ?_); rintro e w12 ⟨A12, c12, rfl, -, h12, b12⟩; rw [HN2.out]; have H12 := Lib.hid h12; have hw12 := acc hw11 b12; clear h12 b12))
        go_wp2_with fail
        refine hK.out _ _ (by (try dsimp only); (first | assumption | exact HS9.out _ (by assumption))) (fun hHeld => ?_)
        clear hK K
        try simp only [Act.put, List.setIfInBounds_toArray, List.set_cons_zero, List.set_cons_succ]
        refine wpAnyH_ready (rs := [11]) (by kernel_rfl) (by simp) ?_
        refine AllReadyH.cons (o := ⟨_, _, _, _, _, _⟩) rfl (fun K hK => ?_) AllReadyH.nil
        go_simp
        refine hK.out _ _ (by (try dsimp only); exact HS9.out _ (hw12.alloc hw12.size _)) (fun hHeld => ?_)
        clear hK K
        try simp only [Act.put, List.setIfInBounds_toArray, List.set_cons_zero, List.set_cons_succ]
        refine wpAnyH_take (i := 13) (oi := ⟨_, _, _, _, _, _⟩) (v := ?_) rfl (by kernel_rfl) (by kernel_rfl) (by kernel_rfl) (fun _ _ _ h => h) (Or.inl ⟨by rfl, ?_⟩) (by assumption) ?_
        rotate_left
        · (intro wS hSw; (try dsimp only at hSw); go_simp <;> with_reducible rfl)
        try simp only [Act.put, List.setIfInBounds_toArray, List.set_cons_zero, List.set_cons_succ]
        refine wpAnyH_ready (rs := [14]) (by kernel_rfl) (by simp) ?_
        refine AllReadyH.cons (o := ⟨_, _, _, _, _, _⟩) rfl (fun K hK => ?_) AllReadyH.nil
        go_simp
        refine hK.out _ _ (by (try dsimp only); exact HS9.out _ (hw12.alloc hw12.size _)) (fun hHeld => ?_)
        clear hK K
        try simp only [Act.put, List.setIfInBounds_toArray, List.set_cons_zero, List.set_cons_succ]
        refine wpAnyH_take (i := 15) (oi := ⟨_, _, _, _, _, _⟩) (v := ?_) rfl (by kernel_rfl) (by kernel_rfl) (by kernel_rfl) (fun _ _ _ h => h) (Or.inl ⟨by rfl, ?_⟩) (by assumption) ?_
        rotate_left
        · (intro wS hSw; (try dsimp only at hSw); go_simp <;> with_reducible rfl)
        try simp only [Act.put, List.setIfInBounds_toArray, List.set_cons_zero, List.set_cons_succ]
        refine wpAnyH_done (by kernel_rfl) ?_ _
        have hz12 : Below w10.drew.heap.size w10.drew (w12.alloc (.cells #[.slice LA n0 lc, .slice A11 n1 c11, .slice A12 n2 c12] 22)) := hw12.alloc hw12.size _
        have hN := (HS9.out _ hz12).2.2.2
        have HO12 := Lib.hid (HQ0.out.below L KW hz12)
        have HF12 := Lib.hid (HF10.out.trans ((show Below w10.heap.size w10 _ from (show Below w10.heap.size w10 w10.drew from (Below.refl _ _).drew).trans hz12).mono HF10.out.size))
        clear hz12
        have hmin : (if (1 : Int) < (n2 : Int) then (1 : Int) else (n2 : Int)) = (m2 : Int) := by rw [← HM2.out]; split <;> omega
        go_wp2_with fail
        go_roundg (gk - 1)
        case measure => omega
        case rel => exact ⟨3, by omega, by omega, by go_num, HO12, HF12⟩
      · go_wp2_with fail
        go_ret
        exact ⟨rfl, acc HB1.out HO.out.1⟩
end Go.Proofs.Ytglinhcldgpphaa
