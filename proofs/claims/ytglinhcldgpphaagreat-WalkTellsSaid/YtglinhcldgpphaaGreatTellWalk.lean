/-
  The walk of WalkTells over ShelfLaws and WalkLaws. (Written by tools/genWTel.py.)
-/
import Derived.Test.YtglinhcldgpphaaGreatTellKeep
import Derived.Test.YtglinhcldgpphaaGreatWalkLawA
import Derived.Deep.CutBlock
namespace Go.Proofs.YtglinhcldgpphaaGreat
open Go.RowKit

theorem Bare.go {w : World} {fv : Value} (h : Bare w fv) : Calls Tryz.prog 14 #[fv, .int .i64 5] w fun e w3 => ∃ A c, e = .returned (.slice A 0 c) ∧ Below w.heap.size w w3 := h w (Below.refl _ _)
theorem cells6 (w : World) (a0 a1 a2 a3 a4 a5 : Value) (T : TypeId) : (w.alloc (.cells #[a0, a1, a2, a3, a4, a5] T)).cell? ⟨w.heap.size, 0, none⟩ = some a0 ∧ (w.alloc (.cells #[a0, a1, a2, a3, a4, a5] T)).cell? ⟨w.heap.size, 1, none⟩ = some a1 ∧ (w.alloc (.cells #[a0, a1, a2, a3, a4, a5] T)).cell? ⟨w.heap.size, 2, none⟩ = some a2 ∧
    (w.alloc (.cells #[a0, a1, a2, a3, a4, a5] T)).cell? ⟨w.heap.size, 3, none⟩ = some a3 ∧ (w.alloc (.cells #[a0, a1, a2, a3, a4, a5] T)).cell? ⟨w.heap.size, 4, none⟩ = some a4 ∧ (w.alloc (.cells #[a0, a1, a2, a3, a4, a5] T)).cell? ⟨w.heap.size, 5, none⟩ = some a5 := ⟨by go_simp, by go_simp, by go_simp, by go_simp, by go_simp, by go_simp⟩
theorem cells2 (w : World) (a0 a1 : Value) (T : TypeId) : (w.alloc (.cells #[a0, a1] T)).cell? ⟨w.heap.size, 0, none⟩ = some a0 ∧ (w.alloc (.cells #[a0, a1] T)).cell? ⟨w.heap.size, 1, none⟩ = some a1 := ⟨by go_simp, by go_simp⟩
set_option maxRecDepth 100000 in
set_option maxHeartbeats 16000000 in
theorem walkTells_any {SH : ShP} {SQ : SqP} (L : ShelfLaws SH) (KW : WalkLaws SH SQ) (A : Option Addr) (c : Nat) (zs : List Item) (a b : ByteArray) (f t : Nat) (most : Int) (W : World) (hA : ItemsAt W A zs) (hz : zs.length ≤ 9223372036854775807) (sa : a.size ≤ maxLen) (sb : b.size ≤ maxLen) (hf : f < 18446744073709551616) (ht : t < 18446744073709551616) (m0 : -9223372036854775808 ≤ most) (m1 : most ≤ 9223372036854775807) :
    Calls Tryz.prog 3 #[.slice A zs.length c, .string a, .string b, .agg #[.int .u64 (f : Nat), .int .u64 (t : Nat)], .int .i64 most] W fun e w' => e = .returned (.bool true) ∧ Below W.heap.size W w' := by
  have CA : Hid (∀ w, Calls Tryz.prog 4 #[] w fun e w' => e = .returned (.bool true) ∧ Below w.heap.size w w') := fun w => walkAlive_any L KW w w (Below.refl _ _)
  obtain ⟨l, hl⟩ : ∃ l, fillL zs = l := ⟨_, rfl⟩
  have hlen : l.length ≤ 60 := by rw [← hl]; exact fillL_length zs
  have hls : ∀ x ∈ l, x.1.size ≤ 16 := by rw [← hl]; exact fillL_small zs
  obtain ⟨n, hn⟩ : ∃ n, zs.length = n := ⟨_, rfl⟩
  have CF : Hid (∀ w, Below W.heap.size W w → Calls Tryz.prog 5 #[.slice A n c] w fun e w' => ∃ gs gr, e = .returned (.tuple #[.pointer (some ⟨gs, 0, none⟩), .pointer (some ⟨gr, 0, none⟩)]) ∧ OSW SH SQ w w' gs gr l []) := fun w h => by
    have z := filledW (SQ := SQ) L A c zs W w h hA hz hn
    rwa [hl] at z
  obtain ⟨lr, hlr⟩ : ∃ x, rangeL l a b = x := ⟨_, rfl⟩
  obtain ⟨la, hla⟩ : ∃ x, arcL l f t = x := ⟨_, rfl⟩
  obtain ⟨n0, hn0⟩ : ∃ x, l.length = x := ⟨_, rfl⟩
  obtain ⟨n1, hn1⟩ : ∃ x, lr.length = x := ⟨_, rfl⟩
  obtain ⟨n2, hn2⟩ : ∃ x, la.length = x := ⟨_, rfl⟩
  have hn1' : n1 ≤ 400 := by
    have := List.length_filter_le (fun x : Item => !lessB x.1 a && (b.size == 0 || lessB x.1 b)) l
    have e : (l.filter fun x : Item => !lessB x.1 a && (b.size == 0 || lessB x.1 b)) = lr := hlr
    rw [e] at this
    omega
  have hn2' : n2 ≤ 400 := by
    have := arcL_length_le l f t
    rw [hla] at this
    omega
  have hn0' : n0 ≤ 400 := by omega
  have ELR := Lib.hid hlr
  have ELA := Lib.hid hla
  have HN0 := Lib.hid hn0
  have HN1 := Lib.hid hn1
  have HN2 := Lib.hid hn2
  have HN0' := Lib.hid hn0'
  have HN1' := Lib.hid hn1'
  have HN2' := Lib.hid hn2'
  have HF := Lib.hid hf
  have HT := Lib.hid ht
  have HLS := Lib.hid hls
  have HLE := Lib.hid hlen
  have HM0 := Lib.hid m0
  have HM1 := Lib.hid m1
  have HX : Hid ((W.alloc (.cells #[.int .u64 (f : Nat), .int .u64 (t : Nat)] 25)).cell? ⟨W.heap.size, 0, none⟩ = some (.int .u64 (f : Nat)) ∧ (W.alloc (.cells #[.int .u64 (f : Nat), .int .u64 (t : Nat)] 25)).cell? ⟨W.heap.size, 1, none⟩ = some (.int .u64 (t : Nat)) ∧ W.heap.size < (W.alloc (.cells #[.int .u64 (f : Nat), .int .u64 (t : Nat)] 25)).heap.size ∧ Below W.heap.size W (W.alloc (.cells #[.int .u64 (f : Nat), .int .u64 (t : Nat)] 25))) := ⟨by go_simp, by go_simp, by simp, (Below.refl _ _).alloc (Nat.le_refl _) _⟩
  rw [hn] at hz ⊢
  obtain ⟨x0, x1, hbx, HBX⟩ := HX.out
  unfold maxLen at sa sb
  clear hA hl hlen hls hlr hla hn0 hn1 hn2 hn hf ht hn0' hn1' hn2'
  by_cases c0 : 60 < n
  · have d0 : decide ((60 : Int) < (n : Int)) = true := by simp; omega
    clear CF
    go_enter Tryz.func3, Tryz.ntmps3
    go_wp2_with (go_at_call 4; (with_reducible refine (CA.out _).mono ?_); rintro e w1 ⟨rfl, h1⟩)
    go_ret
    exact ⟨rfl, acc HBX h1⟩
  have d0 : decide ((60 : Int) < (n : Int)) = false := by simp; omega
  by_cases c1 : 40 < a.size
  · have d1 : decide ((40 : Int) < (a.size : Int)) = true := by simp; omega
    clear CF
    go_enter Tryz.func3, Tryz.ntmps3
    go_wp2_with (go_at_call 4; (with_reducible refine (CA.out _).mono ?_); rintro e w1 ⟨rfl, h1⟩)
    go_ret
    exact ⟨rfl, acc HBX h1⟩
  have d1 : decide ((40 : Int) < (a.size : Int)) = false := by simp; omega
  by_cases c2 : 40 < b.size
  · have d2 : decide ((40 : Int) < (b.size : Int)) = true := by simp; omega
    clear CF
    go_enter Tryz.func3, Tryz.ntmps3
    go_wp2_with (go_at_call 4; (with_reducible refine (CA.out _).mono ?_); rintro e w1 ⟨rfl, h1⟩)
    go_ret
    exact ⟨rfl, acc HBX h1⟩
  have d2 : decide ((40 : Int) < (b.size : Int)) = false := by simp; omega
  have sa : a.size ≤ maxLen := by unfold maxLen; omega
  have sb : b.size ≤ maxLen := by unfold maxLen; omega
  · go_enter Tryz.func3, Tryz.ntmps3
    go_upto_region 5 with (first
      | (go_at_call 4; (with_reducible refine (CA.out _).mono ?_); rintro e w1 ⟨rfl, h1⟩; have HB1 := Lib.hid (acc HBX h1); have y0 := (h1.cell (p := ⟨W.heap.size, 0, none⟩) hbx).trans x0; have y1 := (h1.cell (p := ⟨W.heap.size, 1, none⟩) hbx).trans x1; have hb1 : W.heap.size < w1.heap.size := Nat.lt_of_lt_of_le hbx h1.size; clear h1)
      | (go_at_call 5; (with_reducible refine (CF.out _ HB1.out).mono ?_); rintro e w2 ⟨gs, gr, rfl, h2⟩; have H2 := Lib.hid h2; clear h2))
    obtain ⟨hb2, F0, Fr, sh2, rs2, hF, ⟨hgr, hFr⟩, -⟩ := H2.out
    have lgr := rs_ltg rs2
    obtain ⟨LA, lc, ⟨-, -, g3, -⟩, -, -⟩ := rs2
    rw [HN0.out] at g3
    have q0 := (hb2.cell (p := ⟨W.heap.size, 0, none⟩) hb1).trans y0
    have q1 := (hb2.cell (p := ⟨W.heap.size, 1, none⟩) hb1).trans y1
    have hbW : W.heap.size < w2.heap.size := Nat.lt_of_lt_of_le hb1 hb2.size
    have hbk : Below w2.heap.size w2 (w2.alloc (.cells #[.slice none 0 0, .slice none 0 0, .slice none 0 0, .slice none 0 0, .slice none 0 0, .slice none 0 0, .slice none 0 0, .slice none 0 0, .slice none 0 0, .slice none 0 0, .slice none 0 0, .slice none 0 0, .slice none 0 0, .slice none 0 0] 40)).drew := ((Below.refl _ _).alloc (Nat.le_refl _) _).drew
    have hsk : (w2.alloc (.cells #[.slice none 0 0, .slice none 0 0, .slice none 0 0, .slice none 0 0, .slice none 0 0, .slice none 0 0, .slice none 0 0, .slice none 0 0, .slice none 0 0, .slice none 0 0, .slice none 0 0, .slice none 0 0, .slice none 0 0, .slice none 0 0] 40)).drew.heap.size = w2.heap.size + 1 := by simp [World.drew]
    have HSS : Hid (∀ w', Below (w2.alloc (.cells #[.slice none 0 0, .slice none 0 0, .slice none 0 0, .slice none 0 0, .slice none 0 0, .slice none 0 0, .slice none 0 0, .slice none 0 0, .slice none 0 0, .slice none 0 0, .slice none 0 0, .slice none 0 0, .slice none 0 0, .slice none 0 0] 40)).drew.heap.size (w2.alloc (.cells #[.slice none 0 0, .slice none 0 0, .slice none 0 0, .slice none 0 0, .slice none 0 0, .slice none 0 0, .slice none 0 0, .slice none 0 0, .slice none 0 0, .slice none 0 0, .slice none 0 0, .slice none 0 0, .slice none 0 0, .slice none 0 0] 40)).drew w' → w'.cell? ⟨W.heap.size, 0, none⟩ = some (.int .u64 (f : Nat)) ∧ w'.cell? ⟨W.heap.size, 1, none⟩ = some (.int .u64 (t : Nat)) ∧ w'.cell? ⟨gr, 1, none⟩ = some (.slice LA n0 lc)) := fun w' h => by
      have z : Below w2.heap.size w2 w' := acc hbk h
      exact ⟨(z.cell (p := ⟨W.heap.size, 0, none⟩) hbW).trans q0, (z.cell (p := ⟨W.heap.size, 1, none⟩) hbW).trans q1, (z.cell (p := ⟨gr, 1, none⟩) lgr).trans g3⟩
    have HQ : Hid (SX SH SQ w2 (w2.alloc (.cells #[.slice none 0 0, .slice none 0 0, .slice none 0 0, .slice none 0 0, .slice none 0 0, .slice none 0 0, .slice none 0 0, .slice none 0 0, .slice none 0 0, .slice none 0 0, .slice none 0 0, .slice none 0 0, .slice none 0 0, .slice none 0 0] 40)).drew gs gr l [] []) := by
      obtain ⟨-, F0, Fr, sh2, rs2, -⟩ := H2.out
      exact ⟨hbk, by omega, F0, Fr, sh2, rs2, by simp, by simp⟩
    have hw0 : Below (w2.alloc (.cells #[.slice none 0 0, .slice none 0 0, .slice none 0 0, .slice none 0 0, .slice none 0 0, .slice none 0 0, .slice none 0 0, .slice none 0 0, .slice none 0 0, .slice none 0 0, .slice none 0 0, .slice none 0 0, .slice none 0 0, .slice none 0 0] 40)).drew.heap.size (w2.alloc (.cells #[.slice none 0 0, .slice none 0 0, .slice none 0 0, .slice none 0 0, .slice none 0 0, .slice none 0 0, .slice none 0 0, .slice none 0 0, .slice none 0 0, .slice none 0 0, .slice none 0 0, .slice none 0 0, .slice none 0 0, .slice none 0 0] 40)).drew (w2.alloc (.cells #[.slice none 0 0, .slice none 0 0, .slice none 0 0, .slice none 0 0, .slice none 0 0, .slice none 0 0, .slice none 0 0, .slice none 0 0, .slice none 0 0, .slice none 0 0, .slice none 0 0, .slice none 0 0, .slice none 0 0, .slice none 0 0] 40)).drew := Below.refl _ _
    have HBW := Lib.hid (acc HB1.out hb2)
    have HSK := Lib.hid hsk
    clear q0 q1 g3 hsk sh2 hF hFr hgr
    refine wp_region_held_drew (S := (fun w' => w'.cell? ⟨W.heap.size, 0, none⟩ = some (.int .u64 (f : Nat)) ∧ w'.cell? ⟨W.heap.size, 1, none⟩ = some (.int .u64 (t : Nat)) ∧ w'.cell? ⟨gr, 1, none⟩ = some (.slice LA n0 lc))) (by kernel_rfl) ?_ (fun hHeld => ?_)
    · (try dsimp only); (first | assumption | exact HSS.out _ (by assumption))
    refine wpAnyH_take (i := 0) (oi := ⟨_, _, _, _, _, _⟩) (v := ?_) rfl (by kernel_rfl) (by kernel_rfl) (by kernel_rfl) (fun _ _ _ h => h) (Or.inl ⟨by rfl, ?_⟩) (by assumption) ?_
    rotate_left
    · (intro wS hSw; (try dsimp only at hSw); go_simp <;> with_reducible rfl)
    try simp only [Act.put, List.setIfInBounds_toArray, List.set_cons_zero, List.set_cons_succ]
    refine wpAnyH_take (i := 2) (oi := ⟨_, _, _, _, _, _⟩) (v := ?_) rfl (by kernel_rfl) (by kernel_rfl) (by kernel_rfl) (fun _ _ _ h => h) (Or.inl ⟨by rfl, ?_⟩) (by assumption) ?_
    rotate_left
    · (intro wS hSw; (try dsimp only at hSw); go_simp <;> with_reducible rfl)
    try simp only [Act.put, List.setIfInBounds_toArray, List.set_cons_zero, List.set_cons_succ]
    refine wpAnyH_take (i := 3) (oi := ⟨_, _, _, _, _, _⟩) (v := ?_) rfl (by kernel_rfl) (by kernel_rfl) (by kernel_rfl) (fun _ _ _ h => h) (Or.inl ⟨by rfl, ?_⟩) (by assumption) ?_
    rotate_left
    · (intro wS hSw; (try dsimp only at hSw); go_simp <;> with_reducible rfl)
    try simp only [Act.put, List.setIfInBounds_toArray, List.set_cons_zero, List.set_cons_succ]
    refine wpAnyH_take (i := 4) (oi := ⟨_, _, _, _, _, _⟩) (v := ?_) rfl (by kernel_rfl) (by kernel_rfl) (by kernel_rfl) (fun _ _ _ h => h) (Or.inl ⟨by rfl, ?_⟩) (by assumption) ?_
    rotate_left
    · (intro wS hSw; (try dsimp only at hSw); go_simp <;> with_reducible rfl)
    try simp only [Act.put, List.setIfInBounds_toArray, List.set_cons_zero, List.set_cons_succ]
    refine wpAnyH_take (i := 5) (oi := ⟨_, _, _, _, _, _⟩) (v := ?_) rfl (by kernel_rfl) (by kernel_rfl) (by kernel_rfl) (fun _ _ _ h => h) (Or.inl ⟨by rfl, ?_⟩) (by assumption) ?_
    rotate_left
    · (intro wS hSw; (try dsimp only at hSw); go_simp <;> with_reducible rfl)
    try simp only [Act.put, List.setIfInBounds_toArray, List.set_cons_zero, List.set_cons_succ]
    refine wpAnyH_take (i := 7) (oi := ⟨_, _, _, _, _, _⟩) (v := ?_) rfl (by kernel_rfl) (by kernel_rfl) (by kernel_rfl) (fun _ _ _ h => h) (Or.inl ⟨by rfl, ?_⟩) (by assumption) ?_
    rotate_left
    · (intro wS hSw; (try dsimp only at hSw); go_simp <;> with_reducible rfl)
    try simp only [Act.put, List.setIfInBounds_toArray, List.set_cons_zero, List.set_cons_succ]
    refine wpAnyH_take (i := 8) (oi := ⟨_, _, _, _, _, _⟩) (v := ?_) rfl (by kernel_rfl) (by kernel_rfl) (by kernel_rfl) (fun _ _ _ h => h) (Or.inl ⟨by rfl, ?_⟩) (by assumption) ?_
    rotate_left
    · (intro wS hSw; (try dsimp only at hSw); go_simp <;> with_reducible rfl)
    try simp only [Act.put, List.setIfInBounds_toArray, List.set_cons_zero, List.set_cons_succ]
    refine wpAnyH_take (i := 9) (oi := ⟨_, _, _, _, _, _⟩) (v := ?_) rfl (by kernel_rfl) (by kernel_rfl) (by kernel_rfl) (fun _ _ _ h => h) (Or.inl ⟨by rfl, ?_⟩) (by assumption) ?_
    rotate_left
    · (intro wS hSw; (try dsimp only at hSw); go_simp <;> with_reducible rfl)
    try simp only [Act.put, List.setIfInBounds_toArray, List.set_cons_zero, List.set_cons_succ]
    refine wpAnyH_take (i := 11) (oi := ⟨_, _, _, _, _, _⟩) (v := ?_) rfl (by kernel_rfl) (by kernel_rfl) (by kernel_rfl) (fun _ _ _ h => h) (Or.inl ⟨by rfl, ?_⟩) (by assumption) ?_
    rotate_left
    · (intro wS hSw; (try dsimp only at hSw); go_simp <;> with_reducible rfl)
    try simp only [Act.put, List.setIfInBounds_toArray, List.set_cons_zero, List.set_cons_succ]
    refine wpAnyH_take (i := 12) (oi := ⟨_, _, _, _, _, _⟩) (v := ?_) rfl (by kernel_rfl) (by kernel_rfl) (by kernel_rfl) (fun _ _ _ h => h) (Or.inl ⟨by rfl, ?_⟩) (by assumption) ?_
    rotate_left
    · (intro wS hSw; (try dsimp only at hSw); go_simp <;> with_reducible rfl)
    try simp only [Act.put, List.setIfInBounds_toArray, List.set_cons_zero, List.set_cons_succ]
    refine wpAnyH_take (i := 13) (oi := ⟨_, _, _, _, _, _⟩) (v := ?_) rfl (by kernel_rfl) (by kernel_rfl) (by kernel_rfl) (fun _ _ _ h => h) (Or.inl ⟨by rfl, ?_⟩) (by assumption) ?_
    rotate_left
    · (intro wS hSw; (try dsimp only at hSw); go_simp <;> with_reducible rfl)
    try simp only [Act.put, List.setIfInBounds_toArray, List.set_cons_zero, List.set_cons_succ]
    refine wpAnyH_take (i := 16) (oi := ⟨_, _, _, _, _, _⟩) (v := ?_) rfl (by kernel_rfl) (by kernel_rfl) (by kernel_rfl) (fun _ _ _ h => h) (Or.inl ⟨by rfl, ?_⟩) (by assumption) ?_
    rotate_left
    · (intro wS hSw; (try dsimp only at hSw); go_simp <;> with_reducible rfl)
    try simp only [Act.put, List.setIfInBounds_toArray, List.set_cons_zero, List.set_cons_succ]
    refine wpAnyH_take (i := 17) (oi := ⟨_, _, _, _, _, _⟩) (v := ?_) rfl (by kernel_rfl) (by kernel_rfl) (by kernel_rfl) (fun _ _ _ h => h) (Or.inl ⟨by rfl, ?_⟩) (by assumption) ?_
    rotate_left
    · (intro wS hSw; (try dsimp only at hSw); go_simp <;> with_reducible rfl)
    try simp only [Act.put, List.setIfInBounds_toArray, List.set_cons_zero, List.set_cons_succ]
    refine wpAnyH_take (i := 19) (oi := ⟨_, _, _, _, _, _⟩) (v := ?_) rfl (by kernel_rfl) (by kernel_rfl) (by kernel_rfl) (fun _ _ _ h => h) (Or.inl ⟨by rfl, ?_⟩) (by assumption) ?_
    rotate_left
    · (intro wS hSw; (try dsimp only at hSw); go_simp <;> with_reducible rfl)
    try simp only [Act.put, List.setIfInBounds_toArray, List.set_cons_zero, List.set_cons_succ]
    refine wpAnyH_take (i := 20) (oi := ⟨_, _, _, _, _, _⟩) (v := ?_) rfl (by kernel_rfl) (by kernel_rfl) (by kernel_rfl) (fun _ _ _ h => h) (Or.inl ⟨by rfl, ?_⟩) (by assumption) ?_
    rotate_left
    · (intro wS hSw; (try dsimp only at hSw); go_simp <;> with_reducible rfl)
    try simp only [Act.put, List.setIfInBounds_toArray, List.set_cons_zero, List.set_cons_succ]
    refine wpAnyH_take (i := 25) (oi := ⟨_, _, _, _, _, _⟩) (v := ?_) rfl (by kernel_rfl) (by kernel_rfl) (by kernel_rfl) (fun _ _ _ h => h) (Or.inl ⟨by rfl, ?_⟩) (by assumption) ?_
    rotate_left
    · (intro wS hSw; (try dsimp only at hSw); go_simp <;> with_reducible rfl)
    try simp only [Act.put, List.setIfInBounds_toArray, List.set_cons_zero, List.set_cons_succ]
    refine wpAnyH_ready (rs := [1]) (by kernel_rfl) (by simp) ?_
    refine AllReadyH.cons (o := ⟨_, _, _, _, _, _⟩) rfl (fun K hK => ?_) AllReadyH.nil
    go_simp
    go_at_call 6
    (with_reducible refine (HQ.out.all L KW).mono ?_)
    rintro e w3 ⟨i0, p0, rfl, h3, b3⟩
    have H3 := Lib.hid h3
    have hw3 := acc hw0 b3
    clear h3 b3
    go_wp2_with fail
    refine hK.out _ _ (by (try dsimp only); (first | assumption | exact HSS.out _ (by assumption))) (fun hHeld => ?_)
    clear hK K
    try simp only [Act.put, List.setIfInBounds_toArray, List.set_cons_zero, List.set_cons_succ]
    refine wpAnyH_take (i := 6) (oi := ⟨_, _, _, _, _, _⟩) (v := ?_) rfl (by kernel_rfl) (by kernel_rfl) (by kernel_rfl) (fun _ _ _ h => h) (Or.inl ⟨by rfl, ?_⟩) (by assumption) ?_
    rotate_left
    · (intro wS hSw; (try dsimp only at hSw); go_simp <;> with_reducible rfl)
    try simp only [Act.put, List.setIfInBounds_toArray, List.set_cons_zero, List.set_cons_succ]
    refine wpAnyH_ready (rs := [10]) (by kernel_rfl) (by simp) ?_
    refine AllReadyH.cons (o := ⟨_, _, _, _, _, _⟩) rfl (fun K hK => ?_) AllReadyH.nil
    go_simp
    go_at_call 7
    (with_reducible refine (H3.out.range L KW a b sa sb).mono ?_)
    rintro e w4 ⟨i1, p1, rfl, h4, b4⟩
    have H4 := Lib.hid h4
    have hw4 := acc hw3 b4
    clear h4 b4
    go_wp2_with fail
    refine hK.out _ _ (by (try dsimp only); (first | assumption | exact HSS.out _ (by assumption))) (fun hHeld => ?_)
    clear hK K
    try simp only [Act.put, List.setIfInBounds_toArray, List.set_cons_zero, List.set_cons_succ]
    refine wpAnyH_ready (rs := [14]) (by kernel_rfl) (by simp) ?_
    refine AllReadyH.cons (o := ⟨_, _, _, _, _, _⟩) rfl (fun K hK => ?_) AllReadyH.nil
    go_simp
    go_at_call 8
    (with_reducible refine (H4.out.rrange KW HLE.out a b ELR.out HN1.out).mono ?_)
    rintro e w5 ⟨A5, c5, rfl, h5, b5⟩
    have H5 := Lib.hid h5
    have hw5 := acc hw4 b5
    clear h5 b5
    go_wp2_with fail
    refine hK.out _ _ (by (try dsimp only); (first | assumption | exact HSS.out _ (by assumption))) (fun hHeld => ?_)
    clear hK K
    try simp only [Act.put, List.setIfInBounds_toArray, List.set_cons_zero, List.set_cons_succ]
    refine wpAnyH_take (i := 15) (oi := ⟨_, _, _, _, _, _⟩) (v := ?_) rfl (by kernel_rfl) (by kernel_rfl) (by kernel_rfl) (fun _ _ _ h => h) (Or.inl ⟨by rfl, ?_⟩) (by assumption) ?_
    rotate_left
    · (intro wS hSw; (try dsimp only at hSw); go_simp <;> with_reducible rfl)
    try simp only [Act.put, List.setIfInBounds_toArray, List.set_cons_zero, List.set_cons_succ]
    refine wpAnyH_ready (rs := [18]) (by kernel_rfl) (by simp) ?_
    refine AllReadyH.cons (o := ⟨_, _, _, _, _, _⟩) rfl (fun K hK => ?_) AllReadyH.nil
    go_simp
    go_at_call 9
    (with_reducible refine (H5.out.arc L KW f t HF.out HT.out).mono ?_)
    rintro e w6 ⟨i2, p2, rfl, h6, b6⟩
    have H6 := Lib.hid h6
    have hw6 := acc hw5 b6
    clear h6 b6
    go_wp2_with fail
    refine hK.out _ _ (by (try dsimp only); (first | assumption | exact HSS.out _ (by assumption))) (fun hHeld => ?_)
    clear hK K
    try simp only [Act.put, List.setIfInBounds_toArray, List.set_cons_zero, List.set_cons_succ]
    refine wpAnyH_ready (rs := [21]) (by kernel_rfl) (by simp) ?_
    refine AllReadyH.cons (o := ⟨_, _, _, _, _, _⟩) rfl (fun K hK => ?_) AllReadyH.nil
    go_simp
    go_at_call 10
    (with_reducible refine (H6.out.rarc KW HLE.out HLS.out f t HF.out HT.out ELA.out HN2.out).mono ?_)
    rintro e w7 ⟨A7, c7, rfl, h7, b7⟩
    have H7 := Lib.hid h7
    have hw7 := acc hw6 b7
    clear h7 b7
    go_wp2_with fail
    refine hK.out _ _ (by (try dsimp only); (first | assumption | exact HSS.out _ (by assumption))) (fun hHeld => ?_)
    clear hK K
    try simp only [Act.put, List.setIfInBounds_toArray, List.set_cons_zero, List.set_cons_succ]
    refine wpAnyH_take (i := 22) (oi := ⟨_, _, _, _, _, _⟩) (v := ?_) rfl (by kernel_rfl) (by kernel_rfl) (by kernel_rfl) (fun _ _ _ h => h) (Or.inl ⟨by rfl, ?_⟩) (by assumption) ?_
    rotate_left
    · (intro wS hSw; (try dsimp only at hSw); go_simp <;> with_reducible rfl)
    try simp only [Act.put, List.setIfInBounds_toArray, List.set_cons_zero, List.set_cons_succ]
    refine wpAnyH_ready (rs := [23]) (by kernel_rfl) (by simp) ?_
    refine AllReadyH.cons (o := ⟨_, _, _, _, _, _⟩) rfl (fun K hK => ?_) AllReadyH.nil
    go_simp
    refine hK.out _ _ (by (try dsimp only); exact HSS.out _ (hw7.alloc hw7.size _)) (fun hHeld => ?_)
    clear hK K
    try simp only [Act.put, List.setIfInBounds_toArray, List.set_cons_zero, List.set_cons_succ]
    refine wpAnyH_take (i := 24) (oi := ⟨_, _, _, _, _, _⟩) (v := ?_) rfl (by kernel_rfl) (by kernel_rfl) (by kernel_rfl) (fun _ _ _ h => h) (Or.inl ⟨by rfl, ?_⟩) (by assumption) ?_
    rotate_left
    · (intro wS hSw; (try dsimp only at hSw); go_simp <;> with_reducible rfl)
    try simp only [Act.put, List.setIfInBounds_toArray, List.set_cons_zero, List.set_cons_succ]
    refine wpAnyH_done (by kernel_rfl) ?_ _
    obtain ⟨u0, u1, u2, u3, u4, u5⟩ := cells6 w7 (.func (.func i0) #[] p0) (.slice LA n0 lc) (.func (.func i1) #[] p1) (.slice A5 n1 c5) (.func (.func i2) #[] p2) (.slice A7 n2 c7) 45
    obtain ⟨w8, hw8⟩ : ∃ w8, w7.alloc (.cells #[(.func (.func i0) #[] p0), .slice LA n0 lc, (.func (.func i1) #[] p1), .slice A5 n1 c5, (.func (.func i2) #[] p2), .slice A7 n2 c7] 45) = w8 := ⟨_, rfl⟩
    rw [hw8] at u0 u1 u2 u3 u4 u5 ⊢
    have b8 : Below w7.heap.size w7 w8 := hw8 ▸ (Below.refl _ _).alloc (Nat.le_refl _) _
    have h8 := H7.out.below KW b8
    have hwd : Below (w2.alloc (.cells #[.slice none 0 0, .slice none 0 0, .slice none 0 0, .slice none 0 0, .slice none 0 0, .slice none 0 0, .slice none 0 0, .slice none 0 0, .slice none 0 0, .slice none 0 0, .slice none 0 0, .slice none 0 0, .slice none 0 0, .slice none 0 0] 40)).drew.heap.size (w2.alloc (.cells #[.slice none 0 0, .slice none 0 0, .slice none 0 0, .slice none 0 0, .slice none 0 0, .slice none 0 0, .slice none 0 0, .slice none 0 0, .slice none 0 0, .slice none 0 0, .slice none 0 0, .slice none 0 0, .slice none 0 0, .slice none 0 0] 40)).drew w8 := acc hw7 b8
    have hs7 : w2.heap.size + 1 ≤ w7.heap.size := by have := hw7.size; have := HSK.out; omega
    have hs8 : w7.heap.size < w8.heap.size := by rw [← hw8]; simp
    have HC8 := HSS.out w8 hwd
    have HK0 : Hid (KB w8 w8 w2.heap.size [] [] []) := by
      have z : Below (w2.heap.size + 1) (w2.alloc (.cells #[.slice none 0 0, .slice none 0 0, .slice none 0 0, .slice none 0 0, .slice none 0 0, .slice none 0 0, .slice none 0 0, .slice none 0 0, .slice none 0 0, .slice none 0 0, .slice none 0 0, .slice none 0 0, .slice none 0 0, .slice none 0 0] 40)) (w2.alloc (.cells #[.slice none 0 0, .slice none 0 0, .slice none 0 0, .slice none 0 0, .slice none 0 0, .slice none 0 0, .slice none 0 0, .slice none 0 0, .slice none 0 0, .slice none 0 0, .slice none 0 0, .slice none 0 0, .slice none 0 0, .slice none 0 0] 40)).drew := (Below.refl _ _).drew
      have z2 := hwd
      rw [HSK.out] at z2
      exact KB.start (z.trans z2)
    have HASK : Hid (∀ k, k < 3 → ∃ i p A c n xs, w8.cell? ⟨w7.heap.size, k * 2, none⟩ = some (.func (.func i) #[] p) ∧ w8.cell? ⟨w7.heap.size, k * 2 + 1, none⟩ = some (.slice A n c) ∧ Asked w8 w2.heap.size i p A c n xs) := by
      intro k hk
      have h : k = 0 ∨ k = 1 ∨ k = 2 := by omega
      rcases h with rfl | rfl | rfl
      · exact ⟨i0, p0, LA, lc, n0, l, u0, u1, h8.asked L KW (k := .all) (by simp) rfl HN0.out HN0'.out (.inr ⟨rfl, HC8.2.2⟩)⟩
      · exact ⟨i1, p1, A5, c5, n1, lr, u2, u3, h8.asked L KW (k := .range a b) (by simp) ELR.out HN1.out HN1'.out (.inl (by simp))⟩
      · exact ⟨i2, p2, A7, c7, n2, la, u4, u5, h8.asked L KW (k := .arc f t) (by simp) ELA.out HN2.out HN2'.out (.inl (by simp))⟩
    have HY0 := Lib.hid HC8.1
    have HY1 := Lib.hid HC8.2.1
    have HB8 : Hid (Below W.heap.size W w8) := acc HBW.out (acc hbk hwd)
    have hgb : w2.heap.size < w8.heap.size := by omega
    clear u0 u1 u2 u3 u4 u5 hw8 b8 h8 hwd HC8 hw7 hw6 hw5 hw4 hw3 hw0 H7 H6 H5 H4 H3 HSS HQ HSK hbk
    go_wp2_with fail
    go_loopg [71] 4 (fun gh s71 wx => ∃ (k : Nat) (es : List (Value × List Item)), k + gh = 4 ∧ k ≤ 3 ∧ s71 = .int .i64 (k : Nat) ∧ Hid (es.length = 2 * k) ∧ Hid (∀ x ∈ es, x.2.length ≤ 400) ∧ Hid (KB w8 wx w2.heap.size es [] []))
    case atStart => exact ⟨0, [], rfl, by omega, rfl, rfl, Lib.hid (by simp), HK0⟩
    case round =>
      obtain ⟨k, es, hkg, hk3, rfl, HEL, HES, HKB⟩ := hrel
      by_cases hk : k < 3
      · obtain ⟨i, p, A1, c1, nx, xs, e0, e1, hask⟩ := HASK.out k hk
        obtain ⟨hi, ⟨B, hB, hway⟩, hxn, hx400, hrow⟩ := hask
        have lt3 : decide ((k : Int) < 3) = true := by simp; omega
        have gt2 : decide ((2 : Int) < (k : Int)) = false := by simp; omega
        have hkw : IntKind.i64.wrap (k : Int) = (k : Int) := by rw [IntKind.wrap_i64]; omega
        have hne : ∀ w, (binOp .eql 41 (.func (.func i) #[] p) .nilFunc).run Tryz.prog w = .ok (.bool false) w := fun w => run_eql_func w _ _ _ _ Tryz.underlying41
        have t8 := HKB.out.touch
        have f0 := (t8.cell (p := ⟨w7.heap.size, k * 2, none⟩) hs8 (by simp; omega)).trans e0
        have f1 := (t8.cell (p := ⟨w7.heap.size, k * 2 + 1, none⟩) hs8 (by simp; omega)).trans e1
        have HWAY := Lib.hid hway
        have HBB := Lib.hid hB
        have HXN := Lib.hid hxn
        have HX4 := Lib.hid hx400
        have HROW := Lib.hid hrow
        clear hway hB hxn hx400 hrow e0 e1 t8
        go_upto_region 10 with fail
        obtain ⟨gz, rfl⟩ : ∃ gz : Nat, gz = gk := ⟨_, rfl⟩
        obtain ⟨wo, rfl⟩ : ∃ wo : World, wo = wr := ⟨_, rfl⟩
        obtain ⟨ms, hms⟩ : ∃ x, (if most < 1 then (1 : Int) else most) = x := ⟨_, rfl⟩
        have ms1 : 1 ≤ ms := by rw [← hms]; split <;> omega
        obtain ⟨ys, hys⟩ : ∃ x, xs.take ms.toNat = x := ⟨_, rfl⟩
        obtain ⟨k1, hk1⟩ : ∃ x, ys.length = x := ⟨_, rfl⟩
        obtain ⟨us, hus⟩ : ∃ x, xs.take most.toNat = x := ⟨_, rfl⟩
        obtain ⟨k2, hk2⟩ : ∃ x, us.length = x := ⟨_, rfl⟩
        have hk24 : k2 ≤ 400 := by have := HX4.out; have := HXN.out; rw [← hk2, ← hus, List.length_take]; omega
        obtain ⟨v0, v1⟩ := cells2 wo (.func (.func i) #[] p) (.slice A1 nx c1) 45
        have hkp := HKB.out.fresh (.cells #[.func (.func i) #[] p, .slice A1 nx c1] 45)
        have hob : wo.heap.size < (wo.alloc (.cells #[.func (.func i) #[] p, .slice A1 nx c1] 45)).heap.size := by simp
        obtain ⟨wb, hwb⟩ : ∃ wb, wo.alloc (.cells #[.func (.func i) #[] p, .slice A1 nx c1] 45) = wb := ⟨_, rfl⟩
        rw [hwb] at v0 v1 hkp hob ⊢
        have HKP := Lib.hid hkp
        have HV : Hid (∀ w, Below wb.heap.size wb w → w.cell? ⟨wo.heap.size, 0, none⟩ = some (.func (.func i) #[] p) ∧ w.cell? ⟨wo.heap.size, 1, none⟩ = some (.slice A1 nx c1)) := fun w h => ⟨(h.cell (p := ⟨wo.heap.size, 0, none⟩) hob).trans v0, (h.cell (p := ⟨wo.heap.size, 1, none⟩) hob).trans v1⟩
        have HWYS : Hid (∀ w, Below wb.heap.size wb w → Calls Tryz.prog 11 #[.func (.func i) #[] p, .int .i64 ms] w fun e w' => ∃ A c, e = .returned (.tuple #[.slice A k1 c, .int .i64 0]) ∧ Row w' (.slice A k1 c) ys ∧ Below w.heap.size w w') := fun w h => by
          have t : Touch [w2.heap.size] w8 w := HKP.out.touch.trans (Touch.ofBelow (F := []) h) (by simp)
          have z := ways_any hi (B := B) (fun q hq => Nat.lt_of_lt_of_le (HBB.out q hq) t.size) (fun V hV => HWAY.out V (t.trans (Touch.ofBelow (F := []) hV) (by simp))) (by rw [HXN.out]; exact HX4.out) ms ms1 (k := k1) (by rw [hys]; exact hk1)
          rw [hys] at z
          exact z
        have CFI : Hid (∀ w m r z, Touch [w2.heap.size] w8 w → xs.take (Int.toNat m) = z → z.length = r → (Calls Tryz.prog 13 #[.slice A1 nx c1, .int .i64 m] w fun e w' => e = .returned (.slice A1 r c1) ∧ w' = w) ∧ Row w (.slice A1 r c1) z) := fun w m r z t hz hr => by
          have y := HROW.out w t
          rw [← HXN.out] at y
          refine ⟨firstItems_any y m (by rw [hz]; exact hr) HXN.out, ?_⟩
          have y2 := row_take y m.toNat
          rw [hz, hr] at y2
          exact y2
        have CSM : Hid (∀ w A c A' c' r z, Row w (.slice A r c) z → Row w (.slice A' r c') z → z.length = r → Calls Tryz.prog 12 #[.slice A (r : Nat) c, .slice A' (r : Nat) c'] w fun e w' => e = .returned (.bool true) ∧ ∃ q, w' = w.drewN q) := fun w A c A' c' r z h1 h2 hr => by
          subst hr
          have y := sameItems_any A A' c c' z z w h1 h2
          rw [sameL_self] at y
          exact y
        have HYS := Lib.hid hys
        have HK1 := Lib.hid hk1
        have HUS := Lib.hid hus
        have HK2 := Lib.hid hk2
        clear hwb hkp hys hk1 hus hk2 v0 v1 f0 f1
        go_wp2_with fail
        go_loopg [16] 3 (fun gh s16 wx => ∃ (j : Nat), j + gh = 3 ∧ j ≤ 2 ∧ s16 = .int .i64 (j : Nat) ∧ Hid (Below wb.heap.size wb wx))
        case atStart => exact ⟨0, rfl, by omega, rfl, Below.refl _ _⟩
        case round =>
          obtain ⟨j, hjg, hj2, rfl, HBJ⟩ := hrel
          by_cases hj : j < 2
          · have jt : decide ((j : Int) < 2) = true := by simp; omega
            have f0 := (HV.out wr HBJ.out).1
            go_upto_region 14 with (go_at_call 11; (with_reducible refine (HWYS.out _ HBJ.out).mono ?_); rintro e w10 ⟨A10, c10, rfl, r10, b10⟩)
            have HB10 : Hid (Below wb.heap.size wb w10) := acc HBJ.out b10
            have f1 := (HV.out w10 HB10.out).2
            obtain ⟨cf, rf⟩ := CFI.out w10 ms k1 ys (HKP.out.touch.trans (Touch.ofBelow (F := []) HB10.out) (by simp)) HYS.out HK1.out
            have HCF := Lib.hid cf
            have HCS := Lib.hid (CSM.out w10 A10 c10 A1 c1 k1 ys r10 rf HK1.out)
            clear cf rf r10 b10 f0
            go_wp2_with (first
              | (go_at_call 13; (with_reducible refine HCF.out.mono ?_); rintro e w11 ⟨rfl, rfl⟩)
              | (go_at_call 12; (with_reducible refine HCS.out.mono ?_); rintro e w12 ⟨rfl, q12, rfl⟩))
            go_roundg (gk - 1)
            case measure => omega
            case rel => exact ⟨j + 1, by omega, by omega, by go_num, acc HB10.out (((Touch.refl [] _).drewN q12).below (Nat.le_refl _) (by simp))⟩
          · have hj' : j = 2 := by omega
            subst hj'
            have CC : Hid (∀ w ps, KB w8 w w2.heap.size es ps [wo.heap.size] → Calls Tryz.prog 14 #[.func (.func i) #[] p, .int .i64 most] w fun e w' => ∃ A c, e = .returned (.slice A (k2 : Nat) c) ∧ KB w8 w' w2.heap.size es (ps ++ [(.slice A k2 c, us)]) [wo.heap.size] ∧ Below w.heap.size w w') := fun w ps h => by
              have t := h.touch
              refine (collect_way hi (B := B) (fun q hq => Nat.lt_of_lt_of_le (HBB.out q hq) t.size) (fun V hV => HWAY.out V (t.trans (Touch.ofBelow (F := []) hV) (by simp))) (by rw [HXN.out]; exact HX4.out) most HM0.out HM1.out).mono ?_
              rw [HUS.out]
              rintro e w' ⟨A, c, rfl, z1, z2⟩
              have z3 := h.push z2 HK2.out z1
              exact ⟨A, c, by rw [HK2.out], z3, z2⟩
            have HD0 : Hid (KB w8 wr.drew w2.heap.size es [] [wo.heap.size]) := (HKP.out.below HBJ.out).below (Below.refl _ _).drew
            have hv0 : Below wb.heap.size wb wr.drew := acc HBJ.out (Below.refl _ _).drew
            go_upto_region 16 with fail
            refine wp_region_held_drew (S := (fun w' => w'.cell? ⟨wo.heap.size, 0, none⟩ = some (.func (.func i) #[] p) ∧ w'.cell? ⟨wo.heap.size, 1, none⟩ = some (.slice A1 nx c1))) (by kernel_rfl) ?_ (fun hHeld => ?_)
            · (try dsimp only); (first | assumption | exact HV.out _ (by assumption))
            refine wpAnyH_take (i := 0) (oi := ⟨_, _, _, _, _, _⟩) (v := ?_) rfl (by kernel_rfl) (by kernel_rfl) (by kernel_rfl) (fun _ _ _ h => h) (Or.inl ⟨by rfl, ?_⟩) (by assumption) ?_
            rotate_left
            · (intro wS hSw; (try dsimp only at hSw); go_simp <;> with_reducible rfl)
            try simp only [Act.put, List.setIfInBounds_toArray, List.set_cons_zero, List.set_cons_succ]
            refine wpAnyH_take (i := 1) (oi := ⟨_, _, _, _, _, _⟩) (v := ?_) rfl (by kernel_rfl) (by kernel_rfl) (by kernel_rfl) (fun _ _ _ h => h) (Or.inl ⟨by rfl, ?_⟩) (by assumption) ?_
            rotate_left
            · (intro wS hSw; (try dsimp only at hSw); go_simp <;> with_reducible rfl)
            try simp only [Act.put, List.setIfInBounds_toArray, List.set_cons_zero, List.set_cons_succ]
            refine wpAnyH_take (i := 2) (oi := ⟨_, _, _, _, _, _⟩) (v := ?_) rfl (by kernel_rfl) (by kernel_rfl) (by kernel_rfl) (fun _ _ _ h => h) (Or.inl ⟨by rfl, ?_⟩) (by assumption) ?_
            rotate_left
            · (intro wS hSw; (try dsimp only at hSw); go_simp <;> with_reducible rfl)
            try simp only [Act.put, List.setIfInBounds_toArray, List.set_cons_zero, List.set_cons_succ]
            refine wpAnyH_take (i := 4) (oi := ⟨_, _, _, _, _, _⟩) (v := ?_) rfl (by kernel_rfl) (by kernel_rfl) (by kernel_rfl) (fun _ _ _ h => h) (Or.inl ⟨by rfl, ?_⟩) (by assumption) ?_
            rotate_left
            · (intro wS hSw; (try dsimp only at hSw); go_simp <;> with_reducible rfl)
            try simp only [Act.put, List.setIfInBounds_toArray, List.set_cons_zero, List.set_cons_succ]
            refine wpAnyH_take (i := 5) (oi := ⟨_, _, _, _, _, _⟩) (v := ?_) rfl (by kernel_rfl) (by kernel_rfl) (by kernel_rfl) (fun _ _ _ h => h) (Or.inl ⟨by rfl, ?_⟩) (by assumption) ?_
            rotate_left
            · (intro wS hSw; (try dsimp only at hSw); go_simp <;> with_reducible rfl)
            try simp only [Act.put, List.setIfInBounds_toArray, List.set_cons_zero, List.set_cons_succ]
            refine wpAnyH_take (i := 6) (oi := ⟨_, _, _, _, _, _⟩) (v := ?_) rfl (by kernel_rfl) (by kernel_rfl) (by kernel_rfl) (fun _ _ _ h => h) (Or.inl ⟨by rfl, ?_⟩) (by assumption) ?_
            rotate_left
            · (intro wS hSw; (try dsimp only at hSw); go_simp <;> with_reducible rfl)
            try simp only [Act.put, List.setIfInBounds_toArray, List.set_cons_zero, List.set_cons_succ]
            refine wpAnyH_ready (rs := [3]) (by kernel_rfl) (by simp) ?_
            refine AllReadyH.cons (o := ⟨_, _, _, _, _, _⟩) rfl (fun K hK => ?_) AllReadyH.nil
            go_simp
            go_at_call 14
            (with_reducible refine (CC.out _ _ HD0.out).mono ?_)
            rintro e w12 ⟨A12, c12, rfl, h12, b12⟩
            have H12 := Lib.hid h12
            have hv12 := acc hv0 b12
            clear h12 b12
            go_wp2_with fail
            refine hK.out _ _ (by (try dsimp only); (first | assumption | exact HV.out _ (by assumption))) (fun hHeld => ?_)
            clear hK K
            try simp only [Act.put, List.setIfInBounds_toArray, List.set_cons_zero, List.set_cons_succ]
            refine wpAnyH_ready (rs := [7]) (by kernel_rfl) (by simp) ?_
            refine AllReadyH.cons (o := ⟨_, _, _, _, _, _⟩) rfl (fun K hK => ?_) AllReadyH.nil
            go_simp
            go_at_call 14
            (with_reducible refine (CC.out _ _ H12.out).mono ?_)
            rintro e w13 ⟨A13, c13, rfl, h13, b13⟩
            have H13 := Lib.hid h13
            have hv13 := acc hv12 b13
            clear h13 b13
            go_wp2_with fail
            refine hK.out _ _ (by (try dsimp only); (first | assumption | exact HV.out _ (by assumption))) (fun hHeld => ?_)
            clear hK K
            try simp only [Act.put, List.setIfInBounds_toArray, List.set_cons_zero, List.set_cons_succ]
            refine wpAnyH_take (i := 8) (oi := ⟨_, _, _, _, _, _⟩) (v := ?_) rfl (by kernel_rfl) (by kernel_rfl) (by kernel_rfl) (fun _ _ _ h => h) (Or.inl ⟨by rfl, ?_⟩) (by assumption) ?_
            rotate_left
            · (intro wS hSw; (try dsimp only at hSw); go_simp <;> with_reducible rfl)
            try simp only [Act.put, List.setIfInBounds_toArray, List.set_cons_zero, List.set_cons_succ]
            refine wpAnyH_take (i := 9) (oi := ⟨_, _, _, _, _, _⟩) (v := ?_) rfl (by kernel_rfl) (by kernel_rfl) (by kernel_rfl) (fun _ _ _ h => h) (Or.inl ⟨by rfl, ?_⟩) (by assumption) ?_
            rotate_left
            · (intro wS hSw; (try dsimp only at hSw); go_simp <;> with_reducible rfl)
            try simp only [Act.put, List.setIfInBounds_toArray, List.set_cons_zero, List.set_cons_succ]
            refine wpAnyH_done (by kernel_rfl) ?_ _
            have h13 : KB w8 w13 w2.heap.size es [(.slice A12 k2 c12, us), (.slice A13 k2 c13, us)] [wo.heap.size] := H13.out
            have HP13 := Lib.hid h13
            have hes : es.length < 249 := by have := HEL.out; omega
            have HV13 := Lib.hid (HV.out w13 hv13)
            clear h13 hv13 hv12 hv0
            have CB1 : Hid (Calls Tryz.prog 15 #[.pointer (some ⟨w2.heap.size, 0, none⟩), .slice A12 k2 c12] w13 fun e w' => e = .returned (.tuple #[]) ∧ KB w8 w' w2.heap.size (es ++ [(.slice A12 k2 c12, us)]) [(.slice A13 k2 c13, us)] [wo.heap.size] ∧ ∃ G, Touch G w13 w' ∧ ∀ q ∈ [wo.heap.size], q ∉ G) := HP13.out.book HK2.out (by omega) (by omega)
            have CB2 : Hid (∀ w, KB w8 w w2.heap.size (es ++ [(.slice A12 k2 c12, us)]) [(.slice A13 k2 c13, us)] [wo.heap.size] → Calls Tryz.prog 15 #[.pointer (some ⟨w2.heap.size, 0, none⟩), .slice A13 k2 c13] w fun e w' => e = .returned (.tuple #[]) ∧ KB w8 w' w2.heap.size (es ++ [(.slice A12 k2 c12, us)] ++ [(.slice A13 k2 c13, us)]) [] [wo.heap.size] ∧ ∃ G, Touch G w w' ∧ ∀ q ∈ [wo.heap.size], q ∉ G) := fun w h => h.book HK2.out (by simp; omega) (by omega)
            have hob13 : wo.heap.size < w13.heap.size := World.block_lt_of_cell? w13 _ HV13.out.1
            go_upto_region 18 with (go_at_call 15; (with_reducible refine CB1.out.mono ?_); rintro e w14 ⟨rfl, h14, G14, t14, n14⟩; have H14 := Lib.hid h14; clear h14)
            have s14 := t14.size
            go_upto_region 19 with (go_at_call 15; (with_reducible refine (CB2.out _ H14.out).mono ?_); rintro e w15 ⟨rfl, h15, G15, t15, n15⟩; have H15 := Lib.hid h15; clear h15)
            have f1 := (t15.cell (p := ⟨wo.heap.size, 1, none⟩) (by show wo.heap.size < _; omega) (n15 _ (by simp))).trans ((t14.cell (p := ⟨wo.heap.size, 1, none⟩) hob13 (n14 _ (by simp))).trans HV13.out.2)
            obtain ⟨cf, rf⟩ := CFI.out w15 most k2 us H15.out.touch HUS.out HK2.out
            have HCF := Lib.hid cf
            have HCS := Lib.hid (CSM.out w15 A12 c12 A1 c1 k2 us (H15.out.row (by simp)) rf HK2.out)
            have HCS2 : Hid (∀ q, Calls Tryz.prog 12 #[.slice A13 k2 c13, .slice A12 k2 c12] (w15.drewN q) fun e w' => e = .returned (.bool true) ∧ ∃ q', w' = (w15.drewN q).drewN q') := fun q => by
              have y := H15.out.below (w1 := w15.drewN q) (((Touch.refl [] _).drewN q).below (Nat.le_refl _) (by simp))
              exact CSM.out (w15.drewN q) A13 c13 A12 c12 k2 us (y.row (by simp)) (y.row (by simp)) HK2.out
            clear cf rf t14 n14 t15 n15 s14 hob13
            go_wp2_with (first
              | (go_at_call 13; (with_reducible refine HCF.out.mono ?_); rintro e w16 ⟨rfl, rfl⟩)
              | (go_at_call 12; (with_reducible refine HCS.out.mono ?_); rintro e w17 ⟨rfl, q17, rfl⟩)
              | (go_at_call 12; (with_reducible refine (HCS2.out _).mono ?_); rintro e w18 ⟨rfl, q18, rfl⟩))
            go_roundg (gz - 1)
            case measure => omega
            case rel =>
              refine ⟨k + 1, es ++ [(.slice A12 k2 c12, us)] ++ [(.slice A13 k2 c13, us)], by omega, by omega, by go_num, Lib.hid (by have := HEL.out; simp; omega), Lib.hid (fun x hx => ?_), ?_⟩
              · have hu := HK2.out
                simp at hx
                rcases hx with hx | rfl | rfl
                · exact HES.out x hx
                · show us.length ≤ 400
                  omega
                · show us.length ≤ 400
                  omega
              · exact (H15.out.below (((Touch.refl [] _).drewN (q17 + q18)).below (Nat.le_refl _) (by simp))).free
      · have hk' : k = 3 := by omega
        subst hk'
        have lt3 : decide (((3 : Nat) : Int) < 3) = false := by decide
        have HQW : Hid (∀ q, q ∈ [w2.heap.size] → W.heap.size ≤ q) := by intro q hq; simp at hq; omega
        have hwz : IntKind.i64.wrap (0 : Int) = 0 := by decide
        have HE6 : es.length = 6 := by have := HEL.out; omega
        have HSS : Hid (∀ w', Below wr.heap.size wr w' → w'.cell? ⟨W.heap.size, 0, none⟩ = some (.int .u64 (f : Nat)) ∧ w'.cell? ⟨W.heap.size, 1, none⟩ = some (.int .u64 (t : Nat))) := fun w' h => by
          have z := HKB.out.touch.trans (Touch.ofBelow (F := []) h) (by simp)
          exact ⟨(z.cell (p := ⟨W.heap.size, 0, none⟩) (by show W.heap.size < _; omega) (by simp; omega)).trans HY0.out, (z.cell (p := ⟨W.heap.size, 1, none⟩) (by show W.heap.size < _; omega) (by simp; omega)).trans HY1.out⟩
        have hd0 : Below wr.heap.size wr wr.drew := (Below.refl _ _).drew
        have CN : Hid (∀ w, Calls Tryz.prog 14 #[.nilFunc, .int .i64 5] w fun e w' => e = .returned (.slice none 0 0) ∧ Below w.heap.size w w') := fun w => collect0_any w
        have CNA : Hid (∀ w, Calls Tryz.prog 6 #[.pointer none] w fun e w' => ∃ fv, e = .returned fv ∧ Bare w' fv ∧ Below w.heap.size w w') := fun w => nilAll_any w
        have CNR : Hid (∀ w, Calls Tryz.prog 7 #[.pointer none, .string ⟨#[]⟩, .string ⟨#[]⟩] w fun e w' => ∃ fv, e = .returned fv ∧ Bare w' fv ∧ Below w.heap.size w w') := fun w => nilRange_any _ _ w
        have CNC : Hid (∀ w, Calls Tryz.prog 9 #[.pointer none, .agg #[.int .u64 (f : Nat), .int .u64 (t : Nat)]] w fun e w' => ∃ fv, e = .returned fv ∧ Bare w' fv ∧ Below w.heap.size w w') := fun w => nilArc_any f t HF.out HT.out w
        have CAP : Hid (∀ w, Below wr.heap.size wr w → Calls Tryz.prog 16 #[.pointer (some ⟨w2.heap.size, 0, none⟩)] w fun e w' => e = .returned (.bool true) ∧ Touch [w2.heap.size] w8 w') := fun w h => (HKB.out.below h).apart (by omega) (fun x hx => by have := HES.out x hx; omega)
        go_upto_region 22 with fail
        refine wp_region_held_drew (S := (fun w' => w'.cell? ⟨W.heap.size, 0, none⟩ = some (.int .u64 (f : Nat)) ∧ w'.cell? ⟨W.heap.size, 1, none⟩ = some (.int .u64 (t : Nat)))) (by kernel_rfl) ?_ (fun hHeld => ?_)
        · (try dsimp only); (first | assumption | exact HSS.out _ (by assumption))
        refine wpAnyH_ready (rs := [0]) (by kernel_rfl) (by simp) ?_
        refine AllReadyH.cons (o := ⟨_, _, _, _, _, _⟩) rfl (fun K hK => ?_) AllReadyH.nil
        go_simp
        go_at_call 14
        (with_reducible refine (CN.out _).mono ?_)
        rintro e w20 ⟨rfl, b20⟩
        have hd1 := acc hd0 b20
        clear b20
        go_wp2_with fail
        refine hK.out _ _ (by (try dsimp only); (first | assumption | exact HSS.out _ (by assumption))) (fun hHeld => ?_)
        clear hK K
        try simp only [Act.put, List.setIfInBounds_toArray, List.set_cons_zero, List.set_cons_succ]
        refine wpAnyH_take (i := 1) (oi := ⟨_, _, _, _, _, _⟩) (v := ?_) rfl (by kernel_rfl) (by kernel_rfl) (by kernel_rfl) (fun _ _ _ h => h) (Or.inl ⟨by rfl, ?_⟩) (by assumption) ?_
        rotate_left
        · (intro wS hSw; (try dsimp only at hSw); go_simp <;> with_reducible rfl)
        try simp only [Act.put, List.setIfInBounds_toArray, List.set_cons_zero, List.set_cons_succ]
        refine wpAnyH_take (i := 2) (oi := ⟨_, _, _, _, _, _⟩) (v := ?_) rfl (by kernel_rfl) (by kernel_rfl) (by kernel_rfl) (fun _ _ _ h => h) (Or.inl ⟨by rfl, ?_⟩) (by assumption) ?_
        rotate_left
        · (intro wS hSw; (try dsimp only at hSw); go_simp <;> with_reducible rfl)
        try simp only [Act.put, List.setIfInBounds_toArray, List.set_cons_zero, List.set_cons_succ]
        refine wpAnyH_take (i := 3) (oi := ⟨_, _, _, _, _, _⟩) (v := ?_) rfl (by kernel_rfl) (by kernel_rfl) (by kernel_rfl) (fun _ _ _ h => h) (Or.inl ⟨by rfl, ?_⟩) (by assumption) ?_
        rotate_left
        · (intro wS hSw; (try dsimp only at hSw); go_simp <;> with_reducible rfl)
        try simp only [Act.put, List.setIfInBounds_toArray, List.set_cons_zero, List.set_cons_succ]
        refine wpAnyH_take (i := 11) (oi := ⟨_, _, _, _, _, _⟩) (v := ?_) rfl (by kernel_rfl) (by kernel_rfl) (by kernel_rfl) (fun _ _ _ h => h) (Or.inl ⟨by rfl, ?_⟩) (by assumption) ?_
        rotate_left
        · (intro wS hSw; (try dsimp only at hSw); go_simp <;> with_reducible rfl)
        try simp only [Act.put, List.setIfInBounds_toArray, List.set_cons_zero, List.set_cons_succ]
        refine wpAnyH_ready (rs := [4]) (by kernel_rfl) (by simp) ?_
        refine AllReadyH.cons (o := ⟨_, _, _, _, _, _⟩) rfl (fun K hK => ?_) AllReadyH.nil
        go_simp
        go_at_call 6
        (with_reducible refine (CNA.out _).mono ?_)
        rintro e w21 ⟨fv21, rfl, n21, b21⟩
        have hd2 := acc hd1 b21
        clear b21
        go_wp2_with fail
        refine hK.out _ _ (by (try dsimp only); (first | assumption | exact HSS.out _ (by assumption))) (fun hHeld => ?_)
        clear hK K
        try simp only [Act.put, List.setIfInBounds_toArray, List.set_cons_zero, List.set_cons_succ]
        refine wpAnyH_ready (rs := [5]) (by kernel_rfl) (by simp) ?_
        refine AllReadyH.cons (o := ⟨_, _, _, _, _, _⟩) rfl (fun K hK => ?_) AllReadyH.nil
        go_simp
        go_at_call 14
        (with_reducible refine n21.go.mono ?_)
        rintro e w22 ⟨A22, c22, rfl, b22⟩
        have hd3 := acc hd2 b22
        clear b22 n21
        go_wp2_with fail
        refine hK.out _ _ (by (try dsimp only); (first | assumption | exact HSS.out _ (by assumption))) (fun hHeld => ?_)
        clear hK K
        try simp only [Act.put, List.setIfInBounds_toArray, List.set_cons_zero, List.set_cons_succ]
        refine wpAnyH_take (i := 6) (oi := ⟨_, _, _, _, _, _⟩) (v := ?_) rfl (by kernel_rfl) (by kernel_rfl) (by kernel_rfl) (fun _ _ _ h => h) (Or.inl ⟨by rfl, ?_⟩) (by assumption) ?_
        rotate_left
        · (intro wS hSw; (try dsimp only at hSw); go_simp <;> with_reducible rfl)
        try simp only [Act.put, List.setIfInBounds_toArray, List.set_cons_zero, List.set_cons_succ]
        refine wpAnyH_ready (rs := [7]) (by kernel_rfl) (by simp) ?_
        refine AllReadyH.cons (o := ⟨_, _, _, _, _, _⟩) rfl (fun K hK => ?_) AllReadyH.nil
        go_simp
        go_at_call 7
        (with_reducible refine (CNR.out _).mono ?_)
        rintro e w23 ⟨fv23, rfl, n23, b23⟩
        have hd4 := acc hd3 b23
        clear b23
        go_wp2_with fail
        refine hK.out _ _ (by (try dsimp only); (first | assumption | exact HSS.out _ (by assumption))) (fun hHeld => ?_)
        clear hK K
        try simp only [Act.put, List.setIfInBounds_toArray, List.set_cons_zero, List.set_cons_succ]
        refine wpAnyH_ready (rs := [8]) (by kernel_rfl) (by simp) ?_
        refine AllReadyH.cons (o := ⟨_, _, _, _, _, _⟩) rfl (fun K hK => ?_) AllReadyH.nil
        go_simp
        go_at_call 14
        (with_reducible refine n23.go.mono ?_)
        rintro e w24 ⟨A24, c24, rfl, b24⟩
        have hd5 := acc hd4 b24
        clear b24 n23
        go_wp2_with fail
        refine hK.out _ _ (by (try dsimp only); (first | assumption | exact HSS.out _ (by assumption))) (fun hHeld => ?_)
        clear hK K
        try simp only [Act.put, List.setIfInBounds_toArray, List.set_cons_zero, List.set_cons_succ]
        refine wpAnyH_take (i := 9) (oi := ⟨_, _, _, _, _, _⟩) (v := ?_) rfl (by kernel_rfl) (by kernel_rfl) (by kernel_rfl) (fun _ _ _ h => h) (Or.inl ⟨by rfl, ?_⟩) (by assumption) ?_
        rotate_left
        · (intro wS hSw; (try dsimp only at hSw); go_simp <;> with_reducible rfl)
        try simp only [Act.put, List.setIfInBounds_toArray, List.set_cons_zero, List.set_cons_succ]
        refine wpAnyH_take (i := 10) (oi := ⟨_, _, _, _, _, _⟩) (v := ?_) rfl (by kernel_rfl) (by kernel_rfl) (by kernel_rfl) (fun _ _ _ h => h) (Or.inl ⟨by rfl, ?_⟩) (by assumption) ?_
        rotate_left
        · (intro wS hSw; (try dsimp only at hSw); go_simp <;> with_reducible rfl)
        try simp only [Act.put, List.setIfInBounds_toArray, List.set_cons_zero, List.set_cons_succ]
        refine wpAnyH_ready (rs := [12]) (by kernel_rfl) (by simp) ?_
        refine AllReadyH.cons (o := ⟨_, _, _, _, _, _⟩) rfl (fun K hK => ?_) AllReadyH.nil
        go_simp
        go_at_call 9
        (with_reducible refine (CNC.out _).mono ?_)
        rintro e w25 ⟨fv25, rfl, n25, b25⟩
        have hd6 := acc hd5 b25
        clear b25
        go_wp2_with fail
        refine hK.out _ _ (by (try dsimp only); (first | assumption | exact HSS.out _ (by assumption))) (fun hHeld => ?_)
        clear hK K
        try simp only [Act.put, List.setIfInBounds_toArray, List.set_cons_zero, List.set_cons_succ]
        refine wpAnyH_ready (rs := [13]) (by kernel_rfl) (by simp) ?_
        refine AllReadyH.cons (o := ⟨_, _, _, _, _, _⟩) rfl (fun K hK => ?_) AllReadyH.nil
        go_simp
        go_at_call 14
        (with_reducible refine n25.go.mono ?_)
        rintro e w26 ⟨A26, c26, rfl, b26⟩
        have hd7 := acc hd6 b26
        clear b26 n25
        go_wp2_with fail
        refine hK.out _ _ (by (try dsimp only); (first | assumption | exact HSS.out _ (by assumption))) (fun hHeld => ?_)
        clear hK K
        try simp only [Act.put, List.setIfInBounds_toArray, List.set_cons_zero, List.set_cons_succ]
        refine wpAnyH_take (i := 14) (oi := ⟨_, _, _, _, _, _⟩) (v := ?_) rfl (by kernel_rfl) (by kernel_rfl) (by kernel_rfl) (fun _ _ _ h => h) (Or.inl ⟨by rfl, ?_⟩) (by assumption) ?_
        rotate_left
        · (intro wS hSw; (try dsimp only at hSw); go_simp <;> with_reducible rfl)
        try simp only [Act.put, List.setIfInBounds_toArray, List.set_cons_zero, List.set_cons_succ]
        refine wpAnyH_take (i := 15) (oi := ⟨_, _, _, _, _, _⟩) (v := ?_) rfl (by kernel_rfl) (by kernel_rfl) (by kernel_rfl) (fun _ _ _ h => h) (Or.inl ⟨by rfl, ?_⟩) (by assumption) ?_
        rotate_left
        · (intro wS hSw; (try dsimp only at hSw); go_simp <;> with_reducible rfl)
        try simp only [Act.put, List.setIfInBounds_toArray, List.set_cons_zero, List.set_cons_succ]
        refine wpAnyH_take (i := 16) (oi := ⟨_, _, _, _, _, _⟩) (v := ?_) rfl (by kernel_rfl) (by kernel_rfl) (by kernel_rfl) (fun _ _ _ h => h) (Or.inl ⟨by rfl, ?_⟩) (by assumption) ?_
        rotate_left
        · (intro wS hSw; (try dsimp only at hSw); go_simp <;> with_reducible rfl)
        try simp only [Act.put, List.setIfInBounds_toArray, List.set_cons_zero, List.set_cons_succ]
        refine wpAnyH_take (i := 17) (oi := ⟨_, _, _, _, _, _⟩) (v := ?_) rfl (by kernel_rfl) (by kernel_rfl) (by kernel_rfl) (fun _ _ _ h => h) (Or.inl ⟨by rfl, ?_⟩) (by assumption) ?_
        rotate_left
        · (intro wS hSw; (try dsimp only at hSw); go_simp <;> with_reducible rfl)
        try simp only [Act.put, List.setIfInBounds_toArray, List.set_cons_zero, List.set_cons_succ]
        refine wpAnyH_take (i := 18) (oi := ⟨_, _, _, _, _, _⟩) (v := ?_) rfl (by kernel_rfl) (by kernel_rfl) (by kernel_rfl) (fun _ _ _ h => h) (Or.inl ⟨by rfl, ?_⟩) (by assumption) ?_
        rotate_left
        · (intro wS hSw; (try dsimp only at hSw); go_simp <;> with_reducible rfl)
        try simp only [Act.put, List.setIfInBounds_toArray, List.set_cons_zero, List.set_cons_succ]
        refine wpAnyH_take (i := 19) (oi := ⟨_, _, _, _, _, _⟩) (v := ?_) rfl (by kernel_rfl) (by kernel_rfl) (by kernel_rfl) (fun _ _ _ h => h) (Or.inl ⟨by rfl, ?_⟩) (by assumption) ?_
        rotate_left
        · (intro wS hSw; (try dsimp only at hSw); go_simp <;> with_reducible rfl)
        try simp only [Act.put, List.setIfInBounds_toArray, List.set_cons_zero, List.set_cons_succ]
        refine wpAnyH_ready (rs := [20]) (by kernel_rfl) (by simp) ?_
        refine AllReadyH.cons (o := ⟨_, _, _, _, _, _⟩) rfl (fun K hK => ?_) AllReadyH.nil
        go_simp
        go_at_call 16
        (with_reducible refine (CAP.out _ hd7).mono ?_)
        rintro e w27 ⟨rfl, t27⟩
        have b27 := Lib.hid (Touch.acc HB8.out t27 HQW.out)
        go_wp2_with fail
        refine hK.out _ _ (by (try dsimp only); exact ⟨(t27.cell (p := ⟨W.heap.size, 0, none⟩) (by show W.heap.size < _; omega) (by simp; omega)).trans HY0.out, (t27.cell (p := ⟨W.heap.size, 1, none⟩) (by show W.heap.size < _; omega) (by simp; omega)).trans HY1.out⟩) (fun hHeld => ?_)
        clear hK K
        try simp only [Act.put, List.setIfInBounds_toArray, List.set_cons_zero, List.set_cons_succ]
        refine wpAnyH_take (i := 21) (oi := ⟨_, _, _, _, _, _⟩) (v := ?_) rfl (by kernel_rfl) (by kernel_rfl) (by kernel_rfl) (fun _ _ _ h => h) (Or.inl ⟨by rfl, ?_⟩) (by assumption) ?_
        rotate_left
        · (intro wS hSw; (try dsimp only at hSw); go_simp <;> with_reducible rfl)
        try simp only [Act.put, List.setIfInBounds_toArray, List.set_cons_zero, List.set_cons_succ]
        refine wpAnyH_take (i := 22) (oi := ⟨_, _, _, _, _, _⟩) (v := ?_) rfl (by kernel_rfl) (by kernel_rfl) (by kernel_rfl) (fun _ _ _ h => h) (Or.inl ⟨by rfl, ?_⟩) (by assumption) ?_
        rotate_left
        · (intro wS hSw; (try dsimp only at hSw); go_simp <;> with_reducible rfl)
        try simp only [Act.put, List.setIfInBounds_toArray, List.set_cons_zero, List.set_cons_succ]
        refine wpAnyH_done (by kernel_rfl) ?_ _
        go_wp2_with fail
        go_ret
        exact ⟨rfl, b27.out⟩
end Go.Proofs.YtglinhcldgpphaaGreat
