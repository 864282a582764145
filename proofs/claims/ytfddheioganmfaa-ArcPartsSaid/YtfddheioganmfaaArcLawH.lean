/-
  The walk of the statement ArcParts of chapter 2.
-/
import Derived.Test.YtfddheioganmfaaArcKeep
import Derived.Deep.RegionHeld3
import Derived.Deep.DeepCutAuto
namespace Go.Proofs.Ytfddheioganmfaa
open Go.RowKit

/-- what was cut in three -/
theorem parts_all {f t x y : Nat} (hf : f < 18446744073709551616) (ht : t < 18446744073709551616) (hx : x < 18446744073709551616) (hy : y < 18446744073709551616) (h1 : x ≠ f) (h2 : inB f t x = true) (h3 : y ≠ x) (h4 : inB x t y = true) :
    withinB f t f x = true ∧ withinB f t x y = true ∧ withinB f t y t = true ∧ apartB f x x y = true ∧ apartB x y y t = true ∧ apartB f x y t = true ∧ apartB f x x t = true := by
  rw [← within_turn hf ht hf hx hf, ← within_turn hf ht hx hy hf, ← within_turn hf ht hy ht hf, ← apart_turn hf hx hx hy hf, ← apart_turn hx hy hy ht hf, ← apart_turn hf hx hy ht hf, ← apart_turn hf hx hx ht hf, sub_self f hf]
  rw [← in_turn hf ht hx hf, sub_self f hf] at h2
  rw [← in_turn hx ht hy hf] at h4
  have n1 : sub64 x f ≠ 0 := by have := sub64_cases hx hf; omega
  have n2 : sub64 y f ≠ sub64 x f := by have := sub64_cases hx hf; have := sub64_cases hy hf; omega
  have a1 := sub64_lt t f
  have a2 := sub64_lt x f
  have a3 := sub64_lt y f
  generalize sub64 t f = T at *
  generalize sub64 x f = X at *
  generalize sub64 y f = Y at *
  rw [in_iff0 a1 a2] at h2
  rw [in_iff] at h4
  have c1 := sub64_cases a3 a2
  have c2 := sub64_cases a1 a2
  have c3 := sub64_cases a1 a3
  have c4 := sub64_cases a2 a3
  have c5 := sub64_cases (show 0 < 18446744073709551616 by omega) a2
  have c6 := sub64_cases (show 0 < 18446744073709551616 by omega) a3
  have hXY : X < Y ∧ (T = 0 ∨ Y < T) := by omega
  clear h4
  simp only [apart_iff, within_iff, in_iff, sub_zero a1, sub_zero a2, sub_zero a3]
  have c7 := sub_self X a2
  have c8 := sub_self Y a3
  have c9 : sub64 0 0 = 0 := rfl
  refine ⟨?_, ?_, ?_, ?_, ?_, ?_, ?_⟩ <;> omega

/-- all that the loop of ArcParts holds -/
def All (w W : World) (f t x y L M R S : Nat) : Prop :=
  Cel W w.heap.size f t ∧ Cel W L f x ∧ Cel W M x y ∧ Cel W R y t ∧ (Cel W S f x ∧ (W.cell? ⟨S, 2, none⟩ = some (.int .u64 (x : Nat)) ∧ W.cell? ⟨S, 3, none⟩ = some (.int .u64 (y : Nat))) ∧ (W.cell? ⟨S, 4, none⟩ = some (.int .u64 (y : Nat)) ∧ W.cell? ⟨S, 5, none⟩ = some (.int .u64 (t : Nat)))) ∧ Below w.heap.size w W
theorem All.step {w W W1 : World} {f t x y L M R S : Nat} (h : All w W f t x y L M R S) (hb : Below W.heap.size W W1) : All w W1 f t x y L M R S := by
  obtain ⟨h1, h2, h3, h4, ⟨h5, ⟨h6, h7⟩, h8, h9⟩, h10⟩ := h
  exact ⟨h1.step hb, h2.step hb, h3.step hb, h4.step hb, ⟨h5.step hb, ⟨(hb.cell (p := ⟨S, 2, none⟩) h5.1).trans h6, (hb.cell (p := ⟨S, 3, none⟩) h5.1).trans h7⟩, (hb.cell (p := ⟨S, 4, none⟩) h5.1).trans h8, (hb.cell (p := ⟨S, 5, none⟩) h5.1).trans h9⟩, acc h10 hb⟩
theorem All.start {w W : World} {f t x y L : Nat} (h1 : Cel W w.heap.size f t) (h2 : Cel W L f x) (hB : Below w.heap.size w W) :
    All w (((W.alloc (.cells #[.int .u64 (x : Nat), .int .u64 (y : Nat)] 24)).alloc (.cells #[.int .u64 (y : Nat), .int .u64 (t : Nat)] 24)).alloc (.cells #[.int .u64 (f : Nat), .int .u64 (x : Nat), .int .u64 (x : Nat), .int .u64 (y : Nat), .int .u64 (y : Nat), .int .u64 (t : Nat)] 24)) f t x y L W.heap.size (W.heap.size + 1) (W.heap.size + 1 + 1) := by
  refine ⟨(h1.alloc _).alloc _ |>.alloc _, (h2.alloc _).alloc _ |>.alloc _, (Cel.alloc (Cel.new _ _ _ _) _).alloc _, (Cel.new1 _ _ _ _ _).alloc _, ⟨⟨by simp, ?_, ?_⟩, ⟨?_, ?_⟩, ?_, ?_⟩, accA (accA (accA hB _) _) _⟩ <;> (go_simp; try rfl)

set_option maxHeartbeats 6400000 in
theorem arcParts_walk (f t x y p : Nat) (w : World) (hf : f < 18446744073709551616) (ht : t < 18446744073709551616) (hx : x < 18446744073709551616) (hy : y < 18446744073709551616) (hp : p < 18446744073709551616) :
    Calls Try.prog 10 #[.agg #[.int .u64 f, .int .u64 t], .int .u64 x, .int .u64 y, .int .u64 p] w fun e w' => e = .returned (.bool true) ∧ Below w.heap.size w w' := by
  have hB0 : Below w.heap.size w w := Below.refl _ _
  have cS := fun W => split_any f t x W hf ht hx
  by_cases hm : mayB f t x = true
  · rw [hm] at cS
    have C1 : Hid (∀ W, Calls Try.prog 12 #[.agg #[.int .u64 f, .int .u64 t], .int .u64 x] W fun e w' => e = .returned (.tuple #[.agg #[.int .u64 f, .int .u64 x], .agg #[.int .u64 x, .int .u64 t], .bool true]) ∧ Below W.heap.size W w') := cS
    have cS2 := fun W => split_any x t y W hx ht hy
    by_cases hm2 : mayB x t y = true
    · rw [hm2] at cS2
      have C2 : Hid (∀ W, Calls Try.prog 12 #[.agg #[.int .u64 x, .int .u64 t], .int .u64 y] W fun e w' => e = .returned (.tuple #[.agg #[.int .u64 x, .int .u64 y], .agg #[.int .u64 y, .int .u64 t], .bool true]) ∧ Below W.heap.size W w') := cS2
      have hm' : x ≠ f ∧ inB f t x = true := by simpa [mayB] using hm
      have hm2' : y ≠ x ∧ inB x t y = true := by simpa [mayB] using hm2
      obtain ⟨i1, i2, i3, i4, i5, i6, i7⟩ := parts_all hf ht hx hy hm'.1 hm'.2 hm2'.1 hm2'.2
      have k1 := fun W => within_any f t f x W hf ht hf hx
      have k2 := fun W => within_any f t x y W hf ht hx hy
      have k3 := fun W => within_any f t y t W hf ht hy ht
      rw [i1] at k1
      rw [i2] at k2
      rw [i3] at k3
      have k4 := fun W => apart_any f x x y W hf hx hx hy
      have k5 := fun W => apart_any x y y t W hx hy hy ht
      have k6 := fun W => apart_any f x y t W hf hx hy ht
      rw [i4] at k4
      rw [i5] at k5
      rw [i6] at k6
      have k7 := fun W => in_any f t p W hf ht hp
      have j1 := join_in hf hx ht hp i7
      have j2 := join_in hx hy ht hp i5
      rw [j1, j2] at k7
      have T1 := fun h => apart_in hf hx hx hy hp i4 h
      have T2 := fun h => apart_in hx hy hy ht hp i5 h
      have T3 := fun h => apart_in hf hx hy ht hp i6 h
      have k8 := fun W => in_any f x p W hf hx hp
      have k9 := fun W => in_any x y p W hx hy hp
      have kX := fun W => in_any y t p W hy ht hp
      have K1 := Lib.hid k1
      have K2 := Lib.hid k2
      have K3 := Lib.hid k3
      have K4 := Lib.hid k4
      have K5 := Lib.hid k5
      have K6 := Lib.hid k6
      clear cS cS2 hm hm2 hm' hm2' i1 i2 i3 i4 i5 i6 i7 k1 k2 k3 k4 k5 k6 j1 j2 hf ht hx hy hp
      generalize inB f x p = P at *
      generalize inB x y p = Q at *
      generalize inB y t p = R at *
      have K7 := Lib.hid k7
      have K8 := Lib.hid k8
      have K9 := Lib.hid k9
      have KX := Lib.hid kX
      have HT := Lib.hid (And.intro T1 (And.intro T2 T3))
      clear k7 k8 k9 kX T1 T2 T3
      go_enter Try.func10, Try.ntmps10
      go_wp2_with (first
        | (go_at_call 12; ((with_reducible refine (C1.out _).mono ?_); rintro e w1 ⟨rfl, hb1⟩; have hB1 : Below w.heap.size w w1 := (by first | exact acc (by assumption) hb1 | exact acc (accA (by assumption) _) hb1 | exact acc (accA (accA (by assumption) _) _) hb1 | exact acc (accA (accA (accA (by assumption) _) _) _) hb1); have K1a : Hid (Cel w1 (w.heap.size) (f) (t)) := (by first | exact Lib.hid (Cel.step (Hid.out (by assumption)) hb1) | exact Lib.hid (Cel.step (Cel.new _ _ _ _) hb1) | exact Lib.hid (Cel.step (Cel.alloc (Hid.out (by assumption)) _) hb1) | exact Lib.hid (Cel.step (Cel.alloc (Cel.new _ _ _ _) _) hb1) | exact Lib.hid (Cel.step (Cel.new1 _ _ _ _ _) hb1) | exact Lib.hid (Cel.step (Cel.alloc (Cel.alloc (Hid.out (by assumption)) _) _) hb1) | exact Lib.hid (Cel.step (Cel.alloc (Cel.new1 _ _ _ _ _) _) hb1) | exact Lib.hid (Cel.step (Cel.alloc (Cel.alloc (Cel.new _ _ _ _) _) _) hb1) | exact Lib.hid (Cel.step (Cel.new2 _ _ _ _ _ _) hb1)); obtain ⟨z1a, p1a, q1a⟩ := K1a.out; clear hb1))
        | (go_at_call 11; ((with_reducible refine (alive_any _).mono ?_); rintro e w2 ⟨rfl, hb2⟩; have hB2 : Below w.heap.size w w2 := (by first | exact acc (by assumption) hb2 | exact acc (accA (by assumption) _) hb2 | exact acc (accA (accA (by assumption) _) _) hb2 | exact acc (accA (accA (accA (by assumption) _) _) _) hb2); have K2a : Hid (Cel w2 (w.heap.size) (f) (t)) := (by first | exact Lib.hid (Cel.step (Hid.out (by assumption)) hb2) | exact Lib.hid (Cel.step (Cel.new _ _ _ _) hb2) | exact Lib.hid (Cel.step (Cel.alloc (Hid.out (by assumption)) _) hb2) | exact Lib.hid (Cel.step (Cel.alloc (Cel.new _ _ _ _) _) hb2) | exact Lib.hid (Cel.step (Cel.new1 _ _ _ _ _) hb2) | exact Lib.hid (Cel.step (Cel.alloc (Cel.alloc (Hid.out (by assumption)) _) _) hb2) | exact Lib.hid (Cel.step (Cel.alloc (Cel.new1 _ _ _ _ _) _) hb2) | exact Lib.hid (Cel.step (Cel.alloc (Cel.alloc (Cel.new _ _ _ _) _) _) hb2) | exact Lib.hid (Cel.step (Cel.new2 _ _ _ _ _ _) hb2)); obtain ⟨z2a, p2a, q2a⟩ := K2a.out; have K2b : Hid (Cel w2 (w1.heap.size) (f) (x)) := (by first | exact Lib.hid (Cel.step (Hid.out (by assumption)) hb2) | exact Lib.hid (Cel.step (Cel.new _ _ _ _) hb2) | exact Lib.hid (Cel.step (Cel.alloc (Hid.out (by assumption)) _) hb2) | exact Lib.hid (Cel.step (Cel.alloc (Cel.new _ _ _ _) _) hb2) | exact Lib.hid (Cel.step (Cel.new1 _ _ _ _ _) hb2) | exact Lib.hid (Cel.step (Cel.alloc (Cel.alloc (Hid.out (by assumption)) _) _) hb2) | exact Lib.hid (Cel.step (Cel.alloc (Cel.new1 _ _ _ _ _) _) hb2) | exact Lib.hid (Cel.step (Cel.alloc (Cel.alloc (Cel.new _ _ _ _) _) _) hb2) | exact Lib.hid (Cel.step (Cel.new2 _ _ _ _ _ _) hb2)); obtain ⟨z2b, p2b, q2b⟩ := K2b.out; have K2c : Hid (Cel w2 (w1.heap.size + 1) (x) (t)) := (by first | exact Lib.hid (Cel.step (Hid.out (by assumption)) hb2) | exact Lib.hid (Cel.step (Cel.new _ _ _ _) hb2) | exact Lib.hid (Cel.step (Cel.alloc (Hid.out (by assumption)) _) hb2) | exact Lib.hid (Cel.step (Cel.alloc (Cel.new _ _ _ _) _) hb2) | exact Lib.hid (Cel.step (Cel.new1 _ _ _ _ _) hb2) | exact Lib.hid (Cel.step (Cel.alloc (Cel.alloc (Hid.out (by assumption)) _) _) hb2) | exact Lib.hid (Cel.step (Cel.alloc (Cel.new1 _ _ _ _ _) _) hb2) | exact Lib.hid (Cel.step (Cel.alloc (Cel.alloc (Cel.new _ _ _ _) _) _) hb2) | exact Lib.hid (Cel.step (Cel.new2 _ _ _ _ _ _) hb2)); obtain ⟨z2c, p2c, q2c⟩ := K2c.out; clear hb2))
        | (go_at_call 12; ((with_reducible refine (C2.out _).mono ?_); rintro e w3 ⟨rfl, hb3⟩; have hB3 : Below w.heap.size w w3 := (by first | exact acc (by assumption) hb3 | exact acc (accA (by assumption) _) hb3 | exact acc (accA (accA (by assumption) _) _) hb3 | exact acc (accA (accA (accA (by assumption) _) _) _) hb3); have K3a : Hid (Cel w3 (w.heap.size) (f) (t)) := (by first | exact Lib.hid (Cel.step (Hid.out (by assumption)) hb3) | exact Lib.hid (Cel.step (Cel.new _ _ _ _) hb3) | exact Lib.hid (Cel.step (Cel.alloc (Hid.out (by assumption)) _) hb3) | exact Lib.hid (Cel.step (Cel.alloc (Cel.new _ _ _ _) _) hb3) | exact Lib.hid (Cel.step (Cel.new1 _ _ _ _ _) hb3) | exact Lib.hid (Cel.step (Cel.alloc (Cel.alloc (Hid.out (by assumption)) _) _) hb3) | exact Lib.hid (Cel.step (Cel.alloc (Cel.new1 _ _ _ _ _) _) hb3) | exact Lib.hid (Cel.step (Cel.alloc (Cel.alloc (Cel.new _ _ _ _) _) _) hb3) | exact Lib.hid (Cel.step (Cel.new2 _ _ _ _ _ _) hb3)); obtain ⟨z3a, p3a, q3a⟩ := K3a.out; have K3b : Hid (Cel w3 (w1.heap.size) (f) (x)) := (by first | exact Lib.hid (Cel.step (Hid.out (by assumption)) hb3) | exact Lib.hid (Cel.step (Cel.new _ _ _ _) hb3) | exact Lib.hid (Cel.step (Cel.alloc (Hid.out (by assumption)) _) hb3) | exact Lib.hid (Cel.step (Cel.alloc (Cel.new _ _ _ _) _) hb3) | exact Lib.hid (Cel.step (Cel.new1 _ _ _ _ _) hb3) | exact Lib.hid (Cel.step (Cel.alloc (Cel.alloc (Hid.out (by assumption)) _) _) hb3) | exact Lib.hid (Cel.step (Cel.alloc (Cel.new1 _ _ _ _ _) _) hb3) | exact Lib.hid (Cel.step (Cel.alloc (Cel.alloc (Cel.new _ _ _ _) _) _) hb3) | exact Lib.hid (Cel.step (Cel.new2 _ _ _ _ _ _) hb3)); obtain ⟨z3b, p3b, q3b⟩ := K3b.out; have K3c : Hid (Cel w3 (w1.heap.size + 1) (x) (t)) := (by first | exact Lib.hid (Cel.step (Hid.out (by assumption)) hb3) | exact Lib.hid (Cel.step (Cel.new _ _ _ _) hb3) | exact Lib.hid (Cel.step (Cel.alloc (Hid.out (by assumption)) _) hb3) | exact Lib.hid (Cel.step (Cel.alloc (Cel.new _ _ _ _) _) hb3) | exact Lib.hid (Cel.step (Cel.new1 _ _ _ _ _) hb3) | exact Lib.hid (Cel.step (Cel.alloc (Cel.alloc (Hid.out (by assumption)) _) _) hb3) | exact Lib.hid (Cel.step (Cel.alloc (Cel.new1 _ _ _ _ _) _) hb3) | exact Lib.hid (Cel.step (Cel.alloc (Cel.alloc (Cel.new _ _ _ _) _) _) hb3) | exact Lib.hid (Cel.step (Cel.new2 _ _ _ _ _ _) hb3)); obtain ⟨z3c, p3c, q3c⟩ := K3c.out; clear hb3)))
      have HA0 : Hid (All w _ f t x y w1.heap.size w3.heap.size (w3.heap.size + 1) (w3.heap.size + 1 + 1)) := Lib.hid (All.start (y := y) K3a.out K3b.out hB3)
      clear K3a K3b K3c z3a p3a q3a z3b p3b q3b z3c p3c q3c hB0 hB1 hB2 hB3
      have hT := HT.out
      cases P <;> cases Q <;> cases R <;> first | (exfalso; simp at hT; done) | skip
      all_goals clear hT HT
      · go_loopg [15, 46] 3 (fun z s15 s46 wx => Hid (All w wx f t x y w1.heap.size w3.heap.size (w3.heap.size + 1) (w3.heap.size + 1 + 1)) ∧ ((z = 3 ∧ s46 = .int .i64 0 ∧ s15 = .int .i64 0) ∨ (z = 2 ∧ s46 = .int .i64 1 ∧ s15 = .int .i64 0) ∨ (z = 1 ∧ s46 = .int .i64 2 ∧ s15 = .int .i64 0) ∨ (z = 0 ∧ s46 = .int .i64 3 ∧ s15 = .int .i64 0)))
        case atStart => exact ⟨HA0, .inl ⟨rfl, rfl, rfl⟩⟩
        case round =>
          obtain ⟨HA, hr⟩ := hrel
          obtain ⟨⟨za, a0, a1⟩, ⟨zl, l0, l1⟩, ⟨zm, m0, m1⟩, ⟨zr, r0, r1⟩, ⟨⟨zs, s0, s1⟩, ⟨s2, s3⟩, s4, s5⟩, _⟩ := HA.out
          rcases hr with ⟨rfl, rfl, rfl⟩ | ⟨rfl, rfl, rfl⟩ | ⟨rfl, rfl, rfl⟩ | ⟨rfl, rfl, rfl⟩
          · go_wp2_with (first
              | (go_at_call 19; ((with_reducible refine (K1.out _).mono ?_); rintro e w5 ⟨rfl, hb5⟩; have H5 : Hid (All w w5 f t x y w1.heap.size w3.heap.size (w3.heap.size + 1) (w3.heap.size + 1 + 1)) := Lib.hid (All.step (All.step HA.out ((Below.refl _ _).alloc (Nat.le_refl _) _)) hb5); have C5 := Cel.step (Cel.new wr f x 24) hb5; obtain ⟨z5, p5, q5⟩ := C5; clear hb5))
              | (go_at_call 14; ((with_reducible refine (K8.out _).mono ?_); rintro e w6 ⟨rfl, hb6⟩; have H6 : Hid (All w w6 f t x y w1.heap.size w3.heap.size (w3.heap.size + 1) (w3.heap.size + 1 + 1)) := Lib.hid (All.step H5.out hb6); clear hb6)))
            go_roundg 2
            case measure => omega
            case rel => exact ⟨H6, .inr (.inl ⟨rfl, rfl, rfl⟩)⟩
          · go_wp2_with (first
              | (go_at_call 19; ((with_reducible refine (K2.out _).mono ?_); rintro e w5 ⟨rfl, hb5⟩; have H5 : Hid (All w w5 f t x y w1.heap.size w3.heap.size (w3.heap.size + 1) (w3.heap.size + 1 + 1)) := Lib.hid (All.step (All.step HA.out ((Below.refl _ _).alloc (Nat.le_refl _) _)) hb5); have C5 := Cel.step (Cel.new wr x y 24) hb5; obtain ⟨z5, p5, q5⟩ := C5; clear hb5))
              | (go_at_call 14; ((with_reducible refine (K9.out _).mono ?_); rintro e w6 ⟨rfl, hb6⟩; have H6 : Hid (All w w6 f t x y w1.heap.size w3.heap.size (w3.heap.size + 1) (w3.heap.size + 1 + 1)) := Lib.hid (All.step H5.out hb6); clear hb6)))
            go_roundg 1
            case measure => omega
            case rel => exact ⟨H6, .inr (.inr (.inl ⟨rfl, rfl, rfl⟩))⟩
          · go_wp2_with (first
              | (go_at_call 19; ((with_reducible refine (K3.out _).mono ?_); rintro e w5 ⟨rfl, hb5⟩; have H5 : Hid (All w w5 f t x y w1.heap.size w3.heap.size (w3.heap.size + 1) (w3.heap.size + 1 + 1)) := Lib.hid (All.step (All.step HA.out ((Below.refl _ _).alloc (Nat.le_refl _) _)) hb5); have C5 := Cel.step (Cel.new wr y t 24) hb5; obtain ⟨z5, p5, q5⟩ := C5; clear hb5))
              | (go_at_call 14; ((with_reducible refine (KX.out _).mono ?_); rintro e w6 ⟨rfl, hb6⟩; have H6 : Hid (All w w6 f t x y w1.heap.size w3.heap.size (w3.heap.size + 1) (w3.heap.size + 1 + 1)) := Lib.hid (All.step H5.out hb6); clear hb6)))
            go_roundg 0
            case measure => omega
            case rel => exact ⟨H6, .inr (.inr (.inr ⟨rfl, rfl, rfl⟩))⟩
          · have H7 := HA
            go_wp2_with (first
              | (go_at_call 21; ((with_reducible refine (K4.out _).mono ?_); rintro e w7 ⟨rfl, hb7⟩; have H7 : Hid (All w w7 f t x y w1.heap.size w3.heap.size (w3.heap.size + 1) (w3.heap.size + 1 + 1)) := Lib.hid (All.step (Hid.out (by assumption)) hb7); obtain ⟨⟨za, a0, a1⟩, ⟨zl, l0, l1⟩, ⟨zm, m0, m1⟩, ⟨zr, r0, r1⟩, _, hfin⟩ := H7.out; clear hb7))
              | (go_at_call 21; ((with_reducible refine (K5.out _).mono ?_); rintro e w7 ⟨rfl, hb7⟩; have H7 : Hid (All w w7 f t x y w1.heap.size w3.heap.size (w3.heap.size + 1) (w3.heap.size + 1 + 1)) := Lib.hid (All.step (Hid.out (by assumption)) hb7); obtain ⟨⟨za, a0, a1⟩, ⟨zl, l0, l1⟩, ⟨zm, m0, m1⟩, ⟨zr, r0, r1⟩, _, hfin⟩ := H7.out; clear hb7))
              | (go_at_call 21; ((with_reducible refine (K6.out _).mono ?_); rintro e w7 ⟨rfl, hb7⟩; have H7 : Hid (All w w7 f t x y w1.heap.size w3.heap.size (w3.heap.size + 1) (w3.heap.size + 1 + 1)) := Lib.hid (All.step (Hid.out (by assumption)) hb7); obtain ⟨⟨za, a0, a1⟩, ⟨zl, l0, l1⟩, ⟨zm, m0, m1⟩, ⟨zr, r0, r1⟩, _, hfin⟩ := H7.out; clear hb7))
              | (go_at_call 14; ((with_reducible refine (K7.out _).mono ?_); rintro e w7 ⟨rfl, hb7⟩; have H7 : Hid (All w w7 f t x y w1.heap.size w3.heap.size (w3.heap.size + 1) (w3.heap.size + 1 + 1)) := Lib.hid (All.step (Hid.out (by assumption)) hb7); obtain ⟨⟨za, a0, a1⟩, ⟨zl, l0, l1⟩, ⟨zm, m0, m1⟩, ⟨zr, r0, r1⟩, _, hfin⟩ := H7.out; clear hb7)))
            go_ret
            exact ⟨rfl, by assumption⟩
      · go_loopg [15, 46] 3 (fun z s15 s46 wx => Hid (All w wx f t x y w1.heap.size w3.heap.size (w3.heap.size + 1) (w3.heap.size + 1 + 1)) ∧ ((z = 3 ∧ s46 = .int .i64 0 ∧ s15 = .int .i64 0) ∨ (z = 2 ∧ s46 = .int .i64 1 ∧ s15 = .int .i64 0) ∨ (z = 1 ∧ s46 = .int .i64 2 ∧ s15 = .int .i64 0) ∨ (z = 0 ∧ s46 = .int .i64 3 ∧ s15 = .int .i64 1)))
        case atStart => exact ⟨HA0, .inl ⟨rfl, rfl, rfl⟩⟩
        case round =>
          obtain ⟨HA, hr⟩ := hrel
          obtain ⟨⟨za, a0, a1⟩, ⟨zl, l0, l1⟩, ⟨zm, m0, m1⟩, ⟨zr, r0, r1⟩, ⟨⟨zs, s0, s1⟩, ⟨s2, s3⟩, s4, s5⟩, _⟩ := HA.out
          rcases hr with ⟨rfl, rfl, rfl⟩ | ⟨rfl, rfl, rfl⟩ | ⟨rfl, rfl, rfl⟩ | ⟨rfl, rfl, rfl⟩
          · go_wp2_with (first
              | (go_at_call 19; ((with_reducible refine (K1.out _).mono ?_); rintro e w5 ⟨rfl, hb5⟩; have H5 : Hid (All w w5 f t x y w1.heap.size w3.heap.size (w3.heap.size + 1) (w3.heap.size + 1 + 1)) := Lib.hid (All.step (All.step HA.out ((Below.refl _ _).alloc (Nat.le_refl _) _)) hb5); have C5 := Cel.step (Cel.new wr f x 24) hb5; obtain ⟨z5, p5, q5⟩ := C5; clear hb5))
              | (go_at_call 14; ((with_reducible refine (K8.out _).mono ?_); rintro e w6 ⟨rfl, hb6⟩; have H6 : Hid (All w w6 f t x y w1.heap.size w3.heap.size (w3.heap.size + 1) (w3.heap.size + 1 + 1)) := Lib.hid (All.step H5.out hb6); clear hb6)))
            go_roundg 2
            case measure => omega
            case rel => exact ⟨H6, .inr (.inl ⟨rfl, rfl, rfl⟩)⟩
          · go_wp2_with (first
              | (go_at_call 19; ((with_reducible refine (K2.out _).mono ?_); rintro e w5 ⟨rfl, hb5⟩; have H5 : Hid (All w w5 f t x y w1.heap.size w3.heap.size (w3.heap.size + 1) (w3.heap.size + 1 + 1)) := Lib.hid (All.step (All.step HA.out ((Below.refl _ _).alloc (Nat.le_refl _) _)) hb5); have C5 := Cel.step (Cel.new wr x y 24) hb5; obtain ⟨z5, p5, q5⟩ := C5; clear hb5))
              | (go_at_call 14; ((with_reducible refine (K9.out _).mono ?_); rintro e w6 ⟨rfl, hb6⟩; have H6 : Hid (All w w6 f t x y w1.heap.size w3.heap.size (w3.heap.size + 1) (w3.heap.size + 1 + 1)) := Lib.hid (All.step H5.out hb6); clear hb6)))
            go_roundg 1
            case measure => omega
            case rel => exact ⟨H6, .inr (.inr (.inl ⟨rfl, rfl, rfl⟩))⟩
          · go_wp2_with (first
              | (go_at_call 19; ((with_reducible refine (K3.out _).mono ?_); rintro e w5 ⟨rfl, hb5⟩; have H5 : Hid (All w w5 f t x y w1.heap.size w3.heap.size (w3.heap.size + 1) (w3.heap.size + 1 + 1)) := Lib.hid (All.step (All.step HA.out ((Below.refl _ _).alloc (Nat.le_refl _) _)) hb5); have C5 := Cel.step (Cel.new wr y t 24) hb5; obtain ⟨z5, p5, q5⟩ := C5; clear hb5))
              | (go_at_call 14; ((with_reducible refine (KX.out _).mono ?_); rintro e w6 ⟨rfl, hb6⟩; have H6 : Hid (All w w6 f t x y w1.heap.size w3.heap.size (w3.heap.size + 1) (w3.heap.size + 1 + 1)) := Lib.hid (All.step H5.out hb6); clear hb6)))
            go_roundg 0
            case measure => omega
            case rel => exact ⟨H6, .inr (.inr (.inr ⟨rfl, rfl, rfl⟩))⟩
          · have H7 := HA
            go_wp2_with (first
              | (go_at_call 21; ((with_reducible refine (K4.out _).mono ?_); rintro e w7 ⟨rfl, hb7⟩; have H7 : Hid (All w w7 f t x y w1.heap.size w3.heap.size (w3.heap.size + 1) (w3.heap.size + 1 + 1)) := Lib.hid (All.step (Hid.out (by assumption)) hb7); obtain ⟨⟨za, a0, a1⟩, ⟨zl, l0, l1⟩, ⟨zm, m0, m1⟩, ⟨zr, r0, r1⟩, _, hfin⟩ := H7.out; clear hb7))
              | (go_at_call 21; ((with_reducible refine (K5.out _).mono ?_); rintro e w7 ⟨rfl, hb7⟩; have H7 : Hid (All w w7 f t x y w1.heap.size w3.heap.size (w3.heap.size + 1) (w3.heap.size + 1 + 1)) := Lib.hid (All.step (Hid.out (by assumption)) hb7); obtain ⟨⟨za, a0, a1⟩, ⟨zl, l0, l1⟩, ⟨zm, m0, m1⟩, ⟨zr, r0, r1⟩, _, hfin⟩ := H7.out; clear hb7))
              | (go_at_call 21; ((with_reducible refine (K6.out _).mono ?_); rintro e w7 ⟨rfl, hb7⟩; have H7 : Hid (All w w7 f t x y w1.heap.size w3.heap.size (w3.heap.size + 1) (w3.heap.size + 1 + 1)) := Lib.hid (All.step (Hid.out (by assumption)) hb7); obtain ⟨⟨za, a0, a1⟩, ⟨zl, l0, l1⟩, ⟨zm, m0, m1⟩, ⟨zr, r0, r1⟩, _, hfin⟩ := H7.out; clear hb7))
              | (go_at_call 14; ((with_reducible refine (K7.out _).mono ?_); rintro e w7 ⟨rfl, hb7⟩; have H7 : Hid (All w w7 f t x y w1.heap.size w3.heap.size (w3.heap.size + 1) (w3.heap.size + 1 + 1)) := Lib.hid (All.step (Hid.out (by assumption)) hb7); obtain ⟨⟨za, a0, a1⟩, ⟨zl, l0, l1⟩, ⟨zm, m0, m1⟩, ⟨zr, r0, r1⟩, _, hfin⟩ := H7.out; clear hb7)))
            go_ret
            exact ⟨rfl, by assumption⟩
      · go_loopg [15, 46] 3 (fun z s15 s46 wx => Hid (All w wx f t x y w1.heap.size w3.heap.size (w3.heap.size + 1) (w3.heap.size + 1 + 1)) ∧ ((z = 3 ∧ s46 = .int .i64 0 ∧ s15 = .int .i64 0) ∨ (z = 2 ∧ s46 = .int .i64 1 ∧ s15 = .int .i64 0) ∨ (z = 1 ∧ s46 = .int .i64 2 ∧ s15 = .int .i64 1) ∨ (z = 0 ∧ s46 = .int .i64 3 ∧ s15 = .int .i64 1)))
        case atStart => exact ⟨HA0, .inl ⟨rfl, rfl, rfl⟩⟩
        case round =>
          obtain ⟨HA, hr⟩ := hrel
          obtain ⟨⟨za, a0, a1⟩, ⟨zl, l0, l1⟩, ⟨zm, m0, m1⟩, ⟨zr, r0, r1⟩, ⟨⟨zs, s0, s1⟩, ⟨s2, s3⟩, s4, s5⟩, _⟩ := HA.out
          rcases hr with ⟨rfl, rfl, rfl⟩ | ⟨rfl, rfl, rfl⟩ | ⟨rfl, rfl, rfl⟩ | ⟨rfl, rfl, rfl⟩
          · go_wp2_with (first
              | (go_at_call 19; ((with_reducible refine (K1.out _).mono ?_); rintro e w5 ⟨rfl, hb5⟩; have H5 : Hid (All w w5 f t x y w1.heap.size w3.heap.size (w3.heap.size + 1) (w3.heap.size + 1 + 1)) := Lib.hid (All.step (All.step HA.out ((Below.refl _ _).alloc (Nat.le_refl _) _)) hb5); have C5 := Cel.step (Cel.new wr f x 24) hb5; obtain ⟨z5, p5, q5⟩ := C5; clear hb5))
              | (go_at_call 14; ((with_reducible refine (K8.out _).mono ?_); rintro e w6 ⟨rfl, hb6⟩; have H6 : Hid (All w w6 f t x y w1.heap.size w3.heap.size (w3.heap.size + 1) (w3.heap.size + 1 + 1)) := Lib.hid (All.step H5.out hb6); clear hb6)))
            go_roundg 2
            case measure => omega
            case rel => exact ⟨H6, .inr (.inl ⟨rfl, rfl, rfl⟩)⟩
          · go_wp2_with (first
              | (go_at_call 19; ((with_reducible refine (K2.out _).mono ?_); rintro e w5 ⟨rfl, hb5⟩; have H5 : Hid (All w w5 f t x y w1.heap.size w3.heap.size (w3.heap.size + 1) (w3.heap.size + 1 + 1)) := Lib.hid (All.step (All.step HA.out ((Below.refl _ _).alloc (Nat.le_refl _) _)) hb5); have C5 := Cel.step (Cel.new wr x y 24) hb5; obtain ⟨z5, p5, q5⟩ := C5; clear hb5))
              | (go_at_call 14; ((with_reducible refine (K9.out _).mono ?_); rintro e w6 ⟨rfl, hb6⟩; have H6 : Hid (All w w6 f t x y w1.heap.size w3.heap.size (w3.heap.size + 1) (w3.heap.size + 1 + 1)) := Lib.hid (All.step H5.out hb6); clear hb6)))
            go_roundg 1
            case measure => omega
            case rel => exact ⟨H6, .inr (.inr (.inl ⟨rfl, rfl, rfl⟩))⟩
          · go_wp2_with (first
              | (go_at_call 19; ((with_reducible refine (K3.out _).mono ?_); rintro e w5 ⟨rfl, hb5⟩; have H5 : Hid (All w w5 f t x y w1.heap.size w3.heap.size (w3.heap.size + 1) (w3.heap.size + 1 + 1)) := Lib.hid (All.step (All.step HA.out ((Below.refl _ _).alloc (Nat.le_refl _) _)) hb5); have C5 := Cel.step (Cel.new wr y t 24) hb5; obtain ⟨z5, p5, q5⟩ := C5; clear hb5))
              | (go_at_call 14; ((with_reducible refine (KX.out _).mono ?_); rintro e w6 ⟨rfl, hb6⟩; have H6 : Hid (All w w6 f t x y w1.heap.size w3.heap.size (w3.heap.size + 1) (w3.heap.size + 1 + 1)) := Lib.hid (All.step H5.out hb6); clear hb6)))
            go_roundg 0
            case measure => omega
            case rel => exact ⟨H6, .inr (.inr (.inr ⟨rfl, rfl, rfl⟩))⟩
          · have H7 := HA
            go_wp2_with (first
              | (go_at_call 21; ((with_reducible refine (K4.out _).mono ?_); rintro e w7 ⟨rfl, hb7⟩; have H7 : Hid (All w w7 f t x y w1.heap.size w3.heap.size (w3.heap.size + 1) (w3.heap.size + 1 + 1)) := Lib.hid (All.step (Hid.out (by assumption)) hb7); obtain ⟨⟨za, a0, a1⟩, ⟨zl, l0, l1⟩, ⟨zm, m0, m1⟩, ⟨zr, r0, r1⟩, _, hfin⟩ := H7.out; clear hb7))
              | (go_at_call 21; ((with_reducible refine (K5.out _).mono ?_); rintro e w7 ⟨rfl, hb7⟩; have H7 : Hid (All w w7 f t x y w1.heap.size w3.heap.size (w3.heap.size + 1) (w3.heap.size + 1 + 1)) := Lib.hid (All.step (Hid.out (by assumption)) hb7); obtain ⟨⟨za, a0, a1⟩, ⟨zl, l0, l1⟩, ⟨zm, m0, m1⟩, ⟨zr, r0, r1⟩, _, hfin⟩ := H7.out; clear hb7))
              | (go_at_call 21; ((with_reducible refine (K6.out _).mono ?_); rintro e w7 ⟨rfl, hb7⟩; have H7 : Hid (All w w7 f t x y w1.heap.size w3.heap.size (w3.heap.size + 1) (w3.heap.size + 1 + 1)) := Lib.hid (All.step (Hid.out (by assumption)) hb7); obtain ⟨⟨za, a0, a1⟩, ⟨zl, l0, l1⟩, ⟨zm, m0, m1⟩, ⟨zr, r0, r1⟩, _, hfin⟩ := H7.out; clear hb7))
              | (go_at_call 14; ((with_reducible refine (K7.out _).mono ?_); rintro e w7 ⟨rfl, hb7⟩; have H7 : Hid (All w w7 f t x y w1.heap.size w3.heap.size (w3.heap.size + 1) (w3.heap.size + 1 + 1)) := Lib.hid (All.step (Hid.out (by assumption)) hb7); obtain ⟨⟨za, a0, a1⟩, ⟨zl, l0, l1⟩, ⟨zm, m0, m1⟩, ⟨zr, r0, r1⟩, _, hfin⟩ := H7.out; clear hb7)))
            go_ret
            exact ⟨rfl, by assumption⟩
      · go_loopg [15, 46] 3 (fun z s15 s46 wx => Hid (All w wx f t x y w1.heap.size w3.heap.size (w3.heap.size + 1) (w3.heap.size + 1 + 1)) ∧ ((z = 3 ∧ s46 = .int .i64 0 ∧ s15 = .int .i64 0) ∨ (z = 2 ∧ s46 = .int .i64 1 ∧ s15 = .int .i64 1) ∨ (z = 1 ∧ s46 = .int .i64 2 ∧ s15 = .int .i64 1) ∨ (z = 0 ∧ s46 = .int .i64 3 ∧ s15 = .int .i64 1)))
        case atStart => exact ⟨HA0, .inl ⟨rfl, rfl, rfl⟩⟩
        case round =>
          obtain ⟨HA, hr⟩ := hrel
          obtain ⟨⟨za, a0, a1⟩, ⟨zl, l0, l1⟩, ⟨zm, m0, m1⟩, ⟨zr, r0, r1⟩, ⟨⟨zs, s0, s1⟩, ⟨s2, s3⟩, s4, s5⟩, _⟩ := HA.out
          rcases hr with ⟨rfl, rfl, rfl⟩ | ⟨rfl, rfl, rfl⟩ | ⟨rfl, rfl, rfl⟩ | ⟨rfl, rfl, rfl⟩
          · go_wp2_with (first
              | (go_at_call 19; ((with_reducible refine (K1.out _).mono ?_); rintro e w5 ⟨rfl, hb5⟩; have H5 : Hid (All w w5 f t x y w1.heap.size w3.heap.size (w3.heap.size + 1) (w3.heap.size + 1 + 1)) := Lib.hid (All.step (All.step HA.out ((Below.refl _ _).alloc (Nat.le_refl _) _)) hb5); have C5 := Cel.step (Cel.new wr f x 24) hb5; obtain ⟨z5, p5, q5⟩ := C5; clear hb5))
              | (go_at_call 14; ((with_reducible refine (K8.out _).mono ?_); rintro e w6 ⟨rfl, hb6⟩; have H6 : Hid (All w w6 f t x y w1.heap.size w3.heap.size (w3.heap.size + 1) (w3.heap.size + 1 + 1)) := Lib.hid (All.step H5.out hb6); clear hb6)))
            go_roundg 2
            case measure => omega
            case rel => exact ⟨H6, .inr (.inl ⟨rfl, rfl, rfl⟩)⟩
          · go_wp2_with (first
              | (go_at_call 19; ((with_reducible refine (K2.out _).mono ?_); rintro e w5 ⟨rfl, hb5⟩; have H5 : Hid (All w w5 f t x y w1.heap.size w3.heap.size (w3.heap.size + 1) (w3.heap.size + 1 + 1)) := Lib.hid (All.step (All.step HA.out ((Below.refl _ _).alloc (Nat.le_refl _) _)) hb5); have C5 := Cel.step (Cel.new wr x y 24) hb5; obtain ⟨z5, p5, q5⟩ := C5; clear hb5))
              | (go_at_call 14; ((with_reducible refine (K9.out _).mono ?_); rintro e w6 ⟨rfl, hb6⟩; have H6 : Hid (All w w6 f t x y w1.heap.size w3.heap.size (w3.heap.size + 1) (w3.heap.size + 1 + 1)) := Lib.hid (All.step H5.out hb6); clear hb6)))
            go_roundg 1
            case measure => omega
            case rel => exact ⟨H6, .inr (.inr (.inl ⟨rfl, rfl, rfl⟩))⟩
          · go_wp2_with (first
              | (go_at_call 19; ((with_reducible refine (K3.out _).mono ?_); rintro e w5 ⟨rfl, hb5⟩; have H5 : Hid (All w w5 f t x y w1.heap.size w3.heap.size (w3.heap.size + 1) (w3.heap.size + 1 + 1)) := Lib.hid (All.step (All.step HA.out ((Below.refl _ _).alloc (Nat.le_refl _) _)) hb5); have C5 := Cel.step (Cel.new wr y t 24) hb5; obtain ⟨z5, p5, q5⟩ := C5; clear hb5))
              | (go_at_call 14; ((with_reducible refine (KX.out _).mono ?_); rintro e w6 ⟨rfl, hb6⟩; have H6 : Hid (All w w6 f t x y w1.heap.size w3.heap.size (w3.heap.size + 1) (w3.heap.size + 1 + 1)) := Lib.hid (All.step H5.out hb6); clear hb6)))
            go_roundg 0
            case measure => omega
            case rel => exact ⟨H6, .inr (.inr (.inr ⟨rfl, rfl, rfl⟩))⟩
          · have H7 := HA
            go_wp2_with (first
              | (go_at_call 21; ((with_reducible refine (K4.out _).mono ?_); rintro e w7 ⟨rfl, hb7⟩; have H7 : Hid (All w w7 f t x y w1.heap.size w3.heap.size (w3.heap.size + 1) (w3.heap.size + 1 + 1)) := Lib.hid (All.step (Hid.out (by assumption)) hb7); obtain ⟨⟨za, a0, a1⟩, ⟨zl, l0, l1⟩, ⟨zm, m0, m1⟩, ⟨zr, r0, r1⟩, _, hfin⟩ := H7.out; clear hb7))
              | (go_at_call 21; ((with_reducible refine (K5.out _).mono ?_); rintro e w7 ⟨rfl, hb7⟩; have H7 : Hid (All w w7 f t x y w1.heap.size w3.heap.size (w3.heap.size + 1) (w3.heap.size + 1 + 1)) := Lib.hid (All.step (Hid.out (by assumption)) hb7); obtain ⟨⟨za, a0, a1⟩, ⟨zl, l0, l1⟩, ⟨zm, m0, m1⟩, ⟨zr, r0, r1⟩, _, hfin⟩ := H7.out; clear hb7))
              | (go_at_call 21; ((with_reducible refine (K6.out _).mono ?_); rintro e w7 ⟨rfl, hb7⟩; have H7 : Hid (All w w7 f t x y w1.heap.size w3.heap.size (w3.heap.size + 1) (w3.heap.size + 1 + 1)) := Lib.hid (All.step (Hid.out (by assumption)) hb7); obtain ⟨⟨za, a0, a1⟩, ⟨zl, l0, l1⟩, ⟨zm, m0, m1⟩, ⟨zr, r0, r1⟩, _, hfin⟩ := H7.out; clear hb7))
              | (go_at_call 14; ((with_reducible refine (K7.out _).mono ?_); rintro e w7 ⟨rfl, hb7⟩; have H7 : Hid (All w w7 f t x y w1.heap.size w3.heap.size (w3.heap.size + 1) (w3.heap.size + 1 + 1)) := Lib.hid (All.step (Hid.out (by assumption)) hb7); obtain ⟨⟨za, a0, a1⟩, ⟨zl, l0, l1⟩, ⟨zm, m0, m1⟩, ⟨zr, r0, r1⟩, _, hfin⟩ := H7.out; clear hb7)))
            go_ret
            exact ⟨rfl, by assumption⟩
    · have hm2 : mayB x t y = false := by simpa using hm2
      rw [hm2] at cS2
      have C2 : Hid (∀ W, Calls Try.prog 12 #[.agg #[.int .u64 x, .int .u64 t], .int .u64 y] W fun e w' => e = .returned (.tuple #[.agg #[.int .u64 0, .int .u64 0], .agg #[.int .u64 0, .int .u64 0], .bool false]) ∧ Below W.heap.size W w') := cS2
      clear cS cS2 hf ht hx hy hp hm hm2
      go_enter Try.func10, Try.ntmps10
      go_wp2_with (first
        | (go_at_call 12; ((with_reducible refine (C1.out _).mono ?_); rintro e w1 ⟨rfl, hb1⟩; have hB1 : Below w.heap.size w w1 := (by first | exact acc (by assumption) hb1 | exact acc (accA (by assumption) _) hb1 | exact acc (accA (accA (by assumption) _) _) hb1 | exact acc (accA (accA (accA (by assumption) _) _) _) hb1); have K1a : Hid (Cel w1 (w.heap.size) (f) (t)) := (by first | exact Lib.hid (Cel.step (Hid.out (by assumption)) hb1) | exact Lib.hid (Cel.step (Cel.new _ _ _ _) hb1) | exact Lib.hid (Cel.step (Cel.alloc (Hid.out (by assumption)) _) hb1) | exact Lib.hid (Cel.step (Cel.alloc (Cel.new _ _ _ _) _) hb1) | exact Lib.hid (Cel.step (Cel.new1 _ _ _ _ _) hb1) | exact Lib.hid (Cel.step (Cel.alloc (Cel.alloc (Hid.out (by assumption)) _) _) hb1) | exact Lib.hid (Cel.step (Cel.alloc (Cel.new1 _ _ _ _ _) _) hb1) | exact Lib.hid (Cel.step (Cel.alloc (Cel.alloc (Cel.new _ _ _ _) _) _) hb1) | exact Lib.hid (Cel.step (Cel.new2 _ _ _ _ _ _) hb1)); obtain ⟨z1a, p1a, q1a⟩ := K1a.out; clear hb1))
        | (go_at_call 11; ((with_reducible refine (alive_any _).mono ?_); rintro e w2 ⟨rfl, hb2⟩; have hB2 : Below w.heap.size w w2 := (by first | exact acc (by assumption) hb2 | exact acc (accA (by assumption) _) hb2 | exact acc (accA (accA (by assumption) _) _) hb2 | exact acc (accA (accA (accA (by assumption) _) _) _) hb2); have K2a : Hid (Cel w2 (w.heap.size) (f) (t)) := (by first | exact Lib.hid (Cel.step (Hid.out (by assumption)) hb2) | exact Lib.hid (Cel.step (Cel.new _ _ _ _) hb2) | exact Lib.hid (Cel.step (Cel.alloc (Hid.out (by assumption)) _) hb2) | exact Lib.hid (Cel.step (Cel.alloc (Cel.new _ _ _ _) _) hb2) | exact Lib.hid (Cel.step (Cel.new1 _ _ _ _ _) hb2) | exact Lib.hid (Cel.step (Cel.alloc (Cel.alloc (Hid.out (by assumption)) _) _) hb2) | exact Lib.hid (Cel.step (Cel.alloc (Cel.new1 _ _ _ _ _) _) hb2) | exact Lib.hid (Cel.step (Cel.alloc (Cel.alloc (Cel.new _ _ _ _) _) _) hb2) | exact Lib.hid (Cel.step (Cel.new2 _ _ _ _ _ _) hb2)); obtain ⟨z2a, p2a, q2a⟩ := K2a.out; have K2b : Hid (Cel w2 (w1.heap.size) (f) (x)) := (by first | exact Lib.hid (Cel.step (Hid.out (by assumption)) hb2) | exact Lib.hid (Cel.step (Cel.new _ _ _ _) hb2) | exact Lib.hid (Cel.step (Cel.alloc (Hid.out (by assumption)) _) hb2) | exact Lib.hid (Cel.step (Cel.alloc (Cel.new _ _ _ _) _) hb2) | exact Lib.hid (Cel.step (Cel.new1 _ _ _ _ _) hb2) | exact Lib.hid (Cel.step (Cel.alloc (Cel.alloc (Hid.out (by assumption)) _) _) hb2) | exact Lib.hid (Cel.step (Cel.alloc (Cel.new1 _ _ _ _ _) _) hb2) | exact Lib.hid (Cel.step (Cel.alloc (Cel.alloc (Cel.new _ _ _ _) _) _) hb2) | exact Lib.hid (Cel.step (Cel.new2 _ _ _ _ _ _) hb2)); obtain ⟨z2b, p2b, q2b⟩ := K2b.out; have K2c : Hid (Cel w2 (w1.heap.size + 1) (x) (t)) := (by first | exact Lib.hid (Cel.step (Hid.out (by assumption)) hb2) | exact Lib.hid (Cel.step (Cel.new _ _ _ _) hb2) | exact Lib.hid (Cel.step (Cel.alloc (Hid.out (by assumption)) _) hb2) | exact Lib.hid (Cel.step (Cel.alloc (Cel.new _ _ _ _) _) hb2) | exact Lib.hid (Cel.step (Cel.new1 _ _ _ _ _) hb2) | exact Lib.hid (Cel.step (Cel.alloc (Cel.alloc (Hid.out (by assumption)) _) _) hb2) | exact Lib.hid (Cel.step (Cel.alloc (Cel.new1 _ _ _ _ _) _) hb2) | exact Lib.hid (Cel.step (Cel.alloc (Cel.alloc (Cel.new _ _ _ _) _) _) hb2) | exact Lib.hid (Cel.step (Cel.new2 _ _ _ _ _ _) hb2)); obtain ⟨z2c, p2c, q2c⟩ := K2c.out; clear hb2))
        | (go_at_call 12; ((with_reducible refine (C2.out _).mono ?_); rintro e w3 ⟨rfl, hb3⟩; have hB3 : Below w.heap.size w w3 := (by first | exact acc (by assumption) hb3 | exact acc (accA (by assumption) _) hb3 | exact acc (accA (accA (by assumption) _) _) hb3 | exact acc (accA (accA (accA (by assumption) _) _) _) hb3); have K3a : Hid (Cel w3 (w.heap.size) (f) (t)) := (by first | exact Lib.hid (Cel.step (Hid.out (by assumption)) hb3) | exact Lib.hid (Cel.step (Cel.new _ _ _ _) hb3) | exact Lib.hid (Cel.step (Cel.alloc (Hid.out (by assumption)) _) hb3) | exact Lib.hid (Cel.step (Cel.alloc (Cel.new _ _ _ _) _) hb3) | exact Lib.hid (Cel.step (Cel.new1 _ _ _ _ _) hb3) | exact Lib.hid (Cel.step (Cel.alloc (Cel.alloc (Hid.out (by assumption)) _) _) hb3) | exact Lib.hid (Cel.step (Cel.alloc (Cel.new1 _ _ _ _ _) _) hb3) | exact Lib.hid (Cel.step (Cel.alloc (Cel.alloc (Cel.new _ _ _ _) _) _) hb3) | exact Lib.hid (Cel.step (Cel.new2 _ _ _ _ _ _) hb3)); obtain ⟨z3a, p3a, q3a⟩ := K3a.out; have K3b : Hid (Cel w3 (w1.heap.size) (f) (x)) := (by first | exact Lib.hid (Cel.step (Hid.out (by assumption)) hb3) | exact Lib.hid (Cel.step (Cel.new _ _ _ _) hb3) | exact Lib.hid (Cel.step (Cel.alloc (Hid.out (by assumption)) _) hb3) | exact Lib.hid (Cel.step (Cel.alloc (Cel.new _ _ _ _) _) hb3) | exact Lib.hid (Cel.step (Cel.new1 _ _ _ _ _) hb3) | exact Lib.hid (Cel.step (Cel.alloc (Cel.alloc (Hid.out (by assumption)) _) _) hb3) | exact Lib.hid (Cel.step (Cel.alloc (Cel.new1 _ _ _ _ _) _) hb3) | exact Lib.hid (Cel.step (Cel.alloc (Cel.alloc (Cel.new _ _ _ _) _) _) hb3) | exact Lib.hid (Cel.step (Cel.new2 _ _ _ _ _ _) hb3)); obtain ⟨z3b, p3b, q3b⟩ := K3b.out; have K3c : Hid (Cel w3 (w1.heap.size + 1) (x) (t)) := (by first | exact Lib.hid (Cel.step (Hid.out (by assumption)) hb3) | exact Lib.hid (Cel.step (Cel.new _ _ _ _) hb3) | exact Lib.hid (Cel.step (Cel.alloc (Hid.out (by assumption)) _) hb3) | exact Lib.hid (Cel.step (Cel.alloc (Cel.new _ _ _ _) _) hb3) | exact Lib.hid (Cel.step (Cel.new1 _ _ _ _ _) hb3) | exact Lib.hid (Cel.step (Cel.alloc (Cel.alloc (Hid.out (by assumption)) _) _) hb3) | exact Lib.hid (Cel.step (Cel.alloc (Cel.new1 _ _ _ _ _) _) hb3) | exact Lib.hid (Cel.step (Cel.alloc (Cel.alloc (Cel.new _ _ _ _) _) _) hb3) | exact Lib.hid (Cel.step (Cel.new2 _ _ _ _ _ _) hb3)); obtain ⟨z3c, p3c, q3c⟩ := K3c.out; clear hb3)))
      go_ret
      exact ⟨rfl, by first | assumption | exact accA (accA (by assumption) _) _⟩
  · have hm : mayB f t x = false := by simpa using hm
    rw [hm] at cS
    have C1 : Hid (∀ W, Calls Try.prog 12 #[.agg #[.int .u64 f, .int .u64 t], .int .u64 x] W fun e w' => e = .returned (.tuple #[.agg #[.int .u64 0, .int .u64 0], .agg #[.int .u64 0, .int .u64 0], .bool false]) ∧ Below W.heap.size W w') := cS
    clear cS hf ht hx hy hp hm
    go_enter Try.func10, Try.ntmps10
    go_wp2_with (first
      | (go_at_call 12; ((with_reducible refine (C1.out _).mono ?_); rintro e w1 ⟨rfl, hb1⟩; have hB1 : Below w.heap.size w w1 := (by first | exact acc (by assumption) hb1 | exact acc (accA (by assumption) _) hb1 | exact acc (accA (accA (by assumption) _) _) hb1 | exact acc (accA (accA (accA (by assumption) _) _) _) hb1); clear hb1))
      | (go_at_call 11; ((with_reducible refine (alive_any _).mono ?_); rintro e w2 ⟨rfl, hb2⟩; have hB2 : Below w.heap.size w w2 := (by first | exact acc (by assumption) hb2 | exact acc (accA (by assumption) _) hb2 | exact acc (accA (accA (by assumption) _) _) hb2 | exact acc (accA (accA (accA (by assumption) _) _) _) hb2); clear hb2)))
    go_ret
    exact ⟨rfl, by assumption⟩
end Go.Proofs.Ytfddheioganmfaa
