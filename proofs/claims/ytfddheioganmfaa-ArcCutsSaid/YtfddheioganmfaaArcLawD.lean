/-
  The walk of the statement ArcCuts of chapter 2.
-/
import Derived.Test.YtfddheioganmfaaArcKeep
import Derived.Deep.RegionHeld3
import Derived.Deep.DeepCutAuto
namespace Go.Proofs.Ytfddheioganmfaa
open Go.RowKit

set_option maxHeartbeats 6400000 in
theorem arcCuts_walk (f t x y : Nat) (w : World) (hf : f < 18446744073709551616) (ht : t < 18446744073709551616) (hx : x < 18446744073709551616) (hy : y < 18446744073709551616) :
    Calls Try.prog 5 #[.agg #[.int .u64 f, .int .u64 t], .int .u64 x, .int .u64 y] w fun e w' => e = .returned (.bool true) ∧ Below w.heap.size w w' := by
  have hB0 : Below w.heap.size w w := Below.refl _ _
  have cS := fun W => split_any f t x W hf ht hx
  by_cases hm : mayB f t x = true
  · rw [hm] at cS
    have C1 : Hid (∀ W, Calls Try.prog 12 #[.agg #[.int .u64 f, .int .u64 t], .int .u64 x] W fun e w' => e = .returned (.tuple #[.agg #[.int .u64 f, .int .u64 x], .agg #[.int .u64 x, .int .u64 t], .bool true]) ∧ Below W.heap.size W w') := cS
    have hm' : x ≠ f ∧ inB f t x = true := by simpa [mayB] using hm
    obtain ⟨hap, hw1, hw2⟩ := cut_apart hf ht hx hm'.1 hm'.2
    have cJ := fun W => join_any f x x t W hf hx hx ht
    have hj : joinB f x x t = true := by simp [joinB, hap]
    rw [hj] at cJ
    have C2 : Hid (∀ W, Calls Try.prog 17 #[.agg #[.int .u64 f, .int .u64 x], .agg #[.int .u64 x, .int .u64 t]] W fun e w' => e = .returned (.tuple #[.agg #[.int .u64 f, .int .u64 t], .bool true]) ∧ Below W.heap.size W w') := cJ
    have cW := fun W => whole_any f t W
    have cA := fun W => apart_any f x x t W hf hx hx ht
    rw [hap] at cA
    have C4 := Lib.hid cA
    have cI := fun W => in_any f t y W hf ht hy
    rw [join_in hf hx ht hy hap] at cI
    have C5 := Lib.hid (fun W => in_any f x y W hf hx hy)
    have C6 := Lib.hid (fun W => in_any x t y W hx ht hy)
    have C7 := Lib.hid cI
    have hT := fun h => apart_in hf hx hx ht hy hap h
    have c8 := fun W => within_any f t f x W hf ht hf hx
    have c9 := fun W => within_any f t x t W hf ht hx ht
    rw [hw1] at c8
    rw [hw2] at c9
    have C8 := Lib.hid c8
    have C9 := Lib.hid c9
    have CA := Lib.hid (fun W => size_any f x W hf hx)
    have CB := Lib.hid (fun W => size_any x t W hx ht)
    have CC := Lib.hid (fun W => size_any f t W hf ht)
    have E := Lib.hid ((add_u64 (sub64_lt x f) (sub64_lt t x)).trans (congrArg Int.ofNat (size_add hf ht hx)))
    clear cS cJ cA cI c8 c9 hf ht hx hy hap hw1 hw2 hj hm hm'
    generalize inB f x y = p at *
    generalize inB x t y = q at *
    generalize sub64 x f = s1 at *
    generalize sub64 t x = s2 at *
    generalize sub64 t f = s3 at *
    have C3 := Lib.hid cW
    generalize (f == t) = wh at *
    clear cW
    have HT := Lib.hid hT
    clear hT
    go_enter Try.func5, Try.ntmps5
    go_upto_region 8 with (first
      | (go_at_call 12; ((with_reducible refine (C1.out _).mono ?_); rintro e w1 ⟨rfl, hb1⟩; have hB1 : Below w.heap.size w w1 := (by first | exact acc (by assumption) hb1 | exact acc (accA (by assumption) _) hb1 | exact acc (accA (accA (by assumption) _) _) hb1 | exact acc (accA (accA (accA (by assumption) _) _) _) hb1); have K1a : Hid (Cel w1 (w.heap.size) (f) (t)) := (by first | exact Lib.hid (Cel.step (Hid.out (by assumption)) hb1) | exact Lib.hid (Cel.step (Cel.new _ _ _ _) hb1) | exact Lib.hid (Cel.step (Cel.alloc (Hid.out (by assumption)) _) hb1) | exact Lib.hid (Cel.step (Cel.alloc (Cel.new _ _ _ _) _) hb1) | exact Lib.hid (Cel.step (Cel.new1 _ _ _ _ _) hb1) | exact Lib.hid (Cel.step (Cel.alloc (Cel.alloc (Hid.out (by assumption)) _) _) hb1) | exact Lib.hid (Cel.step (Cel.alloc (Cel.new1 _ _ _ _ _) _) hb1) | exact Lib.hid (Cel.step (Cel.alloc (Cel.alloc (Cel.new _ _ _ _) _) _) hb1) | exact Lib.hid (Cel.step (Cel.new2 _ _ _ _ _ _) hb1)); obtain ⟨z1a, p1a, q1a⟩ := K1a.out; clear hb1))
      | (go_at_call 11; ((with_reducible refine (alive_any _).mono ?_); rintro e w2 ⟨rfl, hb2⟩; have hB2 : Below w.heap.size w w2 := (by first | exact acc (by assumption) hb2 | exact acc (accA (by assumption) _) hb2 | exact acc (accA (accA (by assumption) _) _) hb2 | exact acc (accA (accA (accA (by assumption) _) _) _) hb2); have K2a : Hid (Cel w2 (w.heap.size) (f) (t)) := (by first | exact Lib.hid (Cel.step (Hid.out (by assumption)) hb2) | exact Lib.hid (Cel.step (Cel.new _ _ _ _) hb2) | exact Lib.hid (Cel.step (Cel.alloc (Hid.out (by assumption)) _) hb2) | exact Lib.hid (Cel.step (Cel.alloc (Cel.new _ _ _ _) _) hb2) | exact Lib.hid (Cel.step (Cel.new1 _ _ _ _ _) hb2) | exact Lib.hid (Cel.step (Cel.alloc (Cel.alloc (Hid.out (by assumption)) _) _) hb2) | exact Lib.hid (Cel.step (Cel.alloc (Cel.new1 _ _ _ _ _) _) hb2) | exact Lib.hid (Cel.step (Cel.alloc (Cel.alloc (Cel.new _ _ _ _) _) _) hb2) | exact Lib.hid (Cel.step (Cel.new2 _ _ _ _ _ _) hb2)); obtain ⟨z2a, p2a, q2a⟩ := K2a.out; have K2b : Hid (Cel w2 (w1.heap.size) (f) (x)) := (by first | exact Lib.hid (Cel.step (Hid.out (by assumption)) hb2) | exact Lib.hid (Cel.step (Cel.new _ _ _ _) hb2) | exact Lib.hid (Cel.step (Cel.alloc (Hid.out (by assumption)) _) hb2) | exact Lib.hid (Cel.step (Cel.alloc (Cel.new _ _ _ _) _) hb2) | exact Lib.hid (Cel.step (Cel.new1 _ _ _ _ _) hb2) | exact Lib.hid (Cel.step (Cel.alloc (Cel.alloc (Hid.out (by assumption)) _) _) hb2) | exact Lib.hid (Cel.step (Cel.alloc (Cel.new1 _ _ _ _ _) _) hb2) | exact Lib.hid (Cel.step (Cel.alloc (Cel.alloc (Cel.new _ _ _ _) _) _) hb2) | exact Lib.hid (Cel.step (Cel.new2 _ _ _ _ _ _) hb2)); obtain ⟨z2b, p2b, q2b⟩ := K2b.out; have K2c : Hid (Cel w2 (w1.heap.size + 1) (x) (t)) := (by first | exact Lib.hid (Cel.step (Hid.out (by assumption)) hb2) | exact Lib.hid (Cel.step (Cel.new _ _ _ _) hb2) | exact Lib.hid (Cel.step (Cel.alloc (Hid.out (by assumption)) _) hb2) | exact Lib.hid (Cel.step (Cel.alloc (Cel.new _ _ _ _) _) hb2) | exact Lib.hid (Cel.step (Cel.new1 _ _ _ _ _) hb2) | exact Lib.hid (Cel.step (Cel.alloc (Cel.alloc (Hid.out (by assumption)) _) _) hb2) | exact Lib.hid (Cel.step (Cel.alloc (Cel.new1 _ _ _ _ _) _) hb2) | exact Lib.hid (Cel.step (Cel.alloc (Cel.alloc (Cel.new _ _ _ _) _) _) hb2) | exact Lib.hid (Cel.step (Cel.new2 _ _ _ _ _ _) hb2)); obtain ⟨z2c, p2c, q2c⟩ := K2c.out; clear hb2))
      | (go_at_call 17; ((with_reducible refine (C2.out _).mono ?_); rintro e w3 ⟨rfl, hb3⟩; have hB3 : Below w.heap.size w w3 := (by first | exact acc (by assumption) hb3 | exact acc (accA (by assumption) _) hb3 | exact acc (accA (accA (by assumption) _) _) hb3 | exact acc (accA (accA (accA (by assumption) _) _) _) hb3); have K3a : Hid (Cel w3 (w.heap.size) (f) (t)) := (by first | exact Lib.hid (Cel.step (Hid.out (by assumption)) hb3) | exact Lib.hid (Cel.step (Cel.new _ _ _ _) hb3) | exact Lib.hid (Cel.step (Cel.alloc (Hid.out (by assumption)) _) hb3) | exact Lib.hid (Cel.step (Cel.alloc (Cel.new _ _ _ _) _) hb3) | exact Lib.hid (Cel.step (Cel.new1 _ _ _ _ _) hb3) | exact Lib.hid (Cel.step (Cel.alloc (Cel.alloc (Hid.out (by assumption)) _) _) hb3) | exact Lib.hid (Cel.step (Cel.alloc (Cel.new1 _ _ _ _ _) _) hb3) | exact Lib.hid (Cel.step (Cel.alloc (Cel.alloc (Cel.new _ _ _ _) _) _) hb3) | exact Lib.hid (Cel.step (Cel.new2 _ _ _ _ _ _) hb3)); obtain ⟨z3a, p3a, q3a⟩ := K3a.out; have K3b : Hid (Cel w3 (w1.heap.size) (f) (x)) := (by first | exact Lib.hid (Cel.step (Hid.out (by assumption)) hb3) | exact Lib.hid (Cel.step (Cel.new _ _ _ _) hb3) | exact Lib.hid (Cel.step (Cel.alloc (Hid.out (by assumption)) _) hb3) | exact Lib.hid (Cel.step (Cel.alloc (Cel.new _ _ _ _) _) hb3) | exact Lib.hid (Cel.step (Cel.new1 _ _ _ _ _) hb3) | exact Lib.hid (Cel.step (Cel.alloc (Cel.alloc (Hid.out (by assumption)) _) _) hb3) | exact Lib.hid (Cel.step (Cel.alloc (Cel.new1 _ _ _ _ _) _) hb3) | exact Lib.hid (Cel.step (Cel.alloc (Cel.alloc (Cel.new _ _ _ _) _) _) hb3) | exact Lib.hid (Cel.step (Cel.new2 _ _ _ _ _ _) hb3)); obtain ⟨z3b, p3b, q3b⟩ := K3b.out; have K3c : Hid (Cel w3 (w1.heap.size + 1) (x) (t)) := (by first | exact Lib.hid (Cel.step (Hid.out (by assumption)) hb3) | exact Lib.hid (Cel.step (Cel.new _ _ _ _) hb3) | exact Lib.hid (Cel.step (Cel.alloc (Hid.out (by assumption)) _) hb3) | exact Lib.hid (Cel.step (Cel.alloc (Cel.new _ _ _ _) _) hb3) | exact Lib.hid (Cel.step (Cel.new1 _ _ _ _ _) hb3) | exact Lib.hid (Cel.step (Cel.alloc (Cel.alloc (Hid.out (by assumption)) _) _) hb3) | exact Lib.hid (Cel.step (Cel.alloc (Cel.new1 _ _ _ _ _) _) hb3) | exact Lib.hid (Cel.step (Cel.alloc (Cel.alloc (Cel.new _ _ _ _) _) _) hb3) | exact Lib.hid (Cel.step (Cel.new2 _ _ _ _ _ _) hb3)); obtain ⟨z3c, p3c, q3c⟩ := K3c.out; clear hb3))
      | (go_at_call 15; ((with_reducible refine (C3.out _).mono ?_); rintro e w4 ⟨rfl, hb4⟩; have hB4 : Below w.heap.size w w4 := (by first | exact acc (by assumption) hb4 | exact acc (accA (by assumption) _) hb4 | exact acc (accA (accA (by assumption) _) _) hb4 | exact acc (accA (accA (accA (by assumption) _) _) _) hb4); have K4a : Hid (Cel w4 (w.heap.size) (f) (t)) := (by first | exact Lib.hid (Cel.step (Hid.out (by assumption)) hb4) | exact Lib.hid (Cel.step (Cel.new _ _ _ _) hb4) | exact Lib.hid (Cel.step (Cel.alloc (Hid.out (by assumption)) _) hb4) | exact Lib.hid (Cel.step (Cel.alloc (Cel.new _ _ _ _) _) hb4) | exact Lib.hid (Cel.step (Cel.new1 _ _ _ _ _) hb4) | exact Lib.hid (Cel.step (Cel.alloc (Cel.alloc (Hid.out (by assumption)) _) _) hb4) | exact Lib.hid (Cel.step (Cel.alloc (Cel.new1 _ _ _ _ _) _) hb4) | exact Lib.hid (Cel.step (Cel.alloc (Cel.alloc (Cel.new _ _ _ _) _) _) hb4) | exact Lib.hid (Cel.step (Cel.new2 _ _ _ _ _ _) hb4)); obtain ⟨z4a, p4a, q4a⟩ := K4a.out; have K4b : Hid (Cel w4 (w1.heap.size) (f) (x)) := (by first | exact Lib.hid (Cel.step (Hid.out (by assumption)) hb4) | exact Lib.hid (Cel.step (Cel.new _ _ _ _) hb4) | exact Lib.hid (Cel.step (Cel.alloc (Hid.out (by assumption)) _) hb4) | exact Lib.hid (Cel.step (Cel.alloc (Cel.new _ _ _ _) _) hb4) | exact Lib.hid (Cel.step (Cel.new1 _ _ _ _ _) hb4) | exact Lib.hid (Cel.step (Cel.alloc (Cel.alloc (Hid.out (by assumption)) _) _) hb4) | exact Lib.hid (Cel.step (Cel.alloc (Cel.new1 _ _ _ _ _) _) hb4) | exact Lib.hid (Cel.step (Cel.alloc (Cel.alloc (Cel.new _ _ _ _) _) _) hb4) | exact Lib.hid (Cel.step (Cel.new2 _ _ _ _ _ _) hb4)); obtain ⟨z4b, p4b, q4b⟩ := K4b.out; have K4c : Hid (Cel w4 (w1.heap.size + 1) (x) (t)) := (by first | exact Lib.hid (Cel.step (Hid.out (by assumption)) hb4) | exact Lib.hid (Cel.step (Cel.new _ _ _ _) hb4) | exact Lib.hid (Cel.step (Cel.alloc (Hid.out (by assumption)) _) hb4) | exact Lib.hid (Cel.step (Cel.alloc (Cel.new _ _ _ _) _) hb4) | exact Lib.hid (Cel.step (Cel.new1 _ _ _ _ _) hb4) | exact Lib.hid (Cel.step (Cel.alloc (Cel.alloc (Hid.out (by assumption)) _) _) hb4) | exact Lib.hid (Cel.step (Cel.alloc (Cel.new1 _ _ _ _ _) _) hb4) | exact Lib.hid (Cel.step (Cel.alloc (Cel.alloc (Cel.new _ _ _ _) _) _) hb4) | exact Lib.hid (Cel.step (Cel.new2 _ _ _ _ _ _) hb4)); obtain ⟨z4c, p4c, q4c⟩ := K4c.out; have K4d : Hid (Cel w4 (w3.heap.size) (f) (t)) := (by first | exact Lib.hid (Cel.step (Hid.out (by assumption)) hb4) | exact Lib.hid (Cel.step (Cel.new _ _ _ _) hb4) | exact Lib.hid (Cel.step (Cel.alloc (Hid.out (by assumption)) _) hb4) | exact Lib.hid (Cel.step (Cel.alloc (Cel.new _ _ _ _) _) hb4) | exact Lib.hid (Cel.step (Cel.new1 _ _ _ _ _) hb4) | exact Lib.hid (Cel.step (Cel.alloc (Cel.alloc (Hid.out (by assumption)) _) _) hb4) | exact Lib.hid (Cel.step (Cel.alloc (Cel.new1 _ _ _ _ _) _) hb4) | exact Lib.hid (Cel.step (Cel.alloc (Cel.alloc (Cel.new _ _ _ _) _) _) hb4) | exact Lib.hid (Cel.step (Cel.new2 _ _ _ _ _ _) hb4)); obtain ⟨z4d, p4d, q4d⟩ := K4d.out; clear hb4))
      | (go_at_call 21; ((with_reducible refine (C4.out _).mono ?_); rintro e w5 ⟨rfl, hb5⟩; have hB5 : Below w.heap.size w w5 := (by first | exact acc (by assumption) hb5 | exact acc (accA (by assumption) _) hb5 | exact acc (accA (accA (by assumption) _) _) hb5 | exact acc (accA (accA (accA (by assumption) _) _) _) hb5); have K5a : Hid (Cel w5 (w.heap.size) (f) (t)) := (by first | exact Lib.hid (Cel.step (Hid.out (by assumption)) hb5) | exact Lib.hid (Cel.step (Cel.new _ _ _ _) hb5) | exact Lib.hid (Cel.step (Cel.alloc (Hid.out (by assumption)) _) hb5) | exact Lib.hid (Cel.step (Cel.alloc (Cel.new _ _ _ _) _) hb5) | exact Lib.hid (Cel.step (Cel.new1 _ _ _ _ _) hb5) | exact Lib.hid (Cel.step (Cel.alloc (Cel.alloc (Hid.out (by assumption)) _) _) hb5) | exact Lib.hid (Cel.step (Cel.alloc (Cel.new1 _ _ _ _ _) _) hb5) | exact Lib.hid (Cel.step (Cel.alloc (Cel.alloc (Cel.new _ _ _ _) _) _) hb5) | exact Lib.hid (Cel.step (Cel.new2 _ _ _ _ _ _) hb5)); obtain ⟨z5a, p5a, q5a⟩ := K5a.out; have K5b : Hid (Cel w5 (w1.heap.size) (f) (x)) := (by first | exact Lib.hid (Cel.step (Hid.out (by assumption)) hb5) | exact Lib.hid (Cel.step (Cel.new _ _ _ _) hb5) | exact Lib.hid (Cel.step (Cel.alloc (Hid.out (by assumption)) _) hb5) | exact Lib.hid (Cel.step (Cel.alloc (Cel.new _ _ _ _) _) hb5) | exact Lib.hid (Cel.step (Cel.new1 _ _ _ _ _) hb5) | exact Lib.hid (Cel.step (Cel.alloc (Cel.alloc (Hid.out (by assumption)) _) _) hb5) | exact Lib.hid (Cel.step (Cel.alloc (Cel.new1 _ _ _ _ _) _) hb5) | exact Lib.hid (Cel.step (Cel.alloc (Cel.alloc (Cel.new _ _ _ _) _) _) hb5) | exact Lib.hid (Cel.step (Cel.new2 _ _ _ _ _ _) hb5)); obtain ⟨z5b, p5b, q5b⟩ := K5b.out; have K5c : Hid (Cel w5 (w1.heap.size + 1) (x) (t)) := (by first | exact Lib.hid (Cel.step (Hid.out (by assumption)) hb5) | exact Lib.hid (Cel.step (Cel.new _ _ _ _) hb5) | exact Lib.hid (Cel.step (Cel.alloc (Hid.out (by assumption)) _) hb5) | exact Lib.hid (Cel.step (Cel.alloc (Cel.new _ _ _ _) _) hb5) | exact Lib.hid (Cel.step (Cel.new1 _ _ _ _ _) hb5) | exact Lib.hid (Cel.step (Cel.alloc (Cel.alloc (Hid.out (by assumption)) _) _) hb5) | exact Lib.hid (Cel.step (Cel.alloc (Cel.new1 _ _ _ _ _) _) hb5) | exact Lib.hid (Cel.step (Cel.alloc (Cel.alloc (Cel.new _ _ _ _) _) _) hb5) | exact Lib.hid (Cel.step (Cel.new2 _ _ _ _ _ _) hb5)); obtain ⟨z5c, p5c, q5c⟩ := K5c.out; have K5d : Hid (Cel w5 (w3.heap.size) (f) (t)) := (by first | exact Lib.hid (Cel.step (Hid.out (by assumption)) hb5) | exact Lib.hid (Cel.step (Cel.new _ _ _ _) hb5) | exact Lib.hid (Cel.step (Cel.alloc (Hid.out (by assumption)) _) hb5) | exact Lib.hid (Cel.step (Cel.alloc (Cel.new _ _ _ _) _) hb5) | exact Lib.hid (Cel.step (Cel.new1 _ _ _ _ _) hb5) | exact Lib.hid (Cel.step (Cel.alloc (Cel.alloc (Hid.out (by assumption)) _) _) hb5) | exact Lib.hid (Cel.step (Cel.alloc (Cel.new1 _ _ _ _ _) _) hb5) | exact Lib.hid (Cel.step (Cel.alloc (Cel.alloc (Cel.new _ _ _ _) _) _) hb5) | exact Lib.hid (Cel.step (Cel.new2 _ _ _ _ _ _) hb5)); obtain ⟨z5d, p5d, q5d⟩ := K5d.out; clear hb5)))
    have hB' := hB5
    have zA0 : w.heap.size < w5.heap.size := z5a
    have g00 : w5.cell? ⟨w.heap.size, 0, none⟩ = some (.int .u64 (f : Nat)) := p5a
    have g01 : w5.cell? ⟨w.heap.size, 1, none⟩ = some (.int .u64 (t : Nat)) := q5a
    have zA1 : w1.heap.size < w5.heap.size := z5b
    have g10 : w5.cell? ⟨w1.heap.size, 0, none⟩ = some (.int .u64 (f : Nat)) := p5b
    have g11 : w5.cell? ⟨w1.heap.size, 1, none⟩ = some (.int .u64 (x : Nat)) := q5b
    have zA2 : w1.heap.size + 1 < w5.heap.size := z5c
    have g20 : w5.cell? ⟨w1.heap.size + 1, 0, none⟩ = some (.int .u64 (x : Nat)) := p5c
    have g21 : w5.cell? ⟨w1.heap.size + 1, 1, none⟩ = some (.int .u64 (t : Nat)) := q5c
    have HSS := Lib.hid (keep6 zA0 g00 g01 zA1 g10 g11 zA2 g20 g21)
    clear g00 g01 g10 g11 g20 g21
    clear hB0 hB1 hB2 hB3 hB4
    have e := E.out
    have hT := HT.out
    cases p <;> cases q <;> first | (exfalso; simp at hT; done) | skip
    all_goals clear hT HT
    · cases wh
      ·
        refine wp_region_held_drew (S := (fun w' => Below w5.heap.size w5 w' ∧ (w'.cell? ⟨w.heap.size, 0, none⟩ = some (.int .u64 (f : Nat)) ∧ w'.cell? ⟨w.heap.size, 1, none⟩ = some (.int .u64 (t : Nat)) ∧ w'.cell? ⟨w1.heap.size, 0, none⟩ = some (.int .u64 (f : Nat)) ∧ w'.cell? ⟨w1.heap.size, 1, none⟩ = some (.int .u64 (x : Nat)) ∧ w'.cell? ⟨w1.heap.size + 1, 0, none⟩ = some (.int .u64 (x : Nat)) ∧ w'.cell? ⟨w1.heap.size + 1, 1, none⟩ = some (.int .u64 (t : Nat))))) (by kernel_rfl) ?_ (fun hHeld => ?_)
        · (try dsimp only); (first | assumption | exact HSS.out _ ((Below.refl _ _).drew) | exact keep_step HSS.out (by assumption) (by assumption))
        refine wpAnyH_take (i := 0) (oi := ⟨_, _, _, _, _, _⟩) (v := ?_) rfl (by kernel_rfl) (by kernel_rfl) (by kernel_rfl) (fun _ _ _ h => h) (Or.inl ⟨by rfl, ?_⟩) (by assumption) ?_
        rotate_left
        · (intro wS hSw; (try dsimp only at hSw); go_simp <;> with_reducible rfl)
        try simp only [Act.put, List.setIfInBounds_toArray, List.set_cons_zero, List.set_cons_succ]
        refine wpAnyH_take (i := 1) (oi := ⟨_, _, _, _, _, _⟩) (v := ?_) rfl (by kernel_rfl) (by kernel_rfl) (by kernel_rfl) (fun _ _ _ h => h) (Or.inl ⟨by rfl, ?_⟩) (by assumption) ?_
        rotate_left
        · (intro wS hSw; (try dsimp only at hSw); go_simp <;> with_reducible rfl)
        try simp only [Act.put, List.setIfInBounds_toArray, List.set_cons_zero, List.set_cons_succ]
        refine wpAnyH_take (i := 8) (oi := ⟨_, _, _, _, _, _⟩) (v := ?_) rfl (by kernel_rfl) (by kernel_rfl) (by kernel_rfl) (fun _ _ _ h => h) (Or.inl ⟨by rfl, ?_⟩) (by assumption) ?_
        rotate_left
        · (intro wS hSw; (try dsimp only at hSw); go_simp <;> with_reducible rfl)
        try simp only [Act.put, List.setIfInBounds_toArray, List.set_cons_zero, List.set_cons_succ]
        refine wpAnyH_take (i := 9) (oi := ⟨_, _, _, _, _, _⟩) (v := ?_) rfl (by kernel_rfl) (by kernel_rfl) (by kernel_rfl) (fun _ _ _ h => h) (Or.inl ⟨by rfl, ?_⟩) (by assumption) ?_
        rotate_left
        · (intro wS hSw; (try dsimp only at hSw); go_simp <;> with_reducible rfl)
        try simp only [Act.put, List.setIfInBounds_toArray, List.set_cons_zero, List.set_cons_succ]
        refine wpAnyH_ready (rs := [2]) (by kernel_rfl) (by simp) ?_
        refine AllReadyH.cons (o := ⟨_, _, _, _, _, _⟩) rfl (fun K hK => ?_) AllReadyH.nil
        go_simp
        (first | (go_at_call 14; (with_reducible refine (C5.out _).mono ?_); rintro e w9 ⟨rfl, hb9⟩) | (go_at_call 14; (with_reducible refine (C6.out _).mono ?_); rintro e w9 ⟨rfl, hb9⟩) | (go_at_call 14; (with_reducible refine (C7.out _).mono ?_); rintro e w9 ⟨rfl, hb9⟩) | (go_at_call 19; (with_reducible refine (C8.out _).mono ?_); rintro e w9 ⟨rfl, hb9⟩) | (go_at_call 19; (with_reducible refine (C9.out _).mono ?_); rintro e w9 ⟨rfl, hb9⟩) | (go_at_call 16; (with_reducible refine (CA.out _).mono ?_); rintro e w9 ⟨rfl, hb9⟩) | (go_at_call 16; (with_reducible refine (CB.out _).mono ?_); rintro e w9 ⟨rfl, hb9⟩) | (go_at_call 16; (with_reducible refine (CC.out _).mono ?_); rintro e w9 ⟨rfl, hb9⟩))
        go_wp2_with fail
        refine hK.out _ _ (by (try dsimp only); (first | assumption | exact HSS.out _ ((Below.refl _ _).drew) | exact keep_step HSS.out (by assumption) (by assumption))) (fun hHeld => ?_)
        clear hK K
        try simp only [Act.put, List.setIfInBounds_toArray, List.set_cons_zero, List.set_cons_succ]
        refine wpAnyH_take (i := 3) (oi := ⟨_, _, _, _, _, _⟩) (v := ?_) rfl (by kernel_rfl) (by kernel_rfl) (by kernel_rfl) (fun _ _ _ h => h) (Or.inl ⟨by rfl, ?_⟩) (by assumption) ?_
        rotate_left
        · (intro wS hSw; (try dsimp only at hSw); go_simp <;> with_reducible rfl)
        try simp only [Act.put, List.setIfInBounds_toArray, List.set_cons_zero, List.set_cons_succ]
        refine wpAnyH_take (i := 4) (oi := ⟨_, _, _, _, _, _⟩) (v := ?_) rfl (by kernel_rfl) (by kernel_rfl) (by kernel_rfl) (fun _ _ _ h => h) (Or.inl ⟨by rfl, ?_⟩) (by assumption) ?_
        rotate_left
        · (intro wS hSw; (try dsimp only at hSw); go_simp <;> with_reducible rfl)
        try simp only [Act.put, List.setIfInBounds_toArray, List.set_cons_zero, List.set_cons_succ]
        refine wpAnyH_take (i := 5) (oi := ⟨_, _, _, _, _, _⟩) (v := ?_) rfl (by kernel_rfl) (by kernel_rfl) (by kernel_rfl) (fun _ _ _ h => h) (Or.inl ⟨by rfl, ?_⟩) (by assumption) ?_
        rotate_left
        · (intro wS hSw; (try dsimp only at hSw); go_simp <;> with_reducible rfl)
        try simp only [Act.put, List.setIfInBounds_toArray, List.set_cons_zero, List.set_cons_succ]
        refine wpAnyH_ready (rs := [6]) (by kernel_rfl) (by simp) ?_
        refine AllReadyH.cons (o := ⟨_, _, _, _, _, _⟩) rfl (fun K hK => ?_) AllReadyH.nil
        go_simp
        (first | (go_at_call 14; (with_reducible refine (C5.out _).mono ?_); rintro e w9 ⟨rfl, hb9⟩) | (go_at_call 14; (with_reducible refine (C6.out _).mono ?_); rintro e w9 ⟨rfl, hb9⟩) | (go_at_call 14; (with_reducible refine (C7.out _).mono ?_); rintro e w9 ⟨rfl, hb9⟩) | (go_at_call 19; (with_reducible refine (C8.out _).mono ?_); rintro e w9 ⟨rfl, hb9⟩) | (go_at_call 19; (with_reducible refine (C9.out _).mono ?_); rintro e w9 ⟨rfl, hb9⟩) | (go_at_call 16; (with_reducible refine (CA.out _).mono ?_); rintro e w9 ⟨rfl, hb9⟩) | (go_at_call 16; (with_reducible refine (CB.out _).mono ?_); rintro e w9 ⟨rfl, hb9⟩) | (go_at_call 16; (with_reducible refine (CC.out _).mono ?_); rintro e w9 ⟨rfl, hb9⟩))
        go_wp2_with fail
        refine hK.out _ _ (by (try dsimp only); (first | assumption | exact HSS.out _ ((Below.refl _ _).drew) | exact keep_step HSS.out (by assumption) (by assumption))) (fun hHeld => ?_)
        clear hK K
        try simp only [Act.put, List.setIfInBounds_toArray, List.set_cons_zero, List.set_cons_succ]
        refine wpAnyH_take (i := 7) (oi := ⟨_, _, _, _, _, _⟩) (v := ?_) rfl (by kernel_rfl) (by kernel_rfl) (by kernel_rfl) (fun _ _ _ h => h) (Or.inl ⟨by rfl, ?_⟩) (by assumption) ?_
        rotate_left
        · (intro wS hSw; (try dsimp only at hSw); go_simp <;> with_reducible rfl)
        try simp only [Act.put, List.setIfInBounds_toArray, List.set_cons_zero, List.set_cons_succ]
        refine wpAnyH_ready (rs := [10]) (by kernel_rfl) (by simp) ?_
        refine AllReadyH.cons (o := ⟨_, _, _, _, _, _⟩) rfl (fun K hK => ?_) AllReadyH.nil
        go_simp
        (first | (go_at_call 14; (with_reducible refine (C5.out _).mono ?_); rintro e w9 ⟨rfl, hb9⟩) | (go_at_call 14; (with_reducible refine (C6.out _).mono ?_); rintro e w9 ⟨rfl, hb9⟩) | (go_at_call 14; (with_reducible refine (C7.out _).mono ?_); rintro e w9 ⟨rfl, hb9⟩) | (go_at_call 19; (with_reducible refine (C8.out _).mono ?_); rintro e w9 ⟨rfl, hb9⟩) | (go_at_call 19; (with_reducible refine (C9.out _).mono ?_); rintro e w9 ⟨rfl, hb9⟩) | (go_at_call 16; (with_reducible refine (CA.out _).mono ?_); rintro e w9 ⟨rfl, hb9⟩) | (go_at_call 16; (with_reducible refine (CB.out _).mono ?_); rintro e w9 ⟨rfl, hb9⟩) | (go_at_call 16; (with_reducible refine (CC.out _).mono ?_); rintro e w9 ⟨rfl, hb9⟩))
        go_wp2_with fail
        refine hK.out _ _ (by (try dsimp only); (first | assumption | exact HSS.out _ ((Below.refl _ _).drew) | exact keep_step HSS.out (by assumption) (by assumption))) (fun hHeld => ?_)
        clear hK K
        try simp only [Act.put, List.setIfInBounds_toArray, List.set_cons_zero, List.set_cons_succ]
        refine wpAnyH_take (i := 11) (oi := ⟨_, _, _, _, _, _⟩) (v := ?_) rfl (by kernel_rfl) (by kernel_rfl) (by kernel_rfl) (fun _ _ _ h => h) (Or.inl ⟨by rfl, ?_⟩) (by assumption) ?_
        rotate_left
        · (intro wS hSw; (try dsimp only at hSw); go_simp <;> with_reducible rfl)
        try simp only [Act.put, List.setIfInBounds_toArray, List.set_cons_zero, List.set_cons_succ]
        refine wpAnyH_take (i := 12) (oi := ⟨_, _, _, _, _, _⟩) (v := ?_) rfl (by kernel_rfl) (by kernel_rfl) (by kernel_rfl) (fun _ _ _ h => h) (Or.inl ⟨by rfl, ?_⟩) (by assumption) ?_
        rotate_left
        · (intro wS hSw; (try dsimp only at hSw); go_simp <;> with_reducible rfl)
        try simp only [Act.put, List.setIfInBounds_toArray, List.set_cons_zero, List.set_cons_succ]
        refine wpAnyH_take (i := 13) (oi := ⟨_, _, _, _, _, _⟩) (v := ?_) rfl (by kernel_rfl) (by kernel_rfl) (by kernel_rfl) (fun _ _ _ h => h) (Or.inl ⟨by rfl, ?_⟩) (by assumption) ?_
        rotate_left
        · (intro wS hSw; (try dsimp only at hSw); go_simp <;> with_reducible rfl)
        try simp only [Act.put, List.setIfInBounds_toArray, List.set_cons_zero, List.set_cons_succ]
        refine wpAnyH_take (i := 14) (oi := ⟨_, _, _, _, _, _⟩) (v := ?_) rfl (by kernel_rfl) (by kernel_rfl) (by kernel_rfl) (fun _ _ _ h => h) (Or.inl ⟨by rfl, ?_⟩) (by assumption) ?_
        rotate_left
        · (intro wS hSw; (try dsimp only at hSw); go_simp <;> with_reducible rfl)
        try simp only [Act.put, List.setIfInBounds_toArray, List.set_cons_zero, List.set_cons_succ]
        refine wpAnyH_ready (rs := [15]) (by kernel_rfl) (by simp) ?_
        refine AllReadyH.cons (o := ⟨_, _, _, _, _, _⟩) rfl (fun K hK => ?_) AllReadyH.nil
        go_simp
        (first | (go_at_call 14; (with_reducible refine (C5.out _).mono ?_); rintro e w9 ⟨rfl, hb9⟩) | (go_at_call 14; (with_reducible refine (C6.out _).mono ?_); rintro e w9 ⟨rfl, hb9⟩) | (go_at_call 14; (with_reducible refine (C7.out _).mono ?_); rintro e w9 ⟨rfl, hb9⟩) | (go_at_call 19; (with_reducible refine (C8.out _).mono ?_); rintro e w9 ⟨rfl, hb9⟩) | (go_at_call 19; (with_reducible refine (C9.out _).mono ?_); rintro e w9 ⟨rfl, hb9⟩) | (go_at_call 16; (with_reducible refine (CA.out _).mono ?_); rintro e w9 ⟨rfl, hb9⟩) | (go_at_call 16; (with_reducible refine (CB.out _).mono ?_); rintro e w9 ⟨rfl, hb9⟩) | (go_at_call 16; (with_reducible refine (CC.out _).mono ?_); rintro e w9 ⟨rfl, hb9⟩))
        go_wp2_with fail
        refine hK.out _ _ (by (try dsimp only); (first | assumption | exact HSS.out _ ((Below.refl _ _).drew) | exact keep_step HSS.out (by assumption) (by assumption))) (fun hHeld => ?_)
        clear hK K
        try simp only [Act.put, List.setIfInBounds_toArray, List.set_cons_zero, List.set_cons_succ]
        refine wpAnyH_take (i := 16) (oi := ⟨_, _, _, _, _, _⟩) (v := ?_) rfl (by kernel_rfl) (by kernel_rfl) (by kernel_rfl) (fun _ _ _ h => h) (Or.inl ⟨by rfl, ?_⟩) (by assumption) ?_
        rotate_left
        · (intro wS hSw; (try dsimp only at hSw); go_simp <;> with_reducible rfl)
        try simp only [Act.put, List.setIfInBounds_toArray, List.set_cons_zero, List.set_cons_succ]
        refine wpAnyH_take (i := 17) (oi := ⟨_, _, _, _, _, _⟩) (v := undef) rfl (by kernel_rfl) (by kernel_rfl) (by kernel_rfl) (fun _ _ _ h => h) (Or.inr ⟨by rfl, rfl⟩) (by assumption) ?_
        try simp only [Act.put, List.setIfInBounds_toArray, List.set_cons_zero, List.set_cons_succ]
        refine wpAnyH_take (i := 18) (oi := ⟨_, _, _, _, _, _⟩) (v := undef) rfl (by kernel_rfl) (by kernel_rfl) (by kernel_rfl) (fun _ _ _ h => h) (Or.inr ⟨by rfl, rfl⟩) (by assumption) ?_
        try simp only [Act.put, List.setIfInBounds_toArray, List.set_cons_zero, List.set_cons_succ]
        refine wpAnyH_take (i := 19) (oi := ⟨_, _, _, _, _, _⟩) (v := undef) rfl (by kernel_rfl) (by kernel_rfl) (by kernel_rfl) (fun _ _ _ h => h) (Or.inr ⟨by rfl, rfl⟩) (by assumption) ?_
        try simp only [Act.put, List.setIfInBounds_toArray, List.set_cons_zero, List.set_cons_succ]
        refine wpAnyH_take (i := 20) (oi := ⟨_, _, _, _, _, _⟩) (v := ?_) rfl (by kernel_rfl) (by kernel_rfl) (by kernel_rfl) (fun _ _ _ h => h) (Or.inl ⟨by rfl, ?_⟩) (by assumption) ?_
        rotate_left
        · (intro wS hSw; (try dsimp only at hSw); go_simp <;> with_reducible rfl)
        try simp only [Act.put, List.setIfInBounds_toArray, List.set_cons_zero, List.set_cons_succ]
        refine wpAnyH_take (i := 21) (oi := ⟨_, _, _, _, _, _⟩) (v := ?_) rfl (by kernel_rfl) (by kernel_rfl) (by kernel_rfl) (fun _ _ _ h => h) (Or.inl ⟨by rfl, ?_⟩) (by assumption) ?_
        rotate_left
        · (intro wS hSw; (try dsimp only at hSw); go_simp <;> with_reducible rfl)
        try simp only [Act.put, List.setIfInBounds_toArray, List.set_cons_zero, List.set_cons_succ]
        refine wpAnyH_take (i := 22) (oi := ⟨_, _, _, _, _, _⟩) (v := ?_) rfl (by kernel_rfl) (by kernel_rfl) (by kernel_rfl) (fun _ _ _ h => h) (Or.inl ⟨by rfl, ?_⟩) (by assumption) ?_
        rotate_left
        · (intro wS hSw; (try dsimp only at hSw); go_simp <;> with_reducible rfl)
        try simp only [Act.put, List.setIfInBounds_toArray, List.set_cons_zero, List.set_cons_succ]
        refine wpAnyH_take (i := 23) (oi := ⟨_, _, _, _, _, _⟩) (v := ?_) rfl (by kernel_rfl) (by kernel_rfl) (by kernel_rfl) (fun _ _ _ h => h) (Or.inl ⟨by rfl, ?_⟩) (by assumption) ?_
        rotate_left
        · (intro wS hSw; (try dsimp only at hSw); go_simp <;> with_reducible rfl)
        try simp only [Act.put, List.setIfInBounds_toArray, List.set_cons_zero, List.set_cons_succ]
        refine wpAnyH_take (i := 24) (oi := ⟨_, _, _, _, _, _⟩) (v := ?_) rfl (by kernel_rfl) (by kernel_rfl) (by kernel_rfl) (fun _ _ _ h => h) (Or.inl ⟨by rfl, ?_⟩) (by assumption) ?_
        rotate_left
        · (intro wS hSw; (try dsimp only at hSw); go_simp <;> with_reducible rfl)
        try simp only [Act.put, List.setIfInBounds_toArray, List.set_cons_zero, List.set_cons_succ]
        refine wpAnyH_take (i := 25) (oi := ⟨_, _, _, _, _, _⟩) (v := ?_) rfl (by kernel_rfl) (by kernel_rfl) (by kernel_rfl) (fun _ _ _ h => h) (Or.inl ⟨by rfl, ?_⟩) (by assumption) ?_
        rotate_left
        · (intro wS hSw; (try dsimp only at hSw); go_simp <;> with_reducible rfl)
        try simp only [Act.put, List.setIfInBounds_toArray, List.set_cons_zero, List.set_cons_succ]
        refine wpAnyH_ready (rs := [26]) (by kernel_rfl) (by simp) ?_
        refine AllReadyH.cons (o := ⟨_, _, _, _, _, _⟩) rfl (fun K hK => ?_) AllReadyH.nil
        go_simp
        (first | (go_at_call 14; (with_reducible refine (C5.out _).mono ?_); rintro e w9 ⟨rfl, hb9⟩) | (go_at_call 14; (with_reducible refine (C6.out _).mono ?_); rintro e w9 ⟨rfl, hb9⟩) | (go_at_call 14; (with_reducible refine (C7.out _).mono ?_); rintro e w9 ⟨rfl, hb9⟩) | (go_at_call 19; (with_reducible refine (C8.out _).mono ?_); rintro e w9 ⟨rfl, hb9⟩) | (go_at_call 19; (with_reducible refine (C9.out _).mono ?_); rintro e w9 ⟨rfl, hb9⟩) | (go_at_call 16; (with_reducible refine (CA.out _).mono ?_); rintro e w9 ⟨rfl, hb9⟩) | (go_at_call 16; (with_reducible refine (CB.out _).mono ?_); rintro e w9 ⟨rfl, hb9⟩) | (go_at_call 16; (with_reducible refine (CC.out _).mono ?_); rintro e w9 ⟨rfl, hb9⟩))
        go_wp2_with fail
        refine hK.out _ _ (by (try dsimp only); (first | assumption | exact HSS.out _ ((Below.refl _ _).drew) | exact keep_step HSS.out (by assumption) (by assumption))) (fun hHeld => ?_)
        clear hK K
        try simp only [Act.put, List.setIfInBounds_toArray, List.set_cons_zero, List.set_cons_succ]
        refine wpAnyH_take (i := 27) (oi := ⟨_, _, _, _, _, _⟩) (v := ?_) rfl (by kernel_rfl) (by kernel_rfl) (by kernel_rfl) (fun _ _ _ h => h) (Or.inl ⟨by rfl, ?_⟩) (by assumption) ?_
        rotate_left
        · (intro wS hSw; (try dsimp only at hSw); go_simp <;> with_reducible rfl)
        try simp only [Act.put, List.setIfInBounds_toArray, List.set_cons_zero, List.set_cons_succ]
        refine wpAnyH_take (i := 28) (oi := ⟨_, _, _, _, _, _⟩) (v := ?_) rfl (by kernel_rfl) (by kernel_rfl) (by kernel_rfl) (fun _ _ _ h => h) (Or.inl ⟨by rfl, ?_⟩) (by assumption) ?_
        rotate_left
        · (intro wS hSw; (try dsimp only at hSw); go_simp <;> with_reducible rfl)
        try simp only [Act.put, List.setIfInBounds_toArray, List.set_cons_zero, List.set_cons_succ]
        refine wpAnyH_take (i := 29) (oi := ⟨_, _, _, _, _, _⟩) (v := ?_) rfl (by kernel_rfl) (by kernel_rfl) (by kernel_rfl) (fun _ _ _ h => h) (Or.inl ⟨by rfl, ?_⟩) (by assumption) ?_
        rotate_left
        · (intro wS hSw; (try dsimp only at hSw); go_simp <;> with_reducible rfl)
        try simp only [Act.put, List.setIfInBounds_toArray, List.set_cons_zero, List.set_cons_succ]
        refine wpAnyH_take (i := 30) (oi := ⟨_, _, _, _, _, _⟩) (v := ?_) rfl (by kernel_rfl) (by kernel_rfl) (by kernel_rfl) (fun _ _ _ h => h) (Or.inl ⟨by rfl, ?_⟩) (by assumption) ?_
        rotate_left
        · (intro wS hSw; (try dsimp only at hSw); go_simp <;> with_reducible rfl)
        try simp only [Act.put, List.setIfInBounds_toArray, List.set_cons_zero, List.set_cons_succ]
        refine wpAnyH_ready (rs := [31]) (by kernel_rfl) (by simp) ?_
        refine AllReadyH.cons (o := ⟨_, _, _, _, _, _⟩) rfl (fun K hK => ?_) AllReadyH.nil
        go_simp
        (first | (go_at_call 14; (with_reducible refine (C5.out _).mono ?_); rintro e w9 ⟨rfl, hb9⟩) | (go_at_call 14; (with_reducible refine (C6.out _).mono ?_); rintro e w9 ⟨rfl, hb9⟩) | (go_at_call 14; (with_reducible refine (C7.out _).mono ?_); rintro e w9 ⟨rfl, hb9⟩) | (go_at_call 19; (with_reducible refine (C8.out _).mono ?_); rintro e w9 ⟨rfl, hb9⟩) | (go_at_call 19; (with_reducible refine (C9.out _).mono ?_); rintro e w9 ⟨rfl, hb9⟩) | (go_at_call 16; (with_reducible refine (CA.out _).mono ?_); rintro e w9 ⟨rfl, hb9⟩) | (go_at_call 16; (with_reducible refine (CB.out _).mono ?_); rintro e w9 ⟨rfl, hb9⟩) | (go_at_call 16; (with_reducible refine (CC.out _).mono ?_); rintro e w9 ⟨rfl, hb9⟩))
        go_wp2_with fail
        refine hK.out _ _ (by (try dsimp only); (first | assumption | exact HSS.out _ ((Below.refl _ _).drew) | exact keep_step HSS.out (by assumption) (by assumption))) (fun hHeld => ?_)
        clear hK K
        try simp only [Act.put, List.setIfInBounds_toArray, List.set_cons_zero, List.set_cons_succ]
        refine wpAnyH_take (i := 32) (oi := ⟨_, _, _, _, _, _⟩) (v := ?_) rfl (by kernel_rfl) (by kernel_rfl) (by kernel_rfl) (fun _ _ _ h => h) (Or.inl ⟨by rfl, ?_⟩) (by assumption) ?_
        rotate_left
        · (intro wS hSw; (try dsimp only at hSw); go_simp <;> with_reducible rfl)
        try simp only [Act.put, List.setIfInBounds_toArray, List.set_cons_zero, List.set_cons_succ]
        refine wpAnyH_take (i := 33) (oi := ⟨_, _, _, _, _, _⟩) (v := ?_) rfl (by kernel_rfl) (by kernel_rfl) (by kernel_rfl) (fun _ _ _ h => h) (Or.inl ⟨by rfl, ?_⟩) (by assumption) ?_
        rotate_left
        · (intro wS hSw; (try dsimp only at hSw); go_simp <;> with_reducible rfl)
        try simp only [Act.put, List.setIfInBounds_toArray, List.set_cons_zero, List.set_cons_succ]
        refine wpAnyH_take (i := 34) (oi := ⟨_, _, _, _, _, _⟩) (v := ?_) rfl (by kernel_rfl) (by kernel_rfl) (by kernel_rfl) (fun _ _ _ h => h) (Or.inl ⟨by rfl, ?_⟩) (by assumption) ?_
        rotate_left
        · (intro wS hSw; (try dsimp only at hSw); go_simp <;> with_reducible rfl)
        try simp only [Act.put, List.setIfInBounds_toArray, List.set_cons_zero, List.set_cons_succ]
        refine wpAnyH_take (i := 35) (oi := ⟨_, _, _, _, _, _⟩) (v := ?_) rfl (by kernel_rfl) (by kernel_rfl) (by kernel_rfl) (fun _ _ _ h => h) (Or.inl ⟨by rfl, ?_⟩) (by assumption) ?_
        rotate_left
        · (intro wS hSw; (try dsimp only at hSw); go_simp <;> with_reducible rfl)
        try simp only [Act.put, List.setIfInBounds_toArray, List.set_cons_zero, List.set_cons_succ]
        refine wpAnyH_take (i := 36) (oi := ⟨_, _, _, _, _, _⟩) (v := ?_) rfl (by kernel_rfl) (by kernel_rfl) (by kernel_rfl) (fun _ _ _ h => h) (Or.inl ⟨by rfl, ?_⟩) (by assumption) ?_
        rotate_left
        · (intro wS hSw; (try dsimp only at hSw); go_simp <;> with_reducible rfl)
        try simp only [Act.put, List.setIfInBounds_toArray, List.set_cons_zero, List.set_cons_succ]
        refine wpAnyH_take (i := 38) (oi := ⟨_, _, _, _, _, _⟩) (v := ?_) rfl (by kernel_rfl) (by kernel_rfl) (by kernel_rfl) (fun _ _ _ h => h) (Or.inl ⟨by rfl, ?_⟩) (by assumption) ?_
        rotate_left
        · (intro wS hSw; (try dsimp only at hSw); go_simp <;> with_reducible rfl)
        try simp only [Act.put, List.setIfInBounds_toArray, List.set_cons_zero, List.set_cons_succ]
        refine wpAnyH_take (i := 41) (oi := ⟨_, _, _, _, _, _⟩) (v := ?_) rfl (by kernel_rfl) (by kernel_rfl) (by kernel_rfl) (fun _ _ _ h => h) (Or.inl ⟨by rfl, ?_⟩) (by assumption) ?_
        rotate_left
        · (intro wS hSw; (try dsimp only at hSw); go_simp <;> with_reducible rfl)
        try simp only [Act.put, List.setIfInBounds_toArray, List.set_cons_zero, List.set_cons_succ]
        refine wpAnyH_ready (rs := [37]) (by kernel_rfl) (by simp) ?_
        refine AllReadyH.cons (o := ⟨_, _, _, _, _, _⟩) rfl (fun K hK => ?_) AllReadyH.nil
        go_simp
        (first | (go_at_call 14; (with_reducible refine (C5.out _).mono ?_); rintro e w9 ⟨rfl, hb9⟩) | (go_at_call 14; (with_reducible refine (C6.out _).mono ?_); rintro e w9 ⟨rfl, hb9⟩) | (go_at_call 14; (with_reducible refine (C7.out _).mono ?_); rintro e w9 ⟨rfl, hb9⟩) | (go_at_call 19; (with_reducible refine (C8.out _).mono ?_); rintro e w9 ⟨rfl, hb9⟩) | (go_at_call 19; (with_reducible refine (C9.out _).mono ?_); rintro e w9 ⟨rfl, hb9⟩) | (go_at_call 16; (with_reducible refine (CA.out _).mono ?_); rintro e w9 ⟨rfl, hb9⟩) | (go_at_call 16; (with_reducible refine (CB.out _).mono ?_); rintro e w9 ⟨rfl, hb9⟩) | (go_at_call 16; (with_reducible refine (CC.out _).mono ?_); rintro e w9 ⟨rfl, hb9⟩))
        go_wp2_with fail
        refine hK.out _ _ (by (try dsimp only); (first | assumption | exact HSS.out _ ((Below.refl _ _).drew) | exact keep_step HSS.out (by assumption) (by assumption))) (fun hHeld => ?_)
        clear hK K
        try simp only [Act.put, List.setIfInBounds_toArray, List.set_cons_zero, List.set_cons_succ]
        refine wpAnyH_ready (rs := [39]) (by kernel_rfl) (by simp) ?_
        refine AllReadyH.cons (o := ⟨_, _, _, _, _, _⟩) rfl (fun K hK => ?_) AllReadyH.nil
        go_simp
        (first | (go_at_call 14; (with_reducible refine (C5.out _).mono ?_); rintro e w9 ⟨rfl, hb9⟩) | (go_at_call 14; (with_reducible refine (C6.out _).mono ?_); rintro e w9 ⟨rfl, hb9⟩) | (go_at_call 14; (with_reducible refine (C7.out _).mono ?_); rintro e w9 ⟨rfl, hb9⟩) | (go_at_call 19; (with_reducible refine (C8.out _).mono ?_); rintro e w9 ⟨rfl, hb9⟩) | (go_at_call 19; (with_reducible refine (C9.out _).mono ?_); rintro e w9 ⟨rfl, hb9⟩) | (go_at_call 16; (with_reducible refine (CA.out _).mono ?_); rintro e w9 ⟨rfl, hb9⟩) | (go_at_call 16; (with_reducible refine (CB.out _).mono ?_); rintro e w9 ⟨rfl, hb9⟩) | (go_at_call 16; (with_reducible refine (CC.out _).mono ?_); rintro e w9 ⟨rfl, hb9⟩))
        go_wp2_with fail
        refine hK.out _ _ (by (try dsimp only); (first | assumption | exact HSS.out _ ((Below.refl _ _).drew) | exact keep_step HSS.out (by assumption) (by assumption))) (fun hHeld => ?_)
        clear hK K
        try simp only [Act.put, List.setIfInBounds_toArray, List.set_cons_zero, List.set_cons_succ]
        refine wpAnyH_take (i := 40) (oi := ⟨_, _, _, _, _, _⟩) (v := ?_) rfl (by kernel_rfl) (by kernel_rfl) (by kernel_rfl) (fun _ _ _ h => h) (Or.inl ⟨by rfl, ?_⟩) (by assumption) ?_
        rotate_left
        · (intro wS hSw; (try dsimp only at hSw); go_simp <;> with_reducible rfl)
        try simp only [Act.put, List.setIfInBounds_toArray, List.set_cons_zero, List.set_cons_succ]
        refine wpAnyH_ready (rs := [42]) (by kernel_rfl) (by simp) ?_
        refine AllReadyH.cons (o := ⟨_, _, _, _, _, _⟩) rfl (fun K hK => ?_) AllReadyH.nil
        go_simp
        (first | (go_at_call 14; (with_reducible refine (C5.out _).mono ?_); rintro e w9 ⟨rfl, hb9⟩) | (go_at_call 14; (with_reducible refine (C6.out _).mono ?_); rintro e w9 ⟨rfl, hb9⟩) | (go_at_call 14; (with_reducible refine (C7.out _).mono ?_); rintro e w9 ⟨rfl, hb9⟩) | (go_at_call 19; (with_reducible refine (C8.out _).mono ?_); rintro e w9 ⟨rfl, hb9⟩) | (go_at_call 19; (with_reducible refine (C9.out _).mono ?_); rintro e w9 ⟨rfl, hb9⟩) | (go_at_call 16; (with_reducible refine (CA.out _).mono ?_); rintro e w9 ⟨rfl, hb9⟩) | (go_at_call 16; (with_reducible refine (CB.out _).mono ?_); rintro e w9 ⟨rfl, hb9⟩) | (go_at_call 16; (with_reducible refine (CC.out _).mono ?_); rintro e w9 ⟨rfl, hb9⟩))
        go_wp2_with fail
        refine hK.out _ _ (by (try dsimp only); (first | assumption | exact HSS.out _ ((Below.refl _ _).drew) | exact keep_step HSS.out (by assumption) (by assumption))) (fun hHeld => ?_)
        clear hK K
        try simp only [Act.put, List.setIfInBounds_toArray, List.set_cons_zero, List.set_cons_succ]
        refine wpAnyH_take (i := 43) (oi := ⟨_, _, _, _, _, _⟩) (v := ?_) rfl (by kernel_rfl) (by kernel_rfl) (by kernel_rfl) (fun _ _ _ h => h) (Or.inl ⟨by rfl, ?_⟩) (by assumption) ?_
        rotate_left
        · (intro wS hSw; (try dsimp only at hSw); go_simp <;> with_reducible rfl)
        try simp only [Act.put, List.setIfInBounds_toArray, List.set_cons_zero, List.set_cons_succ]
        refine wpAnyH_take (i := 44) (oi := ⟨_, _, _, _, _, _⟩) (v := ?_) rfl (by kernel_rfl) (by kernel_rfl) (by kernel_rfl) (fun _ _ _ h => h) (Or.inl ⟨by rfl, ?_⟩) (by assumption) ?_
        rotate_left
        · (intro wS hSw; (try dsimp only at hSw); go_simp <;> with_reducible rfl)
        try simp only [Act.put, List.setIfInBounds_toArray, List.set_cons_zero, List.set_cons_succ]
        refine wpAnyH_take (i := 45) (oi := ⟨_, _, _, _, _, _⟩) (v := ?_) rfl (by kernel_rfl) (by kernel_rfl) (by kernel_rfl) (fun _ _ _ h => h) (Or.inl ⟨by rfl, ?_⟩) (by assumption) ?_
        rotate_left
        · (intro wS hSw; (try dsimp only at hSw); go_simp <;> with_reducible rfl)
        try simp only [Act.put, List.setIfInBounds_toArray, List.set_cons_zero, List.set_cons_succ]
        refine wpAnyH_take (i := 46) (oi := ⟨_, _, _, _, _, _⟩) (v := ?_) rfl (by kernel_rfl) (by kernel_rfl) (by kernel_rfl) (fun _ _ _ h => h) (Or.inl ⟨by rfl, ?_⟩) (by assumption) ?_
        rotate_left
        · (intro wS hSw; (try dsimp only at hSw); go_simp <;> with_reducible rfl)
        try simp only [Act.put, List.setIfInBounds_toArray, List.set_cons_zero, List.set_cons_succ]
        refine wpAnyH_done (by kernel_rfl) ?_ _
        go_wp2
        go_ret
        exact ⟨rfl, fin hB' (by assumption)⟩
      ·
        refine wp_region_held_drew (S := (fun w' => Below w5.heap.size w5 w' ∧ (w'.cell? ⟨w.heap.size, 0, none⟩ = some (.int .u64 (f : Nat)) ∧ w'.cell? ⟨w.heap.size, 1, none⟩ = some (.int .u64 (t : Nat)) ∧ w'.cell? ⟨w1.heap.size, 0, none⟩ = some (.int .u64 (f : Nat)) ∧ w'.cell? ⟨w1.heap.size, 1, none⟩ = some (.int .u64 (x : Nat)) ∧ w'.cell? ⟨w1.heap.size + 1, 0, none⟩ = some (.int .u64 (x : Nat)) ∧ w'.cell? ⟨w1.heap.size + 1, 1, none⟩ = some (.int .u64 (t : Nat))))) (by kernel_rfl) ?_ (fun hHeld => ?_)
        · (try dsimp only); (first | assumption | exact HSS.out _ ((Below.refl _ _).drew) | exact keep_step HSS.out (by assumption) (by assumption))
        refine wpAnyH_take (i := 0) (oi := ⟨_, _, _, _, _, _⟩) (v := ?_) rfl (by kernel_rfl) (by kernel_rfl) (by kernel_rfl) (fun _ _ _ h => h) (Or.inl ⟨by rfl, ?_⟩) (by assumption) ?_
        rotate_left
        · (intro wS hSw; (try dsimp only at hSw); go_simp <;> with_reducible rfl)
        try simp only [Act.put, List.setIfInBounds_toArray, List.set_cons_zero, List.set_cons_succ]
        refine wpAnyH_take (i := 1) (oi := ⟨_, _, _, _, _, _⟩) (v := ?_) rfl (by kernel_rfl) (by kernel_rfl) (by kernel_rfl) (fun _ _ _ h => h) (Or.inl ⟨by rfl, ?_⟩) (by assumption) ?_
        rotate_left
        · (intro wS hSw; (try dsimp only at hSw); go_simp <;> with_reducible rfl)
        try simp only [Act.put, List.setIfInBounds_toArray, List.set_cons_zero, List.set_cons_succ]
        refine wpAnyH_take (i := 8) (oi := ⟨_, _, _, _, _, _⟩) (v := ?_) rfl (by kernel_rfl) (by kernel_rfl) (by kernel_rfl) (fun _ _ _ h => h) (Or.inl ⟨by rfl, ?_⟩) (by assumption) ?_
        rotate_left
        · (intro wS hSw; (try dsimp only at hSw); go_simp <;> with_reducible rfl)
        try simp only [Act.put, List.setIfInBounds_toArray, List.set_cons_zero, List.set_cons_succ]
        refine wpAnyH_take (i := 9) (oi := ⟨_, _, _, _, _, _⟩) (v := ?_) rfl (by kernel_rfl) (by kernel_rfl) (by kernel_rfl) (fun _ _ _ h => h) (Or.inl ⟨by rfl, ?_⟩) (by assumption) ?_
        rotate_left
        · (intro wS hSw; (try dsimp only at hSw); go_simp <;> with_reducible rfl)
        try simp only [Act.put, List.setIfInBounds_toArray, List.set_cons_zero, List.set_cons_succ]
        refine wpAnyH_ready (rs := [2]) (by kernel_rfl) (by simp) ?_
        refine AllReadyH.cons (o := ⟨_, _, _, _, _, _⟩) rfl (fun K hK => ?_) AllReadyH.nil
        go_simp
        (first | (go_at_call 14; (with_reducible refine (C5.out _).mono ?_); rintro e w9 ⟨rfl, hb9⟩) | (go_at_call 14; (with_reducible refine (C6.out _).mono ?_); rintro e w9 ⟨rfl, hb9⟩) | (go_at_call 14; (with_reducible refine (C7.out _).mono ?_); rintro e w9 ⟨rfl, hb9⟩) | (go_at_call 19; (with_reducible refine (C8.out _).mono ?_); rintro e w9 ⟨rfl, hb9⟩) | (go_at_call 19; (with_reducible refine (C9.out _).mono ?_); rintro e w9 ⟨rfl, hb9⟩) | (go_at_call 16; (with_reducible refine (CA.out _).mono ?_); rintro e w9 ⟨rfl, hb9⟩) | (go_at_call 16; (with_reducible refine (CB.out _).mono ?_); rintro e w9 ⟨rfl, hb9⟩) | (go_at_call 16; (with_reducible refine (CC.out _).mono ?_); rintro e w9 ⟨rfl, hb9⟩))
        go_wp2_with fail
        refine hK.out _ _ (by (try dsimp only); (first | assumption | exact HSS.out _ ((Below.refl _ _).drew) | exact keep_step HSS.out (by assumption) (by assumption))) (fun hHeld => ?_)
        clear hK K
        try simp only [Act.put, List.setIfInBounds_toArray, List.set_cons_zero, List.set_cons_succ]
        refine wpAnyH_take (i := 3) (oi := ⟨_, _, _, _, _, _⟩) (v := ?_) rfl (by kernel_rfl) (by kernel_rfl) (by kernel_rfl) (fun _ _ _ h => h) (Or.inl ⟨by rfl, ?_⟩) (by assumption) ?_
        rotate_left
        · (intro wS hSw; (try dsimp only at hSw); go_simp <;> with_reducible rfl)
        try simp only [Act.put, List.setIfInBounds_toArray, List.set_cons_zero, List.set_cons_succ]
        refine wpAnyH_take (i := 4) (oi := ⟨_, _, _, _, _, _⟩) (v := ?_) rfl (by kernel_rfl) (by kernel_rfl) (by kernel_rfl) (fun _ _ _ h => h) (Or.inl ⟨by rfl, ?_⟩) (by assumption) ?_
        rotate_left
        · (intro wS hSw; (try dsimp only at hSw); go_simp <;> with_reducible rfl)
        try simp only [Act.put, List.setIfInBounds_toArray, List.set_cons_zero, List.set_cons_succ]
        refine wpAnyH_take (i := 5) (oi := ⟨_, _, _, _, _, _⟩) (v := ?_) rfl (by kernel_rfl) (by kernel_rfl) (by kernel_rfl) (fun _ _ _ h => h) (Or.inl ⟨by rfl, ?_⟩) (by assumption) ?_
        rotate_left
        · (intro wS hSw; (try dsimp only at hSw); go_simp <;> with_reducible rfl)
        try simp only [Act.put, List.setIfInBounds_toArray, List.set_cons_zero, List.set_cons_succ]
        refine wpAnyH_ready (rs := [6]) (by kernel_rfl) (by simp) ?_
        refine AllReadyH.cons (o := ⟨_, _, _, _, _, _⟩) rfl (fun K hK => ?_) AllReadyH.nil
        go_simp
        (first | (go_at_call 14; (with_reducible refine (C5.out _).mono ?_); rintro e w9 ⟨rfl, hb9⟩) | (go_at_call 14; (with_reducible refine (C6.out _).mono ?_); rintro e w9 ⟨rfl, hb9⟩) | (go_at_call 14; (with_reducible refine (C7.out _).mono ?_); rintro e w9 ⟨rfl, hb9⟩) | (go_at_call 19; (with_reducible refine (C8.out _).mono ?_); rintro e w9 ⟨rfl, hb9⟩) | (go_at_call 19; (with_reducible refine (C9.out _).mono ?_); rintro e w9 ⟨rfl, hb9⟩) | (go_at_call 16; (with_reducible refine (CA.out _).mono ?_); rintro e w9 ⟨rfl, hb9⟩) | (go_at_call 16; (with_reducible refine (CB.out _).mono ?_); rintro e w9 ⟨rfl, hb9⟩) | (go_at_call 16; (with_reducible refine (CC.out _).mono ?_); rintro e w9 ⟨rfl, hb9⟩))
        go_wp2_with fail
        refine hK.out _ _ (by (try dsimp only); (first | assumption | exact HSS.out _ ((Below.refl _ _).drew) | exact keep_step HSS.out (by assumption) (by assumption))) (fun hHeld => ?_)
        clear hK K
        try simp only [Act.put, List.setIfInBounds_toArray, List.set_cons_zero, List.set_cons_succ]
        refine wpAnyH_take (i := 7) (oi := ⟨_, _, _, _, _, _⟩) (v := ?_) rfl (by kernel_rfl) (by kernel_rfl) (by kernel_rfl) (fun _ _ _ h => h) (Or.inl ⟨by rfl, ?_⟩) (by assumption) ?_
        rotate_left
        · (intro wS hSw; (try dsimp only at hSw); go_simp <;> with_reducible rfl)
        try simp only [Act.put, List.setIfInBounds_toArray, List.set_cons_zero, List.set_cons_succ]
        refine wpAnyH_ready (rs := [10]) (by kernel_rfl) (by simp) ?_
        refine AllReadyH.cons (o := ⟨_, _, _, _, _, _⟩) rfl (fun K hK => ?_) AllReadyH.nil
        go_simp
        (first | (go_at_call 14; (with_reducible refine (C5.out _).mono ?_); rintro e w9 ⟨rfl, hb9⟩) | (go_at_call 14; (with_reducible refine (C6.out _).mono ?_); rintro e w9 ⟨rfl, hb9⟩) | (go_at_call 14; (with_reducible refine (C7.out _).mono ?_); rintro e w9 ⟨rfl, hb9⟩) | (go_at_call 19; (with_reducible refine (C8.out _).mono ?_); rintro e w9 ⟨rfl, hb9⟩) | (go_at_call 19; (with_reducible refine (C9.out _).mono ?_); rintro e w9 ⟨rfl, hb9⟩) | (go_at_call 16; (with_reducible refine (CA.out _).mono ?_); rintro e w9 ⟨rfl, hb9⟩) | (go_at_call 16; (with_reducible refine (CB.out _).mono ?_); rintro e w9 ⟨rfl, hb9⟩) | (go_at_call 16; (with_reducible refine (CC.out _).mono ?_); rintro e w9 ⟨rfl, hb9⟩))
        go_wp2_with fail
        refine hK.out _ _ (by (try dsimp only); (first | assumption | exact HSS.out _ ((Below.refl _ _).drew) | exact keep_step HSS.out (by assumption) (by assumption))) (fun hHeld => ?_)
        clear hK K
        try simp only [Act.put, List.setIfInBounds_toArray, List.set_cons_zero, List.set_cons_succ]
        refine wpAnyH_take (i := 11) (oi := ⟨_, _, _, _, _, _⟩) (v := ?_) rfl (by kernel_rfl) (by kernel_rfl) (by kernel_rfl) (fun _ _ _ h => h) (Or.inl ⟨by rfl, ?_⟩) (by assumption) ?_
        rotate_left
        · (intro wS hSw; (try dsimp only at hSw); go_simp <;> with_reducible rfl)
        try simp only [Act.put, List.setIfInBounds_toArray, List.set_cons_zero, List.set_cons_succ]
        refine wpAnyH_take (i := 12) (oi := ⟨_, _, _, _, _, _⟩) (v := ?_) rfl (by kernel_rfl) (by kernel_rfl) (by kernel_rfl) (fun _ _ _ h => h) (Or.inl ⟨by rfl, ?_⟩) (by assumption) ?_
        rotate_left
        · (intro wS hSw; (try dsimp only at hSw); go_simp <;> with_reducible rfl)
        try simp only [Act.put, List.setIfInBounds_toArray, List.set_cons_zero, List.set_cons_succ]
        refine wpAnyH_take (i := 13) (oi := ⟨_, _, _, _, _, _⟩) (v := ?_) rfl (by kernel_rfl) (by kernel_rfl) (by kernel_rfl) (fun _ _ _ h => h) (Or.inl ⟨by rfl, ?_⟩) (by assumption) ?_
        rotate_left
        · (intro wS hSw; (try dsimp only at hSw); go_simp <;> with_reducible rfl)
        try simp only [Act.put, List.setIfInBounds_toArray, List.set_cons_zero, List.set_cons_succ]
        refine wpAnyH_take (i := 14) (oi := ⟨_, _, _, _, _, _⟩) (v := ?_) rfl (by kernel_rfl) (by kernel_rfl) (by kernel_rfl) (fun _ _ _ h => h) (Or.inl ⟨by rfl, ?_⟩) (by assumption) ?_
        rotate_left
        · (intro wS hSw; (try dsimp only at hSw); go_simp <;> with_reducible rfl)
        try simp only [Act.put, List.setIfInBounds_toArray, List.set_cons_zero, List.set_cons_succ]
        refine wpAnyH_ready (rs := [15]) (by kernel_rfl) (by simp) ?_
        refine AllReadyH.cons (o := ⟨_, _, _, _, _, _⟩) rfl (fun K hK => ?_) AllReadyH.nil
        go_simp
        (first | (go_at_call 14; (with_reducible refine (C5.out _).mono ?_); rintro e w9 ⟨rfl, hb9⟩) | (go_at_call 14; (with_reducible refine (C6.out _).mono ?_); rintro e w9 ⟨rfl, hb9⟩) | (go_at_call 14; (with_reducible refine (C7.out _).mono ?_); rintro e w9 ⟨rfl, hb9⟩) | (go_at_call 19; (with_reducible refine (C8.out _).mono ?_); rintro e w9 ⟨rfl, hb9⟩) | (go_at_call 19; (with_reducible refine (C9.out _).mono ?_); rintro e w9 ⟨rfl, hb9⟩) | (go_at_call 16; (with_reducible refine (CA.out _).mono ?_); rintro e w9 ⟨rfl, hb9⟩) | (go_at_call 16; (with_reducible refine (CB.out _).mono ?_); rintro e w9 ⟨rfl, hb9⟩) | (go_at_call 16; (with_reducible refine (CC.out _).mono ?_); rintro e w9 ⟨rfl, hb9⟩))
        go_wp2_with fail
        refine hK.out _ _ (by (try dsimp only); (first | assumption | exact HSS.out _ ((Below.refl _ _).drew) | exact keep_step HSS.out (by assumption) (by assumption))) (fun hHeld => ?_)
        clear hK K
        try simp only [Act.put, List.setIfInBounds_toArray, List.set_cons_zero, List.set_cons_succ]
        refine wpAnyH_take (i := 16) (oi := ⟨_, _, _, _, _, _⟩) (v := ?_) rfl (by kernel_rfl) (by kernel_rfl) (by kernel_rfl) (fun _ _ _ h => h) (Or.inl ⟨by rfl, ?_⟩) (by assumption) ?_
        rotate_left
        · (intro wS hSw; (try dsimp only at hSw); go_simp <;> with_reducible rfl)
        try simp only [Act.put, List.setIfInBounds_toArray, List.set_cons_zero, List.set_cons_succ]
        refine wpAnyH_take (i := 17) (oi := ⟨_, _, _, _, _, _⟩) (v := undef) rfl (by kernel_rfl) (by kernel_rfl) (by kernel_rfl) (fun _ _ _ h => h) (Or.inr ⟨by rfl, rfl⟩) (by assumption) ?_
        try simp only [Act.put, List.setIfInBounds_toArray, List.set_cons_zero, List.set_cons_succ]
        refine wpAnyH_take (i := 18) (oi := ⟨_, _, _, _, _, _⟩) (v := undef) rfl (by kernel_rfl) (by kernel_rfl) (by kernel_rfl) (fun _ _ _ h => h) (Or.inr ⟨by rfl, rfl⟩) (by assumption) ?_
        try simp only [Act.put, List.setIfInBounds_toArray, List.set_cons_zero, List.set_cons_succ]
        refine wpAnyH_take (i := 19) (oi := ⟨_, _, _, _, _, _⟩) (v := undef) rfl (by kernel_rfl) (by kernel_rfl) (by kernel_rfl) (fun _ _ _ h => h) (Or.inr ⟨by rfl, rfl⟩) (by assumption) ?_
        try simp only [Act.put, List.setIfInBounds_toArray, List.set_cons_zero, List.set_cons_succ]
        refine wpAnyH_take (i := 20) (oi := ⟨_, _, _, _, _, _⟩) (v := ?_) rfl (by kernel_rfl) (by kernel_rfl) (by kernel_rfl) (fun _ _ _ h => h) (Or.inl ⟨by rfl, ?_⟩) (by assumption) ?_
        rotate_left
        · (intro wS hSw; (try dsimp only at hSw); go_simp <;> with_reducible rfl)
        try simp only [Act.put, List.setIfInBounds_toArray, List.set_cons_zero, List.set_cons_succ]
        refine wpAnyH_take (i := 21) (oi := ⟨_, _, _, _, _, _⟩) (v := ?_) rfl (by kernel_rfl) (by kernel_rfl) (by kernel_rfl) (fun _ _ _ h => h) (Or.inl ⟨by rfl, ?_⟩) (by assumption) ?_
        rotate_left
        · (intro wS hSw; (try dsimp only at hSw); go_simp <;> with_reducible rfl)
        try simp only [Act.put, List.setIfInBounds_toArray, List.set_cons_zero, List.set_cons_succ]
        refine wpAnyH_take (i := 22) (oi := ⟨_, _, _, _, _, _⟩) (v := ?_) rfl (by kernel_rfl) (by kernel_rfl) (by kernel_rfl) (fun _ _ _ h => h) (Or.inl ⟨by rfl, ?_⟩) (by assumption) ?_
        rotate_left
        · (intro wS hSw; (try dsimp only at hSw); go_simp <;> with_reducible rfl)
        try simp only [Act.put, List.setIfInBounds_toArray, List.set_cons_zero, List.set_cons_succ]
        refine wpAnyH_take (i := 23) (oi := ⟨_, _, _, _, _, _⟩) (v := ?_) rfl (by kernel_rfl) (by kernel_rfl) (by kernel_rfl) (fun _ _ _ h => h) (Or.inl ⟨by rfl, ?_⟩) (by assumption) ?_
        rotate_left
        · (intro wS hSw; (try dsimp only at hSw); go_simp <;> with_reducible rfl)
        try simp only [Act.put, List.setIfInBounds_toArray, List.set_cons_zero, List.set_cons_succ]
        refine wpAnyH_take (i := 24) (oi := ⟨_, _, _, _, _, _⟩) (v := ?_) rfl (by kernel_rfl) (by kernel_rfl) (by kernel_rfl) (fun _ _ _ h => h) (Or.inl ⟨by rfl, ?_⟩) (by assumption) ?_
        rotate_left
        · (intro wS hSw; (try dsimp only at hSw); go_simp <;> with_reducible rfl)
        try simp only [Act.put, List.setIfInBounds_toArray, List.set_cons_zero, List.set_cons_succ]
        refine wpAnyH_take (i := 25) (oi := ⟨_, _, _, _, _, _⟩) (v := ?_) rfl (by kernel_rfl) (by kernel_rfl) (by kernel_rfl) (fun _ _ _ h => h) (Or.inl ⟨by rfl, ?_⟩) (by assumption) ?_
        rotate_left
        · (intro wS hSw; (try dsimp only at hSw); go_simp <;> with_reducible rfl)
        try simp only [Act.put, List.setIfInBounds_toArray, List.set_cons_zero, List.set_cons_succ]
        refine wpAnyH_ready (rs := [26]) (by kernel_rfl) (by simp) ?_
        refine AllReadyH.cons (o := ⟨_, _, _, _, _, _⟩) rfl (fun K hK => ?_) AllReadyH.nil
        go_simp
        (first | (go_at_call 14; (with_reducible refine (C5.out _).mono ?_); rintro e w9 ⟨rfl, hb9⟩) | (go_at_call 14; (with_reducible refine (C6.out _).mono ?_); rintro e w9 ⟨rfl, hb9⟩) | (go_at_call 14; (with_reducible refine (C7.out _).mono ?_); rintro e w9 ⟨rfl, hb9⟩) | (go_at_call 19; (with_reducible refine (C8.out _).mono ?_); rintro e w9 ⟨rfl, hb9⟩) | (go_at_call 19; (with_reducible refine (C9.out _).mono ?_); rintro e w9 ⟨rfl, hb9⟩) | (go_at_call 16; (with_reducible refine (CA.out _).mono ?_); rintro e w9 ⟨rfl, hb9⟩) | (go_at_call 16; (with_reducible refine (CB.out _).mono ?_); rintro e w9 ⟨rfl, hb9⟩) | (go_at_call 16; (with_reducible refine (CC.out _).mono ?_); rintro e w9 ⟨rfl, hb9⟩))
        go_wp2_with fail
        refine hK.out _ _ (by (try dsimp only); (first | assumption | exact HSS.out _ ((Below.refl _ _).drew) | exact keep_step HSS.out (by assumption) (by assumption))) (fun hHeld => ?_)
        clear hK K
        try simp only [Act.put, List.setIfInBounds_toArray, List.set_cons_zero, List.set_cons_succ]
        refine wpAnyH_take (i := 27) (oi := ⟨_, _, _, _, _, _⟩) (v := ?_) rfl (by kernel_rfl) (by kernel_rfl) (by kernel_rfl) (fun _ _ _ h => h) (Or.inl ⟨by rfl, ?_⟩) (by assumption) ?_
        rotate_left
        · (intro wS hSw; (try dsimp only at hSw); go_simp <;> with_reducible rfl)
        try simp only [Act.put, List.setIfInBounds_toArray, List.set_cons_zero, List.set_cons_succ]
        refine wpAnyH_take (i := 28) (oi := ⟨_, _, _, _, _, _⟩) (v := ?_) rfl (by kernel_rfl) (by kernel_rfl) (by kernel_rfl) (fun _ _ _ h => h) (Or.inl ⟨by rfl, ?_⟩) (by assumption) ?_
        rotate_left
        · (intro wS hSw; (try dsimp only at hSw); go_simp <;> with_reducible rfl)
        try simp only [Act.put, List.setIfInBounds_toArray, List.set_cons_zero, List.set_cons_succ]
        refine wpAnyH_take (i := 29) (oi := ⟨_, _, _, _, _, _⟩) (v := ?_) rfl (by kernel_rfl) (by kernel_rfl) (by kernel_rfl) (fun _ _ _ h => h) (Or.inl ⟨by rfl, ?_⟩) (by assumption) ?_
        rotate_left
        · (intro wS hSw; (try dsimp only at hSw); go_simp <;> with_reducible rfl)
        try simp only [Act.put, List.setIfInBounds_toArray, List.set_cons_zero, List.set_cons_succ]
        refine wpAnyH_take (i := 30) (oi := ⟨_, _, _, _, _, _⟩) (v := ?_) rfl (by kernel_rfl) (by kernel_rfl) (by kernel_rfl) (fun _ _ _ h => h) (Or.inl ⟨by rfl, ?_⟩) (by assumption) ?_
        rotate_left
        · (intro wS hSw; (try dsimp only at hSw); go_simp <;> with_reducible rfl)
        try simp only [Act.put, List.setIfInBounds_toArray, List.set_cons_zero, List.set_cons_succ]
        refine wpAnyH_ready (rs := [31]) (by kernel_rfl) (by simp) ?_
        refine AllReadyH.cons (o := ⟨_, _, _, _, _, _⟩) rfl (fun K hK => ?_) AllReadyH.nil
        go_simp
        (first | (go_at_call 14; (with_reducible refine (C5.out _).mono ?_); rintro e w9 ⟨rfl, hb9⟩) | (go_at_call 14; (with_reducible refine (C6.out _).mono ?_); rintro e w9 ⟨rfl, hb9⟩) | (go_at_call 14; (with_reducible refine (C7.out _).mono ?_); rintro e w9 ⟨rfl, hb9⟩) | (go_at_call 19; (with_reducible refine (C8.out _).mono ?_); rintro e w9 ⟨rfl, hb9⟩) | (go_at_call 19; (with_reducible refine (C9.out _).mono ?_); rintro e w9 ⟨rfl, hb9⟩) | (go_at_call 16; (with_reducible refine (CA.out _).mono ?_); rintro e w9 ⟨rfl, hb9⟩) | (go_at_call 16; (with_reducible refine (CB.out _).mono ?_); rintro e w9 ⟨rfl, hb9⟩) | (go_at_call 16; (with_reducible refine (CC.out _).mono ?_); rintro e w9 ⟨rfl, hb9⟩))
        go_wp2_with fail
        refine hK.out _ _ (by (try dsimp only); (first | assumption | exact HSS.out _ ((Below.refl _ _).drew) | exact keep_step HSS.out (by assumption) (by assumption))) (fun hHeld => ?_)
        clear hK K
        try simp only [Act.put, List.setIfInBounds_toArray, List.set_cons_zero, List.set_cons_succ]
        refine wpAnyH_take (i := 32) (oi := ⟨_, _, _, _, _, _⟩) (v := ?_) rfl (by kernel_rfl) (by kernel_rfl) (by kernel_rfl) (fun _ _ _ h => h) (Or.inl ⟨by rfl, ?_⟩) (by assumption) ?_
        rotate_left
        · (intro wS hSw; (try dsimp only at hSw); go_simp <;> with_reducible rfl)
        try simp only [Act.put, List.setIfInBounds_toArray, List.set_cons_zero, List.set_cons_succ]
        refine wpAnyH_take (i := 33) (oi := ⟨_, _, _, _, _, _⟩) (v := ?_) rfl (by kernel_rfl) (by kernel_rfl) (by kernel_rfl) (fun _ _ _ h => h) (Or.inl ⟨by rfl, ?_⟩) (by assumption) ?_
        rotate_left
        · (intro wS hSw; (try dsimp only at hSw); go_simp <;> with_reducible rfl)
        try simp only [Act.put, List.setIfInBounds_toArray, List.set_cons_zero, List.set_cons_succ]
        refine wpAnyH_take (i := 34) (oi := ⟨_, _, _, _, _, _⟩) (v := ?_) rfl (by kernel_rfl) (by kernel_rfl) (by kernel_rfl) (fun _ _ _ h => h) (Or.inl ⟨by rfl, ?_⟩) (by assumption) ?_
        rotate_left
        · (intro wS hSw; (try dsimp only at hSw); go_simp <;> with_reducible rfl)
        try simp only [Act.put, List.setIfInBounds_toArray, List.set_cons_zero, List.set_cons_succ]
        refine wpAnyH_take (i := 35) (oi := ⟨_, _, _, _, _, _⟩) (v := ?_) rfl (by kernel_rfl) (by kernel_rfl) (by kernel_rfl) (fun _ _ _ h => h) (Or.inl ⟨by rfl, ?_⟩) (by assumption) ?_
        rotate_left
        · (intro wS hSw; (try dsimp only at hSw); go_simp <;> with_reducible rfl)
        try simp only [Act.put, List.setIfInBounds_toArray, List.set_cons_zero, List.set_cons_succ]
        refine wpAnyH_take (i := 36) (oi := ⟨_, _, _, _, _, _⟩) (v := undef) rfl (by kernel_rfl) (by kernel_rfl) (by kernel_rfl) (fun _ _ _ h => h) (Or.inr ⟨by rfl, rfl⟩) (by assumption) ?_
        try simp only [Act.put, List.setIfInBounds_toArray, List.set_cons_zero, List.set_cons_succ]
        refine wpAnyH_take (i := 38) (oi := ⟨_, _, _, _, _, _⟩) (v := undef) rfl (by kernel_rfl) (by kernel_rfl) (by kernel_rfl) (fun _ _ _ h => h) (Or.inr ⟨by rfl, rfl⟩) (by assumption) ?_
        try simp only [Act.put, List.setIfInBounds_toArray, List.set_cons_zero, List.set_cons_succ]
        refine wpAnyH_take (i := 41) (oi := ⟨_, _, _, _, _, _⟩) (v := undef) rfl (by kernel_rfl) (by kernel_rfl) (by kernel_rfl) (fun _ _ _ h => h) (Or.inr ⟨by rfl, rfl⟩) (by assumption) ?_
        try simp only [Act.put, List.setIfInBounds_toArray, List.set_cons_zero, List.set_cons_succ]
        refine wpAnyH_take (i := 37) (oi := ⟨_, _, _, _, _, _⟩) (v := undef) rfl (by kernel_rfl) (by kernel_rfl) (by kernel_rfl) (fun _ _ _ h => h) (Or.inr ⟨by rfl, rfl⟩) (by assumption) ?_
        try simp only [Act.put, List.setIfInBounds_toArray, List.set_cons_zero, List.set_cons_succ]
        refine wpAnyH_take (i := 39) (oi := ⟨_, _, _, _, _, _⟩) (v := undef) rfl (by kernel_rfl) (by kernel_rfl) (by kernel_rfl) (fun _ _ _ h => h) (Or.inr ⟨by rfl, rfl⟩) (by assumption) ?_
        try simp only [Act.put, List.setIfInBounds_toArray, List.set_cons_zero, List.set_cons_succ]
        refine wpAnyH_take (i := 40) (oi := ⟨_, _, _, _, _, _⟩) (v := undef) rfl (by kernel_rfl) (by kernel_rfl) (by kernel_rfl) (fun _ _ _ h => h) (Or.inr ⟨by rfl, rfl⟩) (by assumption) ?_
        try simp only [Act.put, List.setIfInBounds_toArray, List.set_cons_zero, List.set_cons_succ]
        refine wpAnyH_take (i := 42) (oi := ⟨_, _, _, _, _, _⟩) (v := undef) rfl (by kernel_rfl) (by kernel_rfl) (by kernel_rfl) (fun _ _ _ h => h) (Or.inr ⟨by rfl, rfl⟩) (by assumption) ?_
        try simp only [Act.put, List.setIfInBounds_toArray, List.set_cons_zero, List.set_cons_succ]
        refine wpAnyH_take (i := 43) (oi := ⟨_, _, _, _, _, _⟩) (v := undef) rfl (by kernel_rfl) (by kernel_rfl) (by kernel_rfl) (fun _ _ _ h => h) (Or.inr ⟨by rfl, rfl⟩) (by assumption) ?_
        try simp only [Act.put, List.setIfInBounds_toArray, List.set_cons_zero, List.set_cons_succ]
        refine wpAnyH_take (i := 44) (oi := ⟨_, _, _, _, _, _⟩) (v := ?_) rfl (by kernel_rfl) (by kernel_rfl) (by kernel_rfl) (fun _ _ _ h => h) (Or.inl ⟨by rfl, ?_⟩) (by assumption) ?_
        rotate_left
        · (intro wS hSw; (try dsimp only at hSw); go_simp <;> with_reducible rfl)
        try simp only [Act.put, List.setIfInBounds_toArray, List.set_cons_zero, List.set_cons_succ]
        refine wpAnyH_take (i := 45) (oi := ⟨_, _, _, _, _, _⟩) (v := ?_) rfl (by kernel_rfl) (by kernel_rfl) (by kernel_rfl) (fun _ _ _ h => h) (Or.inl ⟨by rfl, ?_⟩) (by assumption) ?_
        rotate_left
        · (intro wS hSw; (try dsimp only at hSw); go_simp <;> with_reducible rfl)
        try simp only [Act.put, List.setIfInBounds_toArray, List.set_cons_zero, List.set_cons_succ]
        refine wpAnyH_take (i := 46) (oi := ⟨_, _, _, _, _, _⟩) (v := ?_) rfl (by kernel_rfl) (by kernel_rfl) (by kernel_rfl) (fun _ _ _ h => h) (Or.inl ⟨by rfl, ?_⟩) (by assumption) ?_
        rotate_left
        · (intro wS hSw; (try dsimp only at hSw); go_simp <;> with_reducible rfl)
        try simp only [Act.put, List.setIfInBounds_toArray, List.set_cons_zero, List.set_cons_succ]
        refine wpAnyH_done (by kernel_rfl) ?_ _
        go_wp2
        go_ret
        exact ⟨rfl, fin hB' (by assumption)⟩
    · cases wh
      ·
        refine wp_region_held_drew (S := (fun w' => Below w5.heap.size w5 w' ∧ (w'.cell? ⟨w.heap.size, 0, none⟩ = some (.int .u64 (f : Nat)) ∧ w'.cell? ⟨w.heap.size, 1, none⟩ = some (.int .u64 (t : Nat)) ∧ w'.cell? ⟨w1.heap.size, 0, none⟩ = some (.int .u64 (f : Nat)) ∧ w'.cell? ⟨w1.heap.size, 1, none⟩ = some (.int .u64 (x : Nat)) ∧ w'.cell? ⟨w1.heap.size + 1, 0, none⟩ = some (.int .u64 (x : Nat)) ∧ w'.cell? ⟨w1.heap.size + 1, 1, none⟩ = some (.int .u64 (t : Nat))))) (by kernel_rfl) ?_ (fun hHeld => ?_)
        · (try dsimp only); (first | assumption | exact HSS.out _ ((Below.refl _ _).drew) | exact keep_step HSS.out (by assumption) (by assumption))
        refine wpAnyH_take (i := 0) (oi := ⟨_, _, _, _, _, _⟩) (v := ?_) rfl (by kernel_rfl) (by kernel_rfl) (by kernel_rfl) (fun _ _ _ h => h) (Or.inl ⟨by rfl, ?_⟩) (by assumption) ?_
        rotate_left
        · (intro wS hSw; (try dsimp only at hSw); go_simp <;> with_reducible rfl)
        try simp only [Act.put, List.setIfInBounds_toArray, List.set_cons_zero, List.set_cons_succ]
        refine wpAnyH_take (i := 1) (oi := ⟨_, _, _, _, _, _⟩) (v := ?_) rfl (by kernel_rfl) (by kernel_rfl) (by kernel_rfl) (fun _ _ _ h => h) (Or.inl ⟨by rfl, ?_⟩) (by assumption) ?_
        rotate_left
        · (intro wS hSw; (try dsimp only at hSw); go_simp <;> with_reducible rfl)
        try simp only [Act.put, List.setIfInBounds_toArray, List.set_cons_zero, List.set_cons_succ]
        refine wpAnyH_take (i := 8) (oi := ⟨_, _, _, _, _, _⟩) (v := ?_) rfl (by kernel_rfl) (by kernel_rfl) (by kernel_rfl) (fun _ _ _ h => h) (Or.inl ⟨by rfl, ?_⟩) (by assumption) ?_
        rotate_left
        · (intro wS hSw; (try dsimp only at hSw); go_simp <;> with_reducible rfl)
        try simp only [Act.put, List.setIfInBounds_toArray, List.set_cons_zero, List.set_cons_succ]
        refine wpAnyH_take (i := 9) (oi := ⟨_, _, _, _, _, _⟩) (v := ?_) rfl (by kernel_rfl) (by kernel_rfl) (by kernel_rfl) (fun _ _ _ h => h) (Or.inl ⟨by rfl, ?_⟩) (by assumption) ?_
        rotate_left
        · (intro wS hSw; (try dsimp only at hSw); go_simp <;> with_reducible rfl)
        try simp only [Act.put, List.setIfInBounds_toArray, List.set_cons_zero, List.set_cons_succ]
        refine wpAnyH_ready (rs := [2]) (by kernel_rfl) (by simp) ?_
        refine AllReadyH.cons (o := ⟨_, _, _, _, _, _⟩) rfl (fun K hK => ?_) AllReadyH.nil
        go_simp
        (first | (go_at_call 14; (with_reducible refine (C5.out _).mono ?_); rintro e w9 ⟨rfl, hb9⟩) | (go_at_call 14; (with_reducible refine (C6.out _).mono ?_); rintro e w9 ⟨rfl, hb9⟩) | (go_at_call 14; (with_reducible refine (C7.out _).mono ?_); rintro e w9 ⟨rfl, hb9⟩) | (go_at_call 19; (with_reducible refine (C8.out _).mono ?_); rintro e w9 ⟨rfl, hb9⟩) | (go_at_call 19; (with_reducible refine (C9.out _).mono ?_); rintro e w9 ⟨rfl, hb9⟩) | (go_at_call 16; (with_reducible refine (CA.out _).mono ?_); rintro e w9 ⟨rfl, hb9⟩) | (go_at_call 16; (with_reducible refine (CB.out _).mono ?_); rintro e w9 ⟨rfl, hb9⟩) | (go_at_call 16; (with_reducible refine (CC.out _).mono ?_); rintro e w9 ⟨rfl, hb9⟩))
        go_wp2_with fail
        refine hK.out _ _ (by (try dsimp only); (first | assumption | exact HSS.out _ ((Below.refl _ _).drew) | exact keep_step HSS.out (by assumption) (by assumption))) (fun hHeld => ?_)
        clear hK K
        try simp only [Act.put, List.setIfInBounds_toArray, List.set_cons_zero, List.set_cons_succ]
        refine wpAnyH_take (i := 3) (oi := ⟨_, _, _, _, _, _⟩) (v := ?_) rfl (by kernel_rfl) (by kernel_rfl) (by kernel_rfl) (fun _ _ _ h => h) (Or.inl ⟨by rfl, ?_⟩) (by assumption) ?_
        rotate_left
        · (intro wS hSw; (try dsimp only at hSw); go_simp <;> with_reducible rfl)
        try simp only [Act.put, List.setIfInBounds_toArray, List.set_cons_zero, List.set_cons_succ]
        refine wpAnyH_take (i := 4) (oi := ⟨_, _, _, _, _, _⟩) (v := ?_) rfl (by kernel_rfl) (by kernel_rfl) (by kernel_rfl) (fun _ _ _ h => h) (Or.inl ⟨by rfl, ?_⟩) (by assumption) ?_
        rotate_left
        · (intro wS hSw; (try dsimp only at hSw); go_simp <;> with_reducible rfl)
        try simp only [Act.put, List.setIfInBounds_toArray, List.set_cons_zero, List.set_cons_succ]
        refine wpAnyH_take (i := 5) (oi := ⟨_, _, _, _, _, _⟩) (v := ?_) rfl (by kernel_rfl) (by kernel_rfl) (by kernel_rfl) (fun _ _ _ h => h) (Or.inl ⟨by rfl, ?_⟩) (by assumption) ?_
        rotate_left
        · (intro wS hSw; (try dsimp only at hSw); go_simp <;> with_reducible rfl)
        try simp only [Act.put, List.setIfInBounds_toArray, List.set_cons_zero, List.set_cons_succ]
        refine wpAnyH_ready (rs := [6]) (by kernel_rfl) (by simp) ?_
        refine AllReadyH.cons (o := ⟨_, _, _, _, _, _⟩) rfl (fun K hK => ?_) AllReadyH.nil
        go_simp
        (first | (go_at_call 14; (with_reducible refine (C5.out _).mono ?_); rintro e w9 ⟨rfl, hb9⟩) | (go_at_call 14; (with_reducible refine (C6.out _).mono ?_); rintro e w9 ⟨rfl, hb9⟩) | (go_at_call 14; (with_reducible refine (C7.out _).mono ?_); rintro e w9 ⟨rfl, hb9⟩) | (go_at_call 19; (with_reducible refine (C8.out _).mono ?_); rintro e w9 ⟨rfl, hb9⟩) | (go_at_call 19; (with_reducible refine (C9.out _).mono ?_); rintro e w9 ⟨rfl, hb9⟩) | (go_at_call 16; (with_reducible refine (CA.out _).mono ?_); rintro e w9 ⟨rfl, hb9⟩) | (go_at_call 16; (with_reducible refine (CB.out _).mono ?_); rintro e w9 ⟨rfl, hb9⟩) | (go_at_call 16; (with_reducible refine (CC.out _).mono ?_); rintro e w9 ⟨rfl, hb9⟩))
        go_wp2_with fail
        refine hK.out _ _ (by (try dsimp only); (first | assumption | exact HSS.out _ ((Below.refl _ _).drew) | exact keep_step HSS.out (by assumption) (by assumption))) (fun hHeld => ?_)
        clear hK K
        try simp only [Act.put, List.setIfInBounds_toArray, List.set_cons_zero, List.set_cons_succ]
        refine wpAnyH_take (i := 7) (oi := ⟨_, _, _, _, _, _⟩) (v := ?_) rfl (by kernel_rfl) (by kernel_rfl) (by kernel_rfl) (fun _ _ _ h => h) (Or.inl ⟨by rfl, ?_⟩) (by assumption) ?_
        rotate_left
        · (intro wS hSw; (try dsimp only at hSw); go_simp <;> with_reducible rfl)
        try simp only [Act.put, List.setIfInBounds_toArray, List.set_cons_zero, List.set_cons_succ]
        refine wpAnyH_ready (rs := [10]) (by kernel_rfl) (by simp) ?_
        refine AllReadyH.cons (o := ⟨_, _, _, _, _, _⟩) rfl (fun K hK => ?_) AllReadyH.nil
        go_simp
        (first | (go_at_call 14; (with_reducible refine (C5.out _).mono ?_); rintro e w9 ⟨rfl, hb9⟩) | (go_at_call 14; (with_reducible refine (C6.out _).mono ?_); rintro e w9 ⟨rfl, hb9⟩) | (go_at_call 14; (with_reducible refine (C7.out _).mono ?_); rintro e w9 ⟨rfl, hb9⟩) | (go_at_call 19; (with_reducible refine (C8.out _).mono ?_); rintro e w9 ⟨rfl, hb9⟩) | (go_at_call 19; (with_reducible refine (C9.out _).mono ?_); rintro e w9 ⟨rfl, hb9⟩) | (go_at_call 16; (with_reducible refine (CA.out _).mono ?_); rintro e w9 ⟨rfl, hb9⟩) | (go_at_call 16; (with_reducible refine (CB.out _).mono ?_); rintro e w9 ⟨rfl, hb9⟩) | (go_at_call 16; (with_reducible refine (CC.out _).mono ?_); rintro e w9 ⟨rfl, hb9⟩))
        go_wp2_with fail
        refine hK.out _ _ (by (try dsimp only); (first | assumption | exact HSS.out _ ((Below.refl _ _).drew) | exact keep_step HSS.out (by assumption) (by assumption))) (fun hHeld => ?_)
        clear hK K
        try simp only [Act.put, List.setIfInBounds_toArray, List.set_cons_zero, List.set_cons_succ]
        refine wpAnyH_take (i := 11) (oi := ⟨_, _, _, _, _, _⟩) (v := ?_) rfl (by kernel_rfl) (by kernel_rfl) (by kernel_rfl) (fun _ _ _ h => h) (Or.inl ⟨by rfl, ?_⟩) (by assumption) ?_
        rotate_left
        · (intro wS hSw; (try dsimp only at hSw); go_simp <;> with_reducible rfl)
        try simp only [Act.put, List.setIfInBounds_toArray, List.set_cons_zero, List.set_cons_succ]
        refine wpAnyH_take (i := 12) (oi := ⟨_, _, _, _, _, _⟩) (v := ?_) rfl (by kernel_rfl) (by kernel_rfl) (by kernel_rfl) (fun _ _ _ h => h) (Or.inl ⟨by rfl, ?_⟩) (by assumption) ?_
        rotate_left
        · (intro wS hSw; (try dsimp only at hSw); go_simp <;> with_reducible rfl)
        try simp only [Act.put, List.setIfInBounds_toArray, List.set_cons_zero, List.set_cons_succ]
        refine wpAnyH_take (i := 13) (oi := ⟨_, _, _, _, _, _⟩) (v := ?_) rfl (by kernel_rfl) (by kernel_rfl) (by kernel_rfl) (fun _ _ _ h => h) (Or.inl ⟨by rfl, ?_⟩) (by assumption) ?_
        rotate_left
        · (intro wS hSw; (try dsimp only at hSw); go_simp <;> with_reducible rfl)
        try simp only [Act.put, List.setIfInBounds_toArray, List.set_cons_zero, List.set_cons_succ]
        refine wpAnyH_take (i := 14) (oi := ⟨_, _, _, _, _, _⟩) (v := ?_) rfl (by kernel_rfl) (by kernel_rfl) (by kernel_rfl) (fun _ _ _ h => h) (Or.inl ⟨by rfl, ?_⟩) (by assumption) ?_
        rotate_left
        · (intro wS hSw; (try dsimp only at hSw); go_simp <;> with_reducible rfl)
        try simp only [Act.put, List.setIfInBounds_toArray, List.set_cons_zero, List.set_cons_succ]
        refine wpAnyH_ready (rs := [15]) (by kernel_rfl) (by simp) ?_
        refine AllReadyH.cons (o := ⟨_, _, _, _, _, _⟩) rfl (fun K hK => ?_) AllReadyH.nil
        go_simp
        (first | (go_at_call 14; (with_reducible refine (C5.out _).mono ?_); rintro e w9 ⟨rfl, hb9⟩) | (go_at_call 14; (with_reducible refine (C6.out _).mono ?_); rintro e w9 ⟨rfl, hb9⟩) | (go_at_call 14; (with_reducible refine (C7.out _).mono ?_); rintro e w9 ⟨rfl, hb9⟩) | (go_at_call 19; (with_reducible refine (C8.out _).mono ?_); rintro e w9 ⟨rfl, hb9⟩) | (go_at_call 19; (with_reducible refine (C9.out _).mono ?_); rintro e w9 ⟨rfl, hb9⟩) | (go_at_call 16; (with_reducible refine (CA.out _).mono ?_); rintro e w9 ⟨rfl, hb9⟩) | (go_at_call 16; (with_reducible refine (CB.out _).mono ?_); rintro e w9 ⟨rfl, hb9⟩) | (go_at_call 16; (with_reducible refine (CC.out _).mono ?_); rintro e w9 ⟨rfl, hb9⟩))
        go_wp2_with fail
        refine hK.out _ _ (by (try dsimp only); (first | assumption | exact HSS.out _ ((Below.refl _ _).drew) | exact keep_step HSS.out (by assumption) (by assumption))) (fun hHeld => ?_)
        clear hK K
        try simp only [Act.put, List.setIfInBounds_toArray, List.set_cons_zero, List.set_cons_succ]
        refine wpAnyH_take (i := 16) (oi := ⟨_, _, _, _, _, _⟩) (v := ?_) rfl (by kernel_rfl) (by kernel_rfl) (by kernel_rfl) (fun _ _ _ h => h) (Or.inl ⟨by rfl, ?_⟩) (by assumption) ?_
        rotate_left
        · (intro wS hSw; (try dsimp only at hSw); go_simp <;> with_reducible rfl)
        try simp only [Act.put, List.setIfInBounds_toArray, List.set_cons_zero, List.set_cons_succ]
        refine wpAnyH_take (i := 17) (oi := ⟨_, _, _, _, _, _⟩) (v := undef) rfl (by kernel_rfl) (by kernel_rfl) (by kernel_rfl) (fun _ _ _ h => h) (Or.inr ⟨by rfl, rfl⟩) (by assumption) ?_
        try simp only [Act.put, List.setIfInBounds_toArray, List.set_cons_zero, List.set_cons_succ]
        refine wpAnyH_take (i := 18) (oi := ⟨_, _, _, _, _, _⟩) (v := undef) rfl (by kernel_rfl) (by kernel_rfl) (by kernel_rfl) (fun _ _ _ h => h) (Or.inr ⟨by rfl, rfl⟩) (by assumption) ?_
        try simp only [Act.put, List.setIfInBounds_toArray, List.set_cons_zero, List.set_cons_succ]
        refine wpAnyH_take (i := 19) (oi := ⟨_, _, _, _, _, _⟩) (v := undef) rfl (by kernel_rfl) (by kernel_rfl) (by kernel_rfl) (fun _ _ _ h => h) (Or.inr ⟨by rfl, rfl⟩) (by assumption) ?_
        try simp only [Act.put, List.setIfInBounds_toArray, List.set_cons_zero, List.set_cons_succ]
        refine wpAnyH_take (i := 20) (oi := ⟨_, _, _, _, _, _⟩) (v := ?_) rfl (by kernel_rfl) (by kernel_rfl) (by kernel_rfl) (fun _ _ _ h => h) (Or.inl ⟨by rfl, ?_⟩) (by assumption) ?_
        rotate_left
        · (intro wS hSw; (try dsimp only at hSw); go_simp <;> with_reducible rfl)
        try simp only [Act.put, List.setIfInBounds_toArray, List.set_cons_zero, List.set_cons_succ]
        refine wpAnyH_take (i := 21) (oi := ⟨_, _, _, _, _, _⟩) (v := ?_) rfl (by kernel_rfl) (by kernel_rfl) (by kernel_rfl) (fun _ _ _ h => h) (Or.inl ⟨by rfl, ?_⟩) (by assumption) ?_
        rotate_left
        · (intro wS hSw; (try dsimp only at hSw); go_simp <;> with_reducible rfl)
        try simp only [Act.put, List.setIfInBounds_toArray, List.set_cons_zero, List.set_cons_succ]
        refine wpAnyH_take (i := 22) (oi := ⟨_, _, _, _, _, _⟩) (v := ?_) rfl (by kernel_rfl) (by kernel_rfl) (by kernel_rfl) (fun _ _ _ h => h) (Or.inl ⟨by rfl, ?_⟩) (by assumption) ?_
        rotate_left
        · (intro wS hSw; (try dsimp only at hSw); go_simp <;> with_reducible rfl)
        try simp only [Act.put, List.setIfInBounds_toArray, List.set_cons_zero, List.set_cons_succ]
        refine wpAnyH_take (i := 23) (oi := ⟨_, _, _, _, _, _⟩) (v := ?_) rfl (by kernel_rfl) (by kernel_rfl) (by kernel_rfl) (fun _ _ _ h => h) (Or.inl ⟨by rfl, ?_⟩) (by assumption) ?_
        rotate_left
        · (intro wS hSw; (try dsimp only at hSw); go_simp <;> with_reducible rfl)
        try simp only [Act.put, List.setIfInBounds_toArray, List.set_cons_zero, List.set_cons_succ]
        refine wpAnyH_take (i := 24) (oi := ⟨_, _, _, _, _, _⟩) (v := ?_) rfl (by kernel_rfl) (by kernel_rfl) (by kernel_rfl) (fun _ _ _ h => h) (Or.inl ⟨by rfl, ?_⟩) (by assumption) ?_
        rotate_left
        · (intro wS hSw; (try dsimp only at hSw); go_simp <;> with_reducible rfl)
        try simp only [Act.put, List.setIfInBounds_toArray, List.set_cons_zero, List.set_cons_succ]
        refine wpAnyH_take (i := 25) (oi := ⟨_, _, _, _, _, _⟩) (v := ?_) rfl (by kernel_rfl) (by kernel_rfl) (by kernel_rfl) (fun _ _ _ h => h) (Or.inl ⟨by rfl, ?_⟩) (by assumption) ?_
        rotate_left
        · (intro wS hSw; (try dsimp only at hSw); go_simp <;> with_reducible rfl)
        try simp only [Act.put, List.setIfInBounds_toArray, List.set_cons_zero, List.set_cons_succ]
        refine wpAnyH_ready (rs := [26]) (by kernel_rfl) (by simp) ?_
        refine AllReadyH.cons (o := ⟨_, _, _, _, _, _⟩) rfl (fun K hK => ?_) AllReadyH.nil
        go_simp
        (first | (go_at_call 14; (with_reducible refine (C5.out _).mono ?_); rintro e w9 ⟨rfl, hb9⟩) | (go_at_call 14; (with_reducible refine (C6.out _).mono ?_); rintro e w9 ⟨rfl, hb9⟩) | (go_at_call 14; (with_reducible refine (C7.out _).mono ?_); rintro e w9 ⟨rfl, hb9⟩) | (go_at_call 19; (with_reducible refine (C8.out _).mono ?_); rintro e w9 ⟨rfl, hb9⟩) | (go_at_call 19; (with_reducible refine (C9.out _).mono ?_); rintro e w9 ⟨rfl, hb9⟩) | (go_at_call 16; (with_reducible refine (CA.out _).mono ?_); rintro e w9 ⟨rfl, hb9⟩) | (go_at_call 16; (with_reducible refine (CB.out _).mono ?_); rintro e w9 ⟨rfl, hb9⟩) | (go_at_call 16; (with_reducible refine (CC.out _).mono ?_); rintro e w9 ⟨rfl, hb9⟩))
        go_wp2_with fail
        refine hK.out _ _ (by (try dsimp only); (first | assumption | exact HSS.out _ ((Below.refl _ _).drew) | exact keep_step HSS.out (by assumption) (by assumption))) (fun hHeld => ?_)
        clear hK K
        try simp only [Act.put, List.setIfInBounds_toArray, List.set_cons_zero, List.set_cons_succ]
        refine wpAnyH_take (i := 27) (oi := ⟨_, _, _, _, _, _⟩) (v := ?_) rfl (by kernel_rfl) (by kernel_rfl) (by kernel_rfl) (fun _ _ _ h => h) (Or.inl ⟨by rfl, ?_⟩) (by assumption) ?_
        rotate_left
        · (intro wS hSw; (try dsimp only at hSw); go_simp <;> with_reducible rfl)
        try simp only [Act.put, List.setIfInBounds_toArray, List.set_cons_zero, List.set_cons_succ]
        refine wpAnyH_take (i := 28) (oi := ⟨_, _, _, _, _, _⟩) (v := ?_) rfl (by kernel_rfl) (by kernel_rfl) (by kernel_rfl) (fun _ _ _ h => h) (Or.inl ⟨by rfl, ?_⟩) (by assumption) ?_
        rotate_left
        · (intro wS hSw; (try dsimp only at hSw); go_simp <;> with_reducible rfl)
        try simp only [Act.put, List.setIfInBounds_toArray, List.set_cons_zero, List.set_cons_succ]
        refine wpAnyH_take (i := 29) (oi := ⟨_, _, _, _, _, _⟩) (v := ?_) rfl (by kernel_rfl) (by kernel_rfl) (by kernel_rfl) (fun _ _ _ h => h) (Or.inl ⟨by rfl, ?_⟩) (by assumption) ?_
        rotate_left
        · (intro wS hSw; (try dsimp only at hSw); go_simp <;> with_reducible rfl)
        try simp only [Act.put, List.setIfInBounds_toArray, List.set_cons_zero, List.set_cons_succ]
        refine wpAnyH_take (i := 30) (oi := ⟨_, _, _, _, _, _⟩) (v := ?_) rfl (by kernel_rfl) (by kernel_rfl) (by kernel_rfl) (fun _ _ _ h => h) (Or.inl ⟨by rfl, ?_⟩) (by assumption) ?_
        rotate_left
        · (intro wS hSw; (try dsimp only at hSw); go_simp <;> with_reducible rfl)
        try simp only [Act.put, List.setIfInBounds_toArray, List.set_cons_zero, List.set_cons_succ]
        refine wpAnyH_ready (rs := [31]) (by kernel_rfl) (by simp) ?_
        refine AllReadyH.cons (o := ⟨_, _, _, _, _, _⟩) rfl (fun K hK => ?_) AllReadyH.nil
        go_simp
        (first | (go_at_call 14; (with_reducible refine (C5.out _).mono ?_); rintro e w9 ⟨rfl, hb9⟩) | (go_at_call 14; (with_reducible refine (C6.out _).mono ?_); rintro e w9 ⟨rfl, hb9⟩) | (go_at_call 14; (with_reducible refine (C7.out _).mono ?_); rintro e w9 ⟨rfl, hb9⟩) | (go_at_call 19; (with_reducible refine (C8.out _).mono ?_); rintro e w9 ⟨rfl, hb9⟩) | (go_at_call 19; (with_reducible refine (C9.out _).mono ?_); rintro e w9 ⟨rfl, hb9⟩) | (go_at_call 16; (with_reducible refine (CA.out _).mono ?_); rintro e w9 ⟨rfl, hb9⟩) | (go_at_call 16; (with_reducible refine (CB.out _).mono ?_); rintro e w9 ⟨rfl, hb9⟩) | (go_at_call 16; (with_reducible refine (CC.out _).mono ?_); rintro e w9 ⟨rfl, hb9⟩))
        go_wp2_with fail
        refine hK.out _ _ (by (try dsimp only); (first | assumption | exact HSS.out _ ((Below.refl _ _).drew) | exact keep_step HSS.out (by assumption) (by assumption))) (fun hHeld => ?_)
        clear hK K
        try simp only [Act.put, List.setIfInBounds_toArray, List.set_cons_zero, List.set_cons_succ]
        refine wpAnyH_take (i := 32) (oi := ⟨_, _, _, _, _, _⟩) (v := ?_) rfl (by kernel_rfl) (by kernel_rfl) (by kernel_rfl) (fun _ _ _ h => h) (Or.inl ⟨by rfl, ?_⟩) (by assumption) ?_
        rotate_left
        · (intro wS hSw; (try dsimp only at hSw); go_simp <;> with_reducible rfl)
        try simp only [Act.put, List.setIfInBounds_toArray, List.set_cons_zero, List.set_cons_succ]
        refine wpAnyH_take (i := 33) (oi := ⟨_, _, _, _, _, _⟩) (v := ?_) rfl (by kernel_rfl) (by kernel_rfl) (by kernel_rfl) (fun _ _ _ h => h) (Or.inl ⟨by rfl, ?_⟩) (by assumption) ?_
        rotate_left
        · (intro wS hSw; (try dsimp only at hSw); go_simp <;> with_reducible rfl)
        try simp only [Act.put, List.setIfInBounds_toArray, List.set_cons_zero, List.set_cons_succ]
        refine wpAnyH_take (i := 34) (oi := ⟨_, _, _, _, _, _⟩) (v := ?_) rfl (by kernel_rfl) (by kernel_rfl) (by kernel_rfl) (fun _ _ _ h => h) (Or.inl ⟨by rfl, ?_⟩) (by assumption) ?_
        rotate_left
        · (intro wS hSw; (try dsimp only at hSw); go_simp <;> with_reducible rfl)
        try simp only [Act.put, List.setIfInBounds_toArray, List.set_cons_zero, List.set_cons_succ]
        refine wpAnyH_take (i := 35) (oi := ⟨_, _, _, _, _, _⟩) (v := ?_) rfl (by kernel_rfl) (by kernel_rfl) (by kernel_rfl) (fun _ _ _ h => h) (Or.inl ⟨by rfl, ?_⟩) (by assumption) ?_
        rotate_left
        · (intro wS hSw; (try dsimp only at hSw); go_simp <;> with_reducible rfl)
        try simp only [Act.put, List.setIfInBounds_toArray, List.set_cons_zero, List.set_cons_succ]
        refine wpAnyH_take (i := 36) (oi := ⟨_, _, _, _, _, _⟩) (v := ?_) rfl (by kernel_rfl) (by kernel_rfl) (by kernel_rfl) (fun _ _ _ h => h) (Or.inl ⟨by rfl, ?_⟩) (by assumption) ?_
        rotate_left
        · (intro wS hSw; (try dsimp only at hSw); go_simp <;> with_reducible rfl)
        try simp only [Act.put, List.setIfInBounds_toArray, List.set_cons_zero, List.set_cons_succ]
        refine wpAnyH_take (i := 38) (oi := ⟨_, _, _, _, _, _⟩) (v := ?_) rfl (by kernel_rfl) (by kernel_rfl) (by kernel_rfl) (fun _ _ _ h => h) (Or.inl ⟨by rfl, ?_⟩) (by assumption) ?_
        rotate_left
        · (intro wS hSw; (try dsimp only at hSw); go_simp <;> with_reducible rfl)
        try simp only [Act.put, List.setIfInBounds_toArray, List.set_cons_zero, List.set_cons_succ]
        refine wpAnyH_take (i := 41) (oi := ⟨_, _, _, _, _, _⟩) (v := ?_) rfl (by kernel_rfl) (by kernel_rfl) (by kernel_rfl) (fun _ _ _ h => h) (Or.inl ⟨by rfl, ?_⟩) (by assumption) ?_
        rotate_left
        · (intro wS hSw; (try dsimp only at hSw); go_simp <;> with_reducible rfl)
        try simp only [Act.put, List.setIfInBounds_toArray, List.set_cons_zero, List.set_cons_succ]
        refine wpAnyH_ready (rs := [37]) (by kernel_rfl) (by simp) ?_
        refine AllReadyH.cons (o := ⟨_, _, _, _, _, _⟩) rfl (fun K hK => ?_) AllReadyH.nil
        go_simp
        (first | (go_at_call 14; (with_reducible refine (C5.out _).mono ?_); rintro e w9 ⟨rfl, hb9⟩) | (go_at_call 14; (with_reducible refine (C6.out _).mono ?_); rintro e w9 ⟨rfl, hb9⟩) | (go_at_call 14; (with_reducible refine (C7.out _).mono ?_); rintro e w9 ⟨rfl, hb9⟩) | (go_at_call 19; (with_reducible refine (C8.out _).mono ?_); rintro e w9 ⟨rfl, hb9⟩) | (go_at_call 19; (with_reducible refine (C9.out _).mono ?_); rintro e w9 ⟨rfl, hb9⟩) | (go_at_call 16; (with_reducible refine (CA.out _).mono ?_); rintro e w9 ⟨rfl, hb9⟩) | (go_at_call 16; (with_reducible refine (CB.out _).mono ?_); rintro e w9 ⟨rfl, hb9⟩) | (go_at_call 16; (with_reducible refine (CC.out _).mono ?_); rintro e w9 ⟨rfl, hb9⟩))
        go_wp2_with fail
        refine hK.out _ _ (by (try dsimp only); (first | assumption | exact HSS.out _ ((Below.refl _ _).drew) | exact keep_step HSS.out (by assumption) (by assumption))) (fun hHeld => ?_)
        clear hK K
        try simp only [Act.put, List.setIfInBounds_toArray, List.set_cons_zero, List.set_cons_succ]
        refine wpAnyH_ready (rs := [39]) (by kernel_rfl) (by simp) ?_
        refine AllReadyH.cons (o := ⟨_, _, _, _, _, _⟩) rfl (fun K hK => ?_) AllReadyH.nil
        go_simp
        (first | (go_at_call 14; (with_reducible refine (C5.out _).mono ?_); rintro e w9 ⟨rfl, hb9⟩) | (go_at_call 14; (with_reducible refine (C6.out _).mono ?_); rintro e w9 ⟨rfl, hb9⟩) | (go_at_call 14; (with_reducible refine (C7.out _).mono ?_); rintro e w9 ⟨rfl, hb9⟩) | (go_at_call 19; (with_reducible refine (C8.out _).mono ?_); rintro e w9 ⟨rfl, hb9⟩) | (go_at_call 19; (with_reducible refine (C9.out _).mono ?_); rintro e w9 ⟨rfl, hb9⟩) | (go_at_call 16; (with_reducible refine (CA.out _).mono ?_); rintro e w9 ⟨rfl, hb9⟩) | (go_at_call 16; (with_reducible refine (CB.out _).mono ?_); rintro e w9 ⟨rfl, hb9⟩) | (go_at_call 16; (with_reducible refine (CC.out _).mono ?_); rintro e w9 ⟨rfl, hb9⟩))
        go_wp2_with fail
        refine hK.out _ _ (by (try dsimp only); (first | assumption | exact HSS.out _ ((Below.refl _ _).drew) | exact keep_step HSS.out (by assumption) (by assumption))) (fun hHeld => ?_)
        clear hK K
        try simp only [Act.put, List.setIfInBounds_toArray, List.set_cons_zero, List.set_cons_succ]
        refine wpAnyH_take (i := 40) (oi := ⟨_, _, _, _, _, _⟩) (v := ?_) rfl (by kernel_rfl) (by kernel_rfl) (by kernel_rfl) (fun _ _ _ h => h) (Or.inl ⟨by rfl, ?_⟩) (by assumption) ?_
        rotate_left
        · (intro wS hSw; (try dsimp only at hSw); go_simp <;> with_reducible rfl)
        try simp only [Act.put, List.setIfInBounds_toArray, List.set_cons_zero, List.set_cons_succ]
        refine wpAnyH_ready (rs := [42]) (by kernel_rfl) (by simp) ?_
        refine AllReadyH.cons (o := ⟨_, _, _, _, _, _⟩) rfl (fun K hK => ?_) AllReadyH.nil
        go_simp
        (first | (go_at_call 14; (with_reducible refine (C5.out _).mono ?_); rintro e w9 ⟨rfl, hb9⟩) | (go_at_call 14; (with_reducible refine (C6.out _).mono ?_); rintro e w9 ⟨rfl, hb9⟩) | (go_at_call 14; (with_reducible refine (C7.out _).mono ?_); rintro e w9 ⟨rfl, hb9⟩) | (go_at_call 19; (with_reducible refine (C8.out _).mono ?_); rintro e w9 ⟨rfl, hb9⟩) | (go_at_call 19; (with_reducible refine (C9.out _).mono ?_); rintro e w9 ⟨rfl, hb9⟩) | (go_at_call 16; (with_reducible refine (CA.out _).mono ?_); rintro e w9 ⟨rfl, hb9⟩) | (go_at_call 16; (with_reducible refine (CB.out _).mono ?_); rintro e w9 ⟨rfl, hb9⟩) | (go_at_call 16; (with_reducible refine (CC.out _).mono ?_); rintro e w9 ⟨rfl, hb9⟩))
        go_wp2_with fail
        refine hK.out _ _ (by (try dsimp only); (first | assumption | exact HSS.out _ ((Below.refl _ _).drew) | exact keep_step HSS.out (by assumption) (by assumption))) (fun hHeld => ?_)
        clear hK K
        try simp only [Act.put, List.setIfInBounds_toArray, List.set_cons_zero, List.set_cons_succ]
        refine wpAnyH_take (i := 43) (oi := ⟨_, _, _, _, _, _⟩) (v := ?_) rfl (by kernel_rfl) (by kernel_rfl) (by kernel_rfl) (fun _ _ _ h => h) (Or.inl ⟨by rfl, ?_⟩) (by assumption) ?_
        rotate_left
        · (intro wS hSw; (try dsimp only at hSw); go_simp <;> with_reducible rfl)
        try simp only [Act.put, List.setIfInBounds_toArray, List.set_cons_zero, List.set_cons_succ]
        refine wpAnyH_take (i := 44) (oi := ⟨_, _, _, _, _, _⟩) (v := ?_) rfl (by kernel_rfl) (by kernel_rfl) (by kernel_rfl) (fun _ _ _ h => h) (Or.inl ⟨by rfl, ?_⟩) (by assumption) ?_
        rotate_left
        · (intro wS hSw; (try dsimp only at hSw); go_simp <;> with_reducible rfl)
        try simp only [Act.put, List.setIfInBounds_toArray, List.set_cons_zero, List.set_cons_succ]
        refine wpAnyH_take (i := 45) (oi := ⟨_, _, _, _, _, _⟩) (v := ?_) rfl (by kernel_rfl) (by kernel_rfl) (by kernel_rfl) (fun _ _ _ h => h) (Or.inl ⟨by rfl, ?_⟩) (by assumption) ?_
        rotate_left
        · (intro wS hSw; (try dsimp only at hSw); go_simp <;> with_reducible rfl)
        try simp only [Act.put, List.setIfInBounds_toArray, List.set_cons_zero, List.set_cons_succ]
        refine wpAnyH_take (i := 46) (oi := ⟨_, _, _, _, _, _⟩) (v := ?_) rfl (by kernel_rfl) (by kernel_rfl) (by kernel_rfl) (fun _ _ _ h => h) (Or.inl ⟨by rfl, ?_⟩) (by assumption) ?_
        rotate_left
        · (intro wS hSw; (try dsimp only at hSw); go_simp <;> with_reducible rfl)
        try simp only [Act.put, List.setIfInBounds_toArray, List.set_cons_zero, List.set_cons_succ]
        refine wpAnyH_done (by kernel_rfl) ?_ _
        go_wp2
        go_ret
        exact ⟨rfl, fin hB' (by assumption)⟩
      ·
        refine wp_region_held_drew (S := (fun w' => Below w5.heap.size w5 w' ∧ (w'.cell? ⟨w.heap.size, 0, none⟩ = some (.int .u64 (f : Nat)) ∧ w'.cell? ⟨w.heap.size, 1, none⟩ = some (.int .u64 (t : Nat)) ∧ w'.cell? ⟨w1.heap.size, 0, none⟩ = some (.int .u64 (f : Nat)) ∧ w'.cell? ⟨w1.heap.size, 1, none⟩ = some (.int .u64 (x : Nat)) ∧ w'.cell? ⟨w1.heap.size + 1, 0, none⟩ = some (.int .u64 (x : Nat)) ∧ w'.cell? ⟨w1.heap.size + 1, 1, none⟩ = some (.int .u64 (t : Nat))))) (by kernel_rfl) ?_ (fun hHeld => ?_)
        · (try dsimp only); (first | assumption | exact HSS.out _ ((Below.refl _ _).drew) | exact keep_step HSS.out (by assumption) (by assumption))
        refine wpAnyH_take (i := 0) (oi := ⟨_, _, _, _, _, _⟩) (v := ?_) rfl (by kernel_rfl) (by kernel_rfl) (by kernel_rfl) (fun _ _ _ h => h) (Or.inl ⟨by rfl, ?_⟩) (by assumption) ?_
        rotate_left
        · (intro wS hSw; (try dsimp only at hSw); go_simp <;> with_reducible rfl)
        try simp only [Act.put, List.setIfInBounds_toArray, List.set_cons_zero, List.set_cons_succ]
        refine wpAnyH_take (i := 1) (oi := ⟨_, _, _, _, _, _⟩) (v := ?_) rfl (by kernel_rfl) (by kernel_rfl) (by kernel_rfl) (fun _ _ _ h => h) (Or.inl ⟨by rfl, ?_⟩) (by assumption) ?_
        rotate_left
        · (intro wS hSw; (try dsimp only at hSw); go_simp <;> with_reducible rfl)
        try simp only [Act.put, List.setIfInBounds_toArray, List.set_cons_zero, List.set_cons_succ]
        refine wpAnyH_take (i := 8) (oi := ⟨_, _, _, _, _, _⟩) (v := ?_) rfl (by kernel_rfl) (by kernel_rfl) (by kernel_rfl) (fun _ _ _ h => h) (Or.inl ⟨by rfl, ?_⟩) (by assumption) ?_
        rotate_left
        · (intro wS hSw; (try dsimp only at hSw); go_simp <;> with_reducible rfl)
        try simp only [Act.put, List.setIfInBounds_toArray, List.set_cons_zero, List.set_cons_succ]
        refine wpAnyH_take (i := 9) (oi := ⟨_, _, _, _, _, _⟩) (v := ?_) rfl (by kernel_rfl) (by kernel_rfl) (by kernel_rfl) (fun _ _ _ h => h) (Or.inl ⟨by rfl, ?_⟩) (by assumption) ?_
        rotate_left
        · (intro wS hSw; (try dsimp only at hSw); go_simp <;> with_reducible rfl)
        try simp only [Act.put, List.setIfInBounds_toArray, List.set_cons_zero, List.set_cons_succ]
        refine wpAnyH_ready (rs := [2]) (by kernel_rfl) (by simp) ?_
        refine AllReadyH.cons (o := ⟨_, _, _, _, _, _⟩) rfl (fun K hK => ?_) AllReadyH.nil
        go_simp
        (first | (go_at_call 14; (with_reducible refine (C5.out _).mono ?_); rintro e w9 ⟨rfl, hb9⟩) | (go_at_call 14; (with_reducible refine (C6.out _).mono ?_); rintro e w9 ⟨rfl, hb9⟩) | (go_at_call 14; (with_reducible refine (C7.out _).mono ?_); rintro e w9 ⟨rfl, hb9⟩) | (go_at_call 19; (with_reducible refine (C8.out _).mono ?_); rintro e w9 ⟨rfl, hb9⟩) | (go_at_call 19; (with_reducible refine (C9.out _).mono ?_); rintro e w9 ⟨rfl, hb9⟩) | (go_at_call 16; (with_reducible refine (CA.out _).mono ?_); rintro e w9 ⟨rfl, hb9⟩) | (go_at_call 16; (with_reducible refine (CB.out _).mono ?_); rintro e w9 ⟨rfl, hb9⟩) | (go_at_call 16; (with_reducible refine (CC.out _).mono ?_); rintro e w9 ⟨rfl, hb9⟩))
        go_wp2_with fail
        refine hK.out _ _ (by (try dsimp only); (first | assumption | exact HSS.out _ ((Below.refl _ _).drew) | exact keep_step HSS.out (by assumption) (by assumption))) (fun hHeld => ?_)
        clear hK K
        try simp only [Act.put, List.setIfInBounds_toArray, List.set_cons_zero, List.set_cons_succ]
        refine wpAnyH_take (i := 3) (oi := ⟨_, _, _, _, _, _⟩) (v := ?_) rfl (by kernel_rfl) (by kernel_rfl) (by kernel_rfl) (fun _ _ _ h => h) (Or.inl ⟨by rfl, ?_⟩) (by assumption) ?_
        rotate_left
        · (intro wS hSw; (try dsimp only at hSw); go_simp <;> with_reducible rfl)
        try simp only [Act.put, List.setIfInBounds_toArray, List.set_cons_zero, List.set_cons_succ]
        refine wpAnyH_take (i := 4) (oi := ⟨_, _, _, _, _, _⟩) (v := ?_) rfl (by kernel_rfl) (by kernel_rfl) (by kernel_rfl) (fun _ _ _ h => h) (Or.inl ⟨by rfl, ?_⟩) (by assumption) ?_
        rotate_left
        · (intro wS hSw; (try dsimp only at hSw); go_simp <;> with_reducible rfl)
        try simp only [Act.put, List.setIfInBounds_toArray, List.set_cons_zero, List.set_cons_succ]
        refine wpAnyH_take (i := 5) (oi := ⟨_, _, _, _, _, _⟩) (v := ?_) rfl (by kernel_rfl) (by kernel_rfl) (by kernel_rfl) (fun _ _ _ h => h) (Or.inl ⟨by rfl, ?_⟩) (by assumption) ?_
        rotate_left
        · (intro wS hSw; (try dsimp only at hSw); go_simp <;> with_reducible rfl)
        try simp only [Act.put, List.setIfInBounds_toArray, List.set_cons_zero, List.set_cons_succ]
        refine wpAnyH_ready (rs := [6]) (by kernel_rfl) (by simp) ?_
        refine AllReadyH.cons (o := ⟨_, _, _, _, _, _⟩) rfl (fun K hK => ?_) AllReadyH.nil
        go_simp
        (first | (go_at_call 14; (with_reducible refine (C5.out _).mono ?_); rintro e w9 ⟨rfl, hb9⟩) | (go_at_call 14; (with_reducible refine (C6.out _).mono ?_); rintro e w9 ⟨rfl, hb9⟩) | (go_at_call 14; (with_reducible refine (C7.out _).mono ?_); rintro e w9 ⟨rfl, hb9⟩) | (go_at_call 19; (with_reducible refine (C8.out _).mono ?_); rintro e w9 ⟨rfl, hb9⟩) | (go_at_call 19; (with_reducible refine (C9.out _).mono ?_); rintro e w9 ⟨rfl, hb9⟩) | (go_at_call 16; (with_reducible refine (CA.out _).mono ?_); rintro e w9 ⟨rfl, hb9⟩) | (go_at_call 16; (with_reducible refine (CB.out _).mono ?_); rintro e w9 ⟨rfl, hb9⟩) | (go_at_call 16; (with_reducible refine (CC.out _).mono ?_); rintro e w9 ⟨rfl, hb9⟩))
        go_wp2_with fail
        refine hK.out _ _ (by (try dsimp only); (first | assumption | exact HSS.out _ ((Below.refl _ _).drew) | exact keep_step HSS.out (by assumption) (by assumption))) (fun hHeld => ?_)
        clear hK K
        try simp only [Act.put, List.setIfInBounds_toArray, List.set_cons_zero, List.set_cons_succ]
        refine wpAnyH_take (i := 7) (oi := ⟨_, _, _, _, _, _⟩) (v := ?_) rfl (by kernel_rfl) (by kernel_rfl) (by kernel_rfl) (fun _ _ _ h => h) (Or.inl ⟨by rfl, ?_⟩) (by assumption) ?_
        rotate_left
        · (intro wS hSw; (try dsimp only at hSw); go_simp <;> with_reducible rfl)
        try simp only [Act.put, List.setIfInBounds_toArray, List.set_cons_zero, List.set_cons_succ]
        refine wpAnyH_ready (rs := [10]) (by kernel_rfl) (by simp) ?_
        refine AllReadyH.cons (o := ⟨_, _, _, _, _, _⟩) rfl (fun K hK => ?_) AllReadyH.nil
        go_simp
        (first | (go_at_call 14; (with_reducible refine (C5.out _).mono ?_); rintro e w9 ⟨rfl, hb9⟩) | (go_at_call 14; (with_reducible refine (C6.out _).mono ?_); rintro e w9 ⟨rfl, hb9⟩) | (go_at_call 14; (with_reducible refine (C7.out _).mono ?_); rintro e w9 ⟨rfl, hb9⟩) | (go_at_call 19; (with_reducible refine (C8.out _).mono ?_); rintro e w9 ⟨rfl, hb9⟩) | (go_at_call 19; (with_reducible refine (C9.out _).mono ?_); rintro e w9 ⟨rfl, hb9⟩) | (go_at_call 16; (with_reducible refine (CA.out _).mono ?_); rintro e w9 ⟨rfl, hb9⟩) | (go_at_call 16; (with_reducible refine (CB.out _).mono ?_); rintro e w9 ⟨rfl, hb9⟩) | (go_at_call 16; (with_reducible refine (CC.out _).mono ?_); rintro e w9 ⟨rfl, hb9⟩))
        go_wp2_with fail
        refine hK.out _ _ (by (try dsimp only); (first | assumption | exact HSS.out _ ((Below.refl _ _).drew) | exact keep_step HSS.out (by assumption) (by assumption))) (fun hHeld => ?_)
        clear hK K
        try simp only [Act.put, List.setIfInBounds_toArray, List.set_cons_zero, List.set_cons_succ]
        refine wpAnyH_take (i := 11) (oi := ⟨_, _, _, _, _, _⟩) (v := ?_) rfl (by kernel_rfl) (by kernel_rfl) (by kernel_rfl) (fun _ _ _ h => h) (Or.inl ⟨by rfl, ?_⟩) (by assumption) ?_
        rotate_left
        · (intro wS hSw; (try dsimp only at hSw); go_simp <;> with_reducible rfl)
        try simp only [Act.put, List.setIfInBounds_toArray, List.set_cons_zero, List.set_cons_succ]
        refine wpAnyH_take (i := 12) (oi := ⟨_, _, _, _, _, _⟩) (v := ?_) rfl (by kernel_rfl) (by kernel_rfl) (by kernel_rfl) (fun _ _ _ h => h) (Or.inl ⟨by rfl, ?_⟩) (by assumption) ?_
        rotate_left
        · (intro wS hSw; (try dsimp only at hSw); go_simp <;> with_reducible rfl)
        try simp only [Act.put, List.setIfInBounds_toArray, List.set_cons_zero, List.set_cons_succ]
        refine wpAnyH_take (i := 13) (oi := ⟨_, _, _, _, _, _⟩) (v := ?_) rfl (by kernel_rfl) (by kernel_rfl) (by kernel_rfl) (fun _ _ _ h => h) (Or.inl ⟨by rfl, ?_⟩) (by assumption) ?_
        rotate_left
        · (intro wS hSw; (try dsimp only at hSw); go_simp <;> with_reducible rfl)
        try simp only [Act.put, List.setIfInBounds_toArray, List.set_cons_zero, List.set_cons_succ]
        refine wpAnyH_take (i := 14) (oi := ⟨_, _, _, _, _, _⟩) (v := ?_) rfl (by kernel_rfl) (by kernel_rfl) (by kernel_rfl) (fun _ _ _ h => h) (Or.inl ⟨by rfl, ?_⟩) (by assumption) ?_
        rotate_left
        · (intro wS hSw; (try dsimp only at hSw); go_simp <;> with_reducible rfl)
        try simp only [Act.put, List.setIfInBounds_toArray, List.set_cons_zero, List.set_cons_succ]
        refine wpAnyH_ready (rs := [15]) (by kernel_rfl) (by simp) ?_
        refine AllReadyH.cons (o := ⟨_, _, _, _, _, _⟩) rfl (fun K hK => ?_) AllReadyH.nil
        go_simp
        (first | (go_at_call 14; (with_reducible refine (C5.out _).mono ?_); rintro e w9 ⟨rfl, hb9⟩) | (go_at_call 14; (with_reducible refine (C6.out _).mono ?_); rintro e w9 ⟨rfl, hb9⟩) | (go_at_call 14; (with_reducible refine (C7.out _).mono ?_); rintro e w9 ⟨rfl, hb9⟩) | (go_at_call 19; (with_reducible refine (C8.out _).mono ?_); rintro e w9 ⟨rfl, hb9⟩) | (go_at_call 19; (with_reducible refine (C9.out _).mono ?_); rintro e w9 ⟨rfl, hb9⟩) | (go_at_call 16; (with_reducible refine (CA.out _).mono ?_); rintro e w9 ⟨rfl, hb9⟩) | (go_at_call 16; (with_reducible refine (CB.out _).mono ?_); rintro e w9 ⟨rfl, hb9⟩) | (go_at_call 16; (with_reducible refine (CC.out _).mono ?_); rintro e w9 ⟨rfl, hb9⟩))
        go_wp2_with fail
        refine hK.out _ _ (by (try dsimp only); (first | assumption | exact HSS.out _ ((Below.refl _ _).drew) | exact keep_step HSS.out (by assumption) (by assumption))) (fun hHeld => ?_)
        clear hK K
        try simp only [Act.put, List.setIfInBounds_toArray, List.set_cons_zero, List.set_cons_succ]
        refine wpAnyH_take (i := 16) (oi := ⟨_, _, _, _, _, _⟩) (v := ?_) rfl (by kernel_rfl) (by kernel_rfl) (by kernel_rfl) (fun _ _ _ h => h) (Or.inl ⟨by rfl, ?_⟩) (by assumption) ?_
        rotate_left
        · (intro wS hSw; (try dsimp only at hSw); go_simp <;> with_reducible rfl)
        try simp only [Act.put, List.setIfInBounds_toArray, List.set_cons_zero, List.set_cons_succ]
        refine wpAnyH_take (i := 17) (oi := ⟨_, _, _, _, _, _⟩) (v := undef) rfl (by kernel_rfl) (by kernel_rfl) (by kernel_rfl) (fun _ _ _ h => h) (Or.inr ⟨by rfl, rfl⟩) (by assumption) ?_
        try simp only [Act.put, List.setIfInBounds_toArray, List.set_cons_zero, List.set_cons_succ]
        refine wpAnyH_take (i := 18) (oi := ⟨_, _, _, _, _, _⟩) (v := undef) rfl (by kernel_rfl) (by kernel_rfl) (by kernel_rfl) (fun _ _ _ h => h) (Or.inr ⟨by rfl, rfl⟩) (by assumption) ?_
        try simp only [Act.put, List.setIfInBounds_toArray, List.set_cons_zero, List.set_cons_succ]
        refine wpAnyH_take (i := 19) (oi := ⟨_, _, _, _, _, _⟩) (v := undef) rfl (by kernel_rfl) (by kernel_rfl) (by kernel_rfl) (fun _ _ _ h => h) (Or.inr ⟨by rfl, rfl⟩) (by assumption) ?_
        try simp only [Act.put, List.setIfInBounds_toArray, List.set_cons_zero, List.set_cons_succ]
        refine wpAnyH_take (i := 20) (oi := ⟨_, _, _, _, _, _⟩) (v := ?_) rfl (by kernel_rfl) (by kernel_rfl) (by kernel_rfl) (fun _ _ _ h => h) (Or.inl ⟨by rfl, ?_⟩) (by assumption) ?_
        rotate_left
        · (intro wS hSw; (try dsimp only at hSw); go_simp <;> with_reducible rfl)
        try simp only [Act.put, List.setIfInBounds_toArray, List.set_cons_zero, List.set_cons_succ]
        refine wpAnyH_take (i := 21) (oi := ⟨_, _, _, _, _, _⟩) (v := ?_) rfl (by kernel_rfl) (by kernel_rfl) (by kernel_rfl) (fun _ _ _ h => h) (Or.inl ⟨by rfl, ?_⟩) (by assumption) ?_
        rotate_left
        · (intro wS hSw; (try dsimp only at hSw); go_simp <;> with_reducible rfl)
        try simp only [Act.put, List.setIfInBounds_toArray, List.set_cons_zero, List.set_cons_succ]
        refine wpAnyH_take (i := 22) (oi := ⟨_, _, _, _, _, _⟩) (v := ?_) rfl (by kernel_rfl) (by kernel_rfl) (by kernel_rfl) (fun _ _ _ h => h) (Or.inl ⟨by rfl, ?_⟩) (by assumption) ?_
        rotate_left
        · (intro wS hSw; (try dsimp only at hSw); go_simp <;> with_reducible rfl)
        try simp only [Act.put, List.setIfInBounds_toArray, List.set_cons_zero, List.set_cons_succ]
        refine wpAnyH_take (i := 23) (oi := ⟨_, _, _, _, _, _⟩) (v := ?_) rfl (by kernel_rfl) (by kernel_rfl) (by kernel_rfl) (fun _ _ _ h => h) (Or.inl ⟨by rfl, ?_⟩) (by assumption) ?_
        rotate_left
        · (intro wS hSw; (try dsimp only at hSw); go_simp <;> with_reducible rfl)
        try simp only [Act.put, List.setIfInBounds_toArray, List.set_cons_zero, List.set_cons_succ]
        refine wpAnyH_take (i := 24) (oi := ⟨_, _, _, _, _, _⟩) (v := ?_) rfl (by kernel_rfl) (by kernel_rfl) (by kernel_rfl) (fun _ _ _ h => h) (Or.inl ⟨by rfl, ?_⟩) (by assumption) ?_
        rotate_left
        · (intro wS hSw; (try dsimp only at hSw); go_simp <;> with_reducible rfl)
        try simp only [Act.put, List.setIfInBounds_toArray, List.set_cons_zero, List.set_cons_succ]
        refine wpAnyH_take (i := 25) (oi := ⟨_, _, _, _, _, _⟩) (v := ?_) rfl (by kernel_rfl) (by kernel_rfl) (by kernel_rfl) (fun _ _ _ h => h) (Or.inl ⟨by rfl, ?_⟩) (by assumption) ?_
        rotate_left
        · (intro wS hSw; (try dsimp only at hSw); go_simp <;> with_reducible rfl)
        try simp only [Act.put, List.setIfInBounds_toArray, List.set_cons_zero, List.set_cons_succ]
        refine wpAnyH_ready (rs := [26]) (by kernel_rfl) (by simp) ?_
        refine AllReadyH.cons (o := ⟨_, _, _, _, _, _⟩) rfl (fun K hK => ?_) AllReadyH.nil
        go_simp
        (first | (go_at_call 14; (with_reducible refine (C5.out _).mono ?_); rintro e w9 ⟨rfl, hb9⟩) | (go_at_call 14; (with_reducible refine (C6.out _).mono ?_); rintro e w9 ⟨rfl, hb9⟩) | (go_at_call 14; (with_reducible refine (C7.out _).mono ?_); rintro e w9 ⟨rfl, hb9⟩) | (go_at_call 19; (with_reducible refine (C8.out _).mono ?_); rintro e w9 ⟨rfl, hb9⟩) | (go_at_call 19; (with_reducible refine (C9.out _).mono ?_); rintro e w9 ⟨rfl, hb9⟩) | (go_at_call 16; (with_reducible refine (CA.out _).mono ?_); rintro e w9 ⟨rfl, hb9⟩) | (go_at_call 16; (with_reducible refine (CB.out _).mono ?_); rintro e w9 ⟨rfl, hb9⟩) | (go_at_call 16; (with_reducible refine (CC.out _).mono ?_); rintro e w9 ⟨rfl, hb9⟩))
        go_wp2_with fail
        refine hK.out _ _ (by (try dsimp only); (first | assumption | exact HSS.out _ ((Below.refl _ _).drew) | exact keep_step HSS.out (by assumption) (by assumption))) (fun hHeld => ?_)
        clear hK K
        try simp only [Act.put, List.setIfInBounds_toArray, List.set_cons_zero, List.set_cons_succ]
        refine wpAnyH_take (i := 27) (oi := ⟨_, _, _, _, _, _⟩) (v := ?_) rfl (by kernel_rfl) (by kernel_rfl) (by kernel_rfl) (fun _ _ _ h => h) (Or.inl ⟨by rfl, ?_⟩) (by assumption) ?_
        rotate_left
        · (intro wS hSw; (try dsimp only at hSw); go_simp <;> with_reducible rfl)
        try simp only [Act.put, List.setIfInBounds_toArray, List.set_cons_zero, List.set_cons_succ]
        refine wpAnyH_take (i := 28) (oi := ⟨_, _, _, _, _, _⟩) (v := ?_) rfl (by kernel_rfl) (by kernel_rfl) (by kernel_rfl) (fun _ _ _ h => h) (Or.inl ⟨by rfl, ?_⟩) (by assumption) ?_
        rotate_left
        · (intro wS hSw; (try dsimp only at hSw); go_simp <;> with_reducible rfl)
        try simp only [Act.put, List.setIfInBounds_toArray, List.set_cons_zero, List.set_cons_succ]
        refine wpAnyH_take (i := 29) (oi := ⟨_, _, _, _, _, _⟩) (v := ?_) rfl (by kernel_rfl) (by kernel_rfl) (by kernel_rfl) (fun _ _ _ h => h) (Or.inl ⟨by rfl, ?_⟩) (by assumption) ?_
        rotate_left
        · (intro wS hSw; (try dsimp only at hSw); go_simp <;> with_reducible rfl)
        try simp only [Act.put, List.setIfInBounds_toArray, List.set_cons_zero, List.set_cons_succ]
        refine wpAnyH_take (i := 30) (oi := ⟨_, _, _, _, _, _⟩) (v := ?_) rfl (by kernel_rfl) (by kernel_rfl) (by kernel_rfl) (fun _ _ _ h => h) (Or.inl ⟨by rfl, ?_⟩) (by assumption) ?_
        rotate_left
        · (intro wS hSw; (try dsimp only at hSw); go_simp <;> with_reducible rfl)
        try simp only [Act.put, List.setIfInBounds_toArray, List.set_cons_zero, List.set_cons_succ]
        refine wpAnyH_ready (rs := [31]) (by kernel_rfl) (by simp) ?_
        refine AllReadyH.cons (o := ⟨_, _, _, _, _, _⟩) rfl (fun K hK => ?_) AllReadyH.nil
        go_simp
        (first | (go_at_call 14; (with_reducible refine (C5.out _).mono ?_); rintro e w9 ⟨rfl, hb9⟩) | (go_at_call 14; (with_reducible refine (C6.out _).mono ?_); rintro e w9 ⟨rfl, hb9⟩) | (go_at_call 14; (with_reducible refine (C7.out _).mono ?_); rintro e w9 ⟨rfl, hb9⟩) | (go_at_call 19; (with_reducible refine (C8.out _).mono ?_); rintro e w9 ⟨rfl, hb9⟩) | (go_at_call 19; (with_reducible refine (C9.out _).mono ?_); rintro e w9 ⟨rfl, hb9⟩) | (go_at_call 16; (with_reducible refine (CA.out _).mono ?_); rintro e w9 ⟨rfl, hb9⟩) | (go_at_call 16; (with_reducible refine (CB.out _).mono ?_); rintro e w9 ⟨rfl, hb9⟩) | (go_at_call 16; (with_reducible refine (CC.out _).mono ?_); rintro e w9 ⟨rfl, hb9⟩))
        go_wp2_with fail
        refine hK.out _ _ (by (try dsimp only); (first | assumption | exact HSS.out _ ((Below.refl _ _).drew) | exact keep_step HSS.out (by assumption) (by assumption))) (fun hHeld => ?_)
        clear hK K
        try simp only [Act.put, List.setIfInBounds_toArray, List.set_cons_zero, List.set_cons_succ]
        refine wpAnyH_take (i := 32) (oi := ⟨_, _, _, _, _, _⟩) (v := ?_) rfl (by kernel_rfl) (by kernel_rfl) (by kernel_rfl) (fun _ _ _ h => h) (Or.inl ⟨by rfl, ?_⟩) (by assumption) ?_
        rotate_left
        · (intro wS hSw; (try dsimp only at hSw); go_simp <;> with_reducible rfl)
        try simp only [Act.put, List.setIfInBounds_toArray, List.set_cons_zero, List.set_cons_succ]
        refine wpAnyH_take (i := 33) (oi := ⟨_, _, _, _, _, _⟩) (v := ?_) rfl (by kernel_rfl) (by kernel_rfl) (by kernel_rfl) (fun _ _ _ h => h) (Or.inl ⟨by rfl, ?_⟩) (by assumption) ?_
        rotate_left
        · (intro wS hSw; (try dsimp only at hSw); go_simp <;> with_reducible rfl)
        try simp only [Act.put, List.setIfInBounds_toArray, List.set_cons_zero, List.set_cons_succ]
        refine wpAnyH_take (i := 34) (oi := ⟨_, _, _, _, _, _⟩) (v := ?_) rfl (by kernel_rfl) (by kernel_rfl) (by kernel_rfl) (fun _ _ _ h => h) (Or.inl ⟨by rfl, ?_⟩) (by assumption) ?_
        rotate_left
        · (intro wS hSw; (try dsimp only at hSw); go_simp <;> with_reducible rfl)
        try simp only [Act.put, List.setIfInBounds_toArray, List.set_cons_zero, List.set_cons_succ]
        refine wpAnyH_take (i := 35) (oi := ⟨_, _, _, _, _, _⟩) (v := ?_) rfl (by kernel_rfl) (by kernel_rfl) (by kernel_rfl) (fun _ _ _ h => h) (Or.inl ⟨by rfl, ?_⟩) (by assumption) ?_
        rotate_left
        · (intro wS hSw; (try dsimp only at hSw); go_simp <;> with_reducible rfl)
        try simp only [Act.put, List.setIfInBounds_toArray, List.set_cons_zero, List.set_cons_succ]
        refine wpAnyH_take (i := 36) (oi := ⟨_, _, _, _, _, _⟩) (v := undef) rfl (by kernel_rfl) (by kernel_rfl) (by kernel_rfl) (fun _ _ _ h => h) (Or.inr ⟨by rfl, rfl⟩) (by assumption) ?_
        try simp only [Act.put, List.setIfInBounds_toArray, List.set_cons_zero, List.set_cons_succ]
        refine wpAnyH_take (i := 38) (oi := ⟨_, _, _, _, _, _⟩) (v := undef) rfl (by kernel_rfl) (by kernel_rfl) (by kernel_rfl) (fun _ _ _ h => h) (Or.inr ⟨by rfl, rfl⟩) (by assumption) ?_
        try simp only [Act.put, List.setIfInBounds_toArray, List.set_cons_zero, List.set_cons_succ]
        refine wpAnyH_take (i := 41) (oi := ⟨_, _, _, _, _, _⟩) (v := undef) rfl (by kernel_rfl) (by kernel_rfl) (by kernel_rfl) (fun _ _ _ h => h) (Or.inr ⟨by rfl, rfl⟩) (by assumption) ?_
        try simp only [Act.put, List.setIfInBounds_toArray, List.set_cons_zero, List.set_cons_succ]
        refine wpAnyH_take (i := 37) (oi := ⟨_, _, _, _, _, _⟩) (v := undef) rfl (by kernel_rfl) (by kernel_rfl) (by kernel_rfl) (fun _ _ _ h => h) (Or.inr ⟨by rfl, rfl⟩) (by assumption) ?_
        try simp only [Act.put, List.setIfInBounds_toArray, List.set_cons_zero, List.set_cons_succ]
        refine wpAnyH_take (i := 39) (oi := ⟨_, _, _, _, _, _⟩) (v := undef) rfl (by kernel_rfl) (by kernel_rfl) (by kernel_rfl) (fun _ _ _ h => h) (Or.inr ⟨by rfl, rfl⟩) (by assumption) ?_
        try simp only [Act.put, List.setIfInBounds_toArray, List.set_cons_zero, List.set_cons_succ]
        refine wpAnyH_take (i := 40) (oi := ⟨_, _, _, _, _, _⟩) (v := undef) rfl (by kernel_rfl) (by kernel_rfl) (by kernel_rfl) (fun _ _ _ h => h) (Or.inr ⟨by rfl, rfl⟩) (by assumption) ?_
        try simp only [Act.put, List.setIfInBounds_toArray, List.set_cons_zero, List.set_cons_succ]
        refine wpAnyH_take (i := 42) (oi := ⟨_, _, _, _, _, _⟩) (v := undef) rfl (by kernel_rfl) (by kernel_rfl) (by kernel_rfl) (fun _ _ _ h => h) (Or.inr ⟨by rfl, rfl⟩) (by assumption) ?_
        try simp only [Act.put, List.setIfInBounds_toArray, List.set_cons_zero, List.set_cons_succ]
        refine wpAnyH_take (i := 43) (oi := ⟨_, _, _, _, _, _⟩) (v := undef) rfl (by kernel_rfl) (by kernel_rfl) (by kernel_rfl) (fun _ _ _ h => h) (Or.inr ⟨by rfl, rfl⟩) (by assumption) ?_
        try simp only [Act.put, List.setIfInBounds_toArray, List.set_cons_zero, List.set_cons_succ]
        refine wpAnyH_take (i := 44) (oi := ⟨_, _, _, _, _, _⟩) (v := ?_) rfl (by kernel_rfl) (by kernel_rfl) (by kernel_rfl) (fun _ _ _ h => h) (Or.inl ⟨by rfl, ?_⟩) (by assumption) ?_
        rotate_left
        · (intro wS hSw; (try dsimp only at hSw); go_simp <;> with_reducible rfl)
        try simp only [Act.put, List.setIfInBounds_toArray, List.set_cons_zero, List.set_cons_succ]
        refine wpAnyH_take (i := 45) (oi := ⟨_, _, _, _, _, _⟩) (v := ?_) rfl (by kernel_rfl) (by kernel_rfl) (by kernel_rfl) (fun _ _ _ h => h) (Or.inl ⟨by rfl, ?_⟩) (by assumption) ?_
        rotate_left
        · (intro wS hSw; (try dsimp only at hSw); go_simp <;> with_reducible rfl)
        try simp only [Act.put, List.setIfInBounds_toArray, List.set_cons_zero, List.set_cons_succ]
        refine wpAnyH_take (i := 46) (oi := ⟨_, _, _, _, _, _⟩) (v := ?_) rfl (by kernel_rfl) (by kernel_rfl) (by kernel_rfl) (fun _ _ _ h => h) (Or.inl ⟨by rfl, ?_⟩) (by assumption) ?_
        rotate_left
        · (intro wS hSw; (try dsimp only at hSw); go_simp <;> with_reducible rfl)
        try simp only [Act.put, List.setIfInBounds_toArray, List.set_cons_zero, List.set_cons_succ]
        refine wpAnyH_done (by kernel_rfl) ?_ _
        go_wp2
        go_ret
        exact ⟨rfl, fin hB' (by assumption)⟩
    · cases wh
      ·
        refine wp_region_held_drew (S := (fun w' => Below w5.heap.size w5 w' ∧ (w'.cell? ⟨w.heap.size, 0, none⟩ = some (.int .u64 (f : Nat)) ∧ w'.cell? ⟨w.heap.size, 1, none⟩ = some (.int .u64 (t : Nat)) ∧ w'.cell? ⟨w1.heap.size, 0, none⟩ = some (.int .u64 (f : Nat)) ∧ w'.cell? ⟨w1.heap.size, 1, none⟩ = some (.int .u64 (x : Nat)) ∧ w'.cell? ⟨w1.heap.size + 1, 0, none⟩ = some (.int .u64 (x : Nat)) ∧ w'.cell? ⟨w1.heap.size + 1, 1, none⟩ = some (.int .u64 (t : Nat))))) (by kernel_rfl) ?_ (fun hHeld => ?_)
        · (try dsimp only); (first | assumption | exact HSS.out _ ((Below.refl _ _).drew) | exact keep_step HSS.out (by assumption) (by assumption))
        refine wpAnyH_take (i := 0) (oi := ⟨_, _, _, _, _, _⟩) (v := ?_) rfl (by kernel_rfl) (by kernel_rfl) (by kernel_rfl) (fun _ _ _ h => h) (Or.inl ⟨by rfl, ?_⟩) (by assumption) ?_
        rotate_left
        · (intro wS hSw; (try dsimp only at hSw); go_simp <;> with_reducible rfl)
        try simp only [Act.put, List.setIfInBounds_toArray, List.set_cons_zero, List.set_cons_succ]
        refine wpAnyH_take (i := 1) (oi := ⟨_, _, _, _, _, _⟩) (v := ?_) rfl (by kernel_rfl) (by kernel_rfl) (by kernel_rfl) (fun _ _ _ h => h) (Or.inl ⟨by rfl, ?_⟩) (by assumption) ?_
        rotate_left
        · (intro wS hSw; (try dsimp only at hSw); go_simp <;> with_reducible rfl)
        try simp only [Act.put, List.setIfInBounds_toArray, List.set_cons_zero, List.set_cons_succ]
        refine wpAnyH_take (i := 8) (oi := ⟨_, _, _, _, _, _⟩) (v := ?_) rfl (by kernel_rfl) (by kernel_rfl) (by kernel_rfl) (fun _ _ _ h => h) (Or.inl ⟨by rfl, ?_⟩) (by assumption) ?_
        rotate_left
        · (intro wS hSw; (try dsimp only at hSw); go_simp <;> with_reducible rfl)
        try simp only [Act.put, List.setIfInBounds_toArray, List.set_cons_zero, List.set_cons_succ]
        refine wpAnyH_take (i := 9) (oi := ⟨_, _, _, _, _, _⟩) (v := ?_) rfl (by kernel_rfl) (by kernel_rfl) (by kernel_rfl) (fun _ _ _ h => h) (Or.inl ⟨by rfl, ?_⟩) (by assumption) ?_
        rotate_left
        · (intro wS hSw; (try dsimp only at hSw); go_simp <;> with_reducible rfl)
        try simp only [Act.put, List.setIfInBounds_toArray, List.set_cons_zero, List.set_cons_succ]
        refine wpAnyH_ready (rs := [2]) (by kernel_rfl) (by simp) ?_
        refine AllReadyH.cons (o := ⟨_, _, _, _, _, _⟩) rfl (fun K hK => ?_) AllReadyH.nil
        go_simp
        (first | (go_at_call 14; (with_reducible refine (C5.out _).mono ?_); rintro e w9 ⟨rfl, hb9⟩) | (go_at_call 14; (with_reducible refine (C6.out _).mono ?_); rintro e w9 ⟨rfl, hb9⟩) | (go_at_call 14; (with_reducible refine (C7.out _).mono ?_); rintro e w9 ⟨rfl, hb9⟩) | (go_at_call 19; (with_reducible refine (C8.out _).mono ?_); rintro e w9 ⟨rfl, hb9⟩) | (go_at_call 19; (with_reducible refine (C9.out _).mono ?_); rintro e w9 ⟨rfl, hb9⟩) | (go_at_call 16; (with_reducible refine (CA.out _).mono ?_); rintro e w9 ⟨rfl, hb9⟩) | (go_at_call 16; (with_reducible refine (CB.out _).mono ?_); rintro e w9 ⟨rfl, hb9⟩) | (go_at_call 16; (with_reducible refine (CC.out _).mono ?_); rintro e w9 ⟨rfl, hb9⟩))
        go_wp2_with fail
        refine hK.out _ _ (by (try dsimp only); (first | assumption | exact HSS.out _ ((Below.refl _ _).drew) | exact keep_step HSS.out (by assumption) (by assumption))) (fun hHeld => ?_)
        clear hK K
        try simp only [Act.put, List.setIfInBounds_toArray, List.set_cons_zero, List.set_cons_succ]
        refine wpAnyH_take (i := 3) (oi := ⟨_, _, _, _, _, _⟩) (v := ?_) rfl (by kernel_rfl) (by kernel_rfl) (by kernel_rfl) (fun _ _ _ h => h) (Or.inl ⟨by rfl, ?_⟩) (by assumption) ?_
        rotate_left
        · (intro wS hSw; (try dsimp only at hSw); go_simp <;> with_reducible rfl)
        try simp only [Act.put, List.setIfInBounds_toArray, List.set_cons_zero, List.set_cons_succ]
        refine wpAnyH_take (i := 4) (oi := ⟨_, _, _, _, _, _⟩) (v := undef) rfl (by kernel_rfl) (by kernel_rfl) (by kernel_rfl) (fun _ _ _ h => h) (Or.inr ⟨by rfl, rfl⟩) (by assumption) ?_
        try simp only [Act.put, List.setIfInBounds_toArray, List.set_cons_zero, List.set_cons_succ]
        refine wpAnyH_take (i := 5) (oi := ⟨_, _, _, _, _, _⟩) (v := undef) rfl (by kernel_rfl) (by kernel_rfl) (by kernel_rfl) (fun _ _ _ h => h) (Or.inr ⟨by rfl, rfl⟩) (by assumption) ?_
        try simp only [Act.put, List.setIfInBounds_toArray, List.set_cons_zero, List.set_cons_succ]
        refine wpAnyH_take (i := 6) (oi := ⟨_, _, _, _, _, _⟩) (v := undef) rfl (by kernel_rfl) (by kernel_rfl) (by kernel_rfl) (fun _ _ _ h => h) (Or.inr ⟨by rfl, rfl⟩) (by assumption) ?_
        try simp only [Act.put, List.setIfInBounds_toArray, List.set_cons_zero, List.set_cons_succ]
        refine wpAnyH_take (i := 7) (oi := ⟨_, _, _, _, _, _⟩) (v := ?_) rfl (by kernel_rfl) (by kernel_rfl) (by kernel_rfl) (fun _ _ _ h => h) (Or.inl ⟨by rfl, ?_⟩) (by assumption) ?_
        rotate_left
        · (intro wS hSw; (try dsimp only at hSw); go_simp <;> with_reducible rfl)
        try simp only [Act.put, List.setIfInBounds_toArray, List.set_cons_zero, List.set_cons_succ]
        refine wpAnyH_ready (rs := [10]) (by kernel_rfl) (by simp) ?_
        refine AllReadyH.cons (o := ⟨_, _, _, _, _, _⟩) rfl (fun K hK => ?_) AllReadyH.nil
        go_simp
        (first | (go_at_call 14; (with_reducible refine (C5.out _).mono ?_); rintro e w9 ⟨rfl, hb9⟩) | (go_at_call 14; (with_reducible refine (C6.out _).mono ?_); rintro e w9 ⟨rfl, hb9⟩) | (go_at_call 14; (with_reducible refine (C7.out _).mono ?_); rintro e w9 ⟨rfl, hb9⟩) | (go_at_call 19; (with_reducible refine (C8.out _).mono ?_); rintro e w9 ⟨rfl, hb9⟩) | (go_at_call 19; (with_reducible refine (C9.out _).mono ?_); rintro e w9 ⟨rfl, hb9⟩) | (go_at_call 16; (with_reducible refine (CA.out _).mono ?_); rintro e w9 ⟨rfl, hb9⟩) | (go_at_call 16; (with_reducible refine (CB.out _).mono ?_); rintro e w9 ⟨rfl, hb9⟩) | (go_at_call 16; (with_reducible refine (CC.out _).mono ?_); rintro e w9 ⟨rfl, hb9⟩))
        go_wp2_with fail
        refine hK.out _ _ (by (try dsimp only); (first | assumption | exact HSS.out _ ((Below.refl _ _).drew) | exact keep_step HSS.out (by assumption) (by assumption))) (fun hHeld => ?_)
        clear hK K
        try simp only [Act.put, List.setIfInBounds_toArray, List.set_cons_zero, List.set_cons_succ]
        refine wpAnyH_take (i := 11) (oi := ⟨_, _, _, _, _, _⟩) (v := ?_) rfl (by kernel_rfl) (by kernel_rfl) (by kernel_rfl) (fun _ _ _ h => h) (Or.inl ⟨by rfl, ?_⟩) (by assumption) ?_
        rotate_left
        · (intro wS hSw; (try dsimp only at hSw); go_simp <;> with_reducible rfl)
        try simp only [Act.put, List.setIfInBounds_toArray, List.set_cons_zero, List.set_cons_succ]
        refine wpAnyH_take (i := 12) (oi := ⟨_, _, _, _, _, _⟩) (v := ?_) rfl (by kernel_rfl) (by kernel_rfl) (by kernel_rfl) (fun _ _ _ h => h) (Or.inl ⟨by rfl, ?_⟩) (by assumption) ?_
        rotate_left
        · (intro wS hSw; (try dsimp only at hSw); go_simp <;> with_reducible rfl)
        try simp only [Act.put, List.setIfInBounds_toArray, List.set_cons_zero, List.set_cons_succ]
        refine wpAnyH_take (i := 13) (oi := ⟨_, _, _, _, _, _⟩) (v := ?_) rfl (by kernel_rfl) (by kernel_rfl) (by kernel_rfl) (fun _ _ _ h => h) (Or.inl ⟨by rfl, ?_⟩) (by assumption) ?_
        rotate_left
        · (intro wS hSw; (try dsimp only at hSw); go_simp <;> with_reducible rfl)
        try simp only [Act.put, List.setIfInBounds_toArray, List.set_cons_zero, List.set_cons_succ]
        refine wpAnyH_take (i := 14) (oi := ⟨_, _, _, _, _, _⟩) (v := ?_) rfl (by kernel_rfl) (by kernel_rfl) (by kernel_rfl) (fun _ _ _ h => h) (Or.inl ⟨by rfl, ?_⟩) (by assumption) ?_
        rotate_left
        · (intro wS hSw; (try dsimp only at hSw); go_simp <;> with_reducible rfl)
        try simp only [Act.put, List.setIfInBounds_toArray, List.set_cons_zero, List.set_cons_succ]
        refine wpAnyH_ready (rs := [15]) (by kernel_rfl) (by simp) ?_
        refine AllReadyH.cons (o := ⟨_, _, _, _, _, _⟩) rfl (fun K hK => ?_) AllReadyH.nil
        go_simp
        (first | (go_at_call 14; (with_reducible refine (C5.out _).mono ?_); rintro e w9 ⟨rfl, hb9⟩) | (go_at_call 14; (with_reducible refine (C6.out _).mono ?_); rintro e w9 ⟨rfl, hb9⟩) | (go_at_call 14; (with_reducible refine (C7.out _).mono ?_); rintro e w9 ⟨rfl, hb9⟩) | (go_at_call 19; (with_reducible refine (C8.out _).mono ?_); rintro e w9 ⟨rfl, hb9⟩) | (go_at_call 19; (with_reducible refine (C9.out _).mono ?_); rintro e w9 ⟨rfl, hb9⟩) | (go_at_call 16; (with_reducible refine (CA.out _).mono ?_); rintro e w9 ⟨rfl, hb9⟩) | (go_at_call 16; (with_reducible refine (CB.out _).mono ?_); rintro e w9 ⟨rfl, hb9⟩) | (go_at_call 16; (with_reducible refine (CC.out _).mono ?_); rintro e w9 ⟨rfl, hb9⟩))
        go_wp2_with fail
        refine hK.out _ _ (by (try dsimp only); (first | assumption | exact HSS.out _ ((Below.refl _ _).drew) | exact keep_step HSS.out (by assumption) (by assumption))) (fun hHeld => ?_)
        clear hK K
        try simp only [Act.put, List.setIfInBounds_toArray, List.set_cons_zero, List.set_cons_succ]
        refine wpAnyH_take (i := 16) (oi := ⟨_, _, _, _, _, _⟩) (v := ?_) rfl (by kernel_rfl) (by kernel_rfl) (by kernel_rfl) (fun _ _ _ h => h) (Or.inl ⟨by rfl, ?_⟩) (by assumption) ?_
        rotate_left
        · (intro wS hSw; (try dsimp only at hSw); go_simp <;> with_reducible rfl)
        try simp only [Act.put, List.setIfInBounds_toArray, List.set_cons_zero, List.set_cons_succ]
        refine wpAnyH_take (i := 17) (oi := ⟨_, _, _, _, _, _⟩) (v := ?_) rfl (by kernel_rfl) (by kernel_rfl) (by kernel_rfl) (fun _ _ _ h => h) (Or.inl ⟨by rfl, ?_⟩) (by assumption) ?_
        rotate_left
        · (intro wS hSw; (try dsimp only at hSw); go_simp <;> with_reducible rfl)
        try simp only [Act.put, List.setIfInBounds_toArray, List.set_cons_zero, List.set_cons_succ]
        refine wpAnyH_take (i := 18) (oi := ⟨_, _, _, _, _, _⟩) (v := ?_) rfl (by kernel_rfl) (by kernel_rfl) (by kernel_rfl) (fun _ _ _ h => h) (Or.inl ⟨by rfl, ?_⟩) (by assumption) ?_
        rotate_left
        · (intro wS hSw; (try dsimp only at hSw); go_simp <;> with_reducible rfl)
        try simp only [Act.put, List.setIfInBounds_toArray, List.set_cons_zero, List.set_cons_succ]
        refine wpAnyH_ready (rs := [19]) (by kernel_rfl) (by simp) ?_
        refine AllReadyH.cons (o := ⟨_, _, _, _, _, _⟩) rfl (fun K hK => ?_) AllReadyH.nil
        go_simp
        (first | (go_at_call 14; (with_reducible refine (C5.out _).mono ?_); rintro e w9 ⟨rfl, hb9⟩) | (go_at_call 14; (with_reducible refine (C6.out _).mono ?_); rintro e w9 ⟨rfl, hb9⟩) | (go_at_call 14; (with_reducible refine (C7.out _).mono ?_); rintro e w9 ⟨rfl, hb9⟩) | (go_at_call 19; (with_reducible refine (C8.out _).mono ?_); rintro e w9 ⟨rfl, hb9⟩) | (go_at_call 19; (with_reducible refine (C9.out _).mono ?_); rintro e w9 ⟨rfl, hb9⟩) | (go_at_call 16; (with_reducible refine (CA.out _).mono ?_); rintro e w9 ⟨rfl, hb9⟩) | (go_at_call 16; (with_reducible refine (CB.out _).mono ?_); rintro e w9 ⟨rfl, hb9⟩) | (go_at_call 16; (with_reducible refine (CC.out _).mono ?_); rintro e w9 ⟨rfl, hb9⟩))
        go_wp2_with fail
        refine hK.out _ _ (by (try dsimp only); (first | assumption | exact HSS.out _ ((Below.refl _ _).drew) | exact keep_step HSS.out (by assumption) (by assumption))) (fun hHeld => ?_)
        clear hK K
        try simp only [Act.put, List.setIfInBounds_toArray, List.set_cons_zero, List.set_cons_succ]
        refine wpAnyH_take (i := 20) (oi := ⟨_, _, _, _, _, _⟩) (v := ?_) rfl (by kernel_rfl) (by kernel_rfl) (by kernel_rfl) (fun _ _ _ h => h) (Or.inl ⟨by rfl, ?_⟩) (by assumption) ?_
        rotate_left
        · (intro wS hSw; (try dsimp only at hSw); go_simp <;> with_reducible rfl)
        try simp only [Act.put, List.setIfInBounds_toArray, List.set_cons_zero, List.set_cons_succ]
        refine wpAnyH_take (i := 21) (oi := ⟨_, _, _, _, _, _⟩) (v := ?_) rfl (by kernel_rfl) (by kernel_rfl) (by kernel_rfl) (fun _ _ _ h => h) (Or.inl ⟨by rfl, ?_⟩) (by assumption) ?_
        rotate_left
        · (intro wS hSw; (try dsimp only at hSw); go_simp <;> with_reducible rfl)
        try simp only [Act.put, List.setIfInBounds_toArray, List.set_cons_zero, List.set_cons_succ]
        refine wpAnyH_take (i := 22) (oi := ⟨_, _, _, _, _, _⟩) (v := ?_) rfl (by kernel_rfl) (by kernel_rfl) (by kernel_rfl) (fun _ _ _ h => h) (Or.inl ⟨by rfl, ?_⟩) (by assumption) ?_
        rotate_left
        · (intro wS hSw; (try dsimp only at hSw); go_simp <;> with_reducible rfl)
        try simp only [Act.put, List.setIfInBounds_toArray, List.set_cons_zero, List.set_cons_succ]
        refine wpAnyH_take (i := 23) (oi := ⟨_, _, _, _, _, _⟩) (v := ?_) rfl (by kernel_rfl) (by kernel_rfl) (by kernel_rfl) (fun _ _ _ h => h) (Or.inl ⟨by rfl, ?_⟩) (by assumption) ?_
        rotate_left
        · (intro wS hSw; (try dsimp only at hSw); go_simp <;> with_reducible rfl)
        try simp only [Act.put, List.setIfInBounds_toArray, List.set_cons_zero, List.set_cons_succ]
        refine wpAnyH_take (i := 24) (oi := ⟨_, _, _, _, _, _⟩) (v := ?_) rfl (by kernel_rfl) (by kernel_rfl) (by kernel_rfl) (fun _ _ _ h => h) (Or.inl ⟨by rfl, ?_⟩) (by assumption) ?_
        rotate_left
        · (intro wS hSw; (try dsimp only at hSw); go_simp <;> with_reducible rfl)
        try simp only [Act.put, List.setIfInBounds_toArray, List.set_cons_zero, List.set_cons_succ]
        refine wpAnyH_take (i := 25) (oi := ⟨_, _, _, _, _, _⟩) (v := ?_) rfl (by kernel_rfl) (by kernel_rfl) (by kernel_rfl) (fun _ _ _ h => h) (Or.inl ⟨by rfl, ?_⟩) (by assumption) ?_
        rotate_left
        · (intro wS hSw; (try dsimp only at hSw); go_simp <;> with_reducible rfl)
        try simp only [Act.put, List.setIfInBounds_toArray, List.set_cons_zero, List.set_cons_succ]
        refine wpAnyH_ready (rs := [26]) (by kernel_rfl) (by simp) ?_
        refine AllReadyH.cons (o := ⟨_, _, _, _, _, _⟩) rfl (fun K hK => ?_) AllReadyH.nil
        go_simp
        (first | (go_at_call 14; (with_reducible refine (C5.out _).mono ?_); rintro e w9 ⟨rfl, hb9⟩) | (go_at_call 14; (with_reducible refine (C6.out _).mono ?_); rintro e w9 ⟨rfl, hb9⟩) | (go_at_call 14; (with_reducible refine (C7.out _).mono ?_); rintro e w9 ⟨rfl, hb9⟩) | (go_at_call 19; (with_reducible refine (C8.out _).mono ?_); rintro e w9 ⟨rfl, hb9⟩) | (go_at_call 19; (with_reducible refine (C9.out _).mono ?_); rintro e w9 ⟨rfl, hb9⟩) | (go_at_call 16; (with_reducible refine (CA.out _).mono ?_); rintro e w9 ⟨rfl, hb9⟩) | (go_at_call 16; (with_reducible refine (CB.out _).mono ?_); rintro e w9 ⟨rfl, hb9⟩) | (go_at_call 16; (with_reducible refine (CC.out _).mono ?_); rintro e w9 ⟨rfl, hb9⟩))
        go_wp2_with fail
        refine hK.out _ _ (by (try dsimp only); (first | assumption | exact HSS.out _ ((Below.refl _ _).drew) | exact keep_step HSS.out (by assumption) (by assumption))) (fun hHeld => ?_)
        clear hK K
        try simp only [Act.put, List.setIfInBounds_toArray, List.set_cons_zero, List.set_cons_succ]
        refine wpAnyH_take (i := 27) (oi := ⟨_, _, _, _, _, _⟩) (v := ?_) rfl (by kernel_rfl) (by kernel_rfl) (by kernel_rfl) (fun _ _ _ h => h) (Or.inl ⟨by rfl, ?_⟩) (by assumption) ?_
        rotate_left
        · (intro wS hSw; (try dsimp only at hSw); go_simp <;> with_reducible rfl)
        try simp only [Act.put, List.setIfInBounds_toArray, List.set_cons_zero, List.set_cons_succ]
        refine wpAnyH_take (i := 28) (oi := ⟨_, _, _, _, _, _⟩) (v := ?_) rfl (by kernel_rfl) (by kernel_rfl) (by kernel_rfl) (fun _ _ _ h => h) (Or.inl ⟨by rfl, ?_⟩) (by assumption) ?_
        rotate_left
        · (intro wS hSw; (try dsimp only at hSw); go_simp <;> with_reducible rfl)
        try simp only [Act.put, List.setIfInBounds_toArray, List.set_cons_zero, List.set_cons_succ]
        refine wpAnyH_take (i := 29) (oi := ⟨_, _, _, _, _, _⟩) (v := ?_) rfl (by kernel_rfl) (by kernel_rfl) (by kernel_rfl) (fun _ _ _ h => h) (Or.inl ⟨by rfl, ?_⟩) (by assumption) ?_
        rotate_left
        · (intro wS hSw; (try dsimp only at hSw); go_simp <;> with_reducible rfl)
        try simp only [Act.put, List.setIfInBounds_toArray, List.set_cons_zero, List.set_cons_succ]
        refine wpAnyH_take (i := 30) (oi := ⟨_, _, _, _, _, _⟩) (v := ?_) rfl (by kernel_rfl) (by kernel_rfl) (by kernel_rfl) (fun _ _ _ h => h) (Or.inl ⟨by rfl, ?_⟩) (by assumption) ?_
        rotate_left
        · (intro wS hSw; (try dsimp only at hSw); go_simp <;> with_reducible rfl)
        try simp only [Act.put, List.setIfInBounds_toArray, List.set_cons_zero, List.set_cons_succ]
        refine wpAnyH_ready (rs := [31]) (by kernel_rfl) (by simp) ?_
        refine AllReadyH.cons (o := ⟨_, _, _, _, _, _⟩) rfl (fun K hK => ?_) AllReadyH.nil
        go_simp
        (first | (go_at_call 14; (with_reducible refine (C5.out _).mono ?_); rintro e w9 ⟨rfl, hb9⟩) | (go_at_call 14; (with_reducible refine (C6.out _).mono ?_); rintro e w9 ⟨rfl, hb9⟩) | (go_at_call 14; (with_reducible refine (C7.out _).mono ?_); rintro e w9 ⟨rfl, hb9⟩) | (go_at_call 19; (with_reducible refine (C8.out _).mono ?_); rintro e w9 ⟨rfl, hb9⟩) | (go_at_call 19; (with_reducible refine (C9.out _).mono ?_); rintro e w9 ⟨rfl, hb9⟩) | (go_at_call 16; (with_reducible refine (CA.out _).mono ?_); rintro e w9 ⟨rfl, hb9⟩) | (go_at_call 16; (with_reducible refine (CB.out _).mono ?_); rintro e w9 ⟨rfl, hb9⟩) | (go_at_call 16; (with_reducible refine (CC.out _).mono ?_); rintro e w9 ⟨rfl, hb9⟩))
        go_wp2_with fail
        refine hK.out _ _ (by (try dsimp only); (first | assumption | exact HSS.out _ ((Below.refl _ _).drew) | exact keep_step HSS.out (by assumption) (by assumption))) (fun hHeld => ?_)
        clear hK K
        try simp only [Act.put, List.setIfInBounds_toArray, List.set_cons_zero, List.set_cons_succ]
        refine wpAnyH_take (i := 32) (oi := ⟨_, _, _, _, _, _⟩) (v := ?_) rfl (by kernel_rfl) (by kernel_rfl) (by kernel_rfl) (fun _ _ _ h => h) (Or.inl ⟨by rfl, ?_⟩) (by assumption) ?_
        rotate_left
        · (intro wS hSw; (try dsimp only at hSw); go_simp <;> with_reducible rfl)
        try simp only [Act.put, List.setIfInBounds_toArray, List.set_cons_zero, List.set_cons_succ]
        refine wpAnyH_take (i := 33) (oi := ⟨_, _, _, _, _, _⟩) (v := ?_) rfl (by kernel_rfl) (by kernel_rfl) (by kernel_rfl) (fun _ _ _ h => h) (Or.inl ⟨by rfl, ?_⟩) (by assumption) ?_
        rotate_left
        · (intro wS hSw; (try dsimp only at hSw); go_simp <;> with_reducible rfl)
        try simp only [Act.put, List.setIfInBounds_toArray, List.set_cons_zero, List.set_cons_succ]
        refine wpAnyH_take (i := 34) (oi := ⟨_, _, _, _, _, _⟩) (v := ?_) rfl (by kernel_rfl) (by kernel_rfl) (by kernel_rfl) (fun _ _ _ h => h) (Or.inl ⟨by rfl, ?_⟩) (by assumption) ?_
        rotate_left
        · (intro wS hSw; (try dsimp only at hSw); go_simp <;> with_reducible rfl)
        try simp only [Act.put, List.setIfInBounds_toArray, List.set_cons_zero, List.set_cons_succ]
        refine wpAnyH_take (i := 35) (oi := ⟨_, _, _, _, _, _⟩) (v := ?_) rfl (by kernel_rfl) (by kernel_rfl) (by kernel_rfl) (fun _ _ _ h => h) (Or.inl ⟨by rfl, ?_⟩) (by assumption) ?_
        rotate_left
        · (intro wS hSw; (try dsimp only at hSw); go_simp <;> with_reducible rfl)
        try simp only [Act.put, List.setIfInBounds_toArray, List.set_cons_zero, List.set_cons_succ]
        refine wpAnyH_take (i := 36) (oi := ⟨_, _, _, _, _, _⟩) (v := ?_) rfl (by kernel_rfl) (by kernel_rfl) (by kernel_rfl) (fun _ _ _ h => h) (Or.inl ⟨by rfl, ?_⟩) (by assumption) ?_
        rotate_left
        · (intro wS hSw; (try dsimp only at hSw); go_simp <;> with_reducible rfl)
        try simp only [Act.put, List.setIfInBounds_toArray, List.set_cons_zero, List.set_cons_succ]
        refine wpAnyH_take (i := 38) (oi := ⟨_, _, _, _, _, _⟩) (v := ?_) rfl (by kernel_rfl) (by kernel_rfl) (by kernel_rfl) (fun _ _ _ h => h) (Or.inl ⟨by rfl, ?_⟩) (by assumption) ?_
        rotate_left
        · (intro wS hSw; (try dsimp only at hSw); go_simp <;> with_reducible rfl)
        try simp only [Act.put, List.setIfInBounds_toArray, List.set_cons_zero, List.set_cons_succ]
        refine wpAnyH_take (i := 41) (oi := ⟨_, _, _, _, _, _⟩) (v := ?_) rfl (by kernel_rfl) (by kernel_rfl) (by kernel_rfl) (fun _ _ _ h => h) (Or.inl ⟨by rfl, ?_⟩) (by assumption) ?_
        rotate_left
        · (intro wS hSw; (try dsimp only at hSw); go_simp <;> with_reducible rfl)
        try simp only [Act.put, List.setIfInBounds_toArray, List.set_cons_zero, List.set_cons_succ]
        refine wpAnyH_ready (rs := [37]) (by kernel_rfl) (by simp) ?_
        refine AllReadyH.cons (o := ⟨_, _, _, _, _, _⟩) rfl (fun K hK => ?_) AllReadyH.nil
        go_simp
        (first | (go_at_call 14; (with_reducible refine (C5.out _).mono ?_); rintro e w9 ⟨rfl, hb9⟩) | (go_at_call 14; (with_reducible refine (C6.out _).mono ?_); rintro e w9 ⟨rfl, hb9⟩) | (go_at_call 14; (with_reducible refine (C7.out _).mono ?_); rintro e w9 ⟨rfl, hb9⟩) | (go_at_call 19; (with_reducible refine (C8.out _).mono ?_); rintro e w9 ⟨rfl, hb9⟩) | (go_at_call 19; (with_reducible refine (C9.out _).mono ?_); rintro e w9 ⟨rfl, hb9⟩) | (go_at_call 16; (with_reducible refine (CA.out _).mono ?_); rintro e w9 ⟨rfl, hb9⟩) | (go_at_call 16; (with_reducible refine (CB.out _).mono ?_); rintro e w9 ⟨rfl, hb9⟩) | (go_at_call 16; (with_reducible refine (CC.out _).mono ?_); rintro e w9 ⟨rfl, hb9⟩))
        go_wp2_with fail
        refine hK.out _ _ (by (try dsimp only); (first | assumption | exact HSS.out _ ((Below.refl _ _).drew) | exact keep_step HSS.out (by assumption) (by assumption))) (fun hHeld => ?_)
        clear hK K
        try simp only [Act.put, List.setIfInBounds_toArray, List.set_cons_zero, List.set_cons_succ]
        refine wpAnyH_ready (rs := [39]) (by kernel_rfl) (by simp) ?_
        refine AllReadyH.cons (o := ⟨_, _, _, _, _, _⟩) rfl (fun K hK => ?_) AllReadyH.nil
        go_simp
        (first | (go_at_call 14; (with_reducible refine (C5.out _).mono ?_); rintro e w9 ⟨rfl, hb9⟩) | (go_at_call 14; (with_reducible refine (C6.out _).mono ?_); rintro e w9 ⟨rfl, hb9⟩) | (go_at_call 14; (with_reducible refine (C7.out _).mono ?_); rintro e w9 ⟨rfl, hb9⟩) | (go_at_call 19; (with_reducible refine (C8.out _).mono ?_); rintro e w9 ⟨rfl, hb9⟩) | (go_at_call 19; (with_reducible refine (C9.out _).mono ?_); rintro e w9 ⟨rfl, hb9⟩) | (go_at_call 16; (with_reducible refine (CA.out _).mono ?_); rintro e w9 ⟨rfl, hb9⟩) | (go_at_call 16; (with_reducible refine (CB.out _).mono ?_); rintro e w9 ⟨rfl, hb9⟩) | (go_at_call 16; (with_reducible refine (CC.out _).mono ?_); rintro e w9 ⟨rfl, hb9⟩))
        go_wp2_with fail
        refine hK.out _ _ (by (try dsimp only); (first | assumption | exact HSS.out _ ((Below.refl _ _).drew) | exact keep_step HSS.out (by assumption) (by assumption))) (fun hHeld => ?_)
        clear hK K
        try simp only [Act.put, List.setIfInBounds_toArray, List.set_cons_zero, List.set_cons_succ]
        refine wpAnyH_take (i := 40) (oi := ⟨_, _, _, _, _, _⟩) (v := ?_) rfl (by kernel_rfl) (by kernel_rfl) (by kernel_rfl) (fun _ _ _ h => h) (Or.inl ⟨by rfl, ?_⟩) (by assumption) ?_
        rotate_left
        · (intro wS hSw; (try dsimp only at hSw); go_simp <;> with_reducible rfl)
        try simp only [Act.put, List.setIfInBounds_toArray, List.set_cons_zero, List.set_cons_succ]
        refine wpAnyH_ready (rs := [42]) (by kernel_rfl) (by simp) ?_
        refine AllReadyH.cons (o := ⟨_, _, _, _, _, _⟩) rfl (fun K hK => ?_) AllReadyH.nil
        go_simp
        (first | (go_at_call 14; (with_reducible refine (C5.out _).mono ?_); rintro e w9 ⟨rfl, hb9⟩) | (go_at_call 14; (with_reducible refine (C6.out _).mono ?_); rintro e w9 ⟨rfl, hb9⟩) | (go_at_call 14; (with_reducible refine (C7.out _).mono ?_); rintro e w9 ⟨rfl, hb9⟩) | (go_at_call 19; (with_reducible refine (C8.out _).mono ?_); rintro e w9 ⟨rfl, hb9⟩) | (go_at_call 19; (with_reducible refine (C9.out _).mono ?_); rintro e w9 ⟨rfl, hb9⟩) | (go_at_call 16; (with_reducible refine (CA.out _).mono ?_); rintro e w9 ⟨rfl, hb9⟩) | (go_at_call 16; (with_reducible refine (CB.out _).mono ?_); rintro e w9 ⟨rfl, hb9⟩) | (go_at_call 16; (with_reducible refine (CC.out _).mono ?_); rintro e w9 ⟨rfl, hb9⟩))
        go_wp2_with fail
        refine hK.out _ _ (by (try dsimp only); (first | assumption | exact HSS.out _ ((Below.refl _ _).drew) | exact keep_step HSS.out (by assumption) (by assumption))) (fun hHeld => ?_)
        clear hK K
        try simp only [Act.put, List.setIfInBounds_toArray, List.set_cons_zero, List.set_cons_succ]
        refine wpAnyH_take (i := 43) (oi := ⟨_, _, _, _, _, _⟩) (v := ?_) rfl (by kernel_rfl) (by kernel_rfl) (by kernel_rfl) (fun _ _ _ h => h) (Or.inl ⟨by rfl, ?_⟩) (by assumption) ?_
        rotate_left
        · (intro wS hSw; (try dsimp only at hSw); go_simp <;> with_reducible rfl)
        try simp only [Act.put, List.setIfInBounds_toArray, List.set_cons_zero, List.set_cons_succ]
        refine wpAnyH_take (i := 44) (oi := ⟨_, _, _, _, _, _⟩) (v := ?_) rfl (by kernel_rfl) (by kernel_rfl) (by kernel_rfl) (fun _ _ _ h => h) (Or.inl ⟨by rfl, ?_⟩) (by assumption) ?_
        rotate_left
        · (intro wS hSw; (try dsimp only at hSw); go_simp <;> with_reducible rfl)
        try simp only [Act.put, List.setIfInBounds_toArray, List.set_cons_zero, List.set_cons_succ]
        refine wpAnyH_take (i := 45) (oi := ⟨_, _, _, _, _, _⟩) (v := ?_) rfl (by kernel_rfl) (by kernel_rfl) (by kernel_rfl) (fun _ _ _ h => h) (Or.inl ⟨by rfl, ?_⟩) (by assumption) ?_
        rotate_left
        · (intro wS hSw; (try dsimp only at hSw); go_simp <;> with_reducible rfl)
        try simp only [Act.put, List.setIfInBounds_toArray, List.set_cons_zero, List.set_cons_succ]
        refine wpAnyH_take (i := 46) (oi := ⟨_, _, _, _, _, _⟩) (v := ?_) rfl (by kernel_rfl) (by kernel_rfl) (by kernel_rfl) (fun _ _ _ h => h) (Or.inl ⟨by rfl, ?_⟩) (by assumption) ?_
        rotate_left
        · (intro wS hSw; (try dsimp only at hSw); go_simp <;> with_reducible rfl)
        try simp only [Act.put, List.setIfInBounds_toArray, List.set_cons_zero, List.set_cons_succ]
        refine wpAnyH_done (by kernel_rfl) ?_ _
        go_wp2
        go_ret
        exact ⟨rfl, fin hB' (by assumption)⟩
      ·
        refine wp_region_held_drew (S := (fun w' => Below w5.heap.size w5 w' ∧ (w'.cell? ⟨w.heap.size, 0, none⟩ = some (.int .u64 (f : Nat)) ∧ w'.cell? ⟨w.heap.size, 1, none⟩ = some (.int .u64 (t : Nat)) ∧ w'.cell? ⟨w1.heap.size, 0, none⟩ = some (.int .u64 (f : Nat)) ∧ w'.cell? ⟨w1.heap.size, 1, none⟩ = some (.int .u64 (x : Nat)) ∧ w'.cell? ⟨w1.heap.size + 1, 0, none⟩ = some (.int .u64 (x : Nat)) ∧ w'.cell? ⟨w1.heap.size + 1, 1, none⟩ = some (.int .u64 (t : Nat))))) (by kernel_rfl) ?_ (fun hHeld => ?_)
        · (try dsimp only); (first | assumption | exact HSS.out _ ((Below.refl _ _).drew) | exact keep_step HSS.out (by assumption) (by assumption))
        refine wpAnyH_take (i := 0) (oi := ⟨_, _, _, _, _, _⟩) (v := ?_) rfl (by kernel_rfl) (by kernel_rfl) (by kernel_rfl) (fun _ _ _ h => h) (Or.inl ⟨by rfl, ?_⟩) (by assumption) ?_
        rotate_left
        · (intro wS hSw; (try dsimp only at hSw); go_simp <;> with_reducible rfl)
        try simp only [Act.put, List.setIfInBounds_toArray, List.set_cons_zero, List.set_cons_succ]
        refine wpAnyH_take (i := 1) (oi := ⟨_, _, _, _, _, _⟩) (v := ?_) rfl (by kernel_rfl) (by kernel_rfl) (by kernel_rfl) (fun _ _ _ h => h) (Or.inl ⟨by rfl, ?_⟩) (by assumption) ?_
        rotate_left
        · (intro wS hSw; (try dsimp only at hSw); go_simp <;> with_reducible rfl)
        try simp only [Act.put, List.setIfInBounds_toArray, List.set_cons_zero, List.set_cons_succ]
        refine wpAnyH_take (i := 8) (oi := ⟨_, _, _, _, _, _⟩) (v := ?_) rfl (by kernel_rfl) (by kernel_rfl) (by kernel_rfl) (fun _ _ _ h => h) (Or.inl ⟨by rfl, ?_⟩) (by assumption) ?_
        rotate_left
        · (intro wS hSw; (try dsimp only at hSw); go_simp <;> with_reducible rfl)
        try simp only [Act.put, List.setIfInBounds_toArray, List.set_cons_zero, List.set_cons_succ]
        refine wpAnyH_take (i := 9) (oi := ⟨_, _, _, _, _, _⟩) (v := ?_) rfl (by kernel_rfl) (by kernel_rfl) (by kernel_rfl) (fun _ _ _ h => h) (Or.inl ⟨by rfl, ?_⟩) (by assumption) ?_
        rotate_left
        · (intro wS hSw; (try dsimp only at hSw); go_simp <;> with_reducible rfl)
        try simp only [Act.put, List.setIfInBounds_toArray, List.set_cons_zero, List.set_cons_succ]
        refine wpAnyH_ready (rs := [2]) (by kernel_rfl) (by simp) ?_
        refine AllReadyH.cons (o := ⟨_, _, _, _, _, _⟩) rfl (fun K hK => ?_) AllReadyH.nil
        go_simp
        (first | (go_at_call 14; (with_reducible refine (C5.out _).mono ?_); rintro e w9 ⟨rfl, hb9⟩) | (go_at_call 14; (with_reducible refine (C6.out _).mono ?_); rintro e w9 ⟨rfl, hb9⟩) | (go_at_call 14; (with_reducible refine (C7.out _).mono ?_); rintro e w9 ⟨rfl, hb9⟩) | (go_at_call 19; (with_reducible refine (C8.out _).mono ?_); rintro e w9 ⟨rfl, hb9⟩) | (go_at_call 19; (with_reducible refine (C9.out _).mono ?_); rintro e w9 ⟨rfl, hb9⟩) | (go_at_call 16; (with_reducible refine (CA.out _).mono ?_); rintro e w9 ⟨rfl, hb9⟩) | (go_at_call 16; (with_reducible refine (CB.out _).mono ?_); rintro e w9 ⟨rfl, hb9⟩) | (go_at_call 16; (with_reducible refine (CC.out _).mono ?_); rintro e w9 ⟨rfl, hb9⟩))
        go_wp2_with fail
        refine hK.out _ _ (by (try dsimp only); (first | assumption | exact HSS.out _ ((Below.refl _ _).drew) | exact keep_step HSS.out (by assumption) (by assumption))) (fun hHeld => ?_)
        clear hK K
        try simp only [Act.put, List.setIfInBounds_toArray, List.set_cons_zero, List.set_cons_succ]
        refine wpAnyH_take (i := 3) (oi := ⟨_, _, _, _, _, _⟩) (v := ?_) rfl (by kernel_rfl) (by kernel_rfl) (by kernel_rfl) (fun _ _ _ h => h) (Or.inl ⟨by rfl, ?_⟩) (by assumption) ?_
        rotate_left
        · (intro wS hSw; (try dsimp only at hSw); go_simp <;> with_reducible rfl)
        try simp only [Act.put, List.setIfInBounds_toArray, List.set_cons_zero, List.set_cons_succ]
        refine wpAnyH_take (i := 4) (oi := ⟨_, _, _, _, _, _⟩) (v := undef) rfl (by kernel_rfl) (by kernel_rfl) (by kernel_rfl) (fun _ _ _ h => h) (Or.inr ⟨by rfl, rfl⟩) (by assumption) ?_
        try simp only [Act.put, List.setIfInBounds_toArray, List.set_cons_zero, List.set_cons_succ]
        refine wpAnyH_take (i := 5) (oi := ⟨_, _, _, _, _, _⟩) (v := undef) rfl (by kernel_rfl) (by kernel_rfl) (by kernel_rfl) (fun _ _ _ h => h) (Or.inr ⟨by rfl, rfl⟩) (by assumption) ?_
        try simp only [Act.put, List.setIfInBounds_toArray, List.set_cons_zero, List.set_cons_succ]
        refine wpAnyH_take (i := 6) (oi := ⟨_, _, _, _, _, _⟩) (v := undef) rfl (by kernel_rfl) (by kernel_rfl) (by kernel_rfl) (fun _ _ _ h => h) (Or.inr ⟨by rfl, rfl⟩) (by assumption) ?_
        try simp only [Act.put, List.setIfInBounds_toArray, List.set_cons_zero, List.set_cons_succ]
        refine wpAnyH_take (i := 7) (oi := ⟨_, _, _, _, _, _⟩) (v := ?_) rfl (by kernel_rfl) (by kernel_rfl) (by kernel_rfl) (fun _ _ _ h => h) (Or.inl ⟨by rfl, ?_⟩) (by assumption) ?_
        rotate_left
        · (intro wS hSw; (try dsimp only at hSw); go_simp <;> with_reducible rfl)
        try simp only [Act.put, List.setIfInBounds_toArray, List.set_cons_zero, List.set_cons_succ]
        refine wpAnyH_ready (rs := [10]) (by kernel_rfl) (by simp) ?_
        refine AllReadyH.cons (o := ⟨_, _, _, _, _, _⟩) rfl (fun K hK => ?_) AllReadyH.nil
        go_simp
        (first | (go_at_call 14; (with_reducible refine (C5.out _).mono ?_); rintro e w9 ⟨rfl, hb9⟩) | (go_at_call 14; (with_reducible refine (C6.out _).mono ?_); rintro e w9 ⟨rfl, hb9⟩) | (go_at_call 14; (with_reducible refine (C7.out _).mono ?_); rintro e w9 ⟨rfl, hb9⟩) | (go_at_call 19; (with_reducible refine (C8.out _).mono ?_); rintro e w9 ⟨rfl, hb9⟩) | (go_at_call 19; (with_reducible refine (C9.out _).mono ?_); rintro e w9 ⟨rfl, hb9⟩) | (go_at_call 16; (with_reducible refine (CA.out _).mono ?_); rintro e w9 ⟨rfl, hb9⟩) | (go_at_call 16; (with_reducible refine (CB.out _).mono ?_); rintro e w9 ⟨rfl, hb9⟩) | (go_at_call 16; (with_reducible refine (CC.out _).mono ?_); rintro e w9 ⟨rfl, hb9⟩))
        go_wp2_with fail
        refine hK.out _ _ (by (try dsimp only); (first | assumption | exact HSS.out _ ((Below.refl _ _).drew) | exact keep_step HSS.out (by assumption) (by assumption))) (fun hHeld => ?_)
        clear hK K
        try simp only [Act.put, List.setIfInBounds_toArray, List.set_cons_zero, List.set_cons_succ]
        refine wpAnyH_take (i := 11) (oi := ⟨_, _, _, _, _, _⟩) (v := ?_) rfl (by kernel_rfl) (by kernel_rfl) (by kernel_rfl) (fun _ _ _ h => h) (Or.inl ⟨by rfl, ?_⟩) (by assumption) ?_
        rotate_left
        · (intro wS hSw; (try dsimp only at hSw); go_simp <;> with_reducible rfl)
        try simp only [Act.put, List.setIfInBounds_toArray, List.set_cons_zero, List.set_cons_succ]
        refine wpAnyH_take (i := 12) (oi := ⟨_, _, _, _, _, _⟩) (v := ?_) rfl (by kernel_rfl) (by kernel_rfl) (by kernel_rfl) (fun _ _ _ h => h) (Or.inl ⟨by rfl, ?_⟩) (by assumption) ?_
        rotate_left
        · (intro wS hSw; (try dsimp only at hSw); go_simp <;> with_reducible rfl)
        try simp only [Act.put, List.setIfInBounds_toArray, List.set_cons_zero, List.set_cons_succ]
        refine wpAnyH_take (i := 13) (oi := ⟨_, _, _, _, _, _⟩) (v := ?_) rfl (by kernel_rfl) (by kernel_rfl) (by kernel_rfl) (fun _ _ _ h => h) (Or.inl ⟨by rfl, ?_⟩) (by assumption) ?_
        rotate_left
        · (intro wS hSw; (try dsimp only at hSw); go_simp <;> with_reducible rfl)
        try simp only [Act.put, List.setIfInBounds_toArray, List.set_cons_zero, List.set_cons_succ]
        refine wpAnyH_take (i := 14) (oi := ⟨_, _, _, _, _, _⟩) (v := ?_) rfl (by kernel_rfl) (by kernel_rfl) (by kernel_rfl) (fun _ _ _ h => h) (Or.inl ⟨by rfl, ?_⟩) (by assumption) ?_
        rotate_left
        · (intro wS hSw; (try dsimp only at hSw); go_simp <;> with_reducible rfl)
        try simp only [Act.put, List.setIfInBounds_toArray, List.set_cons_zero, List.set_cons_succ]
        refine wpAnyH_ready (rs := [15]) (by kernel_rfl) (by simp) ?_
        refine AllReadyH.cons (o := ⟨_, _, _, _, _, _⟩) rfl (fun K hK => ?_) AllReadyH.nil
        go_simp
        (first | (go_at_call 14; (with_reducible refine (C5.out _).mono ?_); rintro e w9 ⟨rfl, hb9⟩) | (go_at_call 14; (with_reducible refine (C6.out _).mono ?_); rintro e w9 ⟨rfl, hb9⟩) | (go_at_call 14; (with_reducible refine (C7.out _).mono ?_); rintro e w9 ⟨rfl, hb9⟩) | (go_at_call 19; (with_reducible refine (C8.out _).mono ?_); rintro e w9 ⟨rfl, hb9⟩) | (go_at_call 19; (with_reducible refine (C9.out _).mono ?_); rintro e w9 ⟨rfl, hb9⟩) | (go_at_call 16; (with_reducible refine (CA.out _).mono ?_); rintro e w9 ⟨rfl, hb9⟩) | (go_at_call 16; (with_reducible refine (CB.out _).mono ?_); rintro e w9 ⟨rfl, hb9⟩) | (go_at_call 16; (with_reducible refine (CC.out _).mono ?_); rintro e w9 ⟨rfl, hb9⟩))
        go_wp2_with fail
        refine hK.out _ _ (by (try dsimp only); (first | assumption | exact HSS.out _ ((Below.refl _ _).drew) | exact keep_step HSS.out (by assumption) (by assumption))) (fun hHeld => ?_)
        clear hK K
        try simp only [Act.put, List.setIfInBounds_toArray, List.set_cons_zero, List.set_cons_succ]
        refine wpAnyH_take (i := 16) (oi := ⟨_, _, _, _, _, _⟩) (v := ?_) rfl (by kernel_rfl) (by kernel_rfl) (by kernel_rfl) (fun _ _ _ h => h) (Or.inl ⟨by rfl, ?_⟩) (by assumption) ?_
        rotate_left
        · (intro wS hSw; (try dsimp only at hSw); go_simp <;> with_reducible rfl)
        try simp only [Act.put, List.setIfInBounds_toArray, List.set_cons_zero, List.set_cons_succ]
        refine wpAnyH_take (i := 17) (oi := ⟨_, _, _, _, _, _⟩) (v := ?_) rfl (by kernel_rfl) (by kernel_rfl) (by kernel_rfl) (fun _ _ _ h => h) (Or.inl ⟨by rfl, ?_⟩) (by assumption) ?_
        rotate_left
        · (intro wS hSw; (try dsimp only at hSw); go_simp <;> with_reducible rfl)
        try simp only [Act.put, List.setIfInBounds_toArray, List.set_cons_zero, List.set_cons_succ]
        refine wpAnyH_take (i := 18) (oi := ⟨_, _, _, _, _, _⟩) (v := ?_) rfl (by kernel_rfl) (by kernel_rfl) (by kernel_rfl) (fun _ _ _ h => h) (Or.inl ⟨by rfl, ?_⟩) (by assumption) ?_
        rotate_left
        · (intro wS hSw; (try dsimp only at hSw); go_simp <;> with_reducible rfl)
        try simp only [Act.put, List.setIfInBounds_toArray, List.set_cons_zero, List.set_cons_succ]
        refine wpAnyH_ready (rs := [19]) (by kernel_rfl) (by simp) ?_
        refine AllReadyH.cons (o := ⟨_, _, _, _, _, _⟩) rfl (fun K hK => ?_) AllReadyH.nil
        go_simp
        (first | (go_at_call 14; (with_reducible refine (C5.out _).mono ?_); rintro e w9 ⟨rfl, hb9⟩) | (go_at_call 14; (with_reducible refine (C6.out _).mono ?_); rintro e w9 ⟨rfl, hb9⟩) | (go_at_call 14; (with_reducible refine (C7.out _).mono ?_); rintro e w9 ⟨rfl, hb9⟩) | (go_at_call 19; (with_reducible refine (C8.out _).mono ?_); rintro e w9 ⟨rfl, hb9⟩) | (go_at_call 19; (with_reducible refine (C9.out _).mono ?_); rintro e w9 ⟨rfl, hb9⟩) | (go_at_call 16; (with_reducible refine (CA.out _).mono ?_); rintro e w9 ⟨rfl, hb9⟩) | (go_at_call 16; (with_reducible refine (CB.out _).mono ?_); rintro e w9 ⟨rfl, hb9⟩) | (go_at_call 16; (with_reducible refine (CC.out _).mono ?_); rintro e w9 ⟨rfl, hb9⟩))
        go_wp2_with fail
        refine hK.out _ _ (by (try dsimp only); (first | assumption | exact HSS.out _ ((Below.refl _ _).drew) | exact keep_step HSS.out (by assumption) (by assumption))) (fun hHeld => ?_)
        clear hK K
        try simp only [Act.put, List.setIfInBounds_toArray, List.set_cons_zero, List.set_cons_succ]
        refine wpAnyH_take (i := 20) (oi := ⟨_, _, _, _, _, _⟩) (v := ?_) rfl (by kernel_rfl) (by kernel_rfl) (by kernel_rfl) (fun _ _ _ h => h) (Or.inl ⟨by rfl, ?_⟩) (by assumption) ?_
        rotate_left
        · (intro wS hSw; (try dsimp only at hSw); go_simp <;> with_reducible rfl)
        try simp only [Act.put, List.setIfInBounds_toArray, List.set_cons_zero, List.set_cons_succ]
        refine wpAnyH_take (i := 21) (oi := ⟨_, _, _, _, _, _⟩) (v := ?_) rfl (by kernel_rfl) (by kernel_rfl) (by kernel_rfl) (fun _ _ _ h => h) (Or.inl ⟨by rfl, ?_⟩) (by assumption) ?_
        rotate_left
        · (intro wS hSw; (try dsimp only at hSw); go_simp <;> with_reducible rfl)
        try simp only [Act.put, List.setIfInBounds_toArray, List.set_cons_zero, List.set_cons_succ]
        refine wpAnyH_take (i := 22) (oi := ⟨_, _, _, _, _, _⟩) (v := ?_) rfl (by kernel_rfl) (by kernel_rfl) (by kernel_rfl) (fun _ _ _ h => h) (Or.inl ⟨by rfl, ?_⟩) (by assumption) ?_
        rotate_left
        · (intro wS hSw; (try dsimp only at hSw); go_simp <;> with_reducible rfl)
        try simp only [Act.put, List.setIfInBounds_toArray, List.set_cons_zero, List.set_cons_succ]
        refine wpAnyH_take (i := 23) (oi := ⟨_, _, _, _, _, _⟩) (v := ?_) rfl (by kernel_rfl) (by kernel_rfl) (by kernel_rfl) (fun _ _ _ h => h) (Or.inl ⟨by rfl, ?_⟩) (by assumption) ?_
        rotate_left
        · (intro wS hSw; (try dsimp only at hSw); go_simp <;> with_reducible rfl)
        try simp only [Act.put, List.setIfInBounds_toArray, List.set_cons_zero, List.set_cons_succ]
        refine wpAnyH_take (i := 24) (oi := ⟨_, _, _, _, _, _⟩) (v := ?_) rfl (by kernel_rfl) (by kernel_rfl) (by kernel_rfl) (fun _ _ _ h => h) (Or.inl ⟨by rfl, ?_⟩) (by assumption) ?_
        rotate_left
        · (intro wS hSw; (try dsimp only at hSw); go_simp <;> with_reducible rfl)
        try simp only [Act.put, List.setIfInBounds_toArray, List.set_cons_zero, List.set_cons_succ]
        refine wpAnyH_take (i := 25) (oi := ⟨_, _, _, _, _, _⟩) (v := ?_) rfl (by kernel_rfl) (by kernel_rfl) (by kernel_rfl) (fun _ _ _ h => h) (Or.inl ⟨by rfl, ?_⟩) (by assumption) ?_
        rotate_left
        · (intro wS hSw; (try dsimp only at hSw); go_simp <;> with_reducible rfl)
        try simp only [Act.put, List.setIfInBounds_toArray, List.set_cons_zero, List.set_cons_succ]
        refine wpAnyH_ready (rs := [26]) (by kernel_rfl) (by simp) ?_
        refine AllReadyH.cons (o := ⟨_, _, _, _, _, _⟩) rfl (fun K hK => ?_) AllReadyH.nil
        go_simp
        (first | (go_at_call 14; (with_reducible refine (C5.out _).mono ?_); rintro e w9 ⟨rfl, hb9⟩) | (go_at_call 14; (with_reducible refine (C6.out _).mono ?_); rintro e w9 ⟨rfl, hb9⟩) | (go_at_call 14; (with_reducible refine (C7.out _).mono ?_); rintro e w9 ⟨rfl, hb9⟩) | (go_at_call 19; (with_reducible refine (C8.out _).mono ?_); rintro e w9 ⟨rfl, hb9⟩) | (go_at_call 19; (with_reducible refine (C9.out _).mono ?_); rintro e w9 ⟨rfl, hb9⟩) | (go_at_call 16; (with_reducible refine (CA.out _).mono ?_); rintro e w9 ⟨rfl, hb9⟩) | (go_at_call 16; (with_reducible refine (CB.out _).mono ?_); rintro e w9 ⟨rfl, hb9⟩) | (go_at_call 16; (with_reducible refine (CC.out _).mono ?_); rintro e w9 ⟨rfl, hb9⟩))
        go_wp2_with fail
        refine hK.out _ _ (by (try dsimp only); (first | assumption | exact HSS.out _ ((Below.refl _ _).drew) | exact keep_step HSS.out (by assumption) (by assumption))) (fun hHeld => ?_)
        clear hK K
        try simp only [Act.put, List.setIfInBounds_toArray, List.set_cons_zero, List.set_cons_succ]
        refine wpAnyH_take (i := 27) (oi := ⟨_, _, _, _, _, _⟩) (v := ?_) rfl (by kernel_rfl) (by kernel_rfl) (by kernel_rfl) (fun _ _ _ h => h) (Or.inl ⟨by rfl, ?_⟩) (by assumption) ?_
        rotate_left
        · (intro wS hSw; (try dsimp only at hSw); go_simp <;> with_reducible rfl)
        try simp only [Act.put, List.setIfInBounds_toArray, List.set_cons_zero, List.set_cons_succ]
        refine wpAnyH_take (i := 28) (oi := ⟨_, _, _, _, _, _⟩) (v := ?_) rfl (by kernel_rfl) (by kernel_rfl) (by kernel_rfl) (fun _ _ _ h => h) (Or.inl ⟨by rfl, ?_⟩) (by assumption) ?_
        rotate_left
        · (intro wS hSw; (try dsimp only at hSw); go_simp <;> with_reducible rfl)
        try simp only [Act.put, List.setIfInBounds_toArray, List.set_cons_zero, List.set_cons_succ]
        refine wpAnyH_take (i := 29) (oi := ⟨_, _, _, _, _, _⟩) (v := ?_) rfl (by kernel_rfl) (by kernel_rfl) (by kernel_rfl) (fun _ _ _ h => h) (Or.inl ⟨by rfl, ?_⟩) (by assumption) ?_
        rotate_left
        · (intro wS hSw; (try dsimp only at hSw); go_simp <;> with_reducible rfl)
        try simp only [Act.put, List.setIfInBounds_toArray, List.set_cons_zero, List.set_cons_succ]
        refine wpAnyH_take (i := 30) (oi := ⟨_, _, _, _, _, _⟩) (v := ?_) rfl (by kernel_rfl) (by kernel_rfl) (by kernel_rfl) (fun _ _ _ h => h) (Or.inl ⟨by rfl, ?_⟩) (by assumption) ?_
        rotate_left
        · (intro wS hSw; (try dsimp only at hSw); go_simp <;> with_reducible rfl)
        try simp only [Act.put, List.setIfInBounds_toArray, List.set_cons_zero, List.set_cons_succ]
        refine wpAnyH_ready (rs := [31]) (by kernel_rfl) (by simp) ?_
        refine AllReadyH.cons (o := ⟨_, _, _, _, _, _⟩) rfl (fun K hK => ?_) AllReadyH.nil
        go_simp
        (first | (go_at_call 14; (with_reducible refine (C5.out _).mono ?_); rintro e w9 ⟨rfl, hb9⟩) | (go_at_call 14; (with_reducible refine (C6.out _).mono ?_); rintro e w9 ⟨rfl, hb9⟩) | (go_at_call 14; (with_reducible refine (C7.out _).mono ?_); rintro e w9 ⟨rfl, hb9⟩) | (go_at_call 19; (with_reducible refine (C8.out _).mono ?_); rintro e w9 ⟨rfl, hb9⟩) | (go_at_call 19; (with_reducible refine (C9.out _).mono ?_); rintro e w9 ⟨rfl, hb9⟩) | (go_at_call 16; (with_reducible refine (CA.out _).mono ?_); rintro e w9 ⟨rfl, hb9⟩) | (go_at_call 16; (with_reducible refine (CB.out _).mono ?_); rintro e w9 ⟨rfl, hb9⟩) | (go_at_call 16; (with_reducible refine (CC.out _).mono ?_); rintro e w9 ⟨rfl, hb9⟩))
        go_wp2_with fail
        refine hK.out _ _ (by (try dsimp only); (first | assumption | exact HSS.out _ ((Below.refl _ _).drew) | exact keep_step HSS.out (by assumption) (by assumption))) (fun hHeld => ?_)
        clear hK K
        try simp only [Act.put, List.setIfInBounds_toArray, List.set_cons_zero, List.set_cons_succ]
        refine wpAnyH_take (i := 32) (oi := ⟨_, _, _, _, _, _⟩) (v := ?_) rfl (by kernel_rfl) (by kernel_rfl) (by kernel_rfl) (fun _ _ _ h => h) (Or.inl ⟨by rfl, ?_⟩) (by assumption) ?_
        rotate_left
        · (intro wS hSw; (try dsimp only at hSw); go_simp <;> with_reducible rfl)
        try simp only [Act.put, List.setIfInBounds_toArray, List.set_cons_zero, List.set_cons_succ]
        refine wpAnyH_take (i := 33) (oi := ⟨_, _, _, _, _, _⟩) (v := ?_) rfl (by kernel_rfl) (by kernel_rfl) (by kernel_rfl) (fun _ _ _ h => h) (Or.inl ⟨by rfl, ?_⟩) (by assumption) ?_
        rotate_left
        · (intro wS hSw; (try dsimp only at hSw); go_simp <;> with_reducible rfl)
        try simp only [Act.put, List.setIfInBounds_toArray, List.set_cons_zero, List.set_cons_succ]
        refine wpAnyH_take (i := 34) (oi := ⟨_, _, _, _, _, _⟩) (v := ?_) rfl (by kernel_rfl) (by kernel_rfl) (by kernel_rfl) (fun _ _ _ h => h) (Or.inl ⟨by rfl, ?_⟩) (by assumption) ?_
        rotate_left
        · (intro wS hSw; (try dsimp only at hSw); go_simp <;> with_reducible rfl)
        try simp only [Act.put, List.setIfInBounds_toArray, List.set_cons_zero, List.set_cons_succ]
        refine wpAnyH_take (i := 35) (oi := ⟨_, _, _, _, _, _⟩) (v := ?_) rfl (by kernel_rfl) (by kernel_rfl) (by kernel_rfl) (fun _ _ _ h => h) (Or.inl ⟨by rfl, ?_⟩) (by assumption) ?_
        rotate_left
        · (intro wS hSw; (try dsimp only at hSw); go_simp <;> with_reducible rfl)
        try simp only [Act.put, List.setIfInBounds_toArray, List.set_cons_zero, List.set_cons_succ]
        refine wpAnyH_take (i := 36) (oi := ⟨_, _, _, _, _, _⟩) (v := undef) rfl (by kernel_rfl) (by kernel_rfl) (by kernel_rfl) (fun _ _ _ h => h) (Or.inr ⟨by rfl, rfl⟩) (by assumption) ?_
        try simp only [Act.put, List.setIfInBounds_toArray, List.set_cons_zero, List.set_cons_succ]
        refine wpAnyH_take (i := 38) (oi := ⟨_, _, _, _, _, _⟩) (v := undef) rfl (by kernel_rfl) (by kernel_rfl) (by kernel_rfl) (fun _ _ _ h => h) (Or.inr ⟨by rfl, rfl⟩) (by assumption) ?_
        try simp only [Act.put, List.setIfInBounds_toArray, List.set_cons_zero, List.set_cons_succ]
        refine wpAnyH_take (i := 41) (oi := ⟨_, _, _, _, _, _⟩) (v := undef) rfl (by kernel_rfl) (by kernel_rfl) (by kernel_rfl) (fun _ _ _ h => h) (Or.inr ⟨by rfl, rfl⟩) (by assumption) ?_
        try simp only [Act.put, List.setIfInBounds_toArray, List.set_cons_zero, List.set_cons_succ]
        refine wpAnyH_take (i := 37) (oi := ⟨_, _, _, _, _, _⟩) (v := undef) rfl (by kernel_rfl) (by kernel_rfl) (by kernel_rfl) (fun _ _ _ h => h) (Or.inr ⟨by rfl, rfl⟩) (by assumption) ?_
        try simp only [Act.put, List.setIfInBounds_toArray, List.set_cons_zero, List.set_cons_succ]
        refine wpAnyH_take (i := 39) (oi := ⟨_, _, _, _, _, _⟩) (v := undef) rfl (by kernel_rfl) (by kernel_rfl) (by kernel_rfl) (fun _ _ _ h => h) (Or.inr ⟨by rfl, rfl⟩) (by assumption) ?_
        try simp only [Act.put, List.setIfInBounds_toArray, List.set_cons_zero, List.set_cons_succ]
        refine wpAnyH_take (i := 40) (oi := ⟨_, _, _, _, _, _⟩) (v := undef) rfl (by kernel_rfl) (by kernel_rfl) (by kernel_rfl) (fun _ _ _ h => h) (Or.inr ⟨by rfl, rfl⟩) (by assumption) ?_
        try simp only [Act.put, List.setIfInBounds_toArray, List.set_cons_zero, List.set_cons_succ]
        refine wpAnyH_take (i := 42) (oi := ⟨_, _, _, _, _, _⟩) (v := undef) rfl (by kernel_rfl) (by kernel_rfl) (by kernel_rfl) (fun _ _ _ h => h) (Or.inr ⟨by rfl, rfl⟩) (by assumption) ?_
        try simp only [Act.put, List.setIfInBounds_toArray, List.set_cons_zero, List.set_cons_succ]
        refine wpAnyH_take (i := 43) (oi := ⟨_, _, _, _, _, _⟩) (v := undef) rfl (by kernel_rfl) (by kernel_rfl) (by kernel_rfl) (fun _ _ _ h => h) (Or.inr ⟨by rfl, rfl⟩) (by assumption) ?_
        try simp only [Act.put, List.setIfInBounds_toArray, List.set_cons_zero, List.set_cons_succ]
        refine wpAnyH_take (i := 44) (oi := ⟨_, _, _, _, _, _⟩) (v := ?_) rfl (by kernel_rfl) (by kernel_rfl) (by kernel_rfl) (fun _ _ _ h => h) (Or.inl ⟨by rfl, ?_⟩) (by assumption) ?_
        rotate_left
        · (intro wS hSw; (try dsimp only at hSw); go_simp <;> with_reducible rfl)
        try simp only [Act.put, List.setIfInBounds_toArray, List.set_cons_zero, List.set_cons_succ]
        refine wpAnyH_take (i := 45) (oi := ⟨_, _, _, _, _, _⟩) (v := ?_) rfl (by kernel_rfl) (by kernel_rfl) (by kernel_rfl) (fun _ _ _ h => h) (Or.inl ⟨by rfl, ?_⟩) (by assumption) ?_
        rotate_left
        · (intro wS hSw; (try dsimp only at hSw); go_simp <;> with_reducible rfl)
        try simp only [Act.put, List.setIfInBounds_toArray, List.set_cons_zero, List.set_cons_succ]
        refine wpAnyH_take (i := 46) (oi := ⟨_, _, _, _, _, _⟩) (v := ?_) rfl (by kernel_rfl) (by kernel_rfl) (by kernel_rfl) (fun _ _ _ h => h) (Or.inl ⟨by rfl, ?_⟩) (by assumption) ?_
        rotate_left
        · (intro wS hSw; (try dsimp only at hSw); go_simp <;> with_reducible rfl)
        try simp only [Act.put, List.setIfInBounds_toArray, List.set_cons_zero, List.set_cons_succ]
        refine wpAnyH_done (by kernel_rfl) ?_ _
        go_wp2
        go_ret
        exact ⟨rfl, fin hB' (by assumption)⟩
  · have hm : mayB f t x = false := by simpa using hm
    rw [hm] at cS
    have C1 : Hid (∀ W, Calls Try.prog 12 #[.agg #[.int .u64 f, .int .u64 t], .int .u64 x] W fun e w' => e = .returned (.tuple #[.agg #[.int .u64 0, .int .u64 0], .agg #[.int .u64 0, .int .u64 0], .bool false]) ∧ Below W.heap.size W w') := cS
    clear cS hf ht hx hy hm
    go_enter Try.func5, Try.ntmps5
    go_wp2_with (first
      | (go_at_call 12; ((with_reducible refine (C1.out _).mono ?_); rintro e w1 ⟨rfl, hb1⟩; have hB1 : Below w.heap.size w w1 := (by first | exact acc (by assumption) hb1 | exact acc (accA (by assumption) _) hb1 | exact acc (accA (accA (by assumption) _) _) hb1 | exact acc (accA (accA (accA (by assumption) _) _) _) hb1); clear hb1))
      | (go_at_call 11; ((with_reducible refine (alive_any _).mono ?_); rintro e w2 ⟨rfl, hb2⟩; have hB2 : Below w.heap.size w w2 := (by first | exact acc (by assumption) hb2 | exact acc (accA (by assumption) _) hb2 | exact acc (accA (accA (by assumption) _) _) hb2 | exact acc (accA (accA (accA (by assumption) _) _) _) hb2); clear hb2)))
    go_ret
    exact ⟨rfl, by assumption⟩
end Go.Proofs.Ytfddheioganmfaa
