/-
  The walk of the statement ArcTurns of chapter 2.
-/
import Derived.Test.YtfddheioganmfaaArcKeep
import Derived.Deep.RegionHeld3
import Derived.Deep.DeepCutAuto
namespace Go.Proofs.Ytfddheioganmfaa
open Go.RowKit

set_option maxHeartbeats 6400000 in
theorem arcTurns_walk (f t g u x b : Nat) (w : World) (hf : f < 18446744073709551616) (ht : t < 18446744073709551616) (hg : g < 18446744073709551616) (hu : u < 18446744073709551616) (hx : x < 18446744073709551616) (hb : b < 18446744073709551616) :
    Calls Try.prog 9 #[.agg #[.int .u64 f, .int .u64 t], .agg #[.int .u64 g, .int .u64 u], .int .u64 x, .int .u64 b] w fun e w' => e = .returned (.bool true) ∧ Below w.heap.size w w' := by
  have hB0 : Below w.heap.size w w := Below.refl _ _
  have hK0 : Hid (Cel ((w.alloc (.cells #[.int .u64 (f : Nat), .int .u64 (t : Nat)] 24)).alloc (.cells #[.int .u64 (g : Nat), .int .u64 (u : Nat)] 24)) w.heap.size f t) := Lib.hid (Cel.alloc (Cel.new _ _ _ _) _)
  have E1 := Lib.hid (add_u64 hf hb)
  have E2 := Lib.hid (add_u64 ht hb)
  have E3 := Lib.hid (add_u64 hg hb)
  have E4 := Lib.hid (add_u64 hu hb)
  have E5 := Lib.hid (add_u64 hx hb)
  have i1 : inB (add64 f b) (add64 t b) (add64 x b) = inB f t x := by rw [add_sub hf hb, add_sub ht hb, add_sub hx hb]; exact in_turn hf ht hx (sub64_lt _ _)
  have i2 : withinB (add64 f b) (add64 t b) (add64 g b) (add64 u b) = withinB f t g u := by rw [add_sub hf hb, add_sub ht hb, add_sub hg hb, add_sub hu hb]; exact within_turn hf ht hg hu (sub64_lt _ _)
  have i3 : apartB (add64 f b) (add64 t b) (add64 g b) (add64 u b) = apartB f t g u := by rw [add_sub hf hb, add_sub ht hb, add_sub hg hb, add_sub hu hb]; exact apart_turn hf ht hg hu (sub64_lt _ _)
  have i4 : sub64 (add64 t b) (add64 f b) = sub64 t f := by rw [add_sub hf hb, add_sub ht hb]; exact sub_turn ht hf (sub64_lt _ _)
  have i5 : (add64 f b == add64 t b) = (f == t) := by rw [add_sub hf hb, add_sub ht hb]; exact eq_turn hf ht (sub64_lt _ _)
  have l : ∀ y, add64 y b < 18446744073709551616 := fun y => Nat.mod_lt _ (by omega)
  have c1 := fun W => in_any (add64 f b) (add64 t b) (add64 x b) W (l f) (l t) (l x)
  have c2 := fun W => in_any f t x W hf ht hx
  have c3 := fun W => size_any (add64 f b) (add64 t b) W (l f) (l t)
  have c4 := fun W => size_any f t W hf ht
  have c5 := fun W => within_any (add64 f b) (add64 t b) (add64 g b) (add64 u b) W (l f) (l t) (l g) (l u)
  have c6 := fun W => within_any f t g u W hf ht hg hu
  have c7 := fun W => apart_any (add64 f b) (add64 t b) (add64 g b) (add64 u b) W (l f) (l t) (l g) (l u)
  have c8 := fun W => apart_any f t g u W hf ht hg hu
  have c9 := fun W => whole_any (add64 f b) (add64 t b) W
  have cX := fun W => whole_any f t W
  rw [i1] at c1
  rw [i4] at c3
  rw [i2] at c5
  rw [i3] at c7
  rw [i5] at c9
  clear i1 i2 i3 i4 i5 l hf ht hg hu hx hb
  generalize inB f t x = p1 at *
  generalize withinB f t g u = p2 at *
  generalize apartB f t g u = p3 at *
  generalize sub64 t f = n4 at *
  generalize (f == t) = p5 at *
  have C1 := Lib.hid c1
  have C2 := Lib.hid c2
  have C3 := Lib.hid c3
  have C4 := Lib.hid c4
  have C5 := Lib.hid c5
  have C6 := Lib.hid c6
  have C7 := Lib.hid c7
  have C8 := Lib.hid c8
  have C9 := Lib.hid c9
  have CX := Lib.hid cX
  clear c1 c2 c3 c4 c5 c6 c7 c8 c9 cX
  generalize add64 f b = f2 at *
  generalize add64 t b = t2 at *
  generalize add64 g b = g2 at *
  generalize add64 u b = u2 at *
  generalize add64 x b = x2 at *
  go_enter Try.func9, Try.ntmps9
  go_upto_region 3 with (first
      | (go_at_call 11; ((with_reducible refine (alive_any _).mono ?_); rintro e w1 ⟨rfl, hb1⟩; have hB1 : Below w.heap.size w w1 := (by first | exact acc (by assumption) hb1 | exact acc (accA (by assumption) _) hb1 | exact acc (accA (accA (by assumption) _) _) hb1 | exact acc (accA (accA (accA (by assumption) _) _) _) hb1); have K1a : Hid (Cel w1 (w.heap.size) (f) (t)) := (by first | exact Lib.hid (Cel.step (Hid.out (by assumption)) hb1) | exact Lib.hid (Cel.step (Cel.new _ _ _ _) hb1) | exact Lib.hid (Cel.step (Cel.alloc (Hid.out (by assumption)) _) hb1) | exact Lib.hid (Cel.step (Cel.alloc (Cel.new _ _ _ _) _) hb1) | exact Lib.hid (Cel.step (Cel.new1 _ _ _ _ _) hb1) | exact Lib.hid (Cel.step (Cel.alloc (Cel.alloc (Hid.out (by assumption)) _) _) hb1) | exact Lib.hid (Cel.step (Cel.alloc (Cel.new1 _ _ _ _ _) _) hb1) | exact Lib.hid (Cel.step (Cel.alloc (Cel.alloc (Cel.new _ _ _ _) _) _) hb1) | exact Lib.hid (Cel.step (Cel.new2 _ _ _ _ _ _) hb1)); obtain ⟨z1a, p1a, q1a⟩ := K1a.out; have K1b : Hid (Cel w1 (w.heap.size + 1) (g) (u)) := (by first | exact Lib.hid (Cel.step (Hid.out (by assumption)) hb1) | exact Lib.hid (Cel.step (Cel.new _ _ _ _) hb1) | exact Lib.hid (Cel.step (Cel.alloc (Hid.out (by assumption)) _) hb1) | exact Lib.hid (Cel.step (Cel.alloc (Cel.new _ _ _ _) _) hb1) | exact Lib.hid (Cel.step (Cel.new1 _ _ _ _ _) hb1) | exact Lib.hid (Cel.step (Cel.alloc (Cel.alloc (Hid.out (by assumption)) _) _) hb1) | exact Lib.hid (Cel.step (Cel.alloc (Cel.new1 _ _ _ _ _) _) hb1) | exact Lib.hid (Cel.step (Cel.alloc (Cel.alloc (Cel.new _ _ _ _) _) _) hb1) | exact Lib.hid (Cel.step (Cel.new2 _ _ _ _ _ _) hb1)); obtain ⟨z1b, p1b, q1b⟩ := K1b.out; clear hb1)))
  have e1 := E1.out
  have e2 := E2.out
  have e3 := E3.out
  have e4 := E4.out
  go_cut [9, 10] (fun s9 s10 wx => ∃ c d : Nat, s9 = .pointer (some ⟨c, 0, none⟩) ∧ s10 = .pointer (some ⟨d, 0, none⟩) ∧ Hid (Cel wx c f2 t2 ∧ Cel wx d g2 u2 ∧ Cel wx w.heap.size f t ∧ Cel wx (w.heap.size + 1) g u ∧ Below w.heap.size w wx))
  case first =>
    have zA0 : w.heap.size < w1.heap.size := z1a
    have g00 : w1.cell? ⟨w.heap.size, 0, none⟩ = some (.int .u64 (f : Nat)) := p1a
    have g01 : w1.cell? ⟨w.heap.size, 1, none⟩ = some (.int .u64 (t : Nat)) := q1a
    have zA1 : w.heap.size + 1 < w1.heap.size := z1b
    have g10 : w1.cell? ⟨w.heap.size + 1, 0, none⟩ = some (.int .u64 (g : Nat)) := p1b
    have g11 : w1.cell? ⟨w.heap.size + 1, 1, none⟩ = some (.int .u64 (u : Nat)) := q1b
    have HSS := Lib.hid (keep4 zA0 g00 g01 zA1 g10 g11)
    clear g00 g01 g10 g11
    first | go_region_held3 (fun w' => Below w1.heap.size w1 w' ∧ (w'.cell? ⟨w.heap.size, 0, none⟩ = some (.int .u64 (f : Nat)) ∧ w'.cell? ⟨w.heap.size, 1, none⟩ = some (.int .u64 (t : Nat)) ∧ w'.cell? ⟨w.heap.size + 1, 0, none⟩ = some (.int .u64 (g : Nat)) ∧ w'.cell? ⟨w.heap.size + 1, 1, none⟩ = some (.int .u64 (u : Nat)))) ((first | assumption | exact HSS.out _ ((Below.refl _ _).drew) | exact HSS.out _ (((Below.refl _ _).alloc (Nat.le_refl _) _).drew) | exact HSS.out _ ((below2 _ _ _).drew)))
      (fail) | fail
    all_goals (go_wp2_with fail; go_meet; first | exact ⟨_, _, rfl, rfl, (Cel.alloc (Cel.new _ _ _ _) _).drew, (Cel.new1 _ _ _ _ _).drew, (Cel.alloc (Cel.alloc K1a.out _) _).drew, (Cel.alloc (Cel.alloc K1b.out _) _).drew, (accA (accA hB1 _) _).drew⟩ | exact ⟨_, _, rfl, rfl, (Cel.new1 _ _ _ _ _).drew, (Cel.alloc (Cel.new _ _ _ _) _).drew, (Cel.alloc (Cel.alloc K1a.out _) _).drew, (Cel.alloc (Cel.alloc K1b.out _) _).drew, (accA (accA hB1 _) _).drew⟩)
  case rest =>
    obtain ⟨c, d, rfl, rfl, HK⟩ := hcut
    obtain ⟨wb, rfl⟩ : ∃ wb : World, wb = wc := ⟨_, rfl⟩
    obtain ⟨k1, k2, k3, k4, hB'⟩ := HK.out
    clear e1 e2 e3 e4 HK
    go_upto_region 4 with fail
    have e5 := E5.out
    have zA0 : w.heap.size < wb.heap.size := k3.1
    have g00 : wb.cell? ⟨w.heap.size, 0, none⟩ = some (.int .u64 (f : Nat)) := k3.2.1
    have g01 : wb.cell? ⟨w.heap.size, 1, none⟩ = some (.int .u64 (t : Nat)) := k3.2.2
    have zA1 : w.heap.size + 1 < wb.heap.size := k4.1
    have g10 : wb.cell? ⟨w.heap.size + 1, 0, none⟩ = some (.int .u64 (g : Nat)) := k4.2.1
    have g11 : wb.cell? ⟨w.heap.size + 1, 1, none⟩ = some (.int .u64 (u : Nat)) := k4.2.2
    have zA2 : c < wb.heap.size := k1.1
    have g20 : wb.cell? ⟨c, 0, none⟩ = some (.int .u64 (f2 : Nat)) := k1.2.1
    have g21 : wb.cell? ⟨c, 1, none⟩ = some (.int .u64 (t2 : Nat)) := k1.2.2
    have zA3 : d < wb.heap.size := k2.1
    have g30 : wb.cell? ⟨d, 0, none⟩ = some (.int .u64 (g2 : Nat)) := k2.2.1
    have g31 : wb.cell? ⟨d, 1, none⟩ = some (.int .u64 (u2 : Nat)) := k2.2.2
    have HSS := Lib.hid (keep8 zA0 g00 g01 zA1 g10 g11 zA2 g20 g21 zA3 g30 g31)
    clear g00 g01 g10 g11 g20 g21 g30 g31
    clear k1 k2 k3 k4 z1a z1b p1a q1a p1b q1b K1a K1b hB1 hB0 hK0
    first | go_region_held3 (fun w' => Below wb.heap.size wb w' ∧ (w'.cell? ⟨w.heap.size, 0, none⟩ = some (.int .u64 (f : Nat)) ∧ w'.cell? ⟨w.heap.size, 1, none⟩ = some (.int .u64 (t : Nat)) ∧ w'.cell? ⟨w.heap.size + 1, 0, none⟩ = some (.int .u64 (g : Nat)) ∧ w'.cell? ⟨w.heap.size + 1, 1, none⟩ = some (.int .u64 (u : Nat)) ∧ w'.cell? ⟨c, 0, none⟩ = some (.int .u64 (f2 : Nat)) ∧ w'.cell? ⟨c, 1, none⟩ = some (.int .u64 (t2 : Nat)) ∧ w'.cell? ⟨d, 0, none⟩ = some (.int .u64 (g2 : Nat)) ∧ w'.cell? ⟨d, 1, none⟩ = some (.int .u64 (u2 : Nat)))) ((first | assumption | exact HSS.out _ ((Below.refl _ _).drew) | exact keep_step HSS.out (by assumption) (by assumption)))
      (first | (go_at_call 14; (with_reducible refine (C1.out _).mono ?_); rintro e w9 ⟨rfl, hb9⟩) | (go_at_call 14; (with_reducible refine (C2.out _).mono ?_); rintro e w9 ⟨rfl, hb9⟩) | (go_at_call 16; (with_reducible refine (C3.out _).mono ?_); rintro e w9 ⟨rfl, hb9⟩) | (go_at_call 16; (with_reducible refine (C4.out _).mono ?_); rintro e w9 ⟨rfl, hb9⟩) | (go_at_call 19; (with_reducible refine (C5.out _).mono ?_); rintro e w9 ⟨rfl, hb9⟩) | (go_at_call 19; (with_reducible refine (C6.out _).mono ?_); rintro e w9 ⟨rfl, hb9⟩) | (go_at_call 21; (with_reducible refine (C7.out _).mono ?_); rintro e w9 ⟨rfl, hb9⟩) | (go_at_call 21; (with_reducible refine (C8.out _).mono ?_); rintro e w9 ⟨rfl, hb9⟩) | (go_at_call 15; (with_reducible refine (C9.out _).mono ?_); rintro e w9 ⟨rfl, hb9⟩) | (go_at_call 15; (with_reducible refine (CX.out _).mono ?_); rintro e w9 ⟨rfl, hb9⟩)) | fail
    go_wp2
    go_ret
    exact ⟨rfl, fin hB' (by assumption)⟩
end Go.Proofs.Ytfddheioganmfaa
