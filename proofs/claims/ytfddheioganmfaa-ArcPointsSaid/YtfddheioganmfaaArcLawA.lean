/-
  The walk of the statement ArcPoints of chapter 2.
-/
import Derived.Test.YtfddheioganmfaaArcKeep
import Derived.Deep.RegionHeld3
namespace Go.Proofs.Ytfddheioganmfaa
open Go.RowKit

set_option maxHeartbeats 800000 in
theorem arcPoints_walk (f t x : Nat) (w : World) (hf : f < 18446744073709551616) (ht : t < 18446744073709551616) (hx : x < 18446744073709551616) :
    Calls Try.prog 6 #[.agg #[.int .u64 f, .int .u64 t], .int .u64 x] w fun e w' => e = .returned (.bool true) ∧ Below w.heap.size w w' := by
  have hB0 : Below w.heap.size w w := Below.refl _ _
  have cF := fun W => in_any f t f W hf ht hf
  rw [in_first f t hf ht] at cF
  have C1 := Lib.hid cF
  have cW := fun W => whole_any f t W
  by_cases hft : f = t
  · subst hft
    have b0 : (f == f) = true := by simp
    rw [b0] at cW
    have C2 := Lib.hid cW
    have cX := fun W => in_any f f x W hf hf hx
    rw [in_whole] at cX
    have C3 := Lib.hid cX
    clear cF cW cX hf ht hx b0
    go_enter Try.func6, Try.ntmps6
    go_wp2_with (first
      | (go_at_call 11; ((with_reducible refine (alive_any _).mono ?_); rintro e w1 ⟨rfl, hb1⟩; obtain ⟨hc1, hf1⟩ := bcell hb1; have hB : Below w.heap.size w w1 := (by first | exact acc (by assumption) hb1 | exact acc (accA (by assumption) _) hb1 | exact acc (accA (accA (by assumption) _) _) hb1 | exact acc (accA (accA (accA (by assumption) _) _) _) hb1); have hz1a : w.heap.size < w1.heap.size := (by have := hb1.size; (try simp at this); omega)))
      | (go_at_call 14; ((with_reducible refine (C1.out _).mono ?_); rintro e w2 ⟨rfl, hb2⟩; obtain ⟨hc2, hf2⟩ := bcell hb2; have hB : Below w.heap.size w w2 := (by first | exact acc (by assumption) hb2 | exact acc (accA (by assumption) _) hb2 | exact acc (accA (accA (by assumption) _) _) hb2 | exact acc (accA (accA (accA (by assumption) _) _) _) hb2); have hz2a : w.heap.size < w2.heap.size := (by have := hb2.size; (try simp at this); omega)))
      | (go_at_call 15; ((with_reducible refine (C2.out _).mono ?_); rintro e w3 ⟨rfl, hb3⟩; obtain ⟨hc3, hf3⟩ := bcell hb3; have hB : Below w.heap.size w w3 := (by first | exact acc (by assumption) hb3 | exact acc (accA (by assumption) _) hb3 | exact acc (accA (accA (by assumption) _) _) hb3 | exact acc (accA (accA (accA (by assumption) _) _) _) hb3); have hz3a : w.heap.size < w3.heap.size := (by have := hb3.size; (try simp at this); omega)))
      | (go_at_call 14; ((with_reducible refine (C3.out _).mono ?_); rintro e w4 ⟨rfl, hb4⟩; obtain ⟨hc4, hf4⟩ := bcell hb4; have hB : Below w.heap.size w w4 := (by first | exact acc (by assumption) hb4 | exact acc (accA (by assumption) _) hb4 | exact acc (accA (accA (by assumption) _) _) hb4 | exact acc (accA (accA (accA (by assumption) _) _) _) hb4); have hz4a : w.heap.size < w4.heap.size := (by have := hb4.size; (try simp at this); omega))))
    go_ret
    exact ⟨rfl, by assumption⟩
  · have b0 : (f == t) = false := by simpa using hft
    rw [b0] at cW
    have C2 := Lib.hid cW
    have cE := fun W => in_any f t t W hf ht ht
    rw [in_end hft] at cE
    have C3 := Lib.hid cE
    have cL := fun W => in_any f t (sub64 t 1) W hf ht (sub64_lt _ _)
    rw [in_last hft hf ht] at cL
    have C4 := Lib.hid cL
    have cX := fun W => in_any f t x W hf ht hx
    have cR := fun W => in_any t f x W ht hf hx
    rw [in_rest hft hf ht hx] at cR
    have C5 := Lib.hid cX
    have C6 := Lib.hid cR
    have cA := fun W => apart_any f t t f W hf ht ht hf
    rw [apart_rest hft] at cA
    have C7 := Lib.hid cA
    have C8 := Lib.hid (fun W => size_any f t W hf ht)
    have C9 := Lib.hid (fun W => size_any t f W ht hf)
    have e1 : IntKind.u64.wrap ((t : Int) - 1) = ((sub64 t 1 : Nat) : Int) := sub_u64 ht (show 1 < 18446744073709551616 by omega)
    have e2 : IntKind.u64.wrap (((sub64 t f : Nat) : Int) + ((sub64 f t : Nat) : Int)) = 0 := by
      rw [add_u64 (sub64_lt _ _) (sub64_lt _ _), size_rest hf ht]; rfl
    clear cF cW cE cL cX cR cA hf ht hx hft b0
    generalize sub64 t f = s1 at *
    generalize sub64 f t = s2 at *
    generalize sub64 t 1 = t1 at *
    generalize inB f t x = p at *
    have E1 := Lib.hid e1
    have E2 := Lib.hid e2
    clear e1 e2
    go_enter Try.func6, Try.ntmps6
    go_wp2_with (first
      | (go_at_call 11; ((with_reducible refine (alive_any _).mono ?_); rintro e w1 ⟨rfl, hb1⟩; obtain ⟨hc1, hf1⟩ := bcell hb1; have hB : Below w.heap.size w w1 := (by first | exact acc (by assumption) hb1 | exact acc (accA (by assumption) _) hb1 | exact acc (accA (accA (by assumption) _) _) hb1 | exact acc (accA (accA (accA (by assumption) _) _) _) hb1); have hz1a : w.heap.size < w1.heap.size := (by have := hb1.size; (try simp at this); omega)))
      | (go_at_call 14; ((with_reducible refine (C1.out _).mono ?_); rintro e w2 ⟨rfl, hb2⟩; obtain ⟨hc2, hf2⟩ := bcell hb2; have hB : Below w.heap.size w w2 := (by first | exact acc (by assumption) hb2 | exact acc (accA (by assumption) _) hb2 | exact acc (accA (accA (by assumption) _) _) hb2 | exact acc (accA (accA (accA (by assumption) _) _) _) hb2); have hz2a : w.heap.size < w2.heap.size := (by have := hb2.size; (try simp at this); omega)))
      | (go_at_call 15; ((with_reducible refine (C2.out _).mono ?_); rintro e w3 ⟨rfl, hb3⟩; obtain ⟨hc3, hf3⟩ := bcell hb3; have hB : Below w.heap.size w w3 := (by first | exact acc (by assumption) hb3 | exact acc (accA (by assumption) _) hb3 | exact acc (accA (accA (by assumption) _) _) hb3 | exact acc (accA (accA (accA (by assumption) _) _) _) hb3); have hz3a : w.heap.size < w3.heap.size := (by have := hb3.size; (try simp at this); omega))))
    have ha0 : w3.cell? ⟨w.heap.size, 0, none⟩ = some (.int .u64 (f : Nat)) := by go_simp
    have ha1 : w3.cell? ⟨w.heap.size, 1, none⟩ = some (.int .u64 (t : Nat)) := by go_simp
    generalize hwb : w3.alloc (.cells #[.int .u64 (t : Nat), .int .u64 (f : Nat)] 24) = wb
    have hbb : Below w3.heap.size w3 wb := by rw [← hwb]; exact (Below.refl _ _).alloc (Nat.le_refl _) _
    have hzb : w3.heap.size < wb.heap.size := by rw [← hwb]; simp
    have hB' : Below w.heap.size w wb := acc hB hbb
    have e1 := E1.out
    have e2 := E2.out
    cases p
    all_goals
      have zA0 : w.heap.size < wb.heap.size := by omega
      have g00 : wb.cell? ⟨w.heap.size, 0, none⟩ = some (.int .u64 (f : Nat)) := (hbb.cell (p := ⟨w.heap.size, 0, none⟩) hz3a).trans ha0
      have g01 : wb.cell? ⟨w.heap.size, 1, none⟩ = some (.int .u64 (t : Nat)) := (hbb.cell (p := ⟨w.heap.size, 1, none⟩) hz3a).trans ha1
      have zA1 : w3.heap.size < wb.heap.size := hzb
      have g10 : wb.cell? ⟨w3.heap.size, 0, none⟩ = some (.int .u64 (t : Nat)) := by rw [← hwb]; exact cell_new0 _ _ _ _
      have g11 : wb.cell? ⟨w3.heap.size, 1, none⟩ = some (.int .u64 (f : Nat)) := by rw [← hwb]; exact cell_new1 _ _ _ _
      have HSS := Lib.hid (keep4 zA0 g00 g01 zA1 g10 g11)
      clear g00 g01 g10 g11
      go_region_held3 (fun w' => Below wb.heap.size wb w' ∧ (w'.cell? ⟨w.heap.size, 0, none⟩ = some (.int .u64 (f : Nat)) ∧ w'.cell? ⟨w.heap.size, 1, none⟩ = some (.int .u64 (t : Nat)) ∧ w'.cell? ⟨w3.heap.size, 0, none⟩ = some (.int .u64 (t : Nat)) ∧ w'.cell? ⟨w3.heap.size, 1, none⟩ = some (.int .u64 (f : Nat)))) ((first | exact HSS.out _ ((Below.refl _ _).drew) | exact keep_step HSS.out (by assumption) (by assumption)))
        (first | (go_at_call 14; (with_reducible refine (C3.out _).mono ?_); rintro e w9 ⟨rfl, hb9⟩) | (go_at_call 14; (with_reducible refine (C4.out _).mono ?_); rintro e w9 ⟨rfl, hb9⟩) | (go_at_call 14; (with_reducible refine (C5.out _).mono ?_); rintro e w9 ⟨rfl, hb9⟩) | (go_at_call 14; (with_reducible refine (C6.out _).mono ?_); rintro e w9 ⟨rfl, hb9⟩) | (go_at_call 21; (with_reducible refine (C7.out _).mono ?_); rintro e w9 ⟨rfl, hb9⟩) | (go_at_call 16; (with_reducible refine (C8.out _).mono ?_); rintro e w9 ⟨rfl, hb9⟩) | (go_at_call 16; (with_reducible refine (C9.out _).mono ?_); rintro e w9 ⟨rfl, hb9⟩))
      go_wp2
      go_ret
      exact ⟨rfl, fin hB' (by assumption)⟩
end Go.Proofs.Ytfddheioganmfaa
