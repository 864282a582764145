/-
  The first call of stage 13's statements.
-/
import Derived.Test.YtompbhkmaalioaaGateBase
namespace Go.Proofs.Ytompbhkmaalioaa
open Go.RowKit

/-- one pointer, some ticks later -/
def aliveS (k : Nat) : GS := ⟨false, 0, 0, oneL 0 9 3 k, k⟩
theorem aliveS_tick (k : Nat) : (aliveS k).tick = aliveS (k + 1) := by
  unfold aliveS GS.tick
  rw [oneL_tick]
theorem oneL_len (f t : Nat) (n : Int) (k : Nat) : (oneL f t n k).length ≤ 1 := by unfold oneL; split <;> simp
set_option maxRecDepth 20000 in
set_option maxHeartbeats 4000000 in
theorem gateAlive_any {VG : World → Nat → GS → List Nat → Prop} (L : GateLaws VG) (W : World) : Calls Try.prog 7 #[] W fun e w' => e = .returned (.bool true) ∧ Below W.heap.size W w' := by
  have K0 : Hid (GX VG W (W.alloc (.cells GZ 31)) [] W.heap.size G0) := GX.zero L (Below.refl _ _) (by simp)
  have CP : Hid (∀ w, GX VG W w [] W.heap.size G0 → Calls Try.prog 10 #[.pointer (some ⟨W.heap.size, 0, none⟩), .agg #[.int .u64 0, .int .u64 9], .int .i64 3] w (GXPost VG W w [] W.heap.size (.tuple #[]) (aliveS 0))) := fun w h => h.point L 0 9 3 (by decide) (by decide) (by decide) (by decide) (by decide)
  have CW1 : Hid (∀ w, GX VG W w [] W.heap.size (aliveS 0) → Calls Try.prog 16 #[.pointer (some ⟨W.heap.size, 0, none⟩), .int .u64 1] w fun e w' => e = .returned (.tuple #[.int .i64 3, .bool true]) ∧ Below w.heap.size w w') := fun w h => h.where_ L 1 (by decide) (by decide)
  have CW2 : Hid (∀ w, GX VG W w [] W.heap.size (aliveS 40) → Calls Try.prog 16 #[.pointer (some ⟨W.heap.size, 0, none⟩), .int .u64 1] w fun e w' => e = .returned (.tuple #[.int .i64 0, .bool false]) ∧ Below w.heap.size w w') := fun w h => h.where_ L 1 (by decide) (by decide)
  have CT : Hid (∀ w k, k < 40 → GX VG W w [] W.heap.size (aliveS k) → Calls Try.prog 12 #[.pointer (some ⟨W.heap.size, 0, none⟩)] w (GXPost VG W w [] W.heap.size (.tuple #[]) (aliveS (k + 1)))) := fun w k hk h => by
    have z := h.tick L (by have := oneL_len 0 9 3 k; show (oneL 0 9 3 k).length ≤ 1001; omega) (by show k ≤ 1000000; omega)
    rwa [aliveS_tick] at z
  have CF1 : Hid (∀ w, GX VG W w [] W.heap.size (aliveS 40) → Calls Try.prog 8 #[.pointer (some ⟨W.heap.size, 0, none⟩), .agg #[.int .u64 1, .int .u64 2]] w (GXPost VG W w [] W.heap.size (.bool true) ⟨true, 1, 2, [], 40⟩)) := fun w h => h.freeze L 1 2 (by decide) (by decide)
  have CF2 : Hid (∀ w, GX VG W w [] W.heap.size ⟨true, 1, 2, [], 40⟩ → Calls Try.prog 8 #[.pointer (some ⟨W.heap.size, 0, none⟩), .agg #[.int .u64 0, .int .u64 0]] w (GXPost VG W w [] W.heap.size (.bool false) ⟨true, 1, 2, [], 40⟩)) := fun w h => h.freeze L 0 0 (by decide) (by decide)
  have CZ : Hid (∀ w, GX VG W w [] W.heap.size ⟨true, 1, 2, [], 40⟩ → Calls Try.prog 18 #[.pointer (some ⟨W.heap.size, 0, none⟩), .int .u64 1] w fun e w' => e = .returned (.bool true) ∧ Below w.heap.size w w') := fun w h => by
    have z := h.frozen L 1 (by decide)
    rwa [show GS.frozen ⟨true, 1, 2, [], 40⟩ 1 = true by decide] at z
  have CH : Hid (∀ w, GX VG W w [] W.heap.size ⟨true, 1, 2, [], 40⟩ → Calls Try.prog 9 #[.pointer (some ⟨W.heap.size, 0, none⟩)] w (GXPost VG W w [] W.heap.size (.bool true) ⟨false, 0, 0, [], 40⟩)) := fun w h => h.thaw L
  unfold GXPost at CP CT CF1 CF2 CH
  have CB : Hid (∀ w w1 s, GX VG W w [] W.heap.size s → Below w.heap.size w w1 → GX VG W w1 [] W.heap.size s) := fun w w1 s h hb => h.below L hb
  go_enter Try.func7, Try.ntmps7
  go_wp2_with (first
    | (go_at_call 10; (with_reducible refine (CP.out _ K0.out).mono ?_); rintro e w1 ⟨rfl, h1, -⟩; have K1 := Lib.hid h1; clear h1)
    | (go_at_call 16; (with_reducible refine (CW1.out _ K1.out).mono ?_); rintro e w2 ⟨rfl, h2⟩; have K2 := Lib.hid (CB.out _ _ _ K1.out h2); clear h2))
  go_loopg [4] 41 (fun gh s4 wx => ∃ (k : Nat), k + gh = 41 ∧ k ≤ 40 ∧ s4 = .int .i64 (k : Nat) ∧ Hid (GX VG W wx [] W.heap.size (aliveS k)))
  case atStart => exact ⟨0, by omega, by omega, rfl, K2⟩
  case round =>
    obtain ⟨k, hkg, hk, rfl, HK⟩ := hrel
    by_cases hlt : k < 40
    · have i1 : (k : Int) < 40 := by omega
      have zk : IntKind.i64.wrap ((k : Int) + 1) = (k : Int) + 1 := by rw [IntKind.wrap_i64]; omega
      go_wp2_with (go_at_call 12; (with_reducible refine (CT.out _ k hlt HK.out).mono ?_); rintro e w3 ⟨rfl, h3, -⟩; have K3 := Lib.hid h3; clear h3)
      go_roundg (gk - 1)
      case measure => omega
      case rel => exact ⟨k + 1, by omega, by omega, by go_num, K3⟩
    · obtain rfl : k = 40 := by omega
      go_wp2_with (first
        | (go_at_call 16; (with_reducible refine (CW2.out _ HK.out).mono ?_); rintro e w4 ⟨rfl, h4⟩; have K4 := Lib.hid (CB.out _ _ _ HK.out h4); clear h4)
        | (go_at_call 8; (with_reducible refine (CF2.out _ K6.out).mono ?_); rintro e w7 ⟨rfl, h7, -⟩; have K7 := Lib.hid h7; clear h7)
        | (go_at_call 8; (with_reducible refine (CF1.out _ K4.out).mono ?_); rintro e w5 ⟨rfl, h5, -⟩; have K5 := Lib.hid h5; clear h5)
        | (go_at_call 18; (with_reducible refine (CZ.out _ K5.out).mono ?_); rintro e w6 ⟨rfl, h6⟩; have K6 := Lib.hid (CB.out _ _ _ K5.out h6); clear h6)
        | (go_at_call 9; (with_reducible refine (CH.out _ K7.out).mono ?_); rintro e w8 ⟨rfl, h8, -⟩; have K8 := Lib.hid h8; clear h8))
      go_ret
      exact ⟨rfl, K8.out.base⟩
end Go.Proofs.Ytompbhkmaalioaa
