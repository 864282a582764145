/-
  The first call of stage 11's statements.
-/
import Derived.Test.YthjhfnbcfgkehaaViewTwo
namespace Go.Proofs.Ythjhfnbcfgkehaa
open Go.RowKit

section
variable {VH : World → Nat → List AO → List Nat → Prop}
abbrev K1 (a : List AO) : Prop := ∀ x, x < 18446744073709551616 → kn a x = some ((1 : Int), (0 : Int))
abbrev K2 (a : List AO) : Prop := ∀ x, x < 18446744073709551616 → kn a x = if inB 5 9 x = true then some ((2 : Int), (1 : Int)) else some ((1 : Int), (0 : Int))
set_option maxRecDepth 20000 in
set_option maxHeartbeats 4000000 in
theorem viewAlive_any (L : ViewLaws VH) (W : World) : Calls Try.prog 7 #[] W fun e w' => e = .returned (.bool true) ∧ Below W.heap.size W w' := by
  have F0 : AO.Fit ⟨0, 0, 1, 0⟩ := ⟨by decide, by decide, by decide, by decide⟩
  have F1 : AO.Fit ⟨5, 9, 2, 1⟩ := ⟨by decide, by decide, by decide, by decide⟩
  have F2 : AO.Fit ⟨6, 7, 3, 1⟩ := ⟨by decide, by decide, by decide, by decide⟩
  have C1 : Hid (∀ w g, VX VH W w [] g [] → Calls Try.prog 8 #[.pointer (some ⟨g, 0, none⟩), .agg #[.int .u64 0, .int .u64 0, .int .i64 1, .int .i64 0]] w fun e w' => e = .returned (.bool true) ∧ ∃ a, VX VH W w' [] g a ∧ K1 a) := fun w g h => by
    refine (h.learn L ⟨0, 0, 1, 0⟩ F0 (by simp)).mono ?_
    rintro e w' ⟨b, a, rfl, h1, -, h2⟩
    obtain ⟨rfl, h3⟩ := h2.first F0 ⟨by decide, by decide, by decide⟩
    exact ⟨rfl, a, h1, fun x hx => by rw [h3 x hx, if_pos (in_whole 0 x)]; rfl⟩
  have C2 : Hid (∀ w g a, VX VH W w [] g a → K1 a → Calls Try.prog 8 #[.pointer (some ⟨g, 0, none⟩), .agg #[.int .u64 5, .int .u64 9, .int .i64 2, .int .i64 1]] w fun e w' => e = .returned (.bool true) ∧ ∃ a, VX VH W w' [] g a ∧ K2 a) := fun w g a h k => by
    refine (h.learn L ⟨5, 9, 2, 1⟩ F1 (by rw [(h.arcs L).all_same k]; simp)).mono ?_
    rintro e w' ⟨b, a1, rfl, h1, -, h2⟩
    obtain ⟨rfl, h3⟩ := h2.newer F1 ⟨by decide, by decide, by decide⟩ (fun x hx _ v hv => by rw [k x hx] at hv; obtain rfl := Option.some.inj hv; decide)
    exact ⟨rfl, a1, h1, fun x hx => by rw [h3 x hx, k x hx]; rfl⟩
  have T : Hid (∀ w g a, VX VH W w [] g a → K2 a → Arcs a ∧ a.length = 2 ∧ (⟨9, 5, 1, 0⟩ : AO) ∈ a) := fun w g a h k => by
    obtain ⟨h1, h2, h3, -⟩ := (h.arcs L).two (v := (2, 1)) (u := (1, 0)) (f := 5) (t := 9) (by decide) (by decide) (by decide) (by decide) k
    exact ⟨h.arcs L, h1, h3⟩
  have C3 : Hid (∀ w g a, VX VH W w [] g a → K2 a → Calls Try.prog 8 #[.pointer (some ⟨g, 0, none⟩), .agg #[.int .u64 6, .int .u64 7, .int .i64 3, .int .i64 1]] w fun e w' => e = .returned (.bool false) ∧ ∃ a, VX VH W w' [] g a ∧ K2 a) := fun w g a h k => by
    refine (h.learn L ⟨6, 7, 3, 1⟩ F2 (by rw [(T.out w g a h k).2.1]; simp)).mono ?_
    rintro e w' ⟨b, a1, rfl, h1, -, h2⟩
    obtain ⟨rfl, h3⟩ := h2.elder (fun x hx hin => by
      have e6 : x = 6 := by
        have hin : inB 6 7 x = true := hin
        rw [in_iff] at hin
        have c1 := sub64_cases hx (show 6 < 18446744073709551616 by omega)
        have c2 : sub64 7 6 = 1 := by decide
        omega
      subst e6
      exact ⟨(2, 1), by rw [k 6 hx]; decide, by decide⟩)
    exact ⟨rfl, a1, h1, fun x hx => by rw [h3 x hx, k x hx]⟩
  have C4 : Hid (∀ w g a, VX VH W w [] g a → K2 a → Calls Try.prog 9 #[.pointer (some ⟨g, 0, none⟩), .int .u64 9] w fun e w' => e = .returned (.tuple #[.agg #[.int .u64 9, .int .u64 5, .int .i64 1, .int .i64 0], .bool true]) ∧ VX VH W w' [] g a) := fun w g a h k => by
    refine (h.owner L 9 (by decide)).mono ?_
    rintro e w' ⟨h1, h2⟩
    exact ⟨h1.1 ⟨9, 5, 1, 0⟩ (T.out w g a h k).2.2 (by decide), h.below L h2⟩
  have C5 : Hid (∀ w g a, VX VH W w [] g a → K2 a → Calls Try.prog 13 #[.pointer (some ⟨g, 0, none⟩)] w fun e w' => e = .returned (.int .i64 2) ∧ VX VH W w' [] g a) := fun w g a h k => by
    refine (h.len L).mono ?_
    rintro e w' ⟨rfl, h2⟩
    exact ⟨by rw [(T.out w g a h k).2.1]; rfl, h.below L h2⟩
  have C6 : Hid (∀ w g a, VX VH W w [] g a → K2 a → Calls Try.prog 14 #[.pointer (some ⟨g, 0, none⟩)] w fun e w' => e = .returned (.bool true) ∧ VX VH W w' [] g a) := fun w g a h k => by
    refine (h.ring L).mono ?_
    rintro e w' ⟨⟨b, rfl, h1⟩, h2⟩
    have : b = true := h1.2 fun x hx => by rw [k x hx]; split <;> simp
    exact ⟨by rw [this], h.below L h2⟩
  have X0 : Hid (VX VH W (W.alloc (.cells VZ 32)) [] W.heap.size []) := VX.zero L (Below.refl _ _) (by simp)
  clear F0 F1 F2 T
  go_enter Try.func7, Try.ntmps7
  go_wp2_with (first
    | (go_at_call 8; (with_reducible refine (C3.out _ _ _ X2.out k2).mono ?_); rintro e w3 ⟨rfl, a3, x3, k3⟩; have X3 := Lib.hid x3; clear x3)
    | (go_at_call 8; (with_reducible refine (C2.out _ _ _ X1.out k1).mono ?_); rintro e w2 ⟨rfl, a2, x2, k2⟩; have X2 := Lib.hid x2; clear x2)
    | (go_at_call 8; (with_reducible refine (C1.out _ _ X0.out).mono ?_); rintro e w1 ⟨rfl, a1, x1, k1⟩; have X1 := Lib.hid x1; clear x1)
    | (go_at_call 9; (with_reducible refine (C4.out _ _ _ X3.out k3).mono ?_); rintro e w4 ⟨rfl, x4⟩; have X4 := Lib.hid (x4.below L ((Below.refl _ _).alloc (Nat.le_refl _) (.cells #[.int .u64 9, .int .u64 5, .int .i64 1, .int .i64 0] 27))); clear x4)
    | (go_at_call 13; (with_reducible refine (C5.out _ _ _ X4.out k3).mono ?_); rintro e w5 ⟨rfl, x5⟩; have X5 := Lib.hid x5; clear x5)
    | (go_at_call 14; (with_reducible refine (C6.out _ _ _ X5.out k3).mono ?_); rintro e w6 ⟨rfl, x6⟩; have X6 := Lib.hid x6; clear x6))
  go_ret
  exact ⟨rfl, X6.out.base⟩
end
end Go.Proofs.Ythjhfnbcfgkehaa
