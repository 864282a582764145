/-
  LinkAcks, walked: an answer tells how many came in order; an elder one changes nothing.
-/
import Derived.Test.YtfemdfidfomchaaLinkAlive
namespace Go.Proofs.Ytfemdfidfomchaa
open Go.RowKit

theorem aliveL : ∀ w, Calls Try.prog 10 #[] w fun e w' => e = .returned (.bool true) ∧ Below w.heap.size w w' := linkAlive_any
/-- n letters were sent, the last k of them wait -/
abbrev akS (n k : Nat) : LS := ⟨1, 2, n, List.replicate k (LR.light 1 0, 0), 0, [], 0⟩
theorem akS_ok {n k : Nat} (h : k ≤ n) (hn : n ≤ 1000) : (akS n k).Ok := ⟨by show n ≤ _; omega, by simp [h], by simp, by simp, by simp, fun x hx => by rw [List.eq_of_mem_replicate hx]; simp⟩
theorem akS_push (n : Nat) : (akS n n).push (LR.light 1 0) = akS (n + 1) (n + 1) := by
  show LS.mk _ _ _ _ _ _ _ = LS.mk _ _ _ _ _ _ _
  rw [List.replicate_succ']
theorem akS_known {n k : Nat} (a : Nat) : (akS n k).known (a : Nat) = akS n (k - ((a : Int) - (n : Nat) + (k : Nat)).toNat) := by
  show LS.mk _ _ _ _ _ _ _ = LS.mk _ _ _ _ _ _ _
  rw [List.drop_replicate]
  unfold LS.gone
  simp
theorem lx_boxed {W w : World} {P : List Nat} {g : Nat} {s : LS} (h : LX W w P g s) (f t q a k i : Int) : LX W ((w.alloc (.cells (lpCells 0 0 0 0 0 0) 53)).setRow w.heap.size (lpCells f t q a k i)) P g s := h.below (lp_box w f t q a k i).1

set_option maxRecDepth 20000 in
set_option maxHeartbeats 8000000 in
theorem linkAcksGo (n a b m : Nat) (W : World) (hn : n ≤ 30) (ha : a ≤ n) (hb : b ≤ n) (hm : m = if a < b then b else a) :
    Calls Try.prog 9 #[.int .i64 (n : Nat), .int .i64 (a : Nat), .int .i64 (b : Nat)] W fun e w' => e = .returned (.bool true) ∧ Below W.heap.size W w' := by
  have CA := Lib.hid aliveL
  have CN : Hid (∀ w, Below W.heap.size W w → Calls Try.prog 11 #[.int .i64 1, .int .i64 2] w fun e w' => e = .returned (.pointer (some ⟨w.heap.size, 0, none⟩)) ∧ LX W w' [] w.heap.size (akS 0 0) ∧ Below w.heap.size w w') := fun w h => LX.new h (by simp) 1 2
  have CS : Hid (∀ w g (i : Nat), i < n → LX W w [] g (akS i i) → Calls Try.prog 13 #[.pointer (some ⟨g, 0, none⟩), .agg (ltCells 1 0)] w fun e w' => e = .returned (.agg (lpCells 1 2 ((i : Int) + 1) 0 1 0)) ∧ LX W w' [] g (akS (i + 1) (i + 1))) := fun w g i hi h =>
    (h.send (akS_ok (Nat.le_refl _) (by omega)) 1 0).mono fun e w' ⟨h1, h2, _⟩ => ⟨h1, by rw [akS_push] at h2; exact h2⟩
  have C1 : Hid (∀ w g, LX W w [] g (akS n n) → Calls Try.prog 17 #[.pointer (some ⟨g, 0, none⟩), .agg (lpCells 2 1 0 (a : Nat) 0 0)] w fun e w' => e = .returned (.tuple #[.slice none 0 0, .agg (lpCells 0 0 0 0 0 0), .bool true]) ∧ LX W w' [] g (akS n (n - a))) := fun w g h =>
    (h.gotAck (akS_ok (Nat.le_refl _) (by omega)) 2 1 (a : Nat) 0 0 ⟨rfl, rfl, by simp, by simp, by simp; omega⟩).mono fun e w' ⟨h1, h2, _⟩ => ⟨h1, by
      rw [akS_known, show ((a : Int) - (n : Nat) + (n : Nat)).toNat = a by omega] at h2; exact h2⟩
  have C2 : Hid (∀ w g, LX W w [] g (akS n (n - a)) → Calls Try.prog 17 #[.pointer (some ⟨g, 0, none⟩), .agg (lpCells 2 1 0 (b : Nat) 0 0)] w fun e w' => e = .returned (.tuple #[.slice none 0 0, .agg (lpCells 0 0 0 0 0 0), .bool true]) ∧ LX W w' [] g (akS n (n - m))) := fun w g h =>
    (h.gotAck (akS_ok (by omega) (by omega)) 2 1 (b : Nat) 0 0 ⟨rfl, rfl, by simp, by simp, by simp; omega⟩).mono fun e w' ⟨h1, h2, _⟩ => ⟨h1, by
      rw [akS_known, show n - a - ((b : Int) - (n : Nat) + ((n - a : Nat) : Nat)).toNat = n - m by split at hm <;> omega] at h2; exact h2⟩
  have C3 : Hid (∀ w g, LX W w [] g (akS n (n - m)) → Calls Try.prog 17 #[.pointer (some ⟨g, 0, none⟩), .agg (lpCells 2 1 0 ((n : Int) + 1) 0 0)] w fun e w' => e = .returned (.tuple #[.slice none 0 0, .agg (lpCells 0 0 0 0 0 0), .bool false]) ∧ LX W w' [] g (akS n (n - m))) := fun w g h =>
    (h.gotNot 2 1 0 ((n : Int) + 1) 0 0 (fun z => by have := z.2.2.2.2; simp at this; omega)).mono fun e w' ⟨h1, h2, _⟩ => ⟨h1, h2⟩
  have C4 : Hid (∀ w g, LX W w [] g (akS n (n - m)) → Calls Try.prog 21 #[.pointer (some ⟨g, 0, none⟩)] w fun e w' => e = .returned (.int .i64 ((n : Int) - (m : Nat))) ∧ w' = w) := fun w g h =>
    h.waits.mono fun e w' ⟨h1, h2⟩ => ⟨by rw [h1]; simp; split at hm <;> omega, h2⟩
  have d0 : decide ((n : Int) < 0) = false := by simp
  have d1 : decide (30 < (n : Int)) = false := by simp; omega
  have d2 : decide ((a : Int) < 0) = false := by simp
  have d3 : decide ((n : Int) < (a : Int)) = false := by simp; omega
  have d4 : decide ((b : Int) < 0) = false := by simp
  have d5 : decide ((n : Int) < (b : Int)) = false := by simp; omega
  have hz1 : IntKind.i64.wrap ((n : Int) + 1) = (n : Int) + 1 := by rw [IntKind.wrap_i64]; omega
  have hz2 : IntKind.i64.wrap ((n : Int) - (m : Nat)) = (n : Int) - (m : Nat) := by rw [IntKind.wrap_i64]; split at hm <;> omega
  have hmx : (if (a : Int) < (b : Int) then (b : Int) else (a : Int)) = (m : Int) := by
    split at hm
    · rw [if_pos (by omega), hm]
    · rw [if_neg (by omega), hm]
  go_enter Try.func9, Try.ntmps9
  go_wp2_with (first
    | (go_at_call 10; (with_reducible refine (CA.out _).mono ?_); rintro e w1 ⟨rfl, h1⟩; have H1 := Lib.hid h1; clear h1)
    | (go_at_call 11; (with_reducible refine (CN.out _ H1.out).mono ?_); rintro e w2 ⟨rfl, h2, _⟩; have H2 := Lib.hid h2; clear h2))
  obtain ⟨g, hg⟩ : ∃ g, w1.heap.size = g := ⟨_, rfl⟩
  rw [hg] at H2 ⊢
  clear hg H1
  go_loopg [8] (n + 1) (fun gh s8 wx => ∃ i : Nat, i + gh = n + 1 ∧ i ≤ n ∧ s8 = .int .i64 (i : Nat) ∧ Hid (LX W wx [] g (akS i i)))
  case atStart => exact ⟨0, by omega, by omega, rfl, H2.out⟩
  case round =>
    obtain ⟨i, hig, hi, rfl, HX⟩ := hrel
    by_cases hlt : i < n
    · have cs := Lib.hid (CS.out wr g i hlt HX.out)
      go_wp2_with (go_at_call 13; (with_reducible refine (cs.out).mono ?_); rintro e w3 ⟨rfl, h3⟩; have H3 := Lib.hid h3; clear h3)
      go_roundg (gk - 1)
      case measure => omega
      case rel => exact ⟨i + 1, by omega, by omega, by go_num, H3⟩
    · obtain rfl : i = n := by omega
      have ct := Lib.hid (C1.out wr g HX.out)
      clear CA CN CS C1 HX H2
      go_wp2_with (first
        | (go_at_call 17; (with_reducible refine (ct.out).mono ?_); rintro e w4 ⟨rfl, h4⟩; have H4 := Lib.hid (lx_boxed h4 0 0 0 0 0 0); clear h4)
        | (with_reducible (show wpList _ _ _ (⟨none, Op.store _ (Operand.tmp 10) _, _, _, _, _⟩ :: _) _ _); go_must (refine wpList_store_lp rfl (.tmp 10) (.tmp 64) rfl w4.heap.size 0 0 0 0 0 0 rfl rfl (heap_alloc_new w4 _) ?_))
        | (go_at_call 17; (with_reducible refine (C2.out _ _ H4.out).mono ?_); rintro e w5 ⟨rfl, h5⟩; have H5 := Lib.hid (lx_boxed h5 0 0 0 0 0 0); clear h5)
        | (with_reducible (show wpList _ _ _ (⟨none, Op.store _ (Operand.tmp 13) _, _, _, _, _⟩ :: _) _ _); go_must (refine wpList_store_lp rfl (.tmp 13) (.tmp 72) rfl w5.heap.size 0 0 0 0 0 0 rfl rfl (heap_alloc_new w5 _) ?_))
        | (go_at_call 17; (with_reducible refine (C3.out _ _ H5.out).mono ?_); rintro e w6 ⟨rfl, h6⟩; have H6 := Lib.hid (lx_boxed h6 0 0 0 0 0 0); clear h6)
        | (with_reducible (show wpList _ _ _ (⟨none, Op.store _ (Operand.tmp 16) _, _, _, _, _⟩ :: _) _ _); go_must (refine wpList_store_lp rfl (.tmp 16) (.tmp 81) rfl w6.heap.size 0 0 0 0 0 0 rfl rfl (heap_alloc_new w6 _) ?_))
        | (go_at_call 21; (with_reducible refine (C4.out _ _ H6.out).mono ?_); rintro e w8 ⟨rfl, hw8⟩))
      all_goals
        go_ret
        subst hw8
        exact ⟨rfl, H6.out.base⟩
theorem linkAcks_any (n a b : Int) (W : World) (_n0 : -9223372036854775808 ≤ n) (_n1 : n ≤ 9223372036854775807) (_a0 : -9223372036854775808 ≤ a) (_a1 : a ≤ 9223372036854775807) (_b0 : -9223372036854775808 ≤ b) (_b1 : b ≤ 9223372036854775807) :
    Calls Try.prog 9 #[.int .i64 n, .int .i64 a, .int .i64 b] W fun e w' => e = .returned (.bool true) ∧ Below W.heap.size W w' := by
  have CA := Lib.hid aliveL
  by_cases c0 : n < 0
  · have d0 : decide (n < 0) = true := by simp; omega
    go_enter Try.func9, Try.ntmps9
    go_wp2_with (go_at_call 10; (with_reducible refine (CA.out _).mono ?_); rintro e w1 ⟨rfl, h1⟩)
    go_ret
    exact ⟨rfl, h1⟩
  have d0 : decide (n < 0) = false := by simp; omega
  by_cases c1 : 30 < n
  · have d1 : decide (30 < n) = true := by simp; omega
    go_enter Try.func9, Try.ntmps9
    go_wp2_with (go_at_call 10; (with_reducible refine (CA.out _).mono ?_); rintro e w1 ⟨rfl, h1⟩)
    go_ret
    exact ⟨rfl, h1⟩
  have d1 : decide (30 < n) = false := by simp; omega
  by_cases c2 : a < 0
  · have d2 : decide (a < 0) = true := by simp; omega
    go_enter Try.func9, Try.ntmps9
    go_wp2_with (go_at_call 10; (with_reducible refine (CA.out _).mono ?_); rintro e w1 ⟨rfl, h1⟩)
    go_ret
    exact ⟨rfl, h1⟩
  have d2 : decide (a < 0) = false := by simp; omega
  by_cases c3 : n < a
  · have d3 : decide (n < a) = true := by simp; omega
    go_enter Try.func9, Try.ntmps9
    go_wp2_with (go_at_call 10; (with_reducible refine (CA.out _).mono ?_); rintro e w1 ⟨rfl, h1⟩)
    go_ret
    exact ⟨rfl, h1⟩
  have d3 : decide (n < a) = false := by simp; omega
  by_cases c4 : b < 0
  · have d4 : decide (b < 0) = true := by simp; omega
    go_enter Try.func9, Try.ntmps9
    go_wp2_with (go_at_call 10; (with_reducible refine (CA.out _).mono ?_); rintro e w1 ⟨rfl, h1⟩)
    go_ret
    exact ⟨rfl, h1⟩
  have d4 : decide (b < 0) = false := by simp; omega
  by_cases c5 : n < b
  · have d5 : decide (n < b) = true := by simp; omega
    go_enter Try.func9, Try.ntmps9
    go_wp2_with (go_at_call 10; (with_reducible refine (CA.out _).mono ?_); rintro e w1 ⟨rfl, h1⟩)
    go_ret
    exact ⟨rfl, h1⟩
  have d5 : decide (n < b) = false := by simp; omega
  clear d0 d1 d2 d3 d4 d5
  obtain ⟨n, rfl⟩ := Int.eq_ofNat_of_zero_le (show 0 ≤ n by omega)
  obtain ⟨a, rfl⟩ := Int.eq_ofNat_of_zero_le (show 0 ≤ a by omega)
  obtain ⟨b, rfl⟩ := Int.eq_ofNat_of_zero_le (show 0 ≤ b by omega)
  exact linkAcksGo n a b _ W (by omega) (by omega) (by omega) rfl
end Go.Proofs.Ytfemdfidfomchaa
