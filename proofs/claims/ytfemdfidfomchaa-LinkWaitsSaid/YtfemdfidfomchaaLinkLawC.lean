/-
  LinkWaits, walked: letters that nobody answers wait, and go again, all of them, each so many ticks; an answer ends it.
-/
import Derived.Test.YtfemdfidfomchaaLinkLawA
namespace Go.Proofs.Ytfemdfidfomchaa
open Go.RowKit

/-- i letters were sent; all wait since tick t; so many ticks went by -/
abbrev wtS (i now t : Nat) : LS := ⟨3, 4, i, (List.range i).map (fun j => (LR.light 1 (j + 1 : Nat), t)), 0, [], now⟩
theorem wtS_len (i now t : Nat) : (wtS i now t).waits.length = i := by simp
theorem wtS_ok {i now t : Nat} (h : i ≤ 1000) (hn : now ≤ 1000) (ht : t ≤ 1000) : (wtS i now t).Ok := ⟨by show i ≤ _; omega, by rw [wtS_len]; exact Nat.le_refl _, by simp, by show now ≤ _; omega, by simp, fun x hx => by
  obtain ⟨j, _, rfl⟩ := List.mem_map.1 hx
  show t ≤ _
  omega⟩
theorem wtS_push (i : Nat) : (wtS i 0 0).push (LR.light 1 (i + 1 : Nat)) = wtS (i + 1) 0 0 := by
  show LS.mk _ _ _ _ _ _ _ = LS.mk _ _ _ _ _ _ _
  rw [List.range_succ, List.map_append]
  rfl
theorem wtS_again (i now t : Nat) : (wtS i now t).again = wtS i (now + 1) (now + 1) := by
  show LS.mk _ _ _ _ _ _ _ = LS.mk _ _ _ _ _ _ _
  rw [List.map_map]
  rfl
theorem wtS_due {i now t : Nat} (h : 0 < i) : (wtS i now t).due = decide (4 ≤ (now : Int) + 1 - (t : Nat)) := by
  obtain ⟨i, rfl⟩ : ∃ j, i = j + 1 := ⟨i - 1, by omega⟩
  unfold LS.due
  rw [show (wtS (i + 1) now t).waits = (LR.light 1 (0 + 1 : Nat), t) :: (List.range i).map (fun j => (LR.light 1 (j + 1 + 1 : Nat), t)) by
    show (List.range (i + 1)).map _ = _
    rw [List.range_succ_eq_map, List.map_cons, List.map_map]
    rfl]
set_option maxRecDepth 20000 in
set_option maxHeartbeats 16000000 in
theorem linkWaitsGo (n ticks ack : Nat) (W : World) (h1 : 1 ≤ n) (hn : n ≤ 20) (ht : ticks ≤ 40) (ha : ack ≤ n) :
    Calls Try.prog 5 #[.int .i64 (n : Nat), .int .i64 (ticks : Nat), .int .i64 (ack : Nat)] W fun e w' => e = .returned (.bool true) ∧ Below W.heap.size W w' := by
  have CA := Lib.hid aliveL
  have CN : Hid (∀ w, Below W.heap.size W w → Calls Try.prog 11 #[.int .i64 3, .int .i64 4] w fun e w' => e = .returned (.pointer (some ⟨w.heap.size, 0, none⟩)) ∧ LX W w' [] w.heap.size (wtS 0 0 0) ∧ Below w.heap.size w w') := fun w h => LX.new h (by simp) 3 4
  have CS : Hid (∀ w g (k : Nat), 1 ≤ k → k ≤ n → LX W w [] g (wtS (k - 1) 0 0) → Calls Try.prog 13 #[.pointer (some ⟨g, 0, none⟩), .agg (ltCells 1 (k : Nat))] w fun e w' => e = .returned (.agg (lpCells 3 4 (k : Nat) 0 1 (k : Nat))) ∧ LX W w' [] g (wtS k 0 0)) := fun w g k hk hkn h => by
    obtain ⟨i, rfl⟩ : ∃ i, k = i + 1 := ⟨k - 1, by omega⟩
    exact (h.send (wtS_ok (by omega) (by omega) (by omega)) 1 (i + 1 : Nat)).mono fun e w' ⟨h1, h2, _⟩ => ⟨h1, by rw [← wtS_push]; exact h2⟩
  have CT : Hid (∀ w g (t : Nat), 1 ≤ t → t ≤ ticks → LX W w [] g (wtS n (t - 1) ((t - 1) / 4 * 4)) → Calls Try.prog 15 #[.pointer (some ⟨g, 0, none⟩)] w fun e w' => ∃ B c, e = .returned (.slice B (if t % 4 = 0 then n else 0) c) ∧ LX W w' [] g (wtS n t (t / 4 * 4))) := fun w g t h1t htt h => by
    obtain ⟨i, rfl⟩ : ∃ i, t = i + 1 := ⟨t - 1, by omega⟩
    have hok := wtS_ok (i := n) (now := i) (t := i / 4 * 4) (by omega) (by omega) (by omega)
    by_cases hd : (i + 1) % 4 = 0
    · rw [if_pos hd]
      refine (h.tickDue hok (by rw [wtS_due (by omega)]; simp; omega)).mono ?_
      rintro e w' ⟨B, c, rfl, h2, _, _⟩
      refine ⟨B, c, by rw [wtS_len], ?_⟩
      rw [show i + 1 - 1 = i from rfl, wtS_again] at h2
      rw [show (i + 1) / 4 * 4 = i + 1 by omega]
      exact h2.less (by simp)
    · rw [if_neg hd]
      refine (h.tickNot hok (by rw [wtS_due (by omega)]; simp; omega)).mono ?_
      rintro e w' ⟨rfl, h2, _⟩
      refine ⟨none, 0, rfl, ?_⟩
      rw [show (i + 1) / 4 * 4 = i / 4 * 4 by omega]
      exact h2
  have CG : Hid (∀ w g t, LX W w [] g (wtS n ticks t) → t ≤ 1000 → Calls Try.prog 17 #[.pointer (some ⟨g, 0, none⟩), .agg (lpCells 4 3 0 (ack : Nat) 0 0)] w fun e w' => e = .returned (.tuple #[.slice none 0 0, .agg (lpCells 0 0 0 0 0 0), .bool true]) ∧ ∃ s, LX W w' [] g s ∧ s.waits.length = n - ack ∧ s.kept.length = 0) := fun w g t h ht2 =>
    (h.gotAck (wtS_ok (by omega) (by omega) ht2) 4 3 (ack : Nat) 0 0 ⟨rfl, rfl, by simp, by simp, by simp; omega⟩).mono fun e w' ⟨h1, h2, _⟩ => ⟨h1, _, h2, by
      show (List.drop _ _).length = _
      rw [List.length_drop, wtS_len]
      unfold LS.gone
      rw [wtS_len]
      show n - ((ack : Int) - (n : Nat) + (n : Nat)).toNat = _
      omega, rfl⟩
  have C4 : Hid (∀ w g s, LX W w [] g s → s.waits.length = n - ack → Calls Try.prog 21 #[.pointer (some ⟨g, 0, none⟩)] w fun e w' => e = .returned (.int .i64 ((n : Int) - (ack : Nat))) ∧ w' = w) := fun w g s h hs =>
    h.waits.mono fun e w' ⟨h1, h2⟩ => ⟨by rw [h1, hs]; congr 2; omega, h2⟩
  obtain ⟨rb, hrb⟩ : ∃ rb : Bool, decide (ack = n) = rb := ⟨_, rfl⟩
  have C5 : Hid (∀ w g s, LX W w [] g s → s.waits.length = n - ack → s.kept.length = 0 → Calls Try.prog 23 #[.pointer (some ⟨g, 0, none⟩)] w fun e w' => e = .returned (.bool rb) ∧ w' = w) := fun w g s h hs hk =>
    h.rest.mono fun e w' ⟨h1, h2⟩ => ⟨by
      rw [h1]; congr 2; rw [← hrb]; unfold LS.rest; rw [hs, hk]; simp; omega, h2⟩
  have drb : ((ack : Int) == (n : Int)) = rb := by
    rw [← hrb, Bool.eq_iff_iff]; simp; omega
  have d0 : decide ((n : Int) < 1) = false := by simp; omega
  have d1 : decide (20 < (n : Int)) = false := by simp; omega
  have d2 : decide ((ticks : Int) < 0) = false := by simp
  have d3 : decide (40 < (ticks : Int)) = false := by simp; omega
  have d4 : decide ((ack : Int) < 0) = false := by simp
  have d5 : decide ((n : Int) < (ack : Int)) = false := by simp; omega
  have hz2 : IntKind.i64.wrap ((n : Int) - (ack : Nat)) = (n : Int) - (ack : Nat) := by rw [IntKind.wrap_i64]; omega
  clear hrb
  go_enter Try.func5, Try.ntmps5
  go_wp2_with (first
    | (go_at_call 10; (with_reducible refine (CA.out _).mono ?_); rintro e w1 ⟨rfl, h1⟩; have H1 := Lib.hid h1; clear h1)
    | (go_at_call 11; (with_reducible refine (CN.out _ H1.out).mono ?_); rintro e w2 ⟨rfl, h2, _⟩; have H2 := Lib.hid h2; clear h2))
  obtain ⟨g, hg⟩ : ∃ g, w1.heap.size = g := ⟨_, rfl⟩
  rw [hg] at H2 ⊢
  clear hg H1
  go_loopg [8] (n + 1) (fun gh s8 wx => ∃ k : Nat, k + gh = n + 2 ∧ 1 ≤ k ∧ k ≤ n + 1 ∧ s8 = .int .i64 (k : Nat) ∧ Hid (LX W wx [] g (wtS (k - 1) 0 0)))
  case atStart => exact ⟨1, by omega, by omega, by omega, rfl, H2.out⟩
  case round =>
    obtain ⟨k, hig, hk1, hk, rfl, HX⟩ := hrel
    by_cases hlt : k ≤ n
    · have cs := Lib.hid (CS.out wr g k hk1 hlt HX.out)
      have dle : decide ((k : Int) ≤ (n : Int)) = true := by simp; omega
      clear CS CT CG C4 C5 CN CA H2
      go_wp2_with (first
        | (go_at_call 13; (with_reducible refine (cs.out).mono ?_); rintro e w3 ⟨rfl, h3⟩; have H3 := Lib.hid (lx_boxed h3 3 4 (k : Nat) 0 1 (k : Nat)); have z0 := bg_cell (lp_box w3 3 4 (k : Nat) 0 1 (k : Nat)).2 (o := 0) rfl; have z1 := bg_cell (lp_box w3 3 4 (k : Nat) 0 1 (k : Nat)).2 (o := 1) rfl; have z2 := bg_cell (lp_box w3 3 4 (k : Nat) 0 1 (k : Nat)).2 (o := 2) rfl; have z3 := bg_cell (lp_box w3 3 4 (k : Nat) 0 1 (k : Nat)).2 (o := 3) rfl; have z7 := bg_cell (lp_box w3 3 4 (k : Nat) 0 1 (k : Nat)).2 (o := 7) rfl; clear h3)
        | (with_reducible (show wpList _ _ _ (⟨none, Op.store _ (Operand.tmp 9) _, _, _, _, _⟩ :: _) _ _); go_must (refine wpList_store_lp rfl (.tmp 9) (.tmp 54) rfl w3.heap.size 3 4 (k : Nat) 0 1 (k : Nat) rfl rfl (heap_alloc_new w3 _) ?_)))
      go_roundg (gk - 1)
      case measure => omega
      case rel => exact ⟨k + 1, by omega, by omega, by omega, by go_num, H3⟩
    · obtain rfl : k = n + 1 := by omega
      have dle : decide (((n + 1 : Nat) : Int) ≤ (n : Int)) = false := by simp; omega
      have HX2 : Hid (LX W wr [] g (wtS n 0 0)) := HX.out
      clear HX H2 CS CN CA
      go_wp2_with fail
      clear dle
      go_loopg [10] (ticks + 1) (fun gh s10 wx => ∃ t : Nat, t + gh = ticks + 2 ∧ 1 ≤ t ∧ t ≤ ticks + 1 ∧ s10 = .int .i64 (t : Nat) ∧ Hid (LX W wx [] g (wtS n (t - 1) ((t - 1) / 4 * 4))))
      case atStart => exact ⟨1, by omega, by omega, by omega, rfl, HX2.out⟩
      case round =>
        obtain ⟨t, hig2, ht1, ht2, rfl, HX⟩ := hrel
        by_cases hlt2 : t ≤ ticks
        · have dle : decide ((t : Int) ≤ (ticks : Int)) = true := by simp; omega
          have ct := CT.out wr g t ht1 hlt2 HX.out
          clear CT CG C4 C5 HX2
          by_cases hd : t % 4 = 0
          · have hr : ((t : Int) % 4) = 0 := by omega
            rw [if_pos hd] at ct
            have CTT := Lib.hid ct
            clear ct
            go_wp2_with (go_at_call 15; (with_reducible refine (CTT.out).mono ?_); rintro e w3 ⟨B, c, rfl, h3⟩; have H3 := Lib.hid h3; clear h3)
            go_roundg (gk - 1)
            case measure => omega
            case rel => exact ⟨t + 1, by omega, by omega, by omega, by go_num, H3⟩
          · have hr : ((t : Int) % 4) = ((t % 4 : Nat) : Int) := by omega
            have hr2 : (((t % 4 : Nat) : Int) == 0) = false := by simp; omega
            rw [if_neg hd] at ct
            have CTT := Lib.hid ct
            clear ct
            generalize t % 4 = t4 at *
            go_wp2_with (go_at_call 15; (with_reducible refine (CTT.out).mono ?_); rintro e w3 ⟨B, c, rfl, h3⟩; have H3 := Lib.hid h3; clear h3)
            go_roundg (gk - 1)
            case measure => omega
            case rel => exact ⟨t + 1, by omega, by omega, by omega, by go_num, H3⟩
        · obtain rfl : t = ticks + 1 := by omega
          have dle : decide (((ticks + 1 : Nat) : Int) ≤ (ticks : Int)) = false := by simp; omega
          have cg := Lib.hid (CG.out wr g (ticks / 4 * 4) HX.out (by omega))
          clear CT CG HX HX2
          go_wp2_with (first
            | (go_at_call 17; (with_reducible refine (cg.out).mono ?_); rintro e w4 ⟨rfl, s, h4, hs4, hk4⟩; have HS4 := Lib.hid hs4; have HK4 := Lib.hid hk4; have H4 := Lib.hid (lx_boxed h4 0 0 0 0 0 0); have z0 := bg_cell (lp_box w4 0 0 0 0 0 0).2 (o := 0) rfl; have z1 := bg_cell (lp_box w4 0 0 0 0 0 0).2 (o := 1) rfl; clear h4 hs4 hk4)
            | (with_reducible (show wpList _ _ _ (⟨none, Op.store _ (Operand.tmp 13) _, _, _, _, _⟩ :: _) _ _); go_must (refine wpList_store_lp rfl (.tmp 13) (.tmp 113) rfl w4.heap.size 0 0 0 0 0 0 rfl rfl (heap_alloc_new w4 _) ?_))
            | (go_at_call 21; (with_reducible refine (C4.out _ _ _ H4.out HS4.out).mono ?_); rintro e w8 ⟨rfl, hw8⟩)
            | (go_at_call 23; (with_reducible refine (C5.out _ _ _ H4.out HS4.out HK4.out).mono ?_); rintro e w9 ⟨rfl, hw9⟩))
          go_ret
          subst hw8
          subst hw9
          exact ⟨rfl, H4.out.base⟩
theorem linkWaits_any (n t a : Int) (W : World) (_n0 : -9223372036854775808 ≤ n) (_n1 : n ≤ 9223372036854775807) (_t0 : -9223372036854775808 ≤ t) (_t1 : t ≤ 9223372036854775807) (_a0 : -9223372036854775808 ≤ a) (_a1 : a ≤ 9223372036854775807) :
    Calls Try.prog 5 #[.int .i64 n, .int .i64 t, .int .i64 a] W fun e w' => e = .returned (.bool true) ∧ Below W.heap.size W w' := by
  have CA := Lib.hid aliveL
  by_cases c0 : n < 1
  · have d0 : decide (n < 1) = true := by simp; omega
    go_enter Try.func5, Try.ntmps5
    go_wp2_with (go_at_call 10; (with_reducible refine (CA.out _).mono ?_); rintro e w1 ⟨rfl, h1⟩)
    go_ret
    exact ⟨rfl, h1⟩
  have d0 : decide (n < 1) = false := by simp; omega
  by_cases c1 : 20 < n
  · have d1 : decide (20 < n) = true := by simp; omega
    go_enter Try.func5, Try.ntmps5
    go_wp2_with (go_at_call 10; (with_reducible refine (CA.out _).mono ?_); rintro e w1 ⟨rfl, h1⟩)
    go_ret
    exact ⟨rfl, h1⟩
  have d1 : decide (20 < n) = false := by simp; omega
  by_cases c2 : t < 0
  · have d2 : decide (t < 0) = true := by simp; omega
    go_enter Try.func5, Try.ntmps5
    go_wp2_with (go_at_call 10; (with_reducible refine (CA.out _).mono ?_); rintro e w1 ⟨rfl, h1⟩)
    go_ret
    exact ⟨rfl, h1⟩
  have d2 : decide (t < 0) = false := by simp; omega
  by_cases c3 : 40 < t
  · have d3 : decide (40 < t) = true := by simp; omega
    go_enter Try.func5, Try.ntmps5
    go_wp2_with (go_at_call 10; (with_reducible refine (CA.out _).mono ?_); rintro e w1 ⟨rfl, h1⟩)
    go_ret
    exact ⟨rfl, h1⟩
  have d3 : decide (40 < t) = false := by simp; omega
  by_cases c4 : a < 0
  · have d4 : decide (a < 0) = true := by simp; omega
    go_enter Try.func5, Try.ntmps5
    go_wp2_with (go_at_call 10; (with_reducible refine (CA.out _).mono ?_); rintro e w1 ⟨rfl, h1⟩)
    go_ret
    exact ⟨rfl, h1⟩
  have d4 : decide (a < 0) = false := by simp; omega
  by_cases c5 : n < a
  · have d5 : decide (n < a) = true := by simp; omega
    go_enter Try.func5, Try.ntmps5
    go_wp2_with (go_at_call 10; (with_reducible refine (CA.out _).mono ?_); rintro e w1 ⟨rfl, h1⟩)
    go_ret
    exact ⟨rfl, h1⟩
  have d5 : decide (n < a) = false := by simp; omega
  clear d0 d1 d2 d3 d4 d5
  obtain ⟨n, rfl⟩ := Int.eq_ofNat_of_zero_le (show 0 ≤ n by omega)
  obtain ⟨t, rfl⟩ := Int.eq_ofNat_of_zero_le (show 0 ≤ t by omega)
  obtain ⟨a, rfl⟩ := Int.eq_ofNat_of_zero_le (show 0 ≤ a by omega)
  exact linkWaitsGo n t a W (by omega) (by omega) (by omega) (by omega)
end Go.Proofs.Ytfemdfidfomchaa
