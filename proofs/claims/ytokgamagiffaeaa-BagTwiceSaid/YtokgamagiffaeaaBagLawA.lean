/-
  BagTwice, walked: one that comes twice is there at its place, and once more at the end.
-/
import Derived.Test.YtokgamagiffaeaaBagBegin
import Derived.Deep.LoopGhost
namespace Go.Proofs.Ytokgamagiffaeaa
open Go.RowKit

/-- packets numbered from 0 on -/
def upPk (n : Nat) : List Pk := (List.range n).map fun i => ⟨0, 0, 0, (i : Nat)⟩
theorem upPk_len (n : Nat) : (upPk n).length = n := by simp [upPk]
theorem upPk_succ (n : Nat) : upPk n ++ [⟨0, 0, 0, (n : Nat)⟩] = upPk (n + 1) := by simp [upPk, List.range_succ]
theorem upPk_at {n k : Nat} (h : k < n) : (upPk n)[k]? = some ⟨0, 0, 0, (k : Nat)⟩ := by
  rw [upPk, List.getElem?_map, List.getElem?_range h]; rfl
theorem aliveC : ∀ w, Calls Try.prog 8 #[] w fun e w' => e = .returned (.bool true) ∧ Below w.heap.size w w' := bagAlive_any
theorem new100 (W w : World) (P : List Nat) (a : Below W.heap.size W w) (d : ∀ q ∈ P, q < w.heap.size) : Calls Try.prog 9 #[.int .i64 100] w fun e w' => e = .returned (.pointer (some ⟨w.heap.size, 0, none⟩)) ∧ BX W w' P w.heap.size 100 [] ∧ Below w.heap.size w w' := BX.new a d 100 (by omega)

set_option maxRecDepth 20000 in
set_option maxHeartbeats 8000000 in
theorem bagTwiceGo (n k : Nat) (W : World) (hn : 1 ≤ n) (hn4 : n ≤ 40) (hk : k < n) :
    Calls Try.prog 5 #[.int .i64 (n : Nat), .int .i64 (k : Nat)] W fun e w' => e = .returned (.bool true) ∧ Below W.heap.size W w' := by
  have CA := Lib.hid aliveC
  have CN := Lib.hid (fun w h => new100 W w [] h (by simp))
  have CP : Hid (∀ w g (i : Nat), i < n → BX W w [] g 100 (upPk i) → Calls Try.prog 10 #[.pointer (some ⟨g, 0, none⟩), .agg (Pk.mk 0 0 0 (i : Nat)).cells] w fun e w' => e = .returned (.bool true) ∧ BX W w' [] g 100 (upPk (i + 1))) := fun w g i hi h =>
    (h.put ⟨0, 0, 0, (i : Nat)⟩ (by rw [upPk_len]; omega)).mono fun e w' ⟨h1, h2, _⟩ => ⟨h1, by rw [← upPk_succ]; exact h2⟩
  have CT : Hid (∀ w g, BX W w [] g 100 (upPk n) → Calls Try.prog 12 #[.pointer (some ⟨g, 0, none⟩), .int .i64 (k : Nat)] w fun e w' => e = .returned (.bool true) ∧ BX W w' [] g 100 (upPk n ++ [Pk.mk 0 0 0 (k : Nat)])) := fun w g h =>
    (h.twice k (upPk_at hk) (by rw [upPk_len]; omega)).mono fun e w' ⟨h1, h2, _⟩ => ⟨h1, h2⟩
  have CL : Hid (∀ w g, BX W w [] g 100 (upPk n ++ [Pk.mk 0 0 0 (k : Nat)]) → Calls Try.prog 11 #[.pointer (some ⟨g, 0, none⟩)] w fun e w' => e = .returned (.int .i64 ((n : Int) + 1)) ∧ w' = w) := fun w g h =>
    h.len (n := n + 1) (by rw [List.length_append, upPk_len]; rfl)
  have CK : Hid (∀ w g, BX W w [] g 100 (upPk n ++ [Pk.mk 0 0 0 (k : Nat)]) → Calls Try.prog 13 #[.pointer (some ⟨g, 0, none⟩), .int .i64 (k : Nat)] w fun e w' => e = .returned (.tuple #[.agg (Pk.mk 0 0 0 (k : Nat)).cells, .bool true]) ∧ BX W w' [] g 100 (without (upPk n ++ [Pk.mk 0 0 0 (k : Nat)]) k)) := fun w g h =>
    (h.take k (p := ⟨0, 0, 0, (k : Nat)⟩) (by rw [List.getElem?_append_left (by rw [upPk_len]; exact hk), upPk_at hk])).mono fun e w' ⟨h1, h2, _⟩ => ⟨h1, h2⟩
  have CQ : Hid (∀ w g P, BX W w P g 100 (without (upPk n ++ [Pk.mk 0 0 0 (k : Nat)]) k) → Calls Try.prog 13 #[.pointer (some ⟨g, 0, none⟩), .int .i64 ((n : Int) - 1)] w fun e w' => e = .returned (.tuple #[.agg (Pk.mk 0 0 0 (k : Nat)).cells, .bool true]) ∧ ∃ l, l.length = n - 1 ∧ BX W w' P g 100 l ∧ Keeps P w w') := fun w g P h => by
    have e1 : (n : Int) - 1 = ((n - 1 : Nat) : Int) := by omega
    rw [e1]
    have hl : (without (upPk n ++ [Pk.mk 0 0 0 (k : Nat)]) k).length = n := by rw [without_length (by rw [List.length_append, upPk_len]; simp; omega), List.length_append, upPk_len]; simp
    refine (h.take (n - 1) (p := ⟨0, 0, 0, (k : Nat)⟩) ?_).mono fun e w' ⟨h1, h2⟩ => ⟨h1, _, by rw [without_length (by rw [hl]; omega), hl], h2⟩
    have e2 : ((upPk n ++ [Pk.mk 0 0 0 (k : Nat)]).take k).length = k := by rw [List.length_take, List.length_append, upPk_len]; simp; omega
    rw [without, List.getElem?_append_right (by rw [e2]; omega), e2, List.getElem?_drop, show k + 1 + (n - 1 - k) = n by omega, List.getElem?_append_right (by rw [upPk_len]; exact Nat.le_refl _), upPk_len, Nat.sub_self]
    rfl
  have CM : Hid (∀ w g P l, l.length = n - 1 → BX W w P g 100 l → Calls Try.prog 11 #[.pointer (some ⟨g, 0, none⟩)] w fun e w' => e = .returned (.int .i64 ((n : Int) - 1)) ∧ w' = w) := fun w g P l hl h => by
    have e1 : (n : Int) - 1 = ((n - 1 : Nat) : Int) := by omega
    rw [e1]
    exact h.len hl
  have hsz : (Try.prog.info? 38).map (·.size) = some (Pk.mk 0 0 0 (k : Nat)).cells.size := bg_infoP
  have hone := (Pk.mk 0 0 0 (k : Nat)).one
  have hold : Pk.zero.cells.size = (Pk.mk 0 0 0 (k : Nat)).cells.size := rfl
  have hz1 : IntKind.i64.wrap ((n : Int) - 1) = (n : Int) - 1 := by rw [IntKind.wrap_i64]; omega
  have hz2 : IntKind.i64.wrap ((n : Int) + 1) = (n : Int) + 1 := by rw [IntKind.wrap_i64]; omega
  have d0 : decide ((n : Int) < 1) = false := by simp; omega
  have d1 : decide (40 < (n : Int)) = false := by simp; omega
  have d2 : decide ((k : Int) < 0) = false := by simp
  have d3 : decide (n ≤ k) = false := by simp; omega
  go_enter Try.func5, Try.ntmps5
  go_wp2_with (first
    | (go_at_call 8; (with_reducible refine (CA.out _).mono ?_); rintro e w1 ⟨rfl, h1⟩; have H1 := Lib.hid h1; clear h1)
    | (go_at_call 9; (with_reducible refine (CN.out _ H1.out).mono ?_); rintro e w2 ⟨rfl, h2, _⟩; have H2 := Lib.hid h2; clear h2))
  obtain ⟨g, hg⟩ : ∃ g, w1.heap.size = g := ⟨_, rfl⟩
  rw [hg] at H2 ⊢
  clear hg H1
  go_loopg [6] (n + 1) (fun gh s6 wx => ∃ i : Nat, i + gh = n + 1 ∧ i ≤ n ∧ s6 = .int .i64 (i : Nat) ∧ Hid (BX W wx [] g 100 (upPk i)))
  case atStart => exact ⟨0, by omega, by omega, rfl, H2.out⟩
  case round =>
    obtain ⟨i, hig, hi, rfl, HX⟩ := hrel
    by_cases hlt : i < n
    · have cp := Lib.hid (CP.out wr g i hlt HX.out)
      go_wp2_with (go_at_call 10; (with_reducible refine (cp.out).mono ?_); rintro e w3 ⟨rfl, h3⟩; have H3 := Lib.hid h3; clear h3)
      go_roundg (gk - 1)
      case measure => omega
      case rel => exact ⟨i + 1, by omega, by omega, by go_num, H3⟩
    · obtain rfl : i = n := by omega
      have ct := Lib.hid (CT.out wr g HX.out)
      clear CA CN CP CT HX H2
      go_wp2_with (first
        | (go_at_call 12; (with_reducible refine (ct.out).mono ?_); rintro e w4 ⟨rfl, h4⟩; have H4 := Lib.hid h4; clear h4)
        | (go_at_call 11; (with_reducible refine (CL.out _ _ H4.out).mono ?_); rintro e w5 ⟨rfl, rfl⟩)
        | (go_at_call 13; (with_reducible refine (CK.out _ _ H4.out).mono ?_); rintro e w6 ⟨rfl, h6⟩; have H6 := Lib.hid (h6.more (bg_new w6 Pk.zero.cells (Pk.mk 0 0 0 (k : Nat)).cells 38) (Nat.le_refl _) (bg_lt (bg_row (Pk.mk 0 0 0 (k : Nat)).cells (heap_alloc_new w6 (.cells Pk.zero.cells 38))))); have r6 : ((w6.alloc (.cells Pk.zero.cells 38)).setRow w6.heap.size (Pk.mk 0 0 0 (k : Nat)).cells).heap[w6.heap.size]? = some (.cells (Pk.mk 0 0 0 (k : Nat)).cells 38) := bg_row _ (heap_alloc_new w6 _); clear h6)
        | (with_reducible (show wpList _ _ _ (⟨none, Op.store _ (Operand.tmp 7) _, _, _, _, _⟩ :: _) _ _); go_must (refine wpList_store_row rfl 38 (.tmp 7) (.tmp 58) rfl w6.heap.size (Pk.mk 0 0 0 (k : Nat)).cells rfl rfl 38 Pk.zero.cells (heap_alloc_new w6 _) hsz hold hone ?_))
        | (go_at_call 13; (with_reducible refine (CQ.out _ _ _ H6.out).mono ?_); rintro e w7 ⟨rfl, l, hl, h7, k7⟩; have HL := Lib.hid hl; have r7 := k7.heap (by simp) r6; have H7 := Lib.hid (h7.below (bg_new w7 Pk.zero.cells (Pk.mk 0 0 0 (k : Nat)).cells 38)); have x7 : ((w7.alloc (.cells Pk.zero.cells 38)).setRow w7.heap.size (Pk.mk 0 0 0 (k : Nat)).cells).cell? ⟨w6.heap.size, 3, none⟩ = some (.int .i64 (k : Nat)) := bg_cell (((bg_new w7 _ _ _).block _ (bg_lt r7)).trans r7) rfl; have x9 : ((w7.alloc (.cells Pk.zero.cells 38)).setRow w7.heap.size (Pk.mk 0 0 0 (k : Nat)).cells).cell? ⟨w7.heap.size, 3, none⟩ = some (.int .i64 (k : Nat)) := bg_cell (bg_row _ (heap_alloc_new w7 _)) rfl; clear h7 k7 r7 r6 hl)
        | (with_reducible (show wpList _ _ _ (⟨none, Op.store _ (Operand.tmp 9) _, _, _, _, _⟩ :: _) _ _); go_must (refine wpList_store_row rfl 38 (.tmp 9) (.tmp 65) rfl w7.heap.size (Pk.mk 0 0 0 (k : Nat)).cells rfl rfl 38 Pk.zero.cells (heap_alloc_new w7 _) hsz hold hone ?_))
        | (go_at_call 11; (with_reducible refine (CM.out _ _ _ _ HL.out H7.out).mono ?_); rintro e w8 ⟨rfl, hw8⟩))
      go_ret
      subst hw8
      exact ⟨rfl, H7.out.1⟩
theorem bagTwice_any (n k : Int) (W : World) (n0 : -9223372036854775808 ≤ n) (n1 : n ≤ 9223372036854775807) (k0 : -9223372036854775808 ≤ k) (k1 : k ≤ 9223372036854775807) :
    Calls Try.prog 5 #[.int .i64 n, .int .i64 k] W fun e w' => e = .returned (.bool true) ∧ Below W.heap.size W w' := by
  by_cases bad : n < 1 ∨ 40 < n ∨ k < 0 ∨ n ≤ k
  · have CA := Lib.hid aliveC
    by_cases c0 : n < 1
    · have d0 : decide (n < 1) = true := by simp; omega
      go_enter Try.func5, Try.ntmps5
      go_wp2_with (go_at_call 8; (with_reducible refine (CA.out _).mono ?_); rintro e w1 ⟨rfl, h1⟩)
      go_ret
      exact ⟨rfl, h1⟩
    have d0 : decide (n < 1) = false := by simp; omega
    by_cases c1 : 40 < n
    · have d1 : decide (40 < n) = true := by simp; omega
      go_enter Try.func5, Try.ntmps5
      go_wp2_with (go_at_call 8; (with_reducible refine (CA.out _).mono ?_); rintro e w1 ⟨rfl, h1⟩)
      go_ret
      exact ⟨rfl, h1⟩
    have d1 : decide (40 < n) = false := by simp; omega
    by_cases c2 : k < 0
    · have d2 : decide (k < 0) = true := by simp; omega
      go_enter Try.func5, Try.ntmps5
      go_wp2_with (go_at_call 8; (with_reducible refine (CA.out _).mono ?_); rintro e w1 ⟨rfl, h1⟩)
      go_ret
      exact ⟨rfl, h1⟩
    have d2 : decide (k < 0) = false := by simp; omega
    have d3 : decide (n ≤ k) = true := by simp; omega
    go_enter Try.func5, Try.ntmps5
    go_wp2_with (go_at_call 8; (with_reducible refine (CA.out _).mono ?_); rintro e w1 ⟨rfl, h1⟩)
    go_ret
    exact ⟨rfl, h1⟩
  · obtain ⟨a, rfl⟩ := Int.eq_ofNat_of_zero_le (show 0 ≤ n by omega)
    obtain ⟨b, rfl⟩ := Int.eq_ofNat_of_zero_le (show 0 ≤ k by omega)
    exact bagTwiceGo a b W (by omega) (by omega) (by omega)
end Go.Proofs.Ytokgamagiffaeaa
