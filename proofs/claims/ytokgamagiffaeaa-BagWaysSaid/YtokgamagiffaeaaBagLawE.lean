/-
  BagWays, walked: a way through a bag ends where it is told to, and can be gone again.
-/
import Derived.Test.YtokgamagiffaeaaBagAll
import Derived.Test.YtokgamagiffaeaaBagLawA
namespace Go.Proofs.Ytokgamagiffaeaa
open Go.RowKit

theorem BX.touched {W w w1 : World} {P G : List Nat} {g m : Nat} {ps : List Pk} (h : BX W w P g m ps) (t : Touch G w w1) (hG : ∀ q ∈ G, q ∈ P ∧ W.heap.size ≤ q) : BX W w1 P g m ps := by
  obtain ⟨a, ⟨F, b, c⟩, d⟩ := h
  exact ⟨Touch.acc a t (fun q hq => (hG q hq).2), ⟨F, b.touch t (fun q hq z => (c q hq).2 (hG q z).1), c⟩, fun q hq => Nat.lt_of_lt_of_le (d q hq) t.size⟩
theorem zip_up {n k : Nat} {x : Pk × Nat} (h : (upPk n).zipIdx[k]? = some x) : x = (⟨0, 0, 0, (k : Nat)⟩, k) ∧ k < n := by
  rw [List.getElem?_zipIdx] at h
  cases hp : (upPk n)[k]? with
  | none => rw [hp] at h; cases h
  | some p =>
    have hk : k < n := by
      have := (List.getElem?_eq_some_iff.1 hp).1
      rwa [upPk_len] at this
    rw [upPk_at hk] at h
    simp at h
    exact ⟨h.symm, hk⟩

set_option maxRecDepth 20000 in
set_option maxHeartbeats 2000000 in
/-- the closure, at the packet that it counts next -/
theorem waysBody (k stop b8 b3 : Nat) (w : World) (h8 : Var w b8 (.int .i64 (k : Nat))) (h3 : Var w b3 (.int .i64 (stop : Nat))) (hk : k ≤ 60) (hne : b3 ≠ b8) :
    Calls Try.prog 16 #[.int .i64 (k : Nat), .agg (Pk.mk 0 0 0 (k : Nat)).cells, .pointer (some ⟨b8, 0, none⟩), .pointer (some ⟨b3, 0, none⟩)] w fun e w' =>
      e = .returned (.bool (decide ((k : Int) + 1 < (stop : Int)))) ∧ Touch [b8] w w' ∧ Var w' b8 (.int .i64 (k + 1 : Nat)) ∧ Var w' b3 (.int .i64 (stop : Nat)) := by
  have bl8 := h8.lt
  have bl3 := h3.lt
  have v8 := h8.old (.cells (Pk.mk 0 0 0 (k : Nat)).cells 38)
  have v3 := h3.old (.cells (Pk.mk 0 0 0 (k : Nat)).cells 38)
  have p3 : (w.alloc (.cells (Pk.mk 0 0 0 (k : Nat)).cells 38)).cell? ⟨w.heap.size, 3, none⟩ = some (.int .i64 (k : Nat)) := bg_cell (heap_alloc_new w _) rfl
  have T1 : Touch [b8] w (w.alloc (.cells (Pk.mk 0 0 0 (k : Nat)).cells 38)) := (Touch.refl _ _).alloc _
  obtain ⟨w1, hw1⟩ : ∃ w1, w.alloc (.cells (Pk.mk 0 0 0 (k : Nat)).cells 38) = w1 := ⟨_, rfl⟩
  rw [hw1] at v8 v3 p3 T1
  have c8 := v8.val
  have f8 := v8.free
  have c3 := v3.val
  have u8 := v8.set (.int .i64 (k + 1 : Nat))
  have u3 := v3.other (c := b8) hne 0 (.int .i64 (k + 1 : Nat))
  have HU8 := Lib.hid u8
  have HU3 := Lib.hid u3
  have HT := Lib.hid (T1.set (p := ⟨b8, 0, none⟩) (.inl (by simp)) (.int .i64 (k + 1 : Nat)))
  have x3 := u3.val
  have x8 := u8.val
  clear h8 h3 v8 v3 u8 u3 T1
  go_enter Try.func16, Try.ntmps16
  go_upto_region 1 with fail
  clear hw1
  go_wp2
  go_ret
  exact ⟨rfl, HT.out, HU8.out, HU3.out⟩
theorem waysTour {n stop g b b8 b3 : Nat} {W w : World} {P : List Nat} (h : BX W w P g 100 (upPk n)) (hs : 1 ≤ stop) (hs6 : stop ≤ 60) (h8 : b8 ∈ P ∧ W.heap.size ≤ b8) (h3 : b3 ∈ P ∧ W.heap.size ≤ b3) (hne : b3 ≠ b8)
    (hc : w.cell? ⟨b, 0, none⟩ = some (.pointer (some ⟨g, 0, none⟩))) (v8 : Var w b8 (.int .i64 0)) (v3 : Var w b3 (.int .i64 (stop : Nat))) :
    Calls Try.prog 21 #[.func (.func 16) #[] #[.pointer (some ⟨b8, 0, none⟩), .pointer (some ⟨b3, 0, none⟩)], .pointer (some ⟨b, 0, none⟩)] w fun e w' =>
      e = .returned (.tuple #[]) ∧ BX W w' P g 100 (upPk n) ∧ Var w' b8 (.int .i64 (min n stop : Nat)) ∧ Var w' b3 (.int .i64 (stop : Nat)) := by
  have h0 := h
  obtain ⟨_, ⟨F, hb, _⟩, _⟩ := h
  refine (allTour hb hc 16 #[] #[.pointer (some ⟨b8, 0, none⟩), .pointer (some ⟨b3, 0, none⟩)] (enters_of Try.func16 (by kernel_rfl) rfl)
    (fun k V Y => Y = [b8, b3] ∧ Var V b8 (.int .i64 (k : Nat)) ∧ Var V b3 (.int .i64 (stop : Nat)) ∧ k < stop)
    (fun V Y => Y = [b8, b3] ∧ Var V b8 (.int .i64 (stop : Nat)) ∧ Var V b3 (.int .i64 (stop : Nat)) ∧ stop ≤ n) [b8, b3]
    (by have := v8.lt; have := v3.lt; simp; omega) ⟨rfl, v8, v3, hs⟩
    (by
      rintro k V V1 Y G ⟨rfl, a, b, c⟩ tt hn
      exact ⟨rfl, a.touch tt (hn _ (by simp)), b.touch tt (hn _ (by simp)), c⟩)
    (by
      rintro V V1 Y G ⟨rfl, a, b, c⟩ tt hn
      exact ⟨rfl, a.touch tt (hn _ (by simp)), b.touch tt (hn _ (by simp)), c⟩)
    ?_).mono ?_
  · rintro k x V Y hx ⟨rfl, a, b, c⟩ hY
    obtain ⟨rfl, hk⟩ := zip_up hx
    refine (waysBody k stop b8 b3 V a b (by omega) hne).mono ?_
    rintro e V2 ⟨rfl, t, u8, u3⟩
    have hL : Left [] [b8, b3] V V2 [b8, b3] := ⟨⟨[b8], t, by simp⟩, fun q hq => ⟨by have := hY q hq; have := t.size; omega, .inl hq⟩⟩
    by_cases hlt : k + 1 < stop
    · exact ⟨_, hL, .inl ⟨by rw [decide_eq_true (by omega)], rfl, u8, u3, hlt⟩⟩
    · obtain rfl : stop = k + 1 := by omega
      exact ⟨_, hL, .inr ⟨by rw [decide_eq_false (by omega)], rfl, u8, u3, hk⟩⟩
  · rintro e w' ⟨rfl, Y, ⟨⟨G, t, hG⟩, _⟩, hh⟩
    have hX := h0.touched t (fun q hq => by
      have := (hG q hq).1
      simp at this
      rcases this with rfl | rfl
      · exact h8
      · exact h3)
    rw [upPk_len] at hh
    rcases hh with ⟨rfl, a, b, c⟩ | ⟨rfl, a, b, c⟩
    · exact ⟨rfl, hX, by rw [Nat.min_eq_left (by omega)]; exact a, b⟩
    · exact ⟨rfl, hX, by rw [Nat.min_eq_right c]; exact a, b⟩

set_option maxRecDepth 20000 in
set_option maxHeartbeats 8000000 in
theorem bagWaysGo (n stop : Nat) (W : World) (hn : n ≤ 50) (hs : 1 ≤ stop) (hs6 : stop ≤ 60) :
    Calls Try.prog 4 #[.int .i64 (n : Nat), .int .i64 (stop : Nat)] W fun e w' => e = .returned (.bool true) ∧ Below W.heap.size W w' := by
  have CA := Lib.hid aliveC
  have v3 := Var.new W (.int .i64 (stop : Nat)) 3
  have B0 : Below W.heap.size W (W.alloc (.cells #[.int .i64 (stop : Nat)] 3)) := (Below.refl _ _).alloc (Nat.le_refl _) _
  have l3 := v3.lt
  have CN : Hid (∀ w, Below W.heap.size W w → W.heap.size < w.heap.size → Calls Try.prog 9 #[.int .i64 100] w fun e w' => e = .returned (.pointer (some ⟨w.heap.size, 0, none⟩)) ∧ BX W w' [W.heap.size] w.heap.size 100 [] ∧ Below w.heap.size w w') := fun w h hl => new100 W w [W.heap.size] h (by simpa using hl)
  have CP : Hid (∀ w P g (i : Nat), i < n → BX W w P g 100 (upPk i) → Calls Try.prog 10 #[.pointer (some ⟨g, 0, none⟩), .agg (Pk.mk 0 0 0 (i : Nat)).cells] w fun e w' => e = .returned (.bool true) ∧ BX W w' P g 100 (upPk (i + 1)) ∧ Keeps P w w') := fun w P g i hi h =>
    (h.put ⟨0, 0, 0, (i : Nat)⟩ (by rw [upPk_len]; omega)).mono fun e w' ⟨h1, h2, h3⟩ => ⟨h1, by rw [← upPk_succ]; exact h2, h3⟩
  have CALL := Lib.hid (fun p w => bagAll_any p w)
  obtain ⟨mn, hmn⟩ : ∃ mn, min n stop = mn := ⟨_, rfl⟩
  have hminI : min (n : Int) (stop : Int) = (mn : Int) := by omega
  have hminJ : (if (stop : Int) < (n : Int) then (stop : Int) else (n : Int)) = (mn : Int) := by split <;> omega
  have hminK : (if stop < n then (stop : Int) else (n : Int)) = (mn : Int) := by split <;> omega
  have HMN := Lib.hid hmn
  have d0 : decide ((n : Int) < 0) = false := by simp
  have d1 : decide (50 < (n : Int)) = false := by simp; omega
  have d2 : decide ((stop : Int) < 1) = false := by simp; omega
  have d3 : decide (60 < (stop : Int)) = false := by simp; omega
  have HV3 := Lib.hid v3
  have HB0 := Lib.hid B0
  have c3 := v3.val
  clear v3 B0 hmn
  go_enter Try.func4, Try.ntmps4
  go_wp2_with (first
    | (go_at_call 8; (with_reducible refine (CA.out _).mono ?_); rintro e w1 ⟨rfl, h1⟩; have H1 := Lib.hid (acc HB0.out h1); have HV1 := Lib.hid (HV3.out.below h1); clear h1)
    | (go_at_call 9; (with_reducible refine (CN.out _ H1.out HV1.out.lt).mono ?_); rintro e w2 ⟨rfl, h2, b2⟩; have H2 := Lib.hid h2; have HV2 := Lib.hid (HV1.out.below b2); clear h2 b2))
  obtain ⟨g, hg⟩ : ∃ g, w1.heap.size = g := ⟨_, rfl⟩
  rw [hg] at H2 ⊢
  clear hg H1 HV1 c3 HV3 HB0
  go_loopg [6] (n + 1) (fun gh s6 wx => ∃ i : Nat, i + gh = n + 1 ∧ i ≤ n ∧ s6 = .int .i64 (i : Nat) ∧ Hid (BX W wx [W.heap.size] g 100 (upPk i)) ∧ Hid (Var wx W.heap.size (.int .i64 (stop : Nat))))
  case atStart => exact ⟨0, by omega, by omega, rfl, H2.out, HV2.out⟩
  case round =>
    clear H2 HV2
    obtain ⟨i, hig, hi, rfl, HX, HV⟩ := hrel
    by_cases hlt : i < n
    · have cp := Lib.hid (CP.out wr _ g i hlt HX.out)
      go_wp2_with (go_at_call 10; (with_reducible refine (cp.out).mono ?_); rintro e w3 ⟨rfl, h3, k3⟩; have H3 := Lib.hid h3; have HV3 := Lib.hid (k3.var HV.out (by simp)); clear h3 k3)
      go_roundg (gk - 1)
      case measure => omega
      case rel => exact ⟨i + 1, by omega, by omega, by go_num, H3, HV3⟩
    · obtain rfl : i = n := by omega
      clear CA CN CP hig hi hlt
      go_wp2_with fail
      go_loopg [7] 3 (fun gh s7 wx => ∃ r : Nat, r + gh = 3 ∧ r ≤ 2 ∧ s7 = .int .i64 (r : Nat) ∧ Hid (BX W wx [W.heap.size] g 100 (upPk i)) ∧ Hid (Var wx W.heap.size (.int .i64 (stop : Nat))))
      case atStart => exact ⟨0, by omega, by omega, rfl, HX.out, HV.out⟩
      case round =>
        clear HX HV
        obtain ⟨r, hrg, hr, rfl, HX, HV⟩ := hrel
        by_cases hlt : r < 2
        · have hx1 := HX.out.more (w1 := wr.alloc (.cells #[.int .i64 0] 3)) (q := wr.heap.size) ((Below.refl _ _).alloc (Nat.le_refl _) _) (Nat.le_refl _) (by simp)
          have hx2 := hx1.below (w1 := (wr.alloc (.cells #[.int .i64 0] 3)).alloc (.cells #[.pointer (some ⟨g, 0, none⟩)] 23)) ((Below.refl _ _).alloc (Nat.le_refl _) _)
          have hv8 := (Var.new wr (.int .i64 0) 3).old (.cells #[.pointer (some ⟨g, 0, none⟩)] 23)
          have hv3 := (HV.out.old (.cells #[.int .i64 0] 3)).old (.cells #[.pointer (some ⟨g, 0, none⟩)] 23)
          have hl3 := HV.out.lt
          have ct := Lib.hid (waysTour (b := wr.heap.size + 1) hx2 hs hs6 ⟨by simp, HX.out.1.size⟩ ⟨by simp, Nat.le_refl _⟩ (by omega) (by go_simp) hv8 hv3)
          clear hx1 hx2 hv8 hv3
          go_wp2_with (first
            | (go_at_call 15; (with_reducible refine (CALL.out _ _).mono ?_); rintro e w5 ⟨rfl, rfl⟩)
            | (go_at_call 21; (with_reducible refine (ct.out).mono ?_); rintro e w6 ⟨rfl, h6, u8, u3⟩; rw [HMN.out] at u8; have x8 := u8.val; have x3 := u3.val; have HX6 := Lib.hid h6; have HV6 := Lib.hid u3; clear h6 u8 u3))
          go_roundg (gk - 1)
          case measure => omega
          case rel => exact ⟨r + 1, by omega, by omega, by go_num, HX6.out.less (by simp), HV6⟩
        · obtain rfl : r = 2 := by omega
          have HE := Lib.hid HX.out.1
          go_wp2_with fail
          go_ret
          exact ⟨rfl, HE.out⟩
theorem bagWays_any (n stop : Int) (W : World) (n0 : -9223372036854775808 ≤ n) (n1 : n ≤ 9223372036854775807) (s0 : -9223372036854775808 ≤ stop) (s1 : stop ≤ 9223372036854775807) :
    Calls Try.prog 4 #[.int .i64 n, .int .i64 stop] W fun e w' => e = .returned (.bool true) ∧ Below W.heap.size W w' := by
  by_cases bad : n < 0 ∨ 50 < n ∨ stop < 1 ∨ 60 < stop
  · have CA := Lib.hid aliveC
    have B0 : Below W.heap.size W (W.alloc (.cells #[.int .i64 stop] 3)) := (Below.refl _ _).alloc (Nat.le_refl _) _
    have HB0 := Lib.hid B0
    clear B0
    by_cases c0 : n < 0
    · have d0 : decide (n < 0) = true := by simp; omega
      go_enter Try.func4, Try.ntmps4
      go_wp2_with (go_at_call 8; (with_reducible refine (CA.out _).mono ?_); rintro e w1 ⟨rfl, h1⟩)
      go_ret
      exact ⟨rfl, acc HB0.out h1⟩
    have d0 : decide (n < 0) = false := by simp; omega
    by_cases c1 : 50 < n
    · have d1 : decide (50 < n) = true := by simp; omega
      go_enter Try.func4, Try.ntmps4
      go_wp2_with (go_at_call 8; (with_reducible refine (CA.out _).mono ?_); rintro e w1 ⟨rfl, h1⟩)
      go_ret
      exact ⟨rfl, acc HB0.out h1⟩
    have d1 : decide (50 < n) = false := by simp; omega
    by_cases c2 : stop < 1
    · have d2 : decide (stop < 1) = true := by simp; omega
      go_enter Try.func4, Try.ntmps4
      go_wp2_with (go_at_call 8; (with_reducible refine (CA.out _).mono ?_); rintro e w1 ⟨rfl, h1⟩)
      go_ret
      exact ⟨rfl, acc HB0.out h1⟩
    have d2 : decide (stop < 1) = false := by simp; omega
    have d3 : decide (60 < stop) = true := by simp; omega
    go_enter Try.func4, Try.ntmps4
    go_wp2_with (go_at_call 8; (with_reducible refine (CA.out _).mono ?_); rintro e w1 ⟨rfl, h1⟩)
    go_ret
    exact ⟨rfl, acc HB0.out h1⟩
  · obtain ⟨a, rfl⟩ := Int.eq_ofNat_of_zero_le (show 0 ≤ n by omega)
    obtain ⟨b, rfl⟩ := Int.eq_ofNat_of_zero_le (show 0 ≤ stop by omega)
    exact bagWaysGo a b W (by omega) (by omega) (by omega)
end Go.Proofs.Ytokgamagiffaeaa
