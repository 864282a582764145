/-
  The library's order2, median, medianAdjacent and choosePivot at numbers: which place is picked is not said, only that it lies within.
-/
import Derived.Test.YtfpoapmbpbkibaaUSortA
import Derived.Test.YtfpoapmbpbkibaaWayKit
namespace Go.Proofs.Ytfpoapmbpbkibaa
open Go.RowKit Go.Sort
/-- a row beside a box that holds a number -/
structure MD (B g c s : Nat) (d : Array Int) (w : World) : Prop where
  row : UR B w g c d w
  box : ∃ k, Var w s (.int .i64 k)
  ne : s ≠ g
theorem MD.go {B g c s : Nat} {d : Array Int} {w w2 : World} (h : MD B g c s d w) (t : Touch [s] w w2) (hb : ∃ k, Var w2 s (.int .i64 k)) : MD B g c s d w2 :=
  ⟨.start (t.row h.row.row (fun q hq hx => by have e : some g = some q := hq; rw [List.mem_singleton.1 hx] at e; exact h.ne (Option.some.inj e).symm)), hb, h.ne⟩
def TwoOf (B g c s : Nat) (d : Array Int) (W : World) (a b : Nat) (e : Ending) (w' : World) : Prop :=
  ∃ x y : Nat, e = .returned (.tuple #[.int .i64 x, .int .i64 y]) ∧ ((x = a ∧ y = b) ∨ (x = b ∧ y = a)) ∧ MD B g c s d w' ∧ Touch [s] W w'
set_option maxHeartbeats 2000000 in
set_option maxRecDepth 100000 in
theorem uOrder2_any {B g c a b n s : Nat} {d : Array Int} {W : World} (h : MD B g c s d W) (hn : d.size = n) (ha : a < n) (hb : b < n) :
    Calls Try.prog 98 #[.slice (some ⟨g, 0, none⟩) n c, .int .i64 a, .int .i64 b, .pointer (some ⟨s, 0, none⟩)] W (TwoOf B g c s d W a b) := by
  have cx := h.row.cell (i := a) (by omega)
  have cy := h.row.cell (i := b) (by omega)
  obtain ⟨x, hx⟩ := bang_eq d a
  obtain ⟨y, hy⟩ := bang_eq d b
  rw [hx] at cx
  rw [hy] at cy
  obtain ⟨r, hr⟩ : ∃ r, ltInt y x = r := ⟨_, rfl⟩
  have HR := Lib.hid hr
  obtain ⟨k, hk⟩ := h.box
  have ck := hk.val
  have fk := hk.free
  have H := Lib.hid h
  have HK := Lib.hid hk
  clear h hx hy hr hk hn
  go_enter Try.func98, Try.ntmps98
  go_wp2
  go_quiet (first | (go_at_call 76; refine Calls.quiet_of_same (uLess_eq HR.out _)))
  have tq : Touch [s] W (W.drewN nq) := (Touch.refl _ _).drewN nq
  cases r with
  | true =>
    go_wp2
    go_ret2
    have t2 := tq.set (p := ⟨s, 0, none⟩) (.inl (by simp)) (.int .i64 (wrap64 (k + 1)))
    exact ⟨b, a, rfl, .inr ⟨rfl, rfl⟩, H.out.go t2 ⟨_, (HK.out.touch (Touch.refl (F := []) _ |>.drewN nq) (by simp)).set _⟩, t2⟩
  | false =>
    go_wp2
    go_ret2
    exact ⟨a, b, rfl, .inl ⟨rfl, rfl⟩, H.out.go tq ⟨_, HK.out.touch (Touch.refl (F := []) _ |>.drewN nq) (by simp)⟩, tq⟩
/-- one of three -/
def OneOf (B g c s : Nat) (d : Array Int) (W : World) (p : Nat → Prop) (e : Ending) (w' : World) : Prop :=
  ∃ x : Nat, e = .returned (.int .i64 x) ∧ p x ∧ MD B g c s d w' ∧ Touch [s] W w'
set_option maxHeartbeats 2000000 in
set_option maxRecDepth 100000 in
theorem uMedian_any {B g c a b m n s : Nat} {d : Array Int} {W : World} (h : MD B g c s d W) (hn : d.size = n) (ha : a < n) (hb : b < n) (hm : m < n) :
    Calls Try.prog 97 #[.slice (some ⟨g, 0, none⟩) n c, .int .i64 a, .int .i64 b, .int .i64 m, .pointer (some ⟨s, 0, none⟩)] W (OneOf B g c s d W fun x => x = a ∨ x = b ∨ x = m) := by
  have H := Lib.hid h
  have CO : Hid (∀ w x y, MD B g c s d w → x < n → y < n → Calls Try.prog 98 #[.slice (some ⟨g, 0, none⟩) n c, .int .i64 (x : Nat), .int .i64 (y : Nat), .pointer (some ⟨s, 0, none⟩)] w (TwoOf B g c s d w x y)) := fun w x y hw hx hy => uOrder2_any hw hn hx hy
  clear h hn
  go_enter Try.func97, Try.ntmps97
  go_wp2_with fail
  go_at_call 98
  refine (CO.out _ a b H.out ha hb).mono ?_
  rintro e w1 ⟨x1, y1, rfl, h1, hm1, ht1⟩
  have H1 := Lib.hid hm1
  have T1 := Lib.hid ht1
  have l1 : x1 < n := by omega
  have l2 : y1 < n := by omega
  clear hm1 ht1
  go_wp2_with fail
  go_at_call 98
  refine (CO.out _ y1 m H1.out l2 hm).mono ?_
  rintro e w2 ⟨x2, y2, rfl, h2, hm2, ht2⟩
  have H2 := Lib.hid hm2
  have T2 := Lib.hid (T1.out.trans ht2 (fun _ hx => .inl hx))
  have l3 : x2 < n := by omega
  clear hm2 ht2
  go_wp2_with fail
  go_at_call 98
  refine (CO.out _ x1 x2 H2.out l1 l3).mono ?_
  rintro e w3 ⟨x3, y3, rfl, h3, hm3, ht3⟩
  have H3 := Lib.hid hm3
  have T3 := Lib.hid (T2.out.trans ht3 (fun _ hx => .inl hx))
  clear hm3 ht3
  go_wp2_with fail
  go_ret
  exact ⟨y3, rfl, by omega, H3.out, T3.out⟩
set_option maxHeartbeats 2000000 in
set_option maxRecDepth 100000 in
theorem uMedAdj_any {B g c a n s : Nat} {d : Array Int} {W : World} (h : MD B g c s d W) (hn : d.size = n) (hlen : n ≤ 1000000) (h1 : 1 ≤ a) (ha : a + 1 < n) :
    Calls Try.prog 96 #[.slice (some ⟨g, 0, none⟩) n c, .int .i64 a, .pointer (some ⟨s, 0, none⟩)] W (OneOf B g c s d W fun x => x = a - 1 ∨ x = a ∨ x = a + 1) := by
  have H := Lib.hid h
  have CM : Hid (∀ w, MD B g c s d w → Calls Try.prog 97 #[.slice (some ⟨g, 0, none⟩) n c, .int .i64 ((a : Int) - 1), .int .i64 a, .int .i64 ((a : Int) + 1), .pointer (some ⟨s, 0, none⟩)] w (OneOf B g c s d w fun x => x = a - 1 ∨ x = a ∨ x = a + 1)) := fun w hw => by
    have h := uMedian_any (a := a - 1) (b := a) (m := a + 1) hw hn (by omega) (by omega) (by omega)
    rw [show ((a - 1 : Nat) : Int) = (a : Int) - 1 by omega] at h
    exact h
  clear h hn
  go_enter Try.func96, Try.ntmps96
  go_wp2_with (go_at_call 97; (with_reducible refine (CM.out _ H.out).mono ?_); rintro e w1 ⟨x1, rfl, h1, hm1, ht1⟩; have H1 := Lib.hid hm1; have T1 := Lib.hid ht1; have P1 := Lib.hid h1; clear hm1 ht1 h1)
  go_ret
  exact ⟨x1, rfl, P1.out, H1.out, T1.out⟩
def PickPost (B g c : Nat) (d : Array Int) (W : World) (a b : Nat) (e : Ending) (w' : World) : Prop :=
  ∃ (p : Nat) (t : Int), e = .returned (.tuple #[.int .i64 p, .int .i64 t]) ∧ a ≤ p ∧ p < b ∧ (t = 0 ∨ t = 1 ∨ t = 2) ∧ UR B W g c d w'
set_option maxHeartbeats 4000000 in
set_option maxRecDepth 100000 in
theorem uPick_any {B g c a b n : Nat} {d : Array Int} {W : World} (h : UR B W g c d W) (hn : d.size = n) (hlen : n ≤ 1000000) (hab : a + 12 < b) (hb : b ≤ n) :
    Calls Try.prog 84 #[.slice (some ⟨g, 0, none⟩) n c, .int .i64 a, .int .i64 b] W (PickPost B g c d W a b) := by
  have H := Lib.hid h
  obtain ⟨s, hs⟩ : ∃ s, W.heap.size = s := ⟨_, rfl⟩
  have hgs : g < s := by rw [← hs]; exact h.old
  have CM : Hid (∀ w x y z, MD B g c s d w → x < n → y < n → z < n → Calls Try.prog 97 #[.slice (some ⟨g, 0, none⟩) n c, .int .i64 (x : Nat), .int .i64 (y : Nat), .int .i64 (z : Nat), .pointer (some ⟨s, 0, none⟩)] w (OneOf B g c s d w fun p => p = x ∨ p = y ∨ p = z)) := fun w x y z hw hx hy hz => uMedian_any hw hn hx hy hz
  have CA : Hid (∀ w x, MD B g c s d w → 1 ≤ x → x + 1 < n → Calls Try.prog 96 #[.slice (some ⟨g, 0, none⟩) n c, .int .i64 (x : Nat), .pointer (some ⟨s, 0, none⟩)] w (OneOf B g c s d w fun p => p = x - 1 ∨ p = x ∨ p = x + 1)) := fun w x hw h1 h2 => uMedAdj_any hw hn hlen h1 h2
  obtain ⟨l, hl⟩ : ∃ l, b - a = l := ⟨_, rfl⟩
  have zl : IntKind.i64.wrap ((b : Int) - (a : Int)) = (l : Int) := by rw [IntKind.wrap_i64]; omega
  have hal : a + l = b := by omega
  clear h hn hl
  go_enter Try.func84, Try.ntmps84
  go_upto_region 6 with fail
  obtain ⟨i, hi0⟩ : ∃ i : Nat, (a : Int) + (l : Int) / 4 = i := ⟨a + l / 4, by omega⟩
  obtain ⟨j, hj0⟩ : ∃ j : Nat, (a : Int) + (l : Int) / 4 * 2 = j := ⟨a + l / 4 * 2, by omega⟩
  obtain ⟨k, hk0⟩ : ∃ k : Nat, (a : Int) + (l : Int) / 4 * 3 = k := ⟨a + l / 4 * 3, by omega⟩
  rw [hi0, hj0, hk0]
  have i1 : a + 1 ≤ i := by omega
  have j1 : i + 1 ≤ j := by omega
  have k1 : j + 1 ≤ k := by omega
  have k2 : k + 1 < b := by omega
  have l8 : (l : Int) ≥ 8 := by omega
  clear hi0 hj0 hk0
  obtain ⟨W0, hW0⟩ : ∃ W0, W0 = W.alloc (.cells #[.int .i64 0] 3) := ⟨_, rfl⟩
  have H0 : Hid (MD B g c s d W0) := by
    have t0 : Touch [] W W0 := by rw [hW0]; exact (Touch.refl _ _).alloc _
    exact ⟨.start (t0.row H.out.row (by simp)), ⟨0, by rw [hW0, ← hs]; exact Var.new _ _ _⟩, by omega⟩
  have T0 : Hid (UR B W g c d W0) := by rw [hW0]; exact H.out.past (F := []) ((Touch.refl _ _).alloc _) (by simp)
  have S0 : Hid (W.heap.size = s) := hs
  rw [← hW0]
  clear hW0 hs
  by_cases h50 : 50 ≤ l
  · have l50 : (l : Int) ≥ 50 := by omega
    go_wp2_with fail
    go_at_call 96
    refine (CA.out _ i H0.out (by omega) (by omega)).mono ?_
    rintro e w1 ⟨x1, rfl, h1, hm1, ht1⟩
    have q1 : a ≤ x1 ∧ x1 < b := by omega
    have H1 := Lib.hid hm1
    have T1 : Hid (UR B W g c d w1) := T0.out.past ht1 (by simp; exact ⟨fun e => by omega, by rw [S0.out]; exact Nat.le_refl _⟩)
    clear h1 hm1 ht1
    go_wp2_with fail
    go_at_call 96
    refine (CA.out _ j H1.out (by omega) (by omega)).mono ?_
    rintro e w2 ⟨x2, rfl, h2, hm2, ht2⟩
    have q2 : a ≤ x2 ∧ x2 < b := by omega
    have H2 := Lib.hid hm2
    have T2 : Hid (UR B W g c d w2) := T1.out.past ht2 (by simp; exact ⟨fun e => by omega, by rw [S0.out]; exact Nat.le_refl _⟩)
    clear h2 hm2 ht2
    go_wp2_with fail
    go_at_call 96
    refine (CA.out _ k H2.out (by omega) (by omega)).mono ?_
    rintro e w3 ⟨x3, rfl, h3, hm3, ht3⟩
    have q3 : a ≤ x3 ∧ x3 < b := by omega
    have H3 := Lib.hid hm3
    have T3 : Hid (UR B W g c d w3) := T2.out.past ht3 (by simp; exact ⟨fun e => by omega, by rw [S0.out]; exact Nat.le_refl _⟩)
    clear h3 hm3 ht3
    go_wp2_with fail
    go_at_call 97
    refine (CM.out _ x1 x2 x3 H3.out (by omega) (by omega) (by omega)).mono ?_
    rintro e w4 ⟨x4, rfl, h4, hm4, ht4⟩
    have q4 : a ≤ x4 ∧ x4 < b := by omega
    have H4 := Lib.hid hm4
    have T4 : Hid (UR B W g c d w4) := T3.out.past ht4 (by simp; exact ⟨fun e => by omega, by rw [S0.out]; exact Nat.le_refl _⟩)
    clear h4 hm4 ht4
    obtain ⟨v, hv⟩ := H4.out.box
    have cv := hv.val
    clear hv
    by_cases v0 : v = 0
    · subst v0
      go_wp2_with fail
      go_ret2
      exact ⟨x4, 1, rfl, q4.1, q4.2, by omega, T4.out⟩
    · have v1 : (v == 0) = false := by simpa using v0
      by_cases v2 : v = 12
      · subst v2
        go_wp2_with fail
        go_ret2
        exact ⟨x4, 2, rfl, q4.1, q4.2, by omega, T4.out⟩
      · have v3 : (v == 12) = false := by simpa using v2
        go_wp2_with fail
        go_ret2
        exact ⟨x4, 0, rfl, q4.1, q4.2, by omega, T4.out⟩
  · have l50 : ¬ (l : Int) ≥ 50 := by omega
    go_wp2_with fail
    go_at_call 97
    refine (CM.out _ i j k H0.out (by omega) (by omega) (by omega)).mono ?_
    rintro e w1 ⟨x1, rfl, h1, hm1, ht1⟩
    have q1 : a ≤ x1 ∧ x1 < b := by omega
    have H1 := Lib.hid hm1
    have T1 : Hid (UR B W g c d w1) := T0.out.past ht1 (by simp; exact ⟨fun e => by omega, by rw [S0.out]; exact Nat.le_refl _⟩)
    clear h1 hm1 ht1
    obtain ⟨v, hv⟩ := H1.out.box
    have cv := hv.val
    clear hv
    by_cases v0 : v = 0
    · subst v0
      go_wp2_with fail
      go_ret2
      exact ⟨x1, 1, rfl, q1.1, q1.2, by omega, T1.out⟩
    · have v1 : (v == 0) = false := by simpa using v0
      by_cases v2 : v = 12
      · subst v2
        go_wp2_with fail
        go_ret2
        exact ⟨x1, 2, rfl, q1.1, q1.2, by omega, T1.out⟩
      · have v3 : (v == 12) = false := by simpa using v2
        go_wp2_with fail
        go_ret2
        exact ⟨x1, 0, rfl, q1.1, q1.2, by omega, T1.out⟩
end Go.Proofs.Ytfpoapmbpbkibaa
