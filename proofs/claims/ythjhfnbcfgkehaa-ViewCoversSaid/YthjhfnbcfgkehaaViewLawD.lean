/-
  The whole ring that one node has is one arc; a part that another one gets makes it two, or three by epochs (ViewWhole).
-/
import Derived.Test.YthjhfnbcfgkehaaViewAll
import Derived.Test.YthjhfnbcfgkehaaArcKeep
namespace Go.Proofs.Ythjhfnbcfgkehaa
open Go.RowKit

theorem two_up {ns : List Int} (h : ns.Pairwise (· < ·)) (hm : ∀ n, n ∈ ns ↔ n = 4 ∨ n = 5) : ns = [4, 5] := by
  match ns, h, hm with
  | [], _, hm => exact absurd ((hm 4).2 (.inl rfl)) (by simp)
  | [a], _, hm =>
    have h4 := (hm 4).2 (.inl rfl)
    have h5 := (hm 5).2 (.inr rfl)
    simp at h4 h5
    omega
  | [a, b], h, hm =>
    have ha := (hm a).1 (by simp)
    have hb := (hm b).1 (by simp)
    simp at h
    have e1 : a = 4 := by omega
    have e2 : b = 5 := by omega
    rw [e1, e2]
  | a :: b :: c :: r, h, hm =>
    have ha := (hm a).1 (by simp)
    have hb := (hm b).1 (by simp)
    have hc := (hm c).1 (by simp)
    simp at h
    omega
section
variable {VH : World → Nat → List AO → List Nat → Prop} {W w : World} {P : List Nat} {g : Nat} {a : List AO}
theorem VX.all (L : ViewLaws VH) (h : VX VH W w P g a) (ha : a.length < 900) : Calls Try.prog 11 #[.pointer (some ⟨g, 0, none⟩)] w (NewArcs w a) := by
  obtain ⟨_, ⟨F, b, _⟩, _⟩ := h
  exact allArcs_any L b ha
/-- the first arc of a list -/
theorem arcs_first {base c n : Nat} {A : Option Addr} {p : AO} {l : List AO} (h : w.ownsRow base 27 4 (.slice A n c) n (arcsC (p :: l))) (hn : 1 ≤ n) : ∃ q, A = some ⟨q, 0, none⟩ ∧ q < w.heap.size ∧
    w.cell? ⟨q, 0, none⟩ = some (.int .u64 (p.f : Nat)) ∧ w.cell? ⟨q, 1, none⟩ = some (.int .u64 (p.t : Nat)) ∧ w.cell? ⟨q, 2, none⟩ = some (.int .i64 p.n) ∧ w.cell? ⟨q, 3, none⟩ = some (.int .i64 p.e) := by
  rcases h.2 with ⟨h0, h1⟩ | ⟨q, cap, cur, h0, h1⟩
  · injection h0 with _ h0 _
    omega
  · injection h0 with h0 _ h2
    subst h0 h2
    have hl := h.1
    have hc : ∀ j u, (arcsC (p :: l))[j]? = some u → w.cell? ((⟨q, 0, none⟩ : Addr).add j) = some u := h.cells (g := q) rfl
    refine ⟨q, rfl, (h.lt q rfl).2, ?_, ?_, ?_, ?_⟩
    · have := hc 0 (.int .u64 (p.f : Nat)) rfl
      rwa [Go.WideShapes.add_plain] at this
    · have := hc 1 (.int .u64 (p.t : Nat)) rfl
      rwa [Go.WideShapes.add_plain] at this
    · have := hc 2 (.int .i64 p.n) rfl
      rwa [Go.WideShapes.add_plain] at this
    · have := hc 3 (.int .i64 p.e) rfl
      rwa [Go.WideShapes.add_plain] at this
theorem ints_two {base c : Nat} {A : Option Addr} (h : w.ownsRow base 3 1 (.slice A 2 c) 2 [.int .i64 4, .int .i64 5]) : ∃ q, A = some ⟨q, 0, none⟩ ∧ w.cell? ⟨q, 0, none⟩ = some (.int .i64 4) ∧ w.cell? ⟨q, 1, none⟩ = some (.int .i64 5) := by
  rcases h.2 with ⟨h0, h1⟩ | ⟨q, cap, cur, h0, h1⟩
  · injection h0 with _ h0 _
    omega
  · injection h0 with h0 _ h2
    subst h0 h2
    have hc := h.cells (g := q) rfl
    refine ⟨q, rfl, ?_, ?_⟩
    · have := hc 0 _ rfl
      rwa [Go.WideShapes.add_plain] at this
    · have := hc 1 _ rfl
      rwa [Go.WideShapes.add_plain] at this
end
section
variable {VH : World → Nat → List AO → List Nat → Prop}
abbrev boxA (W : World) (f t : Nat) : World := W.alloc (.cells #[.int .u64 (f : Nat), .int .u64 (t : Nat)] 25)
set_option maxRecDepth 20000 in
set_option maxHeartbeats 4000000 in
theorem viewWhole_any (L : ViewLaws VH) (f t x : Nat) (W : World) (hf : f < 18446744073709551616) (ht : t < 18446744073709551616) (hx : x < 18446744073709551616) :
    Calls Try.prog 6 #[.agg #[.int .u64 (f : Nat), .int .u64 (t : Nat)], .int .u64 (x : Nat)] W fun e w' => e = .returned (.bool true) ∧ Below W.heap.size W w' := by
  have CA := Lib.hid (viewAlive_any L)
  have bw : Below W.heap.size W (boxA W f t) := (Below.refl W.heap.size W).alloc (Nat.le_refl _) _
  have BW := Lib.hid bw
  have OB : Hid (Cel (boxA W f t) W.heap.size f t) := Cel.new W f t _
  have F0 : AO.Fit ⟨x, x, 4, 2⟩ := ⟨hx, hx, ⟨by simp, by simp⟩, ⟨by simp, by simp⟩⟩
  have F1 : AO.Fit ⟨f, t, 5, 3⟩ := ⟨hf, ht, ⟨by simp, by simp⟩, ⟨by simp, by simp⟩⟩
  have C1 : Hid (∀ w g, VX VH (boxA W f t) w [] g [] → Calls Try.prog 8 #[.pointer (some ⟨g, 0, none⟩), .agg #[.int .u64 (x : Nat), .int .u64 (x : Nat), .int .i64 4, .int .i64 2]] w fun e w' => e = .returned (.bool true) ∧ VX VH (boxA W f t) w' [] g [⟨0, 0, 4, 2⟩]) := fun w g h => by
    refine (h.learn L ⟨x, x, 4, 2⟩ F0 (by simp)).mono ?_
    rintro e w' ⟨b, a, rfl, h1, -, h2⟩
    obtain ⟨rfl, h3⟩ := h2.first F0 ⟨by simp, by simp, by simp⟩
    have : a = [⟨0, 0, 4, 2⟩] := (h1.arcs L).all_same (v := (4, 2)) fun y hy => by rw [h3 y hy, if_pos (in_whole x y)]; rfl
    subst this
    exact ⟨rfl, h1⟩
  have C2 : Hid (∀ w g, VX VH (boxA W f t) w [] g [⟨0, 0, 4, 2⟩] → Calls Try.prog 8 #[.pointer (some ⟨g, 0, none⟩), .agg #[.int .u64 (f : Nat), .int .u64 (t : Nat), .int .i64 5, .int .i64 3]] w fun e w' => e = .returned (.bool true) ∧ ∃ a, VX VH (boxA W f t) w' [] g a ∧
      ((f = t ∧ a = [⟨0, 0, 5, 3⟩]) ∨ (f ≠ t ∧ a.length = 2 ∧ ∀ n : Int, (∃ p ∈ a, p.n = n) ↔ n = 4 ∨ n = 5))) := fun w g h => by
    refine (h.learn L ⟨f, t, 5, 3⟩ F1 (by simp)).mono ?_
    rintro e w' ⟨b, a, rfl, h1, -, h2⟩
    have hk0 : ∀ y, y < 18446744073709551616 → kn [(⟨0, 0, 4, 2⟩ : AO)] y = some ((4 : Int), (2 : Int)) := fun y hy => rfl
    obtain ⟨rfl, h3⟩ := h2.newer F1 ⟨by simp, by simp, by simp⟩ (fun y hy _ v hv => by rw [hk0 y hy] at hv; obtain rfl := Option.some.inj hv; simp)
    refine ⟨rfl, a, h1, ?_⟩
    by_cases hft : f = t
    · subst hft
      exact .inl ⟨rfl, (h1.arcs L).all_same (v := (5, 3)) fun y hy => by rw [h3 y hy, if_pos (in_whole f y)]; rfl⟩
    · obtain ⟨y1, y2, y3, y4⟩ := (h1.arcs L).two (v := (5, 3)) (u := (4, 2)) hf ht hft (by decide) (fun y hy => by rw [h3 y hy, hk0 y hy]; rfl)
      refine .inr ⟨hft, y1, fun n => ⟨?_, ?_⟩⟩
      · rintro ⟨p, hp, rfl⟩
        rcases y4 p hp with e | e <;> rw [e]
        · exact .inr rfl
        · exact .inl rfl
      · rintro (rfl | rfl)
        · exact ⟨_, y3, rfl⟩
        · exact ⟨_, y2, rfl⟩
  have CW : Hid (∀ w, Calls Try.prog 16 #[.agg #[.int .u64 (f : Nat), .int .u64 (t : Nat)]] w fun e w' => e = .returned (.bool (f == t)) ∧ Below w.heap.size w w') := fun w => whole_any f t w
  clear F0 F1 bw
  obtain ⟨-, o0, o1⟩ := OB.out
  go_enter Try.func6, Try.ntmps6
  go_wp2_with (go_at_call 7; (with_reducible refine (CA.out _).mono ?_); rintro e w1 ⟨rfl, h1⟩; have H1 := Lib.hid h1; clear h1)
  have X0 : Hid (VX VH (boxA W f t) (w1.alloc (.cells VZ 32)) [] w1.heap.size []) := VX.zero L H1.out (by simp)
  obtain ⟨g, hg⟩ : ∃ g, w1.heap.size = g := ⟨_, rfl⟩
  rw [hg] at X0 ⊢
  clear hg H1
  go_upto_region 9 with (first
    | (go_at_call 8; (with_reducible refine (C2.out _ _ X3.out).mono ?_); rintro e w4 ⟨rfl, a, x4, ha⟩; have X4 := Lib.hid x4; have HA := Lib.hid ha; clear x4 ha)
    | (go_at_call 8; (with_reducible refine (C1.out _ _ X0.out).mono ?_); rintro e w2 ⟨rfl, x2⟩; have X2 := Lib.hid x2; clear x2)
    | (go_at_call 11; (with_reducible refine (X2.out.all L (by simp)).mono ?_); rintro e w3 ⟨A3, c3, rfl, ho3, hb3⟩; have X3 := Lib.hid (X2.out.below L hb3); obtain ⟨q3, rfl, -, e0, e1, e2, e3⟩ := arcs_first ho3 (Nat.le_refl _); obtain ⟨-, p0, p1⟩ := OB.out.step X3.out.base; clear hb3 ho3))
  rcases HA.out with ⟨hft, rfl⟩ | ⟨hft, hl, hnn⟩
  · subst hft
    have hb1 : (f == f) = true := by simp
    rw [hb1] at CW
    clear hb1
    go_wp2_with (first
      | (go_at_call 11; (with_reducible refine (X4.out.all L (by simp)).mono ?_); rintro e w5 ⟨A5, c5, rfl, ho5, hb5⟩; have X5 := Lib.hid (X4.out.below L hb5); have HO5 := Lib.hid ho5; obtain ⟨-, p0, p1⟩ := OB.out.step X5.out.base; clear hb5 ho5)
      | (go_at_call 16; (with_reducible refine (CW.out _).mono ?_); rintro e w6 ⟨rfl, hb6⟩; have X6 := Lib.hid (X5.out.below L hb6); obtain ⟨q6, rfl, -, m0, m1, m2, m3⟩ := arcs_first ((Touch.ofBelow (F := []) hb6).row HO5.out (by simp)) (Nat.le_refl _); clear hb6))
    go_ret
    exact ⟨rfl, acc BW.out X6.out.base⟩
  · have hb1 : (f == t) = false := by simp [hft]
    rw [hb1] at CW
    clear hb1
    have HL := Lib.hid hl
    have HNN := Lib.hid hnn
    clear hl hnn
    go_wp2_with (first
      | (go_at_call 11; (with_reducible refine (X4.out.all L (by rw [HL.out]; decide)).mono ?_); rintro e w5 ⟨A5, c5, rfl, -, hb5⟩; rw [HL.out]; have X5 := Lib.hid (X4.out.below L hb5); obtain ⟨-, p0, p1⟩ := OB.out.step X5.out.base; clear hb5)
      | (go_at_call 16; (with_reducible refine (CW.out _).mono ?_); rintro e w6 ⟨rfl, hb6⟩; have X6 := Lib.hid (X5.out.below L hb6); clear hb6)
      | (go_at_call 17; (with_reducible refine (X6.out.nodes L (by rw [HL.out]; decide)).mono ?_); rintro e w7 ⟨A7, c7, ns, rfl, ho7, hu7, hm7, hb7⟩; obtain rfl := two_up hu7 (fun n => (hm7 n).trans (HNN.out n)); obtain ⟨q7, rfl, i0, i1⟩ := ints_two ho7; have HI := Lib.hid (And.intro i0 i1); clear i0 i1; have X7 := Lib.hid (X6.out.below L hb7); clear hb7 ho7 hu7 hm7)
      | (go_at_call 13; (with_reducible refine (X7.out.len L).mono ?_); rintro e w8 ⟨rfl, hb8⟩; rw [HL.out]; have X8 := Lib.hid (X7.out.below L hb8); have lq := World.block_lt_of_cell? _ _ HI.out.1; have j0 := (hb8.cell (p := ⟨q7, 0, none⟩) lq).trans HI.out.1; have j1 := (hb8.cell (p := ⟨q7, 1, none⟩) lq).trans HI.out.2; clear hb8 lq))
    go_ret
    exact ⟨rfl, acc BW.out X8.out.base⟩
end
end Go.Proofs.Ythjhfnbcfgkehaa
