/-
  The code's hold: where a scan stops. (Written by tools/genST.py.)
-/
import Derived.Test.YthgndgoljchnfaaGreatHg33
namespace Go.Proofs.YthgndgoljchnfaaGreat
open Go.RowKit

abbrev a20 (x : Nat) : Array Value := #[.int .u64 (x : Nat), .int .u64 0]
set_option maxRecDepth 100000 in
set_option maxHeartbeats 2000000 in
theorem stop_any {w : World} {g sp : Nat} {s : HO} {l : List AO} {S : Value} {Fs Fg : List Nat} (x : Nat) (hx : x < 18446744073709551616) (hox : s.own x ≠ none) (hnf : s.g.frozen x = false) (hk : s.k ≤ 1000) (h : HM w g s l S sp Fs Fg) : Calls Tryz.prog 78 #[.pointer (some ⟨g, 0, none⟩), .int .u64 (x : Nat)] w fun e w' =>
    (∃ stop, Upto s x stop ∧ e = .returned (.int .u64 (stop % 18446744073709551616 : Nat))) ∧ Below w.heap.size w w' := by
  obtain ⟨A, c, rfl, hq1, hq2⟩ := h.row.shape
  clear hq1 hq2
  have B0 : Below w.heap.size w (w.alloc (.cells (a20 x) 25)) := (Below.refl _ _).alloc (Nat.le_refl _) _
  have hx5 := Bx.new w (a20 x) 25
  have h1 := h.below B0
  have C1 := Lib.hid (Gi.gateArc_any h1.gate)
  have HH := Lib.hid h
  have hft : s.g.f < 18446744073709551616 ∧ s.g.t < 18446744073709551616 := by
    obtain ⟨_, _, z, _⟩ := h.gate
    exact ⟨z.b.1, z.b.2.1⟩
  have CF0 : Hid (∀ (w' : World) (T : Nat), T < 18446744073709551616 → HM w' g s l (.slice A l.length c) sp Fs Fg → Calls Tryz.prog 52 #[.pointer (some ⟨g, 0, none⟩), .agg (a2 x T)] w' (FollowPost w' s.own x T)) := fun w' T hT h' =>
    follow_any l s.nd s.own x T g A c l.length w' h'.row h'.c3 (by have := h'.few; omega) h'.ol hx hT
  have hfz : ∀ y, s.g.frozen y = (s.g.shut && inB s.g.f s.g.t y) := fun _ => rfl
  have CS0 := arcSplit_any x 0 s.g.f
  have hsp := fun hn => frozen_split (x := x) hft.1 hft.2 hx hn
  obtain ⟨f, hf⟩ : ∃ f, s.g.f = f := ⟨_, rfl⟩
  obtain ⟨t, ht⟩ : ∃ t, s.g.t = t := ⟨_, rfl⟩
  obtain ⟨b, hb⟩ : ∃ b, s.g.shut = b := ⟨_, rfl⟩
  have hinf : f < 18446744073709551616 → x < f → s.g.shut = true → s.g.frozen f = true := fun z1 z2 z3 => by
    rw [hfz, z3, Bool.true_and, hf, ht, in_iff]
    have := sub64_cases z1 z1
    have := sub64_cases (ht ▸ hft.2) z1
    omega
  rw [hf, ht] at hsp hft
  rw [hf] at CS0
  simp only [hf, ht, hb] at hfz C1 hinf
  rw [hfz] at hnf
  clear hk h hf ht hb
  obtain ⟨b5, hb5⟩ : ∃ b5, w.heap.size = b5 := ⟨_, rfl⟩
  have HB5 : Hid (w.heap.size ≤ b5) := Nat.le_of_eq hb5
  cases b
  · have HU : Hid (∀ to_ e all, Followed s.own x 0 to_ e all → ∃ stop, Upto s x stop ∧ to_ = stop % 18446744073709551616) := fun to_ e all hF => upto_of hx (by decide) (.inl ⟨rfl, rfl⟩) hox (fun y _ _ => hfz y) (fun z => absurd z (Nat.lt_irrefl _)) hF
    have CF : Hid (∀ (w' : World), HM w' g s l (.slice A l.length c) sp Fs Fg → Calls Tryz.prog 52 #[.pointer (some ⟨g, 0, none⟩), .agg (a20 x)] w' (FollowPost w' s.own x 0)) := fun w' h' => CF0.out w' 0 (by decide) h'
    clear hsp CS0 hfz hinf hox hnf
    go_enter Tryz.func78, Tryz.ntmps78
    go_upto_region 2 with fail
    rw [hb5] at hx5
    obtain ⟨w0, hw0⟩ : ∃ w0, w.alloc (.cells (a20 x) 25) = w0 := ⟨_, rfl⟩
    rw [hw0] at B0 hx5 h1 C1 ⊢
    try rw [hb5]
    clear hw0 hb5
    have HB0 := Lib.hid B0
    have HX0 := Lib.hid hx5
    have H0 := Lib.hid h1
    clear B0 hx5 h1
    go_upto_region 3 with (go_at_call 51; (with_reducible refine (C1.out).mono ?_); rintro e w1 ⟨rfl, hb1⟩; have HB1 := Lib.hid (acc HB0.out hb1); have HX1 := Lib.hid (HX0.out.below hb1); have H1 := Lib.hid (H0.out.below hb1); have hz1 := HX1.out.two.2.2; clear hb1)
    have HB2 := Lib.hid (HB1.out.alloc HB1.out.size (.cells (a2 f t) 25))
    have HX2 := Lib.hid (HX1.out.old (.cells (a2 f t) 25))
    have HX6 := Lib.hid (Bx.new w1 (a2 f t) 25)
    have H2 := Lib.hid (H1.out.below ((Below.refl w1.heap.size w1).alloc (Nat.le_refl _) (.cells (a2 f t) 25)))
    obtain ⟨b6, hb6⟩ : ∃ b6, w1.heap.size = b6 := ⟨_, rfl⟩
    rw [hb6] at HX6
    obtain ⟨w2, hw2⟩ : ∃ w2, w1.alloc (.cells (a2 f t) 25) = w2 := ⟨_, rfl⟩
    rw [hw2] at HB2 HX2 HX6 H2 ⊢
    try rw [hb6]
    clear hw2 hb6
    obtain ⟨x0, x1, x2⟩ := HX2.out.two
    obtain ⟨y0, y1, y2⟩ := HX6.out.two
    go_wp2_with (go_at_call 52; (with_reducible refine (CF.out _ H2.out).mono ?_); rintro e w9 ⟨to_, ep, all, rfl, hF, hb9⟩; have HFO := Lib.hid hF; have HB9 := Lib.hid (acc HB2.out hb9); clear hF hb9)
    go_ret
    obtain ⟨stop, hu, rfl⟩ := HU.out _ _ _ HFO.out
    exact ⟨⟨stop, hu, rfl⟩, HB9.out⟩
  · simp only [Bool.true_and] at hnf hfz
    obtain ⟨ok, hok⟩ : ∃ ok, mayC x 0 f = ok := ⟨_, rfl⟩
    have hok2 : mayB x 0 f = ok := hok
    rw [hok2] at CS0
    cases ok
    · have HU : Hid (∀ to_ e all, Followed s.own x 0 to_ e all → ∃ stop, Upto s x stop ∧ to_ = stop % 18446744073709551616) := fun to_ e all hF => upto_of hx (by decide) (.inl ⟨rfl, rfl⟩) hox (fun y z1 z2 => by rw [hfz]; exact (hsp hnf).2 hok y z1 z2) (fun z => absurd z (Nat.lt_irrefl _)) hF
      have CF : Hid (∀ (w' : World), HM w' g s l (.slice A l.length c) sp Fs Fg → Calls Tryz.prog 52 #[.pointer (some ⟨g, 0, none⟩), .agg (a20 x)] w' (FollowPost w' s.own x 0)) := fun w' h' => CF0.out w' 0 (by decide) h'
      have CS : Hid (∀ W, Calls Tryz.prog 85 #[.agg (a20 x), .int .u64 (f : Nat)] W fun e w' => e = .returned (.tuple #[.agg #[.int .u64 0, .int .u64 0], .agg #[.int .u64 0, .int .u64 0], .bool false]) ∧ Below W.heap.size W w') := fun W => CS0 W hx (by decide) hft.1
      clear hsp CS0 hfz hinf hox hnf hok hok2
      go_enter Tryz.func78, Tryz.ntmps78
      go_upto_region 2 with fail
      rw [hb5] at hx5
      obtain ⟨w0, hw0⟩ : ∃ w0, w.alloc (.cells (a20 x) 25) = w0 := ⟨_, rfl⟩
      rw [hw0] at B0 hx5 h1 C1 ⊢
      try rw [hb5]
      clear hw0 hb5
      have HB0 := Lib.hid B0
      have HX0 := Lib.hid hx5
      have H0 := Lib.hid h1
      clear B0 hx5 h1
      go_upto_region 3 with (go_at_call 51; (with_reducible refine (C1.out).mono ?_); rintro e w1 ⟨rfl, hb1⟩; have HB1 := Lib.hid (acc HB0.out hb1); have HX1 := Lib.hid (HX0.out.below hb1); have H1 := Lib.hid (H0.out.below hb1); have hz1 := HX1.out.two.2.2; clear hb1)
      have HB2 := Lib.hid (HB1.out.alloc HB1.out.size (.cells (a2 f t) 25))
      have HX2 := Lib.hid (HX1.out.old (.cells (a2 f t) 25))
      have HX6 := Lib.hid (Bx.new w1 (a2 f t) 25)
      have H2 := Lib.hid (H1.out.below ((Below.refl w1.heap.size w1).alloc (Nat.le_refl _) (.cells (a2 f t) 25)))
      obtain ⟨b6, hb6⟩ : ∃ b6, w1.heap.size = b6 := ⟨_, rfl⟩
      rw [hb6] at HX6
      obtain ⟨w2, hw2⟩ : ∃ w2, w1.alloc (.cells (a2 f t) 25) = w2 := ⟨_, rfl⟩
      rw [hw2] at HB2 HX2 HX6 H2 ⊢
      try rw [hb6]
      clear hw2 hb6
      obtain ⟨x0, x1, x2⟩ := HX2.out.two
      obtain ⟨y0, y1, y2⟩ := HX6.out.two
      go_upto_region 5 with (go_at_call 85; (with_reducible refine (CS.out _).mono ?_); rintro e w3 ⟨rfl, hb3⟩; have HB3 := Lib.hid (acc HB2.out hb3); have HX3 := Lib.hid (HX2.out.below hb3); have H3 := Lib.hid (H2.out.below hb3); clear hb3)
      clear x0 x1 x2 y0 y1 y2
      have HB4 := Lib.hid ((HB3.out.alloc HB3.out.size (.cells #[.int .u64 0, .int .u64 0] 25)).alloc (by have := HB3.out.size; simp; omega) (.cells #[.int .u64 0, .int .u64 0] 25))
      have HX4 := Lib.hid ((HX3.out.old (.cells #[.int .u64 0, .int .u64 0] 25)).old (.cells #[.int .u64 0, .int .u64 0] 25))
      have HX8 := Lib.hid ((Bx.new w3 #[.int .u64 0, .int .u64 0] 25).old (.cells #[.int .u64 0, .int .u64 0] 25))
      have H4 := Lib.hid (H3.out.below (((Below.refl w3.heap.size w3).alloc (Nat.le_refl _) (.cells #[.int .u64 0, .int .u64 0] 25)).alloc (by simp) (.cells #[.int .u64 0, .int .u64 0] 25)))
      obtain ⟨b8, hb8⟩ : ∃ b8, w3.heap.size = b8 := ⟨_, rfl⟩
      rw [hb8] at HX8
      obtain ⟨w4, hw4⟩ : ∃ w4, (w3.alloc (.cells #[.int .u64 0, .int .u64 0] 25)).alloc (.cells #[.int .u64 0, .int .u64 0] 25) = w4 := ⟨_, rfl⟩
      rw [hw4] at HB4 HX4 HX8 H4 ⊢
      try rw [hb8]
      clear hw4 hb8
      obtain ⟨x0, x1, x2⟩ := HX4.out.two
      go_wp2_with (go_at_call 52; (with_reducible refine (CF.out _ H4.out).mono ?_); rintro e w9 ⟨to_, ep, all, rfl, hF, hb9⟩; have HFO := Lib.hid hF; have HB9 := Lib.hid (acc HB4.out hb9); clear hF hb9)
      go_ret
      obtain ⟨stop, hu, rfl⟩ := HU.out _ _ _ HFO.out
      exact ⟨⟨stop, hu, rfl⟩, HB9.out⟩
    · have hxf := ((hsp hnf).1 hok).1
      have HU : Hid (∀ to_ e all, Followed s.own x f to_ e all → ∃ stop, Upto s x stop ∧ to_ = stop % 18446744073709551616) := fun to_ e all hF => upto_of hx hft.1 (.inr ⟨hxf, rfl⟩) hox (fun y z1 z2 => by rw [hfz]; exact ((hsp hnf).1 hok).2 y z1 z2) (fun _ => hinf hft.1 hxf rfl) hF
      have CF : Hid (∀ (w' : World), HM w' g s l (.slice A l.length c) sp Fs Fg → Calls Tryz.prog 52 #[.pointer (some ⟨g, 0, none⟩), .agg (a2 x f)] w' (FollowPost w' s.own x f)) := fun w' h' => CF0.out w' f hft.1 h'
      have CS : Hid (∀ W, Calls Tryz.prog 85 #[.agg (a20 x), .int .u64 (f : Nat)] W fun e w' => e = .returned (.tuple #[.agg (a2 x f), .agg #[.int .u64 (f : Nat), .int .u64 0], .bool true]) ∧ Below W.heap.size W w') := fun W => CS0 W hx (by decide) hft.1
      clear hsp CS0 hfz hinf hox hnf hok hok2
      go_enter Tryz.func78, Tryz.ntmps78
      go_upto_region 2 with fail
      rw [hb5] at hx5
      obtain ⟨w0, hw0⟩ : ∃ w0, w.alloc (.cells (a20 x) 25) = w0 := ⟨_, rfl⟩
      rw [hw0] at B0 hx5 h1 C1 ⊢
      try rw [hb5]
      clear hw0 hb5
      have HB0 := Lib.hid B0
      have HX0 := Lib.hid hx5
      have H0 := Lib.hid h1
      clear B0 hx5 h1
      go_upto_region 3 with (go_at_call 51; (with_reducible refine (C1.out).mono ?_); rintro e w1 ⟨rfl, hb1⟩; have HB1 := Lib.hid (acc HB0.out hb1); have HX1 := Lib.hid (HX0.out.below hb1); have H1 := Lib.hid (H0.out.below hb1); have hz1 := HX1.out.two.2.2; clear hb1)
      have HB2 := Lib.hid (HB1.out.alloc HB1.out.size (.cells (a2 f t) 25))
      have HX2 := Lib.hid (HX1.out.old (.cells (a2 f t) 25))
      have HX6 := Lib.hid (Bx.new w1 (a2 f t) 25)
      have H2 := Lib.hid (H1.out.below ((Below.refl w1.heap.size w1).alloc (Nat.le_refl _) (.cells (a2 f t) 25)))
      obtain ⟨b6, hb6⟩ : ∃ b6, w1.heap.size = b6 := ⟨_, rfl⟩
      rw [hb6] at HX6
      obtain ⟨w2, hw2⟩ : ∃ w2, w1.alloc (.cells (a2 f t) 25) = w2 := ⟨_, rfl⟩
      rw [hw2] at HB2 HX2 HX6 H2 ⊢
      try rw [hb6]
      clear hw2 hb6
      obtain ⟨x0, x1, x2⟩ := HX2.out.two
      obtain ⟨y0, y1, y2⟩ := HX6.out.two
      go_upto_region 5 with (go_at_call 85; (with_reducible refine (CS.out _).mono ?_); rintro e w3 ⟨rfl, hb3⟩; have HB3 := Lib.hid (acc HB2.out hb3); have HX3 := Lib.hid (HX2.out.below hb3); have H3 := Lib.hid (H2.out.below hb3); clear hb3)
      clear x0 x1 x2 y0 y1 y2
      have HB4 := Lib.hid ((HB3.out.alloc HB3.out.size (.cells (a2 x f) 25)).alloc (by have := HB3.out.size; simp; omega) (.cells #[.int .u64 (f : Nat), .int .u64 0] 25))
      have HX4 := Lib.hid ((HX3.out.old (.cells (a2 x f) 25)).old (.cells #[.int .u64 (f : Nat), .int .u64 0] 25))
      have HX8 := Lib.hid ((Bx.new w3 (a2 x f) 25).old (.cells #[.int .u64 (f : Nat), .int .u64 0] 25))
      have H4 := Lib.hid (H3.out.below (((Below.refl w3.heap.size w3).alloc (Nat.le_refl _) (.cells (a2 x f) 25)).alloc (by simp) (.cells #[.int .u64 (f : Nat), .int .u64 0] 25)))
      obtain ⟨b8, hb8⟩ : ∃ b8, w3.heap.size = b8 := ⟨_, rfl⟩
      rw [hb8] at HX8
      obtain ⟨w4, hw4⟩ : ∃ w4, (w3.alloc (.cells (a2 x f) 25)).alloc (.cells #[.int .u64 (f : Nat), .int .u64 0] 25) = w4 := ⟨_, rfl⟩
      rw [hw4] at HB4 HX4 HX8 H4 ⊢
      try rw [hb8]
      clear hw4 hb8
      obtain ⟨x0, x1, x2⟩ := HX4.out.two
      obtain ⟨y0, y1, y2⟩ := HX8.out.two
      have f50 := HX4.out.free 0
      have f51 := HX4.out.free 1
      go_upto_region 7 with fail
      clear x0 x1 x2 y0 y1 y2 f50 f51
      have HX5 := Lib.hid (bx_set (bx_set HX4.out 0 (.int .u64 (x : Nat))) 1 (.int .u64 (f : Nat)))
      have HB5' := Lib.hid (set_new (set_new HB4.out HB5.out 0 (.int .u64 (x : Nat))) HB5.out 1 (.int .u64 (f : Nat)))
      have H5 := Lib.hid (H4.out.touch (((Touch.refl [b5] w4).set (.inl (by simp)) (.int .u64 (x : Nat)) (p := ⟨b5, 0, none⟩)).set (.inl (by simp)) (.int .u64 (f : Nat)) (p := ⟨b5, 1, none⟩)) (fun q hq z => by have e := List.mem_singleton.1 z; have := HH.out.all_lt q hq; have := HB5.out; omega))
      obtain ⟨w5, hw5⟩ : ∃ w5, (w4.setCell ⟨b5, 0, none⟩ (.int .u64 (x : Nat))).setCell ⟨b5, 1, none⟩ (.int .u64 (f : Nat)) = w5 := ⟨_, rfl⟩
      rw [hw5] at HX5 HB5' H5 ⊢
      clear hw5
      obtain ⟨x0, x1, x2⟩ := HX5.out.two
      go_wp2_with (go_at_call 52; (with_reducible refine (CF.out _ H5.out).mono ?_); rintro e w9 ⟨to_, ep, all, rfl, hF, hb9⟩; have HFO := Lib.hid hF; have HB9 := Lib.hid (acc HB5'.out hb9); clear hF hb9)
      go_ret
      obtain ⟨stop, hu, rfl⟩ := HU.out _ _ _ HFO.out
      exact ⟨⟨stop, hu, rfl⟩, HB9.out⟩
end Go.Proofs.YthgndgoljchnfaaGreat
