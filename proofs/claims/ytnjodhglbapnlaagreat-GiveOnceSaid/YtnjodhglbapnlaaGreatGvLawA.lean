import Derived.Test.YtnjodhglbapnlaaGreatGg06
import Derived.Test.YtnjodhglbapnlaaGreatGg07
import Derived.BigQuiet
set_option maxRecDepth 100000
set_option maxHeartbeats 16000000
namespace Go.Proofs.YtnjodhglbapnlaaGreat
open Go.RowKit
theorem ysl {f t g u : Nat} (hf : f < 18446744073709551616) (ht : t < 18446744073709551616) (hg : g < 18446744073709551616) (hu : u < 18446744073709551616) : ybw f t g u = true ↔ ∀ x, x < 18446744073709551616 → inB g u x = true → inB f t x = true := by
 rw [within_iff]
 constructor
 ·rintro (h | ⟨h1, h2, h3⟩) x hx hi
  ·rw [yay]
   exact .inl h
  ·rw [yay] at h2 hi ⊢
   have a1 := yaf hg hf
   have a2 := yaf ht hf
   have a3 := yaf hu hg
   have a4 := yaf ht hg
   have a5 := yaf hx hg
   have a6 := yaf hx hf
   omega
 ·intro h
  by_cases hft : f = t
  ·exact .inl hft
  ·have k1 : inB f t g = true := h g hg (ydo g u hg hu)
   have k2 : inB f t t = false := yk4 hft
   have k3 : ¬ inB g u t = true := fun z => by
    have := h t ht z
    rw [k2] at this
    cases this
   rw [yay] at k3
   refine .inr ⟨fun z => k3 (.inl z), k1, ?_⟩
   have : ¬ yag t g < yag u g := fun z => k3 (.inr z)
   omega
section
variable {VD : World → Nat → HO → List Nat → Prop} {VV : World → Nat → GV → List Nat → Prop}
theorem ysm (L : ybg VD) (G : yc6 VD VV) (f0 t0 f t f2 t2 : Nat) (to_ : Int) (W : World) (hf0 : f0 < 18446744073709551616) (ht0 : t0 < 18446744073709551616) (hf : f < 18446744073709551616) (ht : t < 18446744073709551616) (hf2 : f2 < 18446744073709551616) (ht2 : t2 < 18446744073709551616) :
  Calls Tryz.prog 6 #[.agg #[.int .u64 (f0 : Nat), .int .u64 (t0 : Nat)], .agg #[.int .u64 (f : Nat), .int .u64 (t : Nat)], .agg #[.int .u64 (f2 : Nat), .int .u64 (t2 : Nat)], .int .i64 to_] W fun e w' => e = .returned (.bool true) ∧ Below W.heap.size W w' := by
 have CA := Lib.hid (yme L G)
 obtain ⟨V, hV⟩ : ∃ V, ((W.alloc (.cells #[.int .u64 (f0 : Nat), .int .u64 (t0 : Nat)] 25)).alloc (.cells #[.int .u64 (f : Nat), .int .u64 (t : Nat)] 25)).alloc (.cells #[.int .u64 (f2 : Nat), .int .u64 (t2 : Nat)] 25) = V := ⟨_, rfl⟩
 have HBV : Hid (Below W.heap.size W V) := by rw [← hV]; exact (((Below.refl _ _).alloc (Nat.le_refl _) _).alloc (by simp) _).alloc (by simp; omega) _
 have hA : yb0 V W.heap.size f0 t0 := by rw [← hV]; exact ((yfm W f0 t0).below ((Below.refl _ _).alloc (Nat.le_refl _) _)).below ((Below.refl _ _).alloc (Nat.le_refl _) _)
 have hB : yb0 V (W.heap.size + 1) f t := by
  rw [← hV]
  have z := (yfm (W.alloc (.cells #[.int .u64 (f0 : Nat), .int .u64 (t0 : Nat)] 25)) f t).below ((Below.refl _ _).alloc (Nat.le_refl _) (.cells #[.int .u64 (f2 : Nat), .int .u64 (t2 : Nat)] 25))
  rwa [World.size_alloc] at z
 have hC : yb0 V (W.heap.size + 1 + 1) f2 t2 := by
  rw [← hV]
  have z := yfm ((W.alloc (.cells #[.int .u64 (f0 : Nat), .int .u64 (t0 : Nat)] 25)).alloc (.cells #[.int .u64 (f : Nat), .int .u64 (t : Nat)] 25)) f2 t2
  rwa [World.size_alloc, World.size_alloc] at z
 have HSA : Hid (∀ w, Below V.heap.size V w → yb0 w W.heap.size f0 t0) := fun w hw => hA.below hw
 have HSB : Hid (∀ w, Below V.heap.size V w → yb0 w (W.heap.size + 1) f t) := fun w hw => hB.below hw
 have HSC : Hid (∀ w, Below V.heap.size V w → yb0 w (W.heap.size + 1 + 1) f2 t2) := fun w hw => hC.below hw
 have w1 : Wide 1 := ⟨by decide, by decide⟩
 have w2 : Wide 2 := ⟨by decide, by decide⟩
 have w3 : Wide 3 := ⟨by decide, by decide⟩
 have w4 : Wide 4 := ⟨by decide, by decide⟩
 have hk1 := LoI.k 1 f0 t0 0 []
 have C0 : Hid (∀ w, Below V.heap.size V w → Calls Tryz.prog 9 #[.int .i64 1, .agg #[.int .u64 (f0 : Nat), .int .u64 (t0 : Nat)], .int .i64 0, .slice none 0 0] w fun e w' => ∃ g r, e = .returned (.tuple #[.pointer (some ⟨g, 0, none⟩), .pointer (some ⟨r, 0, none⟩)]) ∧ LX VD V w' [] g (LoI 1 f0 t0 0 []) r (LoI 1 f0 t0 0 [])) := fun w hw => by
  refine (yjv L 1 0 f0 t0 none 0 0 [] w ymc rfl w1 ⟨by decide, by decide⟩ hf0 ht0).mono ?_
  rintro e w' ⟨g, r, its, rfl, h, -, hn⟩
  obtain rfl := List.eq_nil_of_length_eq_zero (Nat.le_zero.1 hn)
  exact ⟨g, r, rfl, h.rebase hw⟩
 have C1 : Hid (∀ w g r, LX VD V w [] g (LoI 1 f0 t0 0 []) r (LoI 1 f0 t0 0 []) → Calls Tryz.prog 10 #[.pointer (some ⟨g, 0, none⟩), .agg #[.int .u64 (f : Nat), .int .u64 (t : Nat)], .int .i64 1, .int .i64 1, .int .i64 3] w fun e w' => ∃ A c, e = .returned (.tuple #[.pointer none, .slice A 0 c, .int .i64 1]) ∧ LX VD V w' [] g (LoI 1 f0 t0 0 []) r (LoI 1 f0 t0 0 [])) := fun w g r h => by
  refine (h.start G f t 1 1 3 hf ht w1 w1 w3 (by omega)).mono ?_
  rintro e w' (⟨_, ⟨A, c, rfl⟩, hx, -⟩ | ⟨h2, _⟩ | ⟨h2, _⟩ | ⟨h2, _⟩)
  ·exact ⟨A, c, rfl, hx⟩
  ·exact absurd rfl h2
  ·exact absurd rfl h2
  ·exact absurd rfl h2
 have hwi := ysl hf0 ht0 hf ht
 have CW : Hid (∀ w, Calls Tryz.prog 29 #[.agg #[.int .u64 (f0 : Nat), .int .u64 (t0 : Nat)], .agg #[.int .u64 (f : Nat), .int .u64 (t : Nat)]] w fun e w' => e = .returned (.bool (ybw f0 t0 f t)) ∧ Below w.heap.size w w') := fun w => ysk f0 t0 f t w hf0 ht0 hf ht
 cases hin : ybw f0 t0 f t with
 | false =>
  rw [hin] at CW
  have C2 : Hid (∀ w g r, LX VD V w [] g (LoI 1 f0 t0 0 []) r (LoI 1 f0 t0 0 []) → Calls Tryz.prog 10 #[.pointer (some ⟨g, 0, none⟩), .agg #[.int .u64 (f : Nat), .int .u64 (t : Nat)], .int .i64 1, .int .i64 2, .int .i64 3] w fun e w' => ∃ A c, e = .returned (.tuple #[.pointer none, .slice A 0 c, .int .i64 1]) ∧ LX VD V w' [] g (LoI 1 f0 t0 0 []) r (LoI 1 f0 t0 0 [])) := fun w g r h => by
   refine (h.start G f t 1 2 3 hf ht w1 w2 w3 (by omega)).mono ?_
   rintro e w' (⟨h2, _⟩ | ⟨_, h2, _⟩ | ⟨_, _, _, ⟨A, c, rfl⟩, hx, -⟩ | ⟨_, _, h2, _⟩)
   ·exact absurd h2 (by decide)
   ·rw [LoI.g] at h2
    cases h2
   ·exact ⟨A, c, rfl, hx⟩
   ·exfalso
    have : ybw f0 t0 f t = true := hwi.2 fun x hx hi => by
     have z := h2 x hx hi
     rw [LoI.own] at z
     by_cases hi2 : inB f0 t0 x = true
     ·exact hi2
     ·exact absurd (if_neg (fun y => hi2 y.2)) z
    rw [hin] at this
    cases this
  clear hA hB hC hk1 hwi hin
  go_enter Tryz.func6, Tryz.ntmps6
  go_upto_region 1 with fail
  (try rw [hV])
  clear hV
  go_wp2_with (first
   | (go_at_call 8; (with_reducible refine (CA.out _).mono ?_); rintro e w1 ⟨rfl, h1⟩; have H1 := Lib.hid h1; clear h1; obtain ⟨a0, a1⟩ := HSA.out _ H1.out)
   | (go_at_call 9; (with_reducible refine (C0.out _ H1.out).mono ?_); rintro e w2 ⟨g, r, rfl, x2⟩; have X2 := Lib.hid x2; clear x2 a0 a1; obtain ⟨b0, b1⟩ := HSB.out _ X2.out.base)
   | (go_at_call 10; (with_reducible refine (C1.out _ _ _ X2.out).mono ?_); rintro e w3 ⟨A3, c3, rfl, x3⟩; have X3 := Lib.hid x3; clear x3 b0 b1; obtain ⟨b0, b1⟩ := HSB.out _ X3.out.base)
   | (go_at_call 10; (with_reducible refine (C2.out _ _ _ X3.out).mono ?_); rintro e w4 ⟨A4, c4, rfl, x4⟩; have X4 := Lib.hid x4; clear x4 b0 b1; obtain ⟨a0, a1⟩ := HSA.out _ X4.out.base; obtain ⟨b0, b1⟩ := HSB.out _ X4.out.base)
   | (go_at_call 29; (with_reducible refine (CW.out _).mono ?_); rintro e w5 ⟨rfl, h5⟩; have H5 := Lib.hid (acc HBV.out (acc X4.out.base h5)); clear h5 a0 a1 b0 b1))
  go_ret
  exact ⟨rfl, H5.out⟩
 | true =>
  rw [hin] at CW
  have C2 : Hid (∀ w g r, LX VD V w [] g (LoI 1 f0 t0 0 []) r (LoI 1 f0 t0 0 []) → Calls Tryz.prog 10 #[.pointer (some ⟨g, 0, none⟩), .agg #[.int .u64 (f : Nat), .int .u64 (t : Nat)], .int .i64 1, .int .i64 2, .int .i64 3] w fun e w' =>
    ∃ p q c, e = .returned (.tuple #[.pointer (some ⟨p, 0, none⟩), .slice (some ⟨q, 0, none⟩) 1 c, .int .i64 0]) ∧ q < w'.heap.size ∧ (∀ w2, Kept [q] w' w2 → w2.cell? ⟨q, 1, none⟩ = some (.int .i64 1) ∧ w2.cell? ⟨q, 2, none⟩ = some (.int .i64 2) ∧ w2.cell? ⟨q, 3, none⟩ = some (.int .i64 3) ∧ w2.cell? ⟨q, 15, none⟩ = some (.int .u64 (f : Nat)) ∧ w2.cell? ⟨q, 16, none⟩ = some (.int .u64 (t : Nat)) ∧ w2.cell? ⟨q, 19, none⟩ = some (.int .i64 0)) ∧
     LX VD V w' [q] g ((LoI 1 f0 t0 0 []).froze f t) r (LoI 1 f0 t0 0 [])) := fun w g r h => by
   refine (h.start G f t 1 2 3 hf ht w1 w2 w3 (by omega)).mono ?_
   rintro e w' (⟨h2, _⟩ | ⟨_, h2, _⟩ | ⟨_, _, ⟨x, hx, hi, h2⟩, _⟩ | ⟨_, _, _, p, S, M, ep, v, rfl, rfl, hM, hg, hx, -⟩)
   ·exact absurd h2 (by decide)
   ·rw [LoI.g] at h2
    cases h2
   ·rw [LoI.own, if_pos ⟨Int.le_refl _, hwi.1 hin x hx hi⟩] at h2
    cases h2
   ·obtain ⟨q, c, a, b, rfl, k1, k2, k3, k4, k5⟩ := hM.one
    refine ⟨p, q, c, rfl, k2, fun w2 hk => ?_, hx.both.less (fun z hz => by rw [List.mem_singleton.1 hz]; exact List.mem_append_left _ k3)⟩
    have cell : ∀ j v, ((GV.offer ⟨1, 2, 3, f, t, IntKind.i64.wrap (ep + 1), 1, arcL (LoI 1 f0 t0 0 []).its f t, 0, g⟩).cells a b)[j]? = some v → w2.cell? ⟨q, j, none⟩ = some v := fun j v hj => (hk.cell (p := ⟨q, j, none⟩) (by simp) k2).trans (k5 j v hj)
    exact ⟨cell 1 _ rfl, cell 2 _ rfl, cell 3 _ rfl, cell 15 _ rfl, cell 16 _ rfl, cell 19 _ rfl⟩
  have C3 : Hid (∀ w g r q, LX VD V w [q] g ((LoI 1 f0 t0 0 []).froze f t) r (LoI 1 f0 t0 0 []) → Calls Tryz.prog 10 #[.pointer (some ⟨g, 0, none⟩), .agg #[.int .u64 (f2 : Nat), .int .u64 (t2 : Nat)], .int .i64 1, .int .i64 3, .int .i64 4] w fun e w' => ∃ A c, e = .returned (.tuple #[.pointer none, .slice A 0 c, .int .i64 7]) ∧ Below V.heap.size V w' ∧ Kept [q] w w') := fun w g r q h => by
   refine (h.start G f2 t2 1 3 4 hf2 ht2 w1 w3 w4 (by show (LoI 1 f0 t0 0 []).k ≤ 1000; omega)).mono ?_
   rintro e w' (⟨h2, _⟩ | ⟨_, _, ⟨A, c, rfl⟩, hx, hk⟩ | ⟨_, h2, _⟩ | ⟨_, h2, _⟩)
   ·exact absurd h2 (by decide)
   ·exact ⟨A, c, rfl, hx.base, hk⟩
   ·cases h2
   ·cases h2
  clear hA hB hC hk1 hwi hin
  go_enter Tryz.func6, Tryz.ntmps6
  go_upto_region 1 with fail
  (try rw [hV])
  clear hV
  go_wp2_with (first
   | (go_at_call 8; (with_reducible refine (CA.out _).mono ?_); rintro e w1 ⟨rfl, h1⟩; have H1 := Lib.hid h1; clear h1; obtain ⟨a0, a1⟩ := HSA.out _ H1.out)
   | (go_at_call 9; (with_reducible refine (C0.out _ H1.out).mono ?_); rintro e w2 ⟨g, r, rfl, x2⟩; have X2 := Lib.hid x2; clear x2 a0 a1; obtain ⟨b0, b1⟩ := HSB.out _ X2.out.base)
   | (go_at_call 10; (with_reducible refine (C1.out _ _ _ X2.out).mono ?_); rintro e w3 ⟨A3, c3, rfl, x3⟩; have X3 := Lib.hid x3; clear x3 b0 b1; obtain ⟨b0, b1⟩ := HSB.out _ X3.out.base)
   | (go_at_call 10; (with_reducible refine (C2.out _ _ _ X3.out).mono ?_); rintro e w4 ⟨p, q, c4, rfl, l4, k4, x4⟩; have X4 := Lib.hid x4; have L4 := Lib.hid l4; have K4 := Lib.hid k4; clear x4 l4 k4 b0 b1; obtain ⟨a0, a1⟩ := HSA.out _ X4.out.base; obtain ⟨b0, b1⟩ := HSB.out _ X4.out.base)
   | (go_at_call 29; (with_reducible refine (CW.out _).mono ?_); rintro e w5 ⟨rfl, h5⟩; have X5 := Lib.hid (X4.out.below L h5); have H5 := Lib.hid (Kept.below (P := [q]) h5); clear h5 a0 a1 b0 b1; obtain ⟨d0, d1⟩ := HSC.out _ X5.out.base)
   | (go_at_call 10; (with_reducible refine (C3.out _ _ _ _ X5.out).mono ?_); rintro e w6 ⟨A6, c6, rfl, h6, k6⟩; have H6 := Lib.hid h6; obtain ⟨e1, e2, e3, e4, e5, e6⟩ := K4.out _ (H5.out.trans k6); clear h6 k6 d0 d1; obtain ⟨b0, b1⟩ := HSB.out _ H6.out))
  clear C0 C1 C2 C3 CW CA
  go_quiet (fail)
  go_wp2
  go_ret
  exact ⟨rfl, acc HBV.out (below_drewN H6.out _)⟩
end
end Go.Proofs.YtnjodhglbapnlaaGreat
