import Derived.Test.YtnjodhglbapnlaaGreatGvShow
import Derived.Deep.CutBlock
import Derived.Deep.RegionHeld3
import Derived.BigQuiet
set_option maxRecDepth 100000
set_option maxHeartbeats 16000000
namespace Go.Proofs.YtnjodhglbapnlaaGreat
open Go.RowKit
section
variable {VD : World → Nat → HO → List Nat → Prop} {VV : World → Nat → GV → List Nat → Prop}
theorem yaa5 {f t g : Nat} {its : List Item} {x : LV} (h : ¬ (x.f = 2 ∧ x.i = 9 ∧ x.k = 11)) : (gv1 f t 2 9 its g).got x = (gv1 f t 2 9 its g, []) ∧ (gv1 f t 2 9 its g).over x = false ∧ ∀ s, (gv1 f t 2 9 its g).did x s = s := by
 have e1 : ∀ y : LV, (gv1 f t 2 9 its g).got y = if y.f ≠ 2 ∨ y.i ≠ 9 then (gv1 f t 2 9 its g, []) else if y.k = 11 ∧ y.n = 1 then (gv1 f t 2 9 its g).next else if y.k = 11 ∧ y.n = 0 then ((gv1 f t 2 9 its g).at_ 5, []) else (gv1 f t 2 9 its g, []) := fun y => by
  unfold GV.got
  simp
 by_cases h1 : x.f ≠ 2 ∨ x.i ≠ 9
 ·refine ⟨by rw [e1, if_pos h1], ?_, fun s => ?_⟩
  ·unfold GV.over
   exact if_pos h1
  ·unfold GV.did
   exact if_pos h1
 ·have h2 : x.f = 2 ∧ x.i = 9 := by omega
  have h3 : ¬ x.k = 11 := fun z => h ⟨h2.1, h2.2, z⟩
  have e2 : (gv1 f t 2 9 its g).got x = (gv1 f t 2 9 its g, []) := by rw [e1, if_neg h1, if_neg (fun z => h3 z.1), if_neg (fun z => h3 z.1)]
  refine ⟨e2, ?_, fun s => ?_⟩
  ·rw [GV.over_eq h2.1 h2.2, e2]
   rfl
  ·unfold GV.did
   rw [if_neg h1, if_neg (fun z => h3 z.2.1), if_neg (fun z => by cases z.1)]
theorem yaa6 (L : ybg VD) (G : yc6 VD VV) (A0 : Option Addr) (c0 n : Nat) (zs : List Item) (f t : Nat) (xl : LV) (S1 S2 : Value) (W : World) (hA : ∃ b off, ∀ i (h : i < zs.length), A0 = some ⟨b, off, none⟩ ∧ b < W.heap.size ∧ W.cell? ⟨b, off + i * 2, none⟩ = some (.string (zs[i]).1) ∧ W.cell? ⟨b, off + i * 2 + 1, none⟩ = some (.string (zs[i]).2)) (hn : zs.length = n)
  (hf : f < 18446744073709551616) (ht : t < 18446744073709551616) (hS1 : SlAt W S1 xl.ti) (hS2 : SlAt W S2 xl.li) :
  Calls Tryz.prog 7 #[.slice A0 n c0, .agg #[.int .u64 (f : Nat), .int .u64 (t : Nat)], .agg (xl.cells S1 S2)] W fun e w' => e = .returned (.bool true) ∧ Below W.heap.size W w' := by
 have CA := Lib.hid (yme L G)
 obtain ⟨A2, k2, rfl, hm1, hm2, -⟩ := hS2
 obtain ⟨A1, k1, rfl, -⟩ := hS1
 obtain ⟨m, hm⟩ : ∃ m, xl.li.length = m := ⟨_, rfl⟩
 rw [hm] at hm1 ⊢
 obtain ⟨ka, hka⟩ : ∃ k, xl.ti.length = k := ⟨_, rfl⟩
 rw [hka]
 obtain ⟨V1, hV1⟩ : ∃ V, W.alloc (.cells #[.int .u64 (f : Nat), .int .u64 (t : Nat)] 25) = V := ⟨_, rfl⟩
 obtain ⟨V, hV⟩ : ∃ V, V1.alloc (.cells (xl.cells (.slice A1 ka k1) (.slice A2 m k2)) 49) = V := ⟨_, rfl⟩
 have hz1 : V1.heap.size = W.heap.size + 1 := by rw [← hV1]; simp
 have HB1 : Hid (Below W.heap.size W V1) := by rw [← hV1]; exact (Below.refl _ _).alloc (Nat.le_refl _) _
 have HB2 : Below V1.heap.size V1 V := by rw [← hV]; exact (Below.refl _ _).alloc (Nat.le_refl _) _
 have HBV : Hid (Below W.heap.size W V) := acc HB1.out HB2
 have hAB : yb0 V W.heap.size f t := by
  have z := yfm W f t
  rw [hV1] at z
  exact z.below HB2
 have hXB : V.heap[W.heap.size + 1]? = some (.cells (xl.cells (.slice A1 ka k1) (.slice A2 m k2)) 49) := by rw [← hz1, ← hV]; exact heap_alloc_new V1 _
 have HSA : Hid (∀ w, Below V.heap.size V w → yb0 w W.heap.size f t) := fun w hw => hAB.below hw
 have HSX : Hid (∀ w, Below V.heap.size V w → w.heap[W.heap.size + 1]? = some (.cells (xl.cells (.slice A1 ka k1) (.slice A2 m k2)) 49)) := fun w hw => (hw.block _ (yjm hXB)).trans hXB
 have x0 : V.cell? ⟨W.heap.size + 1, 0, none⟩ = some (.int .i64 xl.k) := ya4 hXB rfl
 have x1 : V.cell? ⟨W.heap.size + 1, 1, none⟩ = some (.int .i64 xl.f) := ya4 hXB rfl
 have x3 : V.cell? ⟨W.heap.size + 1, 3, none⟩ = some (.int .i64 xl.i) := ya4 hXB rfl
 have x18 : V.cell? ⟨W.heap.size + 1, 18, none⟩ = some (.slice A2 m k2) := ya4 hXB rfl
 have hAI : ∃ b off, ∀ i (h : i < zs.length), A0 = some ⟨b, off, none⟩ ∧ b < V.heap.size ∧ V.cell? ⟨b, off + i * 2, none⟩ = some (.string (zs[i]).1) ∧ V.cell? ⟨b, off + i * 2 + 1, none⟩ = some (.string (zs[i]).2) := by
  obtain ⟨b, off, h⟩ := hA
  refine ⟨b, off, fun i hi => ?_⟩
  obtain ⟨h1, h2, h3, h4⟩ := h i hi
  exact ⟨h1, Nat.lt_of_lt_of_le h2 HBV.out.size, (HBV.out.cell (p := ⟨b, off + i * 2, none⟩) h2).trans h3, (HBV.out.cell (p := ⟨b, off + i * 2 + 1, none⟩) h2).trans h4⟩
 have w1 : Wide 1 := ⟨by decide, by decide⟩
 have w2 : Wide 2 := ⟨by decide, by decide⟩
 have w9 : Wide 9 := ⟨by decide, by decide⟩
 have hszl : (Tryz.prog.info? 49).map (·.size) = some (xl.cells (.slice A1 ka k1) (.slice A2 m k2)).size := by kernel_rfl
 have HV1 := Lib.hid hV1
 have hV2 := hV
 simp only [LV.cells] at hV2
 have HV := Lib.hid hV2
 clear hA hV hV2 hV1 hXB hAB HB1 HB2 hz1 hm hka
 by_cases q0 : 40 < n
 ·have d0 : decide (40 < (n : Int)) = true := decide_eq_true (by omega)
  go_enter Tryz.func7, Tryz.ntmps7
  go_upto_region 1 with fail
  rw [HV1.out, HV.out]
  go_wp2_with (go_at_call 8; (with_reducible refine (CA.out _).mono ?_); rintro e w1 ⟨rfl, h1⟩)
  go_ret
  exact ⟨rfl, acc HBV.out h1⟩
 have d0 : decide (40 < (n : Int)) = false := decide_eq_false (by omega)
 by_cases q1 : 40 < m
 ·have d1 : decide (40 < (m : Int)) = true := decide_eq_true (by omega)
  go_enter Tryz.func7, Tryz.ntmps7
  go_upto_region 1 with fail
  rw [HV1.out, HV.out]
  go_wp2_with (go_at_call 8; (with_reducible refine (CA.out _).mono ?_); rintro e w1 ⟨rfl, h1⟩)
  go_ret
  exact ⟨rfl, acc HBV.out h1⟩
 have d1 : decide (40 < (m : Int)) = false := decide_eq_false (by omega)
 by_cases q2 : xl.f = 2 ∧ xl.i = 9 ∧ xl.k = 11
 ·have d2 : (xl.f == 2) = true := beq_iff_eq.2 q2.1
  have d3 : (xl.i == 9) = true := beq_iff_eq.2 q2.2.1
  have d4 : (xl.k == 11) = true := beq_iff_eq.2 q2.2.2
  clear q2
  go_enter Tryz.func7, Tryz.ntmps7
  go_upto_region 1 with fail
  rw [HV1.out, HV.out]
  go_wp2_with (go_at_call 8; (with_reducible refine (CA.out _).mono ?_); rintro e w1 ⟨rfl, h1⟩)
  go_ret
  exact ⟨rfl, acc HBV.out h1⟩
 have C0 : Hid (∀ w, Below V.heap.size V w → Calls Tryz.prog 9 #[.int .i64 1, .agg #[.int .u64 0, .int .u64 0], .int .i64 0, .slice A0 n c0] w fun e w' => ∃ g r its, e = .returned (.tuple #[.pointer (some ⟨g, 0, none⟩), .pointer (some ⟨r, 0, none⟩)]) ∧ LX VD V w' [] g (LoI 1 0 0 0 its) r (LoI 1 0 0 0 its)) := fun w hw => by
  refine (yjv L 1 0 0 0 A0 c0 n zs w ?_ hn w1 ⟨by decide, by decide⟩ (by decide) (by decide)).mono ?_
  ·obtain ⟨b, off, h⟩ := hAI
   refine ⟨b, off, fun i hi => ?_⟩
   obtain ⟨h1, h2, h3, h4⟩ := h i hi
   exact ⟨h1, Nat.lt_of_lt_of_le h2 hw.size, (hw.cell (p := ⟨b, off + i * 2, none⟩) h2).trans h3, (hw.cell (p := ⟨b, off + i * 2 + 1, none⟩) h2).trans h4⟩
  ·rintro e w' ⟨g, r, its, rfl, h, -, -⟩
   exact ⟨g, r, its, rfl, h.rebase hw⟩
 have C1 : Hid (∀ w g r its, LX VD V w [] g (LoI 1 0 0 0 its) r (LoI 1 0 0 0 its) → Calls Tryz.prog 10 #[.pointer (some ⟨g, 0, none⟩), .agg #[.int .u64 (f : Nat), .int .u64 (t : Nat)], .int .i64 1, .int .i64 2, .int .i64 9] w fun e w' =>
   ∃ p q c, e = .returned (.tuple #[.pointer (some ⟨p, 0, none⟩), .slice (some ⟨q, 0, none⟩) 1 c, .int .i64 0]) ∧ HX VD VV V w' [] g ((LoI 1 0 0 0 its).froze f t) r (LoI 1 0 0 0 its) p (gv1 f t 2 9 its g)) := fun w g r its h => by
  refine (ymd G h f t 2 9 hf ht w2 w9 (by decide)).mono ?_
  rintro e w' ⟨p, q, c, a, b, M, rfl, -, -, -, -, -, hx, -⟩
  exact ⟨p, q, c, rfl, hx.less (by simp)⟩
 have C2 : Hid (∀ w g r its p, HX VD VV V w [] g ((LoI 1 0 0 0 its).froze f t) r (LoI 1 0 0 0 its) p (gv1 f t 2 9 its g) → Calls Tryz.prog 14 #[.pointer (some ⟨p, 0, none⟩), .agg (xl.cells (.slice A1 ka k1) (.slice A2 m k2))] w fun e w' =>
   ∃ A c, e = .returned (.tuple #[.slice A 0 c, .bool false]) ∧ HX VD VV V w' [] g ((LoI 1 0 0 0 its).froze f t) r (LoI 1 0 0 0 its) p (gv1 f t 2 9 its g)) := fun w g r its p h => by
  obtain ⟨g1, g2, g3⟩ := yaa5 (f := f) (t := t) (g := g) (its := its) q2
  have z := h.got G xl (.slice A1 ka k1) (.slice A2 m k2) rfl (fun z => by cases z) (by have := LoI.k 1 0 0 0 its; show (LoI 1 0 0 0 its).k ≤ 1000; omega) (by show (LoI 1 0 0 0 its).g.l.length ≤ 1000; rw [LoI.g]; decide) (by show 0 ≤ 1000; decide)
  rw [g1, g2, g3] at z
  refine z.mono ?_
  rintro e w' ⟨S, M, rfl, hM, hx, -⟩
  obtain ⟨A, c, rfl⟩ := hM.empty
  exact ⟨A, c, rfl, hx.less (by simp)⟩
 have hq : ((xl.f == 2) = false) ∨ ((xl.f == 2) = true ∧ (xl.i == 9) = false) ∨ ((xl.f == 2) = true ∧ (xl.i == 9) = true ∧ (xl.k == 11) = false) := by
  by_cases h1 : xl.f = 2
  ·by_cases h2 : xl.i = 9
   ·exact .inr (.inr ⟨beq_iff_eq.2 h1, beq_iff_eq.2 h2, beq_eq_false_iff_ne.2 (fun h3 => q2 ⟨h1, h2, h3⟩)⟩)
   ·exact .inr (.inl ⟨beq_iff_eq.2 h1, beq_eq_false_iff_ne.2 h2⟩)
  ·exact .inl (beq_eq_false_iff_ne.2 h1)
 have HSX0 := HSX.out
 clear q2 hAI hn
 go_enter Tryz.func7, Tryz.ntmps7
 go_upto_region 1 with fail
 rw [HV1.out, HV.out]
 clear HV HV1
 go_cut [41] (fun s41 wx => s41 = .bool false ∧ Hid (Below V.heap.size V wx))
 case first =>
  rcases hq with d2 | ⟨d2, d3⟩ | ⟨d2, d3, d4⟩
  all_goals
   go_wp2_with (go_at_call 8; (with_reducible refine (CA.out _).mono ?_); rintro e w1 ⟨rfl, h1⟩; have H1 := Lib.hid h1; clear h1)
   go_meet
   exact ⟨rfl, H1⟩
 case rest =>
  obtain ⟨rfl, H1⟩ := hcut
  obtain ⟨w1, rfl⟩ : ∃ w1 : World, w1 = wc := ⟨_, rfl⟩
  clear hq d0 d1 x0 x1 x3 x18 CA
  go_upto_region 10 with (first
   | (go_at_call 9; (with_reducible refine (C0.out _ H1.out).mono ?_); rintro e w2 ⟨g, r, its, rfl, x2⟩; have X2 := Lib.hid x2; clear x2; obtain ⟨a0, a1⟩ := HSA.out _ X2.out.base)
   | (go_at_call 10; (with_reducible refine (C1.out _ _ _ _ X2.out).mono ?_); rintro e w3 ⟨p, q3, c3, rfl, x3⟩; have X3 := Lib.hid x3; clear x3 a0 a1)
   | (refine wpList_load_row rfl 49 (.tmp 5) rfl (W.heap.size + 1) rfl 49 (xl.cells (.slice A1 ka k1) (.slice A2 m k2)) (0, 0) _ (HSX.out _ X3.out.base) Tryz.underlying49 rfl hszl ?_)
   | (go_at_call 14; (with_reducible refine (C2.out _ _ _ _ _ X3.out).mono ?_); rintro e w4 ⟨A4, c4, rfl, x4⟩; have X4 := Lib.hid x4; clear x4))
  obtain ⟨rs, Ar, cr, hr0, hrs, e4, e1, hrow⟩ := X4.out.both.refItems
  have HROW := Lib.hid hrow
  have HSS : Hid (∀ w', Below w4.heap.size w4 w' → Below w4.heap.size w4 w' ∧ (w'.cell? ⟨r, 4, none⟩ = some (.pointer (some ⟨rs, 0, none⟩)) ∧ w'.cell? ⟨rs, 1, none⟩ = some (.slice Ar its.length cr) ∧ w'.cell? ⟨W.heap.size, 0, none⟩ = some (.int .u64 (f : Nat)))) := fun w' h =>
   ⟨h, (h.cell (p := ⟨r, 4, none⟩) hr0).trans e4, (h.cell (p := ⟨rs, 1, none⟩) hrs).trans e1, (HSA.out _ (acc X4.out.base h)).1⟩
  have C3 : Hid (∀ w', Below w4.heap.size w4 w' → Calls Tryz.prog 16 #[.pointer (some ⟨p, 0, none⟩)] w' fun e w5 => e = .returned (.int .i64 1) ∧ Below w'.heap.size w' w5) := fun w' h => (X4.out.below L G h).step G
  have C4 : Hid (∀ w', Below w4.heap.size w4 w' → Calls Tryz.prog 28 #[.pointer (some ⟨g, 0, none⟩)] w' fun e w5 => ∃ A c, e = .returned (.slice A its.length c) ∧ w5.ownsRow w'.heap.size 96 2 (.slice A its.length c) its.length (yaa its) ∧ Below w'.heap.size w' w5) := fun w' h => (X4.out.below L G h).both.code.items L
  have C5 : Hid (∀ w' A c b, Below w4.heap.size w4 w' → w'.ownsRow b 96 2 (.slice A its.length c) its.length (yaa its) → Calls Tryz.prog 26 #[.slice A its.length c, .slice Ar its.length cr] w' fun e w5 => e = .returned (.bool true) ∧ Below w'.heap.size w' w5) := fun w' A c b h ho => yaa3 A Ar c cr its.length _ _ its w' rfl ho ((Touch.ofBelow (F := []) h).row HROW.out (by simp))
  have C6 : Hid (∀ w', Below w4.heap.size w4 w' → Calls Tryz.prog 30 #[.pointer (some ⟨g, 0, none⟩), .int .u64 (f : Nat)] w' fun e w5 => e = .returned (.bool true) ∧ Below w'.heap.size w' w5) := fun w' h => by
   have z := (X4.out.below L G h).both.code.has L f hf (by have := LoI.k 1 0 0 0 its; show (LoI 1 0 0 0 its).k ≤ 1000; omega)
   rw [show ((LoI 1 0 0 0 its).froze f t).own f = some 0 from LoI.ring 1 its f] at z
   exact z
  have X4b := Lib.hid X4.out.base
  obtain ⟨ni, hni⟩ : ∃ ni, its.length = ni := ⟨_, rfl⟩
  rw [hni] at HSS C4 C5
  clear C0 C1 C2 X4 X3 X2 hrow HROW e4 e1 hr0 hrs HSX hni HSX0
  go_region_held3 (fun w' => Below w4.heap.size w4 w' ∧ (w'.cell? ⟨r, 4, none⟩ = some (.pointer (some ⟨rs, 0, none⟩)) ∧ w'.cell? ⟨rs, 1, none⟩ = some (.slice Ar ni cr) ∧ w'.cell? ⟨W.heap.size, 0, none⟩ = some (.int .u64 (f : Nat)))) ((first | exact HSS.out _ ((Below.refl _ _).drew) | exact yaa4 HSS.out (by assumption) (by assumption)))
   (first
    | (go_at_call 16; (with_reducible refine (C3.out _ (And.left (by assumption))).mono ?_); rintro e w5 ⟨rfl, h5⟩)
    | (go_at_call 28; (with_reducible refine (C4.out _ (And.left (by assumption))).mono ?_); rintro e w6 ⟨A6, c6, rfl, r6, h6⟩)
    | (go_at_call 26; (with_reducible refine (C5.out _ _ _ _ (And.left (by assumption)) r6).mono ?_); rintro e w7 ⟨rfl, h7⟩)
    | (go_at_call 30; (with_reducible refine (C6.out _ (And.left (by assumption))).mono ?_); rintro e w8 ⟨rfl, h8⟩))
  go_wp2
  go_ret
  exact ⟨rfl, acc HBV.out (acc X4b.out (And.left (by assumption)))⟩
end
end Go.Proofs.YtnjodhglbapnlaaGreat
