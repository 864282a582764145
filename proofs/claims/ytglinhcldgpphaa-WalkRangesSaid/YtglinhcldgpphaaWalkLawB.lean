/-
  The walk of WalkRanges over ShelfLaws and WalkLaws. (Written by tools/genWRan.py.)
-/
import Derived.Test.YtglinhcldgpphaaWalkLawA
namespace Go.Proofs.Ytglinhcldgpphaa
open Go.RowKit

set_option maxRecDepth 100000 in
set_option maxHeartbeats 16000000 in
theorem walkRanges_any {SH : ShP} {SQ : SqP} (L : ShelfLaws SH) (K : WalkLaws SH SQ) (A : Option Addr) (cc : Nat) (zs : List Item) (a b c : ByteArray) (W : World) (hA : ItemsAt W A zs) (hz : zs.length ≤ 9223372036854775807) (sa : a.size ≤ maxLen) (sb : b.size ≤ maxLen) (sc : c.size ≤ maxLen) :
    Calls Try.prog 6 #[.slice A zs.length cc, .string a, .string b, .string c] W fun e w' => e = .returned (.bool true) ∧ Below W.heap.size W w' := by
  have CA : Hid (∀ w, Calls Try.prog 12 #[] w fun e w' => e = .returned (.bool true) ∧ Below w.heap.size w w') := fun w => walkAlive_any L K w w (Below.refl _ _)
  obtain ⟨i0, hi0, hz0, hs0, hb0⟩ := infoItems
  obtain ⟨l, hl⟩ : ∃ l, fillL zs = l := ⟨_, rfl⟩
  have hlen : l.length ≤ 60 := by rw [← hl]; exact fillL_length zs
  have hls : ∀ x ∈ l, x.1.size ≤ 16 := by rw [← hl]; exact fillL_small zs
  have hri : Rising l := by rw [← hl]; exact (fillL_fine zs).1
  obtain ⟨n, hn⟩ : ∃ n, zs.length = n := ⟨_, rfl⟩
  have CF : Hid (∀ w, Below W.heap.size W w → Calls Try.prog 13 #[.slice A n cc] w fun e w' => ∃ gs gr, e = .returned (.tuple #[.pointer (some ⟨gs, 0, none⟩), .pointer (some ⟨gr, 0, none⟩)]) ∧ OSW SH SQ w w' gs gr l []) := fun w h => by
    have z := filledW (SQ := SQ) L A cc zs W w h hA hz hn
    rwa [hl] at z
  have HLS := Lib.hid hls
  have HRI := Lib.hid hri
  have HLE := Lib.hid hlen
  rw [hn] at hz ⊢
  unfold maxLen at sa sb sc
  clear hA hl hls hri hlen hn
  by_cases c0 : 60 < n
  · have d0 : decide ((60 : Int) < (n : Int)) = true := by simp; omega
    clear CF
    go_enter Try.func6, Try.ntmps6
    go_wp2_with (go_at_call 12; (with_reducible refine (CA.out _).mono ?_); rintro e w1 ⟨rfl, h1⟩)
    go_ret
    exact ⟨rfl, h1⟩
  have d0 : decide ((60 : Int) < (n : Int)) = false := by simp; omega
  by_cases c1 : 40 < a.size
  · have d1 : decide ((40 : Int) < (a.size : Int)) = true := by simp; omega
    clear CF
    go_enter Try.func6, Try.ntmps6
    go_wp2_with (go_at_call 12; (with_reducible refine (CA.out _).mono ?_); rintro e w1 ⟨rfl, h1⟩)
    go_ret
    exact ⟨rfl, h1⟩
  have d1 : decide ((40 : Int) < (a.size : Int)) = false := by simp; omega
  by_cases c2 : 40 < b.size
  · have d2 : decide ((40 : Int) < (b.size : Int)) = true := by simp; omega
    clear CF
    go_enter Try.func6, Try.ntmps6
    go_wp2_with (go_at_call 12; (with_reducible refine (CA.out _).mono ?_); rintro e w1 ⟨rfl, h1⟩)
    go_ret
    exact ⟨rfl, h1⟩
  have d2 : decide ((40 : Int) < (b.size : Int)) = false := by simp; omega
  by_cases c3 : 40 < c.size
  · have d3 : decide ((40 : Int) < (c.size : Int)) = true := by simp; omega
    clear CF
    go_enter Try.func6, Try.ntmps6
    go_wp2_with (go_at_call 12; (with_reducible refine (CA.out _).mono ?_); rintro e w1 ⟨rfl, h1⟩)
    go_ret
    exact ⟨rfl, h1⟩
  have d3 : decide ((40 : Int) < (c.size : Int)) = false := by simp; omega
  obtain ⟨u1, hu1⟩ : ∃ x, Op.bytesLess a.toList b.toList = x := ⟨_, rfl⟩
  obtain ⟨q1, hq1⟩ : ∃ x, (a.toList == b.toList) = x := ⟨_, rfl⟩
  obtain ⟨u2, hu2⟩ : ∃ x, Op.bytesLess b.toList c.toList = x := ⟨_, rfl⟩
  obtain ⟨q2, hq2⟩ : ∃ x, (b.toList == c.toList) = x := ⟨_, rfl⟩
  obtain ⟨v1, hv1⟩ : ∃ x, (b.toList == ([] : List UInt8)) = x := ⟨_, rfl⟩
  obtain ⟨v2, hv2⟩ : ∃ x, (c.toList == ([] : List UInt8)) = x := ⟨_, rfl⟩
  by_cases bad : (u1 || q1) = false ∨ (u2 || q2) = false ∨ v1 = true ∨ v2 = true
  · clear CF
    cases u1 <;> cases q1 <;> cases u2 <;> cases q2 <;> cases v1 <;> cases v2 <;> first | (exfalso; simp at bad; done) | skip
    all_goals
      go_enter Try.func6, Try.ntmps6
      go_wp2_with (go_at_call 12; (with_reducible refine (CA.out _).mono ?_); rintro e w1 ⟨rfl, h1⟩)
      go_ret
      exact ⟨rfl, h1⟩
  have good : (u1 || q1) = true ∧ (u2 || q2) = true ∧ v1 = false ∧ v2 = false := by
    cases u1 <;> cases q1 <;> cases u2 <;> cases q2 <;> cases v1 <;> cases v2 <;> simp at bad ⊢
  obtain ⟨g1, g2, rfl, rfl⟩ := good
  have e4 : lessB b a = false := by
    cases z : lessB b a with
    | false => rfl
    | true =>
      exfalso
      have z1 : u1 = false := hu1.symm.trans (lessB_asymm z)
      have z2 : q1 = false := by
        rw [← hq1, beq_eq_false_iff_ne]
        intro e
        rw [toList_inj e, lessB_irrefl] at z
        cases z
      rw [z1, z2] at g1
      cases g1
  have e5 : lessB c b = false := by
    cases z : lessB c b with
    | false => rfl
    | true =>
      exfalso
      have z1 : u2 = false := hu2.symm.trans (lessB_asymm z)
      have z2 : q2 = false := by
        rw [← hq2, beq_eq_false_iff_ne]
        intro e
        rw [toList_inj e, lessB_irrefl] at z
        cases z
      rw [z1, z2] at g2
      cases g2
  have ze6 : b.size ≠ 0 := fun e => by
    have z : b = ⟨#[]⟩ := ByteArray.ext (Array.eq_empty_of_size_eq_zero e)
    rw [z, Lib.toList_data] at hv1
    cases hv1
  have ze7 : c.size ≠ 0 := fun e => by
    have z : c = ⟨#[]⟩ := ByteArray.ext (Array.eq_empty_of_size_eq_zero e)
    rw [z, Lib.toList_data] at hv2
    cases hv2
  have sa : a.size ≤ maxLen := by unfold maxLen; omega
  have sb : b.size ≤ maxLen := by unfold maxLen; omega
  have sc : c.size ≤ maxLen := by unfold maxLen; omega
  have few : ∀ f t, (rangeL l f t).length ≤ 60 := fun f t => Nat.le_trans (List.length_filter_le _ _) HLE.out
  have tk : ∀ f t, (wayL (.range f t) l).take (Int.toNat 99) = rangeL l f t := fun f t => List.take_of_length_le (by have := few f t; show (rangeL l f t).length ≤ 99; omega)
  obtain ⟨lx, hlx⟩ : ∃ x, rangeL l a b = x := ⟨_, rfl⟩
  obtain ⟨ly, hly⟩ : ∃ x, rangeL l b c = x := ⟨_, rfl⟩
  obtain ⟨lz, hlz⟩ : ∃ x, rangeL l a c = x := ⟨_, rfl⟩
  have hsum : lx ++ ly = lz := by rw [← hlx, ← hly, ← hlz]; exact rangeL_cut HRI.out e4 e5 ze6 ze7
  have EX : Hid ((wayL (.range a b) l).take (Int.toNat 99) = lx) := (tk a b).trans hlx
  have EY : Hid ((wayL (.range b c) l).take (Int.toNat 99) = ly) := (tk b c).trans hly
  have EZ : Hid ((wayL (.range a c) l).take (Int.toNat 99) = lz) := (tk a c).trans hlz
  obtain ⟨nx, hnx⟩ : ∃ x, lx.length = x := ⟨_, rfl⟩
  obtain ⟨ny, hny⟩ : ∃ x, ly.length = x := ⟨_, rfl⟩
  obtain ⟨nz, hnz⟩ : ∃ x, lz.length = x := ⟨_, rfl⟩
  have bx : nx ≤ 60 := by rw [← hnx, ← hlx]; exact few a b
  have by_ : ny ≤ 60 := by rw [← hny, ← hly]; exact few b c
  have HNX := Lib.hid hnx
  have HNY := Lib.hid hny
  have HNZ := Lib.hid hnz
  have SA : Hid (∀ w A4 c4 Z d, w.ownsRow 0 32 2 (.slice A4 (nx + ny) c4) (nx + ny) (itemCells (lx ++ ly)) → w.ownsRow 0 32 2 (.slice Z nz d) nz (itemCells lz) → Calls Try.prog 25 #[.slice A4 (nx + ny) c4, .slice Z nz d] w fun e w' => e = .returned (.bool true) ∧ ∃ k, w' = w.drewN k) := fun w A4 c4 Z d h1 h2 => by
    have hl1 : (lx ++ ly).length = nx + ny := by rw [List.length_append, hnx, hny]
    rw [← hl1] at h1 ⊢
    rw [← hnz] at h2 ⊢
    refine (sameItems_any A4 Z c4 d (lx ++ ly) lz w h1 h2).mono ?_
    rintro e w' ⟨rfl, k⟩
    exact ⟨by rw [(sameL_iff _ _).2 hsum], k⟩
  have HBK : Hid (Op.bytesLess a.toList b.toList = true → a.size ≠ 0 → rangeL l b a = []) := fun h h0 => rangeL_back h h0
  have HLT : Hid (Op.bytesLess a.toList b.toList = u1) := hu1
  clear hlx hly hlz hnx hny hnz hsum tk few
  go_enter Try.func6, Try.ntmps6
  go_upto_region 1 with fail
  go_cut [53] (fun s53 wx => s53 = .bool false ∧ Hid (Below W.heap.size W wx))
  case first =>
    clear CF SA
    cases u1 <;> cases q1 <;> cases u2 <;> cases q2 <;> first | (exfalso; simp at g1; done) | (exfalso; simp at g2; done) | skip
    all_goals
      go_wp2_with (go_at_call 12; (with_reducible refine (CA.out _).mono ?_); rintro e w1 ⟨rfl, h1⟩)
      go_meet
      exact ⟨rfl, h1⟩
  case rest =>
    obtain ⟨rfl, HB1⟩ := hcut
    obtain ⟨wd, rfl⟩ : ∃ wd : World, wd = wc := ⟨_, rfl⟩
    clear d0 d1 d2 d3 hv1 hv2 hu2 hq2
    go_upto_region 5 with (first
    | (go_at_call 13; (with_reducible refine (CF.out _ HB1.out).mono ?_); rintro e w2 ⟨gs, gr, rfl, h2⟩; have H2 := Lib.hid h2; have B2 : Hid (Below w2.heap.size w2 w2) := Below.refl _ _; clear h2)
    | (go_at_call 27; (with_reducible refine ((H2.out.below L K B2.out).range L K a b sa sb).mono ?_); rintro e w3 ⟨fv3, rfl, h3, b3⟩; have B3 := Lib.hid (acc B2.out b3); have H3 := Lib.hid h3;  clear h3 b3)
    | (go_at_call 26; (with_reducible refine (H3.out.collect L K (fv := fv3) (k := .range a b) (by simp) HLS.out 99 (by omega) (by omega) (a := lx) EX.out).mono ?_); rintro e w4 ⟨A4, c4, rfl, z4, h4, b4⟩; have B4 := Lib.hid (acc B3.out b4); rw [HNX.out] at z4 ⊢; have HO4 := Lib.hid z4; have HX4 := Lib.hid (own_mono z4 (Nat.zero_le _));  clear z4 h4 b4)
    | (go_at_call 27; (with_reducible refine ((H2.out.below L K B4.out).range L K b c sb sc).mono ?_); rintro e w5 ⟨fv5, rfl, h5, b5⟩; have B5 := Lib.hid (acc B4.out b5); have H5 := Lib.hid h5; have HX5 := Lib.hid ((Touch.ofBelow (F := []) b5).row HX4.out (by simp)); clear h5 b5)
    | (go_at_call 26; (with_reducible refine (H5.out.collect L K (fv := fv5) (k := .range b c) (by simp) HLS.out 99 (by omega) (by omega) (a := ly) EY.out).mono ?_); rintro e w6 ⟨A6, c6, rfl, z6, h6, b6⟩; have B6 := Lib.hid (acc B5.out b6); rw [HNY.out] at z6 ⊢; have HO6 := Lib.hid z6; have HY6 := Lib.hid (own_mono z6 (Nat.zero_le _)); have HX6 := Lib.hid ((Touch.ofBelow (F := []) b6).row HX5.out (by simp)); clear z6 h6 b6)
    | (go_at_call 27; (with_reducible refine ((H2.out.below L K B6.out).range L K a c sa sc).mono ?_); rintro e w7 ⟨fv7, rfl, h7, b7⟩; have B7 := Lib.hid (acc B6.out b7); have H7 := Lib.hid h7; have HX7 := Lib.hid ((Touch.ofBelow (F := []) b7).row HX6.out (by simp)); have HY7 := Lib.hid ((Touch.ofBelow (F := []) b7).row HY6.out (by simp)); clear h7 b7)
    | (go_at_call 26; (with_reducible refine (H7.out.collect L K (fv := fv7) (k := .range a c) (by simp) HLS.out 99 (by omega) (by omega) (a := lz) EZ.out).mono ?_); rintro e w8 ⟨A8, c8, rfl, z8, h8, b8⟩; have B8 := Lib.hid (acc B7.out b8); rw [HNZ.out] at z8 ⊢; have HO8 := Lib.hid z8; have HZ8 := Lib.hid (own_mono z8 (Nat.zero_le _)); have HX8 := Lib.hid ((Touch.ofBelow (F := []) b8).row HX7.out (by simp)); have HY8 := Lib.hid ((Touch.ofBelow (F := []) b8).row HY7.out (by simp)); clear z8 h8 b8)
)
    have hxz : ∀ q, (Value.slice A4 nx c4).ownBlock = some q → q < w7.heap.size ∧ w2.heap.size ≤ q := fun q hq => ⟨(HX7.out.lt q hq).2, Nat.le_trans B3.out.size (HO4.out.lt q hq).1⟩
    have hzz : ∀ q, (Value.slice A8 nz c8).ownBlock = some q → w7.heap.size ≤ q := fun q hq => (HO8.out.lt q hq).1
    have HXZ := Lib.hid hxz
    have HZZ := Lib.hid hzz
    have STEP : Hid (∀ w9, w8.grownBy w9 (Value.slice A4 nx c4).ownBlock → w9.ownsRow 0 32 2 (.slice A8 nz c8) nz (itemCells lz) ∧ Below w2.heap.size w2 w9) := fun w9 hg => by
      have tt : Touch (Value.slice A4 nx c4).ownBlock.toList w8 w9 := (Touch.refl _ w8).grown hg (fun k hk => .inl (by simp [hk]))
      refine ⟨tt.row HZ8.out (fun q hq e => ?_), Touch.acc B8.out tt (fun k hk => (HXZ.out k (by simpa using hk)).2)⟩
      have z1 := HZZ.out q hq
      have z2 := (HXZ.out q (by simpa using e)).1
      omega
    have few2 : (rangeL l b a).length ≤ 60 := Nat.le_trans (List.length_filter_le _ _) HLE.out
    obtain ⟨lm, hlm⟩ : ∃ x, rangeL l b a = x := ⟨_, rfl⟩
    have ELM : Hid ((wayL (.range b a) l).take (Int.toNat 99) = lm) := by
      rw [← hlm]
      exact List.take_of_length_le (by show (rangeL l b a).length ≤ 99; omega)
    obtain ⟨m, hm⟩ : ∃ x, lm.length = x := ⟨_, rfl⟩
    have HNM := Lib.hid hm
    have hback : u1 = true → a.toList ≠ [] → m = 0 := fun h h0 => by
      have hs : a.size ≠ 0 := fun e => h0 (by rw [show a = ⟨#[]⟩ from ByteArray.ext (Array.eq_empty_of_size_eq_zero e), Lib.toList_data])
      rw [← hm, ← hlm, HBK.out (HLT.out.trans h) hs]
      rfl
    obtain ⟨va, hva⟩ : ∃ x, (a.toList == ([] : List UInt8)) = x := ⟨_, rfl⟩
    have hback2 : u1 = true → va = false → ((m : Int) == 0) = true := fun h h0 => by
      rw [hback h (by rw [← hva, beq_eq_false_iff_ne] at h0; exact h0)]; rfl
    obtain ⟨vm, hvm⟩ : ∃ x, ((m : Int) == 0) = x := ⟨_, rfl⟩
    rw [hvm] at hback2
    clear hback hlm hm few2 hxz hzz
    cases q1 <;> cases u1 <;> first | (exfalso; simp at g1; done) | skip
    all_goals clear g1 g2 HLT hu1
    all_goals cases va <;> cases vm <;> first | (exfalso; have := hback2 rfl rfl; simp at this; done) | skip
    all_goals clear hback2
    all_goals
      go_wp2_with (first
        | (at_builtin; go_must (refine wpList_append_any rfl (.tmp 75) (.tmp 76) 22 rfl 0 32 i0 (.agg #[.string ⟨#[]⟩, .string ⟨#[]⟩]) 2 32 Try.underlying22 hi0 hz0 hs0 hb0 rfl (by decide) (.slice A4 nx c4) nx (itemCells lx) rfl HX8.out (.slice A6 ny c6) ny (itemCells ly) rfl (From.own HY8.out) (items_one _) (by unfold maxLen; omega) (by omega) (Nat.zero_le _) ?_); intro A9 c9 w9 ho9 hg9 hs9; have HXY := Lib.hid ho9; have HG9 := Lib.hid hg9; clear ho9 hg9 hs9)
        | (go_at_call 25; (with_reducible refine (SA.out _ _ _ _ _ (by rw [itemCells_append]; exact HXY.out) (STEP.out _ HG9.out).1).mono ?_); rintro e w10 ⟨rfl, k10, rfl⟩; have B10 : Hid (Below w2.heap.size w2 (w9.drewN k10)) := acc (STEP.out _ HG9.out).2 (((Touch.refl [] w9).drewN k10).below (Nat.le_refl _) (by simp)))
        | (go_at_call 27; (with_reducible refine ((H2.out.below L K B10.out).range L K b a sb sa).mono ?_); rintro e w11 ⟨fv11, rfl, h11, b11⟩; have B11 := Lib.hid (acc B10.out b11); have H11 := Lib.hid h11; clear h11 b11)
        | (go_at_call 26; (with_reducible refine (H11.out.collect L K (fv := fv11) (k := .range b a) (by simp) HLS.out 99 (by omega) (by omega) (a := lm) ELM.out).mono ?_); rintro e w12 ⟨A12, c12, rfl, z12, h12, b12⟩; have B12 := Lib.hid (acc B11.out b12); rw [HNM.out]; clear z12 h12 b12))
      go_ret
      first
        | exact ⟨rfl, acc HB1.out (acc H2.out.1 B12.out)⟩
        | exact ⟨rfl, acc HB1.out (acc H2.out.1 B10.out)⟩
end Go.Proofs.Ytglinhcldgpphaa
