/-
  What one loses and another one wins is there, and not here; the pointer leads to it (HoldGives). (Written by tools/genHG.py over hdgives.head.)
-/
import Derived.Test.YthgndgoljchnfaaGreatHdAlive
import Derived.Test.YthgndgoljchnfaaGreatHdPair
import Derived.Test.YthgndgoljchnfaaGreatHg31
import Derived.Test.YthgndgoljchnfaaGreatHg06
import Derived.Test.YthgndgoljchnfaaGreatHg02
import Derived.Test.YthgndgoljchnfaaGreatHg13
import Derived.Deep.RegionHeld3
namespace Go.Proofs.YthgndgoljchnfaaGreat
open Go.RowKit

/-- its states -/
def Gx (its : List Item) : HO := ⟨1, 200, 0, fun _ => some 0, its, G0, 1⟩
def GxF (its : List Item) (f t : Nat) : HO := ⟨1, 200, 0, fun _ => some 0, its, ⟨true, f, t, [], 0⟩, 1⟩
def GxL (its : List Item) (f t : Nat) : HO := (GxF its f t).lose 2
def Gy0 : HO := HO.new 2 200
def GyW (its : List Item) (f t : Nat) : HO := ⟨2, 200, 0, (Gy0.take f t 1).own, putsSI 200 [] (arcL its f t), G0, 1⟩
theorem Gx_start : (HO.new 1 200).take 0 0 0 = Gx [] := by
  have e : ((HO.new 1 200).take 0 0 0).own = fun _ => some 0 := funext fun x => HO.take_own (in_whole 0 x)
  show (⟨1, min (max 200 0) 200, 0, ((HO.new 1 200).take 0 0 0).own, [], G0, 0 + 1⟩ : HO) = _
  rw [e]
  rfl
theorem Gx_do {its : List Item} {k v : ByteArray} {t : TL} {s1 : HO} (h : Did (Gx its) ⟨2, k, v, ⟨#[]⟩, 0⟩ t s1) : ∃ its', s1 = Gx its' ∧ its'.length ≤ its.length + 1 := by
  cases hb : (Gx its).bar ⟨2, k, v, ⟨#[]⟩, 0⟩ with
  | some b => exact ⟨its, (h.bar hb).2, by omega⟩
  | none =>
    rcases h.at_ hb with ⟨z, _⟩ | ⟨_, _, z⟩ | ⟨z, _⟩ | ⟨z, _⟩
    · exact absurd z (by simp)
    · rw [z]
      split
      · exact ⟨putN its k v, rfl, by rw [putN_length]; split <;> omega⟩
      · exact ⟨its, rfl, by omega⟩
    · exact absurd z (by simp)
    · exact absurd z (by simp)
/-- what is told of a key -/
def gT (l : List Item) (k : ByteArray) : TL := if hasN l k = true then ⟨0, getI l k, [], false, ⟨#[]⟩, 0⟩ else TL.err 6
theorem gT_is (l : List Item) (k : ByteArray) : ∃ er val, gT l k = ⟨er, val, [], false, ⟨#[]⟩, 0⟩ := by
  unfold gT
  split
  · exact ⟨_, _, rfl⟩
  · exact ⟨_, _, rfl⟩
theorem gT_same {a b : List Item} {k : ByteArray} (h : hasN a k = hasN b k ∧ getI a k = getI b k) : gT a k = gT b k := by
  unfold gT
  rw [h.1, h.2]
theorem Gx_get {its : List Item} {k : ByteArray} {t : TL} {s1 : HO} (h : Did (Gx its) ⟨1, k, ⟨#[]⟩, ⟨#[]⟩, 0⟩ t s1) (h3 : k.size ≠ 0) (h4 : k.size ≤ 16) : t = gT its k ∧ s1 = Gx its := h.get h3 h4 (e := 0) rfl rfl
section
variable {its : List Item} {f t0 : Nat} {k : ByteArray} {t : TL} {s1 : HO}
theorem GxL_in (h : Did (GxL its f t0) ⟨1, k, ⟨#[]⟩, ⟨#[]⟩, 0⟩ t s1) (h3 : k.size ≠ 0) (h4 : k.size ≤ 16) (hi : inB f t0 (addrN k) = true) : t = ⟨8, ⟨#[]⟩, [], false, ⟨#[]⟩, 2⟩ ∧ s1 = GxL its f t0 := by
  have z := h.else_ (by decide) (by decide) h3 h4 (lose_in (s := GxF its f t0) hi)
  have e : overL (GxL its f t0).g.l (addrN k) = some 2 := (overL_snoc [] ⟨f, t0, 2, 0⟩ (addrN k)).trans (if_pos hi)
  have z : t = ⟨8, ⟨#[]⟩, [], false, ⟨#[]⟩, (overL (GxL its f t0).g.l (addrN k)).getD (-1)⟩ ∧ s1 = GxL its f t0 := z
  rw [e] at z
  exact z
theorem GxL_out (hr : Rising its) (h : Did (GxL its f t0) ⟨1, k, ⟨#[]⟩, ⟨#[]⟩, 0⟩ t s1) (h3 : k.size ≠ 0) (h4 : k.size ≤ 16) (hi : inB f t0 (addrN k) = false) : t = gT its k ∧ s1 = GxL its f t0 := by
  have z := h.get h3 h4 (e := 0) (by
    show (GxL its f t0).own (addrN k) = _
    rw [show (GxL its f t0).own (addrN k) = (GxF its f t0).own (addrN k) from lose_out (s := GxF its f t0) hi]
    rfl) rfl
  have e : gT (leftI its f t0) k = gT its k := gT_same (Hd.left_at hr hi)
  refine ⟨?_, z.2⟩
  rw [← e]
  exact z.1
theorem GyW_in (hr : Rising its) (hg : ∀ x ∈ its, rightN x.1 = 0 ∧ valueN x.2 = 0) (hl : (arcL its f t0).length ≤ 200) (h : Did (GyW its f t0) ⟨1, k, ⟨#[]⟩, ⟨#[]⟩, 0⟩ t s1) (h3 : k.size ≠ 0) (h4 : k.size ≤ 16) (hi : inB f t0 (addrN k) = true) : t = gT its k ∧ s1 = GyW its f t0 := by
  have z := h.get h3 h4 (e := 1) (HO.take_own (s := Gy0) hi) rfl
  obtain ⟨z1, z2⟩ := (Hd.puts_fresh hr hg f t0 (most := 200) (by decide)).2 (by omega)
  have e : gT (putsSI 200 [] (arcL its f t0)) k = gT its k := gT_same (Hd.won_at hr z1 z2 hi)
  refine ⟨?_, z.2⟩
  rw [← e]
  exact z.1
theorem GyW_out (h : Did (GyW its f t0) ⟨1, k, ⟨#[]⟩, ⟨#[]⟩, 0⟩ t s1) (h3 : k.size ≠ 0) (h4 : k.size ≤ 16) (hi : inB f t0 (addrN k) = false) : t = ⟨8, ⟨#[]⟩, [], false, ⟨#[]⟩, -1⟩ ∧ s1 = GyW its f t0 :=
  h.else_ (by decide) (by decide) h3 h4 (HO.take_not (s := Gy0) hi)
theorem Gy_puts (hr : Rising its) (hg : ∀ x ∈ its, rightN x.1 = 0 ∧ valueN x.2 = 0) (hl : (arcL its f t0).length ≤ 200) : putsEI 200 [] (arcL its f t0) = 0 := by
  rw [(Hd.puts_fresh hr hg f t0 (most := 200) (by decide)).1, if_pos (by omega)]
end
theorem GyW_is (its : List Item) (f t o : Nat) : (⟨Gy0.nd, Gy0.most, Gy0.kept - o, (Gy0.take f t 1).own, putsSI Gy0.most Gy0.its (arcL its f t), Gy0.g, Gy0.k + 1⟩ : HO) = GyW its f t := by
  have e : Gy0.kept - o = 0 := Nat.zero_sub o
  rw [e]
  rfl
theorem pair_new0 (w : World) (a b : Value) (T : TypeId) : (w.alloc (.cells #[a, b] T)).cell? ⟨w.heap.size, 0, none⟩ = some a := by go_simp
theorem pair_new1 (w : World) (a b : Value) (T : TypeId) : (w.alloc (.cells #[a, b] T)).cell? ⟨w.heap.size, 1, none⟩ = some b := by go_simp
section
variable {VD : World → Nat → HO → List Nat → Prop}
set_option maxRecDepth 20000 in
set_option maxHeartbeats 8000000 in
theorem holdGives_any (L : HoldLaws VD) (A0 : Option Addr) (c0 n : Nat) (zs : List Item) (f t : Nat) (k : ByteArray) (W : World) (hA : ∃ b off, ∀ i (h : i < zs.length), A0 = some ⟨b, off, none⟩ ∧ b < W.heap.size ∧ W.cell? ⟨b, off + i * 2, none⟩ = some (.string (zs[i]).1) ∧ W.cell? ⟨b, off + i * 2 + 1, none⟩ = some (.string (zs[i]).2)) (hn : zs.length = n)
    (hf : f < 18446744073709551616) (ht : t < 18446744073709551616) (hkm : k.size ≤ maxLen) :
    Calls Tryz.prog 6 #[.slice A0 n c0, .agg #[.int .u64 (f : Nat), .int .u64 (t : Nat)], .string k] W fun e w' => e = .returned (.bool true) ∧ Below W.heap.size W w' := by
  have CA := Lib.hid (holdAlive_any L)
  obtain ⟨V, hV⟩ : ∃ V, W.alloc (.cells #[.int .u64 (f : Nat), .int .u64 (t : Nat)] 25) = V := ⟨_, rfl⟩
  have HBV : Hid (Below W.heap.size W V) := by rw [← hV]; exact (Below.refl _ _).alloc (Nat.le_refl _) _
  have HSS : Hid (∀ w, Below V.heap.size V w → w.cell? ⟨W.heap.size, 0, none⟩ = some (.int .u64 (f : Nat)) ∧ w.cell? ⟨W.heap.size, 1, none⟩ = some (.int .u64 (t : Nat))) := fun w hw => by
    have hlt : W.heap.size < V.heap.size := by rw [← hV]; simp
    have g0 : V.cell? ⟨W.heap.size, 0, none⟩ = some (.int .u64 (f : Nat)) := by rw [← hV]; exact pair_new0 _ _ _ _
    have g1 : V.cell? ⟨W.heap.size, 1, none⟩ = some (.int .u64 (t : Nat)) := by rw [← hV]; exact pair_new1 _ _ _ _
    exact ⟨(hw.cell (p := ⟨W.heap.size, 0, none⟩) hlt).trans g0, (hw.cell (p := ⟨W.heap.size, 1, none⟩) hlt).trans g1⟩
  have HAI : Hid (∃ b off, ∀ w, Below V.heap.size V w → ∀ i (h : i < zs.length), A0 = some ⟨b, off, none⟩ ∧ w.cell? ⟨b, off + i * 2, none⟩ = some (.string (zs[i]).1) ∧ w.cell? ⟨b, off + i * 2 + 1, none⟩ = some (.string (zs[i]).2)) := by
    obtain ⟨b, off, h⟩ := hA
    refine ⟨b, off, fun w hw i hi => ?_⟩
    obtain ⟨h1, h2, h3, h4⟩ := h i hi
    have hB := acc HBV.out hw
    exact ⟨h1, (hB.cell (p := ⟨b, off + i * 2, none⟩) h2).trans h3, (hB.cell (p := ⟨b, off + i * 2 + 1, none⟩) h2).trans h4⟩
  have HV := Lib.hid hV
  have HN := Lib.hid hn
  clear hA hV hn
  by_cases q0 : 40 < n
  · have d0 : decide (40 < (n : Int)) = true := decide_eq_true (by omega)
    go_enter Tryz.func6, Tryz.ntmps6
    go_upto_region 1 with fail
    rw [HV.out]
    go_wp2_with (go_at_call 11; (with_reducible refine (CA.out _).mono ?_); rintro e w1 ⟨rfl, h1⟩)
    go_ret
    exact ⟨rfl, acc HBV.out h1⟩
  have d0 : decide (40 < (n : Int)) = false := decide_eq_false (by omega)
  by_cases q1 : k.size < 1
  · have d1 : decide ((k.size : Int) < 1) = true := decide_eq_true (by omega)
    go_enter Tryz.func6, Tryz.ntmps6
    go_upto_region 1 with fail
    rw [HV.out]
    go_wp2_with (go_at_call 11; (with_reducible refine (CA.out _).mono ?_); rintro e w1 ⟨rfl, h1⟩)
    go_ret
    exact ⟨rfl, acc HBV.out h1⟩
  have d1 : decide ((k.size : Int) < 1) = false := decide_eq_false (by omega)
  by_cases q2 : 16 < k.size
  · have d2 : decide (16 < (k.size : Int)) = true := decide_eq_true (by omega)
    go_enter Tryz.func6, Tryz.ntmps6
    go_upto_region 1 with fail
    rw [HV.out]
    go_wp2_with (go_at_call 11; (with_reducible refine (CA.out _).mono ?_); rintro e w1 ⟨rfl, h1⟩)
    go_ret
    exact ⟨rfl, acc HBV.out h1⟩
  have d2 : decide (16 < (k.size : Int)) = false := decide_eq_false (by omega)
  have h3 : k.size ≠ 0 := by omega
  have h4 : k.size ≤ 16 := by omega
  have C0 : Hid (∀ w, Below V.heap.size V w → Calls Tryz.prog 12 #[.int .i64 1, .int .i64 200] w fun e w' => ∃ g, e = .returned (.pointer (some ⟨g, 0, none⟩)) ∧ DX VD V w' [] g (HO.new 1 200)) := fun w hw => by
    refine (DX.new (P := []) L 1 200 hw (by simp) ⟨by decide, by decide⟩ ⟨by decide, by decide⟩).mono ?_
    rintro e w' ⟨g, rfl, h, -⟩
    exact ⟨g, rfl, h⟩
  have CN : Hid (∀ w gx, DX VD V w [] gx (HO.new 1 200) → Calls Tryz.prog 12 #[.int .i64 2, .int .i64 200] w fun e w' => ∃ gy, e = .returned (.pointer (some ⟨gy, 0, none⟩)) ∧ DX2 VD V w' [] gx (HO.new 1 200) gy Gy0) := fun w gx h => DX2.new L h 2 200 ⟨by decide, by decide⟩ ⟨by decide, by decide⟩
  have C1 : Hid (∀ w gx gy, DX2 VD V w [] gx (HO.new 1 200) gy Gy0 → Calls Tryz.prog 13 #[.pointer (some ⟨gx, 0, none⟩), .agg #[.int .u64 0, .int .u64 0], .int .i64 0] w fun e w' => e = .returned (.bool true) ∧ DX2 VD V w' [] gx (Gx []) gy Gy0) := fun w gx gy h => by
    refine (h.own L 0 0 0 (by decide) (by decide) ⟨by decide, by decide⟩ (by decide) (HO.may_new (by decide))).mono ?_
    rintro e w' ⟨rfl, h1⟩
    rw [Gx_start] at h1
    exact ⟨rfl, h1⟩
  have CD : Hid (∀ w gx gy its x y, x.size ≤ 40 → y.size ≤ 40 → DX2 VD V w [] gx (Gx its) gy Gy0 → Calls Tryz.prog 14 #[.pointer (some ⟨gx, 0, none⟩), .agg #[.int .i64 2, .string x, .string y, .string ⟨#[]⟩, .int .i64 0]] w fun e w' => ∃ r its', e = .returned r ∧ its'.length ≤ its.length + 1 ∧ DX2 VD V w' [] gx (Gx its') gy Gy0) := fun w gx gy its x y hx hy h => by
    refine (h.do_ L ⟨2, x, y, ⟨#[]⟩, 0⟩ ⟨⟨by simp, by simp⟩, by show x.size ≤ maxLen; unfold maxLen; omega, by show y.size ≤ maxLen; unfold maxLen; omega, Nat.zero_le _, ⟨by simp, by simp⟩⟩ (by show 1 ≤ 1000; decide) (by show 0 ≤ 1000; decide)).mono ?_
    rintro e w' ⟨t, s1, S, hd, rfl, ho, hx, -⟩
    obtain ⟨its', rfl, hl⟩ := Gx_do hd
    exact ⟨_, its', rfl, hl, hx⟩
  go_enter Tryz.func6, Tryz.ntmps6
  go_upto_region 1 with fail
  rw [HV.out]
  clear HV
  go_wp2_with (first
    | (go_at_call 11; (with_reducible refine (CA.out _).mono ?_); rintro e w1 ⟨rfl, h1⟩; have H1 := Lib.hid h1; clear h1)
    | (go_at_call 12; (with_reducible refine (CN.out _ _ X2.out).mono ?_); rintro e w3 ⟨gy, rfl, x3⟩; have X3 := Lib.hid x3; clear x3)
    | (go_at_call 12; (with_reducible refine (C0.out _ H1.out).mono ?_); rintro e w2 ⟨gx, rfl, x2⟩; have X2 := Lib.hid x2; clear x2)
    | (go_at_call 13; (with_reducible refine (C1.out _ _ _ X3.out).mono ?_); rintro e w4 ⟨rfl, x4⟩; have X4 := Lib.hid x4; clear x4))
  clear CA C0 C1 CN
  go_loopg [10, 51] (n + 1) (fun gh s10 s51 wx => ∃ (i : Nat) (its : List Item), i + gh = n + 1 ∧ i ≤ n ∧ its.length ≤ i ∧ s51 = .int .i64 (i : Nat) ∧ Hid (DX2 VD V wx [] gx (Gx its) gy Gy0))
  case atStart => exact ⟨0, [], by omega, by omega, Nat.le_refl _, rfl, X4⟩
  case round =>
    clear X4 X3 X2 H1
    obtain ⟨i, its, hig, hi, hli, rfl, HX⟩ := hrel
    by_cases hlt : i < n
    · have i1 : (i : Int) < (n : Int) := by omega
      have zi : IntKind.i64.wrap ((i : Int) + 1) = (i : Int) + 1 := by rw [IntKind.wrap_i64]; omega
      obtain ⟨b, o, ha⟩ := HAI.out
      obtain ⟨rfl, e1, e2⟩ := ha _ HX.out.base i (by rw [HN.out]; exact hlt)
      generalize zs[i]'(by rw [HN.out]; exact hlt) = x at e1 e2
      obtain ⟨xk, xv⟩ := x
      dsimp only at e1 e2
      clear ha
      have HX1 := Lib.hid (HX.out.below L ((Below.refl _ _).alloc (Nat.le_refl _) (.cells #[.string xk, .string xv] 31)))
      by_cases p1 : 40 < xk.size
      · have p2 : decide (40 < (xk.size : Int)) = true := decide_eq_true (by omega)
        go_wp2_with fail
        go_ret
        exact ⟨rfl, acc HBV.out HX1.out.base⟩
      · have p2 : decide (40 < (xk.size : Int)) = false := decide_eq_false (by omega)
        by_cases p3 : 40 < xv.size
        · have p4 : decide (40 < (xv.size : Int)) = true := decide_eq_true (by omega)
          go_wp2_with fail
          go_ret
          exact ⟨rfl, acc HBV.out HX1.out.base⟩
        · have p4 : decide (40 < (xv.size : Int)) = false := decide_eq_false (by omega)
          go_wp2_with (go_at_call 14; (with_reducible refine (CD.out _ _ _ its xk xv (by omega) (by omega) HX1.out).mono ?_); rintro e w4 ⟨r4, its4, rfl, l4, x4⟩; have X4 := Lib.hid x4; clear x4)
          go_roundg (gk - 1)
          case measure => omega
          case rel => exact ⟨i + 1, its4, by omega, by omega, by omega, by go_num, X4⟩
    · have i1 : ¬ (i : Int) < (n : Int) := by omega
      have hm40 : its.length ≤ 40 := by omega
      clear hig hi hlt CD HAI HN
      have hrg : Rising its ∧ ∀ x ∈ its, rightN x.1 = 0 ∧ valueN x.2 = 0 := by
        obtain ⟨_, ⟨F, b, _⟩, _⟩ := HX.out.fst
        exact L.rising b
      obtain ⟨hris, hgood⟩ := hrg
      have hal : (arcL its f t).length ≤ 200 := by
        have := Hd.arcL_count its f t
        omega
      obtain ⟨o, ho⟩ : ∃ o, (arcL its f t).length = o := ⟨_, rfl⟩
      obtain ⟨er, val, hgt⟩ := gT_is its k
      have hfit : AK.Fit ⟨1, k, ⟨#[]⟩, ⟨#[]⟩, 0⟩ := ⟨⟨by simp, by simp⟩, hkm, Nat.zero_le _, Nat.zero_le _, ⟨by simp, by simp⟩⟩
      have CG : Hid (∀ w, DX2 VD V w [] gx (Gx its) gy Gy0 → Calls Tryz.prog 14 #[.pointer (some ⟨gx, 0, none⟩), .agg #[.int .i64 1, .string k, .string ⟨#[]⟩, .string ⟨#[]⟩, .int .i64 0]] w fun e w' => ∃ A c, e = .returned (.agg #[.int .i64 er, .string val, .slice A 0 c, .bool false, .string ⟨#[]⟩, .int .i64 0]) ∧ DX2 VD V w' [] gx (Gx its) gy Gy0) := fun w h => by
        refine (h.do_ L ⟨1, k, ⟨#[]⟩, ⟨#[]⟩, 0⟩ hfit (by show 1 ≤ 1000; decide) (by show 0 ≤ 1000; decide)).mono ?_
        rintro e w' ⟨t0, s1, S, hd, rfl, ho, hx, hk⟩
        obtain ⟨z1, z2⟩ := Gx_get hd h3 h4
        rw [hgt] at z1
        subst z1 z2
        obtain ⟨A, b, rfl⟩ := own_slice ho
        exact ⟨A, b, rfl, hx⟩
      have CF : Hid (∀ w P, DX2 VD V w P gx (Gx its) gy Gy0 → Calls Tryz.prog 20 #[.pointer (some ⟨gx, 0, none⟩), .agg #[.int .u64 (f : Nat), .int .u64 (t : Nat)]] w fun e w' => ∃ A c, e = .returned (.tuple #[.slice A o c, .int .i64 0, .int .i64 0]) ∧ w'.ownsRow w.heap.size 31 2 (.slice A o c) o (itemCells (arcL its f t)) ∧ DX2 VD V w' ((Value.slice A o c).ownBlock.toList ++ P) gx (GxF its f t) gy Gy0 ∧ Kept P w w') := fun w P h => by
        refine (h.freeze L f t hf ht (by show 1 ≤ 1000; decide) rfl (fun x _ _ => by show some (0 : Int) ≠ none; simp)).mono ?_
        rintro e w' ⟨ep, S, rfl, hr, hg, hx, hk⟩
        obtain ⟨-, x, -, -, hx2⟩ := hg
        have e3 : (0 : Int) = ep := Option.some.inj hx2
        subst e3
        rw [show (arcL (Gx its).its f t).length = o from ho] at hr
        obtain ⟨A, c, rfl⟩ := own_slice hr
        exact ⟨A, c, rfl, hr, hx, hk⟩
      have CW : Hid (∀ w w0 P A c, DX2 VD V w P gx (GxF its f t) gy Gy0 → w.ownsRow w0 31 2 (.slice A o c) o (itemCells (arcL its f t)) → (∀ q, (Value.slice A o c).ownBlock = some q → q ∈ P) → Calls Tryz.prog 17 #[.pointer (some ⟨gy, 0, none⟩), .agg #[.int .u64 (f : Nat), .int .u64 (t : Nat)], .int .i64 1, .slice A o c] w fun e w' => e = .returned (.int .i64 0) ∧ DX2 VD V w' P gx (GxF its f t) gy (GyW its f t) ∧ Kept P w w') := fun w w0 P A c h hr hP => by
        refine ((h.swap L).win L f t 1 (.slice A o c) o (arcL its f t) hf ht ⟨by decide, by decide⟩ (by omega) (LentAt.own hr) (fun x hx => right_size (hgood x (Hd.mem_arcL hx).1)) hP (by show 0 ≤ 1000; decide) (HO.may_new (by decide)) (fun x hx => (Hd.mem_arcL hx).2) (Gy_puts hris hgood hal)).mono ?_
        rintro e w' ⟨rfl, hx, hk⟩
        rw [GyW_is] at hx
        exact ⟨rfl, hx.swap L, hk⟩
      have CL : Hid (∀ w P, DX2 VD V w P gx (GxF its f t) gy (GyW its f t) → Calls Tryz.prog 25 #[.pointer (some ⟨gx, 0, none⟩), .int .i64 2] w fun e w' => e = .returned (.int .i64 0) ∧ DX2 VD V w' P gx (GxL its f t) gy (GyW its f t) ∧ Kept P w w') := fun w P h =>
        h.lose L 2 ⟨by decide, by decide⟩ (by show 1 ≤ 1000; decide) (by show 0 ≤ 1000; decide) rfl
      have CAK : Hid (∀ w, Calls Tryz.prog 22 #[.string k] w fun e w' => e = .returned (.int .u64 (addrN k : Nat)) ∧ w = w') := fun w => refAddr_any k w hkm
      have CST : Hid (∀ w A B c d, Calls Tryz.prog 26 #[.agg #[.int .i64 er, .string val, .slice A 0 c, .bool false, .string ⟨#[]⟩, .int .i64 0], .agg #[.int .i64 er, .string val, .slice B 0 d, .bool false, .string ⟨#[]⟩, .int .i64 0]] w fun e w' => e = .returned (.bool true) ∧ Below w.heap.size w w') := fun w A B c d => told0_any er 0 val ⟨#[]⟩ false A B c d w
      clear ho
      go_upto_region 14 with (go_at_call 14; (with_reducible refine (CG.out _ HX.out).mono ?_); rintro e w5 ⟨A5, c5, rfl, x5⟩; have X5 := Lib.hid x5; clear x5)
      obtain ⟨wa, hwa⟩ : ∃ w, w5.alloc (.cells #[.int .i64 er, .string val, .slice A5 0 c5, .bool false, .string ⟨#[]⟩, .int .i64 0] 34) = w := ⟨_, rfl⟩
      have BA : Hid (Below w5.heap.size w5 wa) := by rw [← hwa]; exact (Below.refl _ _).alloc (Nat.le_refl _) _
      have hlz : w5.heap.size < wa.heap.size := by rw [← hwa]; simp
      have SW : Hid (Six wa w5.heap.size (.int .i64 er) (.string val) (.slice A5 0 c5) (.bool false) (.string ⟨#[]⟩) (.int .i64 0)) := by rw [← hwa]; exact Six.new _ _ _ _ _ _ _ _
      have XW := Lib.hid (X5.out.more L BA.out (Q := [w5.heap.size]) (fun q hq => by simp at hq; subst hq; exact ⟨Nat.le_refl _, hlz⟩))
      rw [hwa]
      obtain ⟨qw, hqw⟩ : ∃ q, w5.heap.size = q := ⟨_, rfl⟩
      rw [hqw] at SW XW ⊢
      clear hwa hqw hlz BA X5 CG HX
      cases hib : inB f t (addrN k) with
      | true =>
        have CPX : Hid (∀ w P, DX2 VD V w P gx (GxL its f t) gy (GyW its f t) → Calls Tryz.prog 14 #[.pointer (some ⟨gx, 0, none⟩), .agg #[.int .i64 1, .string k, .string ⟨#[]⟩, .string ⟨#[]⟩, .int .i64 0]] w fun e w' => ∃ A c, e = .returned (.agg #[.int .i64 8, .string ⟨#[]⟩, .slice A 0 c, .bool false, .string ⟨#[]⟩, .int .i64 2]) ∧ DX2 VD V w' P gx (GxL its f t) gy (GyW its f t) ∧ Kept P w w') := fun w P h => by
          refine (h.do_ L ⟨1, k, ⟨#[]⟩, ⟨#[]⟩, 0⟩ hfit (by show 2 ≤ 1000; decide) (by show 1 ≤ 1000; decide)).mono ?_
          rintro e w' ⟨t0, s1, S, hd, rfl, ho, hx, hk⟩
          obtain ⟨z1, z2⟩ := (GxL_in hd h3 h4 hib)
          subst z1 z2
          obtain ⟨A, b, rfl⟩ := own_slice ho
          exact ⟨A, b, rfl, hx, hk⟩
        have CQY : Hid (∀ w P, DX2 VD V w P gx (GxL its f t) gy (GyW its f t) → Calls Tryz.prog 14 #[.pointer (some ⟨gy, 0, none⟩), .agg #[.int .i64 1, .string k, .string ⟨#[]⟩, .string ⟨#[]⟩, .int .i64 0]] w fun e w' => ∃ A c, e = .returned (.agg #[.int .i64 er, .string val, .slice A 0 c, .bool false, .string ⟨#[]⟩, .int .i64 0]) ∧ DX2 VD V w' P gx (GxL its f t) gy (GyW its f t) ∧ Kept P w w') := fun w P h => by
          refine ((h.swap L).do_ L ⟨1, k, ⟨#[]⟩, ⟨#[]⟩, 0⟩ hfit (by show 1 ≤ 1000; decide) (by show 0 ≤ 1000; decide)).mono ?_
          rintro e w' ⟨t0, s1, S, hd, rfl, ho, hx, hk⟩
          obtain ⟨z1, z2⟩ := (GyW_in hris hgood hal hd h3 h4 hib)
          rw [hgt] at z1
          subst z1 z2
          obtain ⟨A, b, rfl⟩ := own_slice ho
          exact ⟨A, b, rfl, hx.swap L, hk⟩
        have CIK : Hid (∀ w, Calls Tryz.prog 21 #[.agg #[.int .u64 (f : Nat), .int .u64 (t : Nat)], .int .u64 (addrN k : Nat)] w fun e w' => e = .returned (.bool true) ∧ Below w.heap.size w w') := fun w => by
          have z := in_any f t (addrN k) w hf ht (addrN_lt _)
          rwa [hib] at z
        have CH : Hid (∀ w, DX2 VD V w [] gx (GxL its f t) gy (GyW its f t) → Calls Tryz.prog 27 #[.pointer (some ⟨gy, 0, none⟩), .int .u64 (addrN k : Nat)] w fun e w' => e = .returned (.bool true) ∧ Below w.heap.size w w') := fun w h => by
          have z := (h.swap L).fst.has L (addrN k) (addrN_lt _) (by show 1 ≤ 1000; decide)
          rwa [show (GyW its f t).own (addrN k) = some 1 from HO.take_own (s := Gy0) hib] at z
        generalize addrN k = ad at CAK CIK CH
        clear hib hris hgood hal hgt hfit
        obtain ⟨a0, a1⟩ := HSS.out _ XW.out.base
        go_upto_region 18 with (first
          | (go_at_call 20; (with_reducible refine (CF.out _ _ XW.out).mono ?_); rintro e w6 ⟨A6, c6, rfl, r6, x6, k6⟩; have X6 := Lib.hid x6; have R6 := Lib.hid r6; have S6 := Lib.hid (SW.out.kept k6 (by simp)); obtain ⟨b0, b1⟩ := HSS.out _ x6.base; clear x6 r6 k6)
          | (go_at_call 17; (with_reducible refine (CW.out _ _ _ _ _ X6.out R6.out (fun q hq => by simp [hq])).mono ?_); rintro e w7 ⟨rfl, x7, k7⟩; have X7 := Lib.hid x7; have S7 := Lib.hid (S6.out.kept k7 (by simp)); clear x7 k7)
          | (go_at_call 25; (with_reducible refine (CL.out _ _ X7.out).mono ?_); rintro e w8 ⟨rfl, x8, k8⟩; have X8 := Lib.hid x8; have S8 := Lib.hid (S7.out.kept k8 (by simp)); clear x8 k8)
          | (go_at_call 14; (with_reducible refine (CQY.out _ _ X9.out).mono ?_); rintro e w10 ⟨A10, c10, rfl, x10, k10⟩; have X10 := Lib.hid x10; have S10 := Lib.hid (S9.out.kept k10 (by simp)); clear x10 k10)
          | (go_at_call 14; (with_reducible refine (CPX.out _ _ X8.out).mono ?_); rintro e w9 ⟨A9, c9, rfl, x9, k9⟩; have X9 := Lib.hid x9; have S9 := Lib.hid (S8.out.kept k9 (by simp)); clear x9 k9))
        clear CF CW CL CPX CQY S6 S7 S8 S9 X6 X7 X8 X9 R6 SW XW a0 a1 b0 b1
        obtain ⟨wp, hwp⟩ : ∃ w, w10.alloc (.cells #[.int .i64 8, .string ⟨#[]⟩, .slice A9 0 c9, .bool false, .string ⟨#[]⟩, .int .i64 2] 34) = w := ⟨_, rfl⟩
        obtain ⟨wq, hwq⟩ : ∃ w, wp.alloc (.cells #[.int .i64 er, .string val, .slice A10 0 c10, .bool false, .string ⟨#[]⟩, .int .i64 0] 34) = w := ⟨_, rfl⟩
        have BP : Hid (Below w10.heap.size w10 wp) := by rw [← hwp]; exact (Below.refl _ _).alloc (Nat.le_refl _) _
        have BQ : Hid (Below wp.heap.size wp wq) := by rw [← hwq]; exact (Below.refl _ _).alloc (Nat.le_refl _) _
        have hzz : w10.heap.size + 1 = wp.heap.size := by rw [← hwp]; simp
        have SP : Hid (Six wq w10.heap.size (.int .i64 8) (.string ⟨#[]⟩) (.slice A9 0 c9) (.bool false) (.string ⟨#[]⟩) (.int .i64 2)) := by
          have z : Six wp w10.heap.size (.int .i64 8) (.string ⟨#[]⟩) (.slice A9 0 c9) (.bool false) (.string ⟨#[]⟩) (.int .i64 2) := by rw [← hwp]; exact Six.new _ _ _ _ _ _ _ _
          exact z.below BQ.out
        have SQ : Hid (Six wq wp.heap.size (.int .i64 er) (.string val) (.slice A10 0 c10) (.bool false) (.string ⟨#[]⟩) (.int .i64 0)) := by rw [← hwq]; exact Six.new _ _ _ _ _ _ _ _
        have S11 := Lib.hid ((S10.out.below BP.out).below BQ.out)
        have X11 := Lib.hid (((X10.out.below L BP.out).below L BQ.out).less (Q := []) (by simp))
        rw [hwp, hwq]
        try rw [hzz]
        obtain ⟨qp, hqp⟩ : ∃ q, w10.heap.size = q := ⟨_, rfl⟩
        obtain ⟨qq, hqq⟩ : ∃ q, wp.heap.size = q := ⟨_, rfl⟩
        rw [hqp] at SP ⊢
        rw [hqq] at SQ ⊢
        clear hwp hwq BP BQ hzz hqp hqq S10 X10
        have B9 := Lib.hid ((Below.refl wq.heap.size wq).drew)
        have HS : Hid (∀ w', Below wq.heap.size wq w' → w'.cell? ⟨W.heap.size, 0, none⟩ = some (.int .u64 (f : Nat)) ∧ w'.cell? ⟨W.heap.size, 1, none⟩ = some (.int .u64 (t : Nat))) := fun w' hw => HSS.out _ (acc X11.out.base hw)
        go_region_held3 (fun w' => w'.cell? ⟨W.heap.size, 0, none⟩ = some (.int .u64 (f : Nat)) ∧ w'.cell? ⟨W.heap.size, 1, none⟩ = some (.int .u64 (t : Nat))) (first | exact HS.out _ B10.out | exact HS.out _ B9.out)
          (first
            | (go_at_call 22; (with_reducible refine (CAK.out _).mono ?_); rintro e w9 ⟨rfl, rfl⟩)
            | (go_at_call 21; (with_reducible refine (CIK.out _).mono ?_); rintro e w12 ⟨rfl, h12⟩; have B10 := Lib.hid (acc B9.out h12); clear h12))
        have X12 := Lib.hid (X11.out.below L B10.out)
        obtain ⟨p0, p1, p2, p3, p4, p5⟩ := SP.out.below B10.out
        obtain ⟨y0, y1, y2, y3, y4, y5⟩ := SQ.out.below B10.out
        obtain ⟨z0, z1, z2, z3, z4, z5⟩ := S11.out.below B10.out
        clear HS S11 SP SQ X11
        go_wp2_with (first
          | (go_at_call 26; (with_reducible refine (CST.out _ _ _ _ _).mono ?_); rintro e w13 ⟨rfl, h13⟩; have X13 := Lib.hid (X12.out.below L h13); clear h13)
          | (go_at_call 22; (with_reducible refine (CAK.out _).mono ?_); rintro e w14 ⟨rfl, rfl⟩)
          | (go_at_call 27; (with_reducible refine (CH.out _ X13.out).mono ?_); rintro e w15 ⟨rfl, h15⟩))
        go_ret
        exact ⟨by first | rfl | simp, acc HBV.out (acc X13.out.base h15)⟩
      | false =>
        have CPX : Hid (∀ w P, DX2 VD V w P gx (GxL its f t) gy (GyW its f t) → Calls Tryz.prog 14 #[.pointer (some ⟨gx, 0, none⟩), .agg #[.int .i64 1, .string k, .string ⟨#[]⟩, .string ⟨#[]⟩, .int .i64 0]] w fun e w' => ∃ A c, e = .returned (.agg #[.int .i64 er, .string val, .slice A 0 c, .bool false, .string ⟨#[]⟩, .int .i64 0]) ∧ DX2 VD V w' P gx (GxL its f t) gy (GyW its f t) ∧ Kept P w w') := fun w P h => by
          refine (h.do_ L ⟨1, k, ⟨#[]⟩, ⟨#[]⟩, 0⟩ hfit (by show 2 ≤ 1000; decide) (by show 1 ≤ 1000; decide)).mono ?_
          rintro e w' ⟨t0, s1, S, hd, rfl, ho, hx, hk⟩
          obtain ⟨z1, z2⟩ := (GxL_out hris hd h3 h4 hib)
          rw [hgt] at z1
          subst z1 z2
          obtain ⟨A, b, rfl⟩ := own_slice ho
          exact ⟨A, b, rfl, hx, hk⟩
        have CQY : Hid (∀ w P, DX2 VD V w P gx (GxL its f t) gy (GyW its f t) → Calls Tryz.prog 14 #[.pointer (some ⟨gy, 0, none⟩), .agg #[.int .i64 1, .string k, .string ⟨#[]⟩, .string ⟨#[]⟩, .int .i64 0]] w fun e w' => ∃ A c, e = .returned (.agg #[.int .i64 8, .string ⟨#[]⟩, .slice A 0 c, .bool false, .string ⟨#[]⟩, .int .i64 (-1)]) ∧ DX2 VD V w' P gx (GxL its f t) gy (GyW its f t) ∧ Kept P w w') := fun w P h => by
          refine ((h.swap L).do_ L ⟨1, k, ⟨#[]⟩, ⟨#[]⟩, 0⟩ hfit (by show 1 ≤ 1000; decide) (by show 0 ≤ 1000; decide)).mono ?_
          rintro e w' ⟨t0, s1, S, hd, rfl, ho, hx, hk⟩
          obtain ⟨z1, z2⟩ := (GyW_out hd h3 h4 hib)
          subst z1 z2
          obtain ⟨A, b, rfl⟩ := own_slice ho
          exact ⟨A, b, rfl, hx.swap L, hk⟩
        have CIK : Hid (∀ w, Calls Tryz.prog 21 #[.agg #[.int .u64 (f : Nat), .int .u64 (t : Nat)], .int .u64 (addrN k : Nat)] w fun e w' => e = .returned (.bool false) ∧ Below w.heap.size w w') := fun w => by
          have z := in_any f t (addrN k) w hf ht (addrN_lt _)
          rwa [hib] at z
        generalize addrN k = ad at CAK CIK
        clear hib hris hgood hal hgt hfit
        obtain ⟨a0, a1⟩ := HSS.out _ XW.out.base
        go_upto_region 18 with (first
          | (go_at_call 20; (with_reducible refine (CF.out _ _ XW.out).mono ?_); rintro e w6 ⟨A6, c6, rfl, r6, x6, k6⟩; have X6 := Lib.hid x6; have R6 := Lib.hid r6; have S6 := Lib.hid (SW.out.kept k6 (by simp)); obtain ⟨b0, b1⟩ := HSS.out _ x6.base; clear x6 r6 k6)
          | (go_at_call 17; (with_reducible refine (CW.out _ _ _ _ _ X6.out R6.out (fun q hq => by simp [hq])).mono ?_); rintro e w7 ⟨rfl, x7, k7⟩; have X7 := Lib.hid x7; have S7 := Lib.hid (S6.out.kept k7 (by simp)); clear x7 k7)
          | (go_at_call 25; (with_reducible refine (CL.out _ _ X7.out).mono ?_); rintro e w8 ⟨rfl, x8, k8⟩; have X8 := Lib.hid x8; have S8 := Lib.hid (S7.out.kept k8 (by simp)); clear x8 k8)
          | (go_at_call 14; (with_reducible refine (CQY.out _ _ X9.out).mono ?_); rintro e w10 ⟨A10, c10, rfl, x10, k10⟩; have X10 := Lib.hid x10; have S10 := Lib.hid (S9.out.kept k10 (by simp)); clear x10 k10)
          | (go_at_call 14; (with_reducible refine (CPX.out _ _ X8.out).mono ?_); rintro e w9 ⟨A9, c9, rfl, x9, k9⟩; have X9 := Lib.hid x9; have S9 := Lib.hid (S8.out.kept k9 (by simp)); clear x9 k9))
        clear CF CW CL CPX CQY S6 S7 S8 S9 X6 X7 X8 X9 R6 SW XW a0 a1 b0 b1
        obtain ⟨wp, hwp⟩ : ∃ w, w10.alloc (.cells #[.int .i64 er, .string val, .slice A9 0 c9, .bool false, .string ⟨#[]⟩, .int .i64 0] 34) = w := ⟨_, rfl⟩
        obtain ⟨wq, hwq⟩ : ∃ w, wp.alloc (.cells #[.int .i64 8, .string ⟨#[]⟩, .slice A10 0 c10, .bool false, .string ⟨#[]⟩, .int .i64 (-1)] 34) = w := ⟨_, rfl⟩
        have BP : Hid (Below w10.heap.size w10 wp) := by rw [← hwp]; exact (Below.refl _ _).alloc (Nat.le_refl _) _
        have BQ : Hid (Below wp.heap.size wp wq) := by rw [← hwq]; exact (Below.refl _ _).alloc (Nat.le_refl _) _
        have hzz : w10.heap.size + 1 = wp.heap.size := by rw [← hwp]; simp
        have SP : Hid (Six wq w10.heap.size (.int .i64 er) (.string val) (.slice A9 0 c9) (.bool false) (.string ⟨#[]⟩) (.int .i64 0)) := by
          have z : Six wp w10.heap.size (.int .i64 er) (.string val) (.slice A9 0 c9) (.bool false) (.string ⟨#[]⟩) (.int .i64 0) := by rw [← hwp]; exact Six.new _ _ _ _ _ _ _ _
          exact z.below BQ.out
        have SQ : Hid (Six wq wp.heap.size (.int .i64 8) (.string ⟨#[]⟩) (.slice A10 0 c10) (.bool false) (.string ⟨#[]⟩) (.int .i64 (-1))) := by rw [← hwq]; exact Six.new _ _ _ _ _ _ _ _
        have S11 := Lib.hid ((S10.out.below BP.out).below BQ.out)
        have X11 := Lib.hid (((X10.out.below L BP.out).below L BQ.out).less (Q := []) (by simp))
        rw [hwp, hwq]
        try rw [hzz]
        obtain ⟨qp, hqp⟩ : ∃ q, w10.heap.size = q := ⟨_, rfl⟩
        obtain ⟨qq, hqq⟩ : ∃ q, wp.heap.size = q := ⟨_, rfl⟩
        rw [hqp] at SP ⊢
        rw [hqq] at SQ ⊢
        clear hwp hwq BP BQ hzz hqp hqq S10 X10
        have B9 := Lib.hid ((Below.refl wq.heap.size wq).drew)
        have HS : Hid (∀ w', Below wq.heap.size wq w' → w'.cell? ⟨W.heap.size, 0, none⟩ = some (.int .u64 (f : Nat)) ∧ w'.cell? ⟨W.heap.size, 1, none⟩ = some (.int .u64 (t : Nat))) := fun w' hw => HSS.out _ (acc X11.out.base hw)
        go_region_held3 (fun w' => w'.cell? ⟨W.heap.size, 0, none⟩ = some (.int .u64 (f : Nat)) ∧ w'.cell? ⟨W.heap.size, 1, none⟩ = some (.int .u64 (t : Nat))) (first | exact HS.out _ B10.out | exact HS.out _ B9.out)
          (first
            | (go_at_call 22; (with_reducible refine (CAK.out _).mono ?_); rintro e w9 ⟨rfl, rfl⟩)
            | (go_at_call 21; (with_reducible refine (CIK.out _).mono ?_); rintro e w12 ⟨rfl, h12⟩; have B10 := Lib.hid (acc B9.out h12); clear h12))
        have X12 := Lib.hid (X11.out.below L B10.out)
        obtain ⟨p0, p1, p2, p3, p4, p5⟩ := SP.out.below B10.out
        obtain ⟨y0, y1, y2, y3, y4, y5⟩ := SQ.out.below B10.out
        obtain ⟨z0, z1, z2, z3, z4, z5⟩ := S11.out.below B10.out
        have SQ12 := Lib.hid (SQ.out.below B10.out)
        clear HS S11 SP SQ X11
        go_wp2_with (go_at_call 26; (with_reducible refine (CST.out _ _ _ _ _).mono ?_); rintro e w13 ⟨rfl, h13⟩; have X13 := Lib.hid (X12.out.below L h13); obtain ⟨v0, v1, v2, v3, v4, v5⟩ := SQ12.out.below h13; clear h13)
        go_ret
        exact ⟨by first | rfl | simp, acc HBV.out X13.out.base⟩
end
end Go.Proofs.YthgndgoljchnfaaGreat
