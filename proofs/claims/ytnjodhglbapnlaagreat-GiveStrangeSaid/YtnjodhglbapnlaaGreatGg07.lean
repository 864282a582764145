import Derived.Test.YtnjodhglbapnlaaGreatGg06
import Derived.Test.YtnjodhglbapnlaaGreatGg02
import Derived.Deep.RegionHeld3
set_option maxRecDepth 100000
set_option maxHeartbeats 16000000
namespace Go.Proofs.YtnjodhglbapnlaaGreat
open Go.RowKit
def yea (p : Nat → Bool) (n k : Nat) : Bool := (List.range (n - k)).any fun i => p (k + i)
def yeb (p : Nat → Bool) (n k : Nat) : Bool := (List.range (n - k)).all fun i => p (k + i)
theorem yjy (p : Nat → Bool) (n : Nat) : yea p n n = false := by simp [yea]
theorem yjz (p : Nat → Bool) (n : Nat) : yeb p n n = true := by simp [yeb]
theorem yfr (p : Nat → Bool) (n k : Nat) (h : k < n) : yea p n k = (p k || yea p n (k + 1)) := by
 unfold yea
 obtain ⟨m, hm⟩ : ∃ m, n - k = m + 1 := ⟨n - k - 1, by omega⟩
 rw [hm, show n - (k + 1) = m by omega, List.range_succ_eq_map, List.any_cons, List.any_map]
 have e : ((fun i => p (k + i)) ∘ Nat.succ) = fun i => p (k + 1 + i) := by
  funext i
  show p (k + (i + 1)) = _
  rw [show k + (i + 1) = k + 1 + i by omega]
 rw [e]
 rfl
theorem ygj (p : Nat → Bool) (n k : Nat) (h : k < n) : yeb p n k = (p k && yeb p n (k + 1)) := by
 unfold yeb
 obtain ⟨m, hm⟩ : ∃ m, n - k = m + 1 := ⟨n - k - 1, by omega⟩
 rw [hm, show n - (k + 1) = m by omega, List.range_succ_eq_map, List.all_cons, List.all_map]
 have e : ((fun i => p (k + i)) ∘ Nat.succ) = fun i => p (k + 1 + i) := by
  funext i
  show p (k + (i + 1)) = _
  rw [show k + (i + 1) = k + 1 + i by omega]
 rw [e]
 rfl
theorem yr5 (p : Nat → Bool) : yea p 1 0 = p 0 := by rw [yfr _ _ _ (by omega), yjy, Bool.or_false]
theorem yr6 (p : Nat → Bool) : yea p 2 0 = (p 0 || p 1) := by rw [yfr _ _ _ (by omega), yfr _ _ _ (by omega), yjy, Bool.or_false]
theorem yr7 (p : Nat → Bool) : yeb p 1 0 = p 0 := by rw [ygj _ _ _ (by omega), yjz, Bool.and_true]
theorem yr8 (p : Nat → Bool) : yeb p 2 0 = (p 0 && p 1) := by rw [ygj _ _ _ (by omega), ygj _ _ _ (by omega), yjz, Bool.and_true]
def fitB (f t g u j k : Nat) : Bool := decide (pF f t k ≤ pF g u j) && decide (ybx (pT g u j) ≤ ybx (pT f t k))
def yb5 (f t g u j k : Nat) : Bool := yea (fitB f t g u j) (pN f t) k
def ydu (f t g u j : Nat) : Bool := yeb (fun i => yb5 f t g u i 0) (pN g u) j
theorem ymh (f t : Nat) : (oneB f t = true ∧ pN f t = 1 ∧ pF f t 0 = f ∧ pT f t 0 = t ∧ (t = 0 ∨ f < t)) ∨ (oneB f t = false ∧ pN f t = 2 ∧ pF f t 0 = f ∧ pT f t 0 = 0 ∧ pF f t 1 = 0 ∧ pT f t 1 = t ∧ t ≠ 0 ∧ t ≤ f) := by
 by_cases h : oneB f t = true
 ·refine .inl ⟨h, by simp [pN, h], by simp [pF], by simp [pT, h], ?_⟩
  simpa [oneB] using h
 ·have h : oneB f t = false := by simpa using h
  refine .inr ⟨h, by simp [pN, h], by simp [pF], by simp [pT, h], by simp [pF], by simp [pT], ?_⟩
  simpa [oneB] using h
theorem last_cases {t : Nat} (ht : t < 18446744073709551616) : (t = 0 ∧ ybx t = 18446744073709551615) ∨ (0 < t ∧ ybx t = t - 1) := by
 unfold ybx yag; omega
theorem yr9 (f t g u : Nat) (hw : (f == t) = false) (hf : f < 18446744073709551616) (ht : t < 18446744073709551616) (hg : g < 18446744073709551616) (hu : u < 18446744073709551616) : ydu f t g u 0 = ybw f t g u := by
 have hw' : f ≠ t := by simpa using hw
 have e1 := yaf hg hf
 have e2 := yaf ht hf
 have e3 := yaf hu hg
 have e4 := yaf ht hg
 have l1 := last_cases ht
 have l2 := last_cases hu
 have l3 : ybx 0 = 18446744073709551615 := by decide
 unfold ybw inB
 rw [hw]
 generalize yag g f = x1 at *
 generalize yag t f = x2 at *
 generalize yag u g = x3 at *
 generalize yag t g = x4 at *
 unfold ydu yb5
 rcases ymh f t with ⟨_, n1, q1, q2, q3⟩ | ⟨_, n1, q1, q2, q3, q4, q5, q6⟩
 all_goals rcases ymh g u with ⟨_, m1, r1, r2, r3⟩ | ⟨_, m1, r1, r2, r3, r4, r5, r6⟩
 all_goals
  rw [n1, m1]
  simp only [yr5, yr6, yr7, yr8, fitB, q1, q2, r1, r2]
  try simp only [q3, q4]
  try simp only [r3, r4]
  rw [Bool.eq_iff_iff]
  simp only [Bool.and_eq_true, Bool.or_eq_true, Bool.not_eq_true', beq_eq_false_iff_ne, decide_eq_true_eq, Bool.false_or]
  generalize ybx t = y1 at *
  generalize ybx u = y2 at *
  generalize ybx 0 = y3 at *
  clear n1 m1 q1 q2 r1 r2 hw
  constructor
  ·intro h; omega
  ·intro h; omega
theorem ysa {f t g u j k : Nat} (h : k < pN f t) (h1 : pF f t k ≤ pF g u j) (h2 : ybx (pT g u j) ≤ ybx (pT f t k)) : yb5 f t g u j k = true := by
 unfold yb5
 rw [yfr _ _ _ h]
 simp [fitB, h1, h2]
theorem ysb {f t g u j k : Nat} (h : k < pN f t) (h1 : ¬ pF f t k ≤ pF g u j) : yb5 f t g u j k = yb5 f t g u j (k + 1) := by
 unfold yb5
 rw [yfr _ _ _ h]
 simp [fitB, h1]
theorem ysc {f t g u j k : Nat} (h : k < pN f t) (h2 : ¬ ybx (pT g u j) ≤ ybx (pT f t k)) : yb5 f t g u j k = yb5 f t g u j (k + 1) := by
 unfold yb5
 rw [yfr _ _ _ h]
 simp [fitB, h2]
theorem ysd (f t g u j : Nat) : yb5 f t g u j (pN f t) = false := yjy _ _
theorem yse (f t g u : Nat) : ydu f t g u (pN g u) = true := yjz _ _
theorem ysf {f t g u j : Nat} (h : j < pN g u) (h1 : yb5 f t g u j 0 = true) : ydu f t g u j = ydu f t g u (j + 1) := by
 unfold ydu
 rw [ygj _ _ _ h, h1, Bool.true_and]
theorem ysg {f t g u j : Nat} (h : j < pN g u) (h1 : yb5 f t g u j 0 = false) : ydu f t g u j = false := by
 unfold ydu
 rw [ygj _ _ _ h, h1, Bool.false_and]
theorem ysh (w : World) (a b : Value) (T : TypeId) : (w.alloc (.cells #[a, b] T)).cell? ⟨w.heap.size, 0, none⟩ = some a := by go_simp
theorem ysi (w : World) (a b : Value) (T : TypeId) : (w.alloc (.cells #[a, b] T)).cell? ⟨w.heap.size, 1, none⟩ = some b := by go_simp
theorem ysj {wb W W1 : World} {A : World → Prop} (HS : ∀ w', Below wb.heap.size wb w' → Below wb.heap.size wb w' ∧ A w') (h : Below wb.heap.size wb W ∧ A W) (hb : Below W.heap.size W W1) : Below wb.heap.size wb W1 ∧ A W1 :=
 HS _ (h.1.trans (hb.mono h.1.size))
theorem ysk (f t g u : Nat) (w : World) (hf : f < 18446744073709551616) (ht : t < 18446744073709551616) (hg : g < 18446744073709551616) (hu : u < 18446744073709551616) :
  Calls Tryz.prog 29 #[.agg #[.int .u64 f, .int .u64 t], .agg #[.int .u64 g, .int .u64 u]] w fun e w' => e = .returned (.bool (ybw f t g u)) ∧ Below w.heap.size w w' := by
 by_cases hw0 : (f == t) = true
 ·have e : ybw f t g u = true := by simp [ybw, hw0]
  rw [e]
  have CW := Lib.hid fun W => yg9 f t W
  rw [hw0] at CW
  clear hw0 e
  go_enter Tryz.func29, Tryz.ntmps29
  go_wp2
  go_step3
  go_wp2_with (go_at_call 108; ((with_reducible refine (CW.out _).mono ?_); rintro e w1 ⟨rfl, hb1⟩))
  rw [Exit.noGoto_ret]
  go_ret
  exact ⟨rfl, (ydp w _ _).trans (hb1.mono (by simp; omega))⟩
 have hw : (f == t) = false := by simpa using hw0
 have HA := Lib.hid (yr9 f t g u hw hf ht hg hu)
 have CW := Lib.hid fun W => yg9 f t W
 rw [hw] at CW
 have hn := yhb f t
 have hm := yhb g u
 have CF := Lib.hid fun k W => yk5 (pF f t k) (pT f t k) W (by unfold pT; split <;> (try split) <;> omega)
 have CG := Lib.hid fun k W => yk5 (pF g u k) (pT g u k) W (by unfold pT; split <;> (try split) <;> omega)
 generalize ybw f t g u = ans at *
 clear hf ht hg hu hw hw0
 go_enter Tryz.func29, Tryz.ntmps29
 go_wp2
 go_step3
 go_wp2_with (go_at_call 108; ((with_reducible refine (CW.out _).mono ?_); rintro e w1 ⟨rfl, hb1⟩; obtain ⟨hc1, hf1⟩ := ycx hb1))
 go_step3
 go_wp2_with (go_at_call 109; refine (yha g u _).mono ?_; rintro e w2 ⟨g2, hg0, hg1, rfl, hcell, hb2⟩)
 have HC := Lib.hid hcell
 have HB := Lib.hid ((((ydp w (.cells #[.int .u64 (f : Nat), .int .u64 (t : Nat)] 25) (.cells #[.int .u64 (g : Nat), .int .u64 (u : Nat)] 25))).trans (hb1.mono (by simp; omega))).trans (hb2.mono (by have := hb1.size; simp at this; omega)))
 have HW := Lib.hid (hb1.trans (hb2.mono hb1.size))
 have hz2 : w.heap.size + 2 ≤ w2.heap.size := by have := HW.out.size; simpa using this
 clear hcell hc1 hf1 hb1 hb2 hg0
 generalize hmm : pN g u = m at *
 have HM := Lib.hid hmm
 clear hmm
 go_loopg [14] 3 (fun z s14 wx => ∃ (j : Nat), j + z = 3 ∧ j ≤ m ∧ s14 = .int .i64 j ∧ Hid (ydu f t g u j = ans) ∧ Below w2.heap.size w2 wx)
 case atStart => exact ⟨0, by omega, by omega, rfl, HA, Below.refl _ _⟩
 case round =>
  obtain ⟨j, hjz, hjm, rfl, HK, hbk⟩ := hrel
  obtain ⟨wo, rfl⟩ : ∃ wo : World, wo = wr := ⟨_, rfl⟩
  have hbz := hbk.size
  obtain ⟨hco, hfo⟩ := ycx (HW.out.trans (hbk.mono HW.out.size))
  have ha0 : wo.cell? ⟨w.heap.size, 0, none⟩ = some (.int .u64 (f : Nat)) := (hco w.heap.size 0 (by simp; omega)).trans (by go_simp)
  have ha1 : wo.cell? ⟨w.heap.size, 1, none⟩ = some (.int .u64 (t : Nat)) := (hco w.heap.size 1 (by simp; omega)).trans (by go_simp)
  have hzo : w.heap.size < wo.heap.size := by omega
  clear hco hfo
  by_cases hj : j < m
  ·have b0 : decide (j < m) = true := by simp; omega
   obtain ⟨h1, h2⟩ := HC.out j (by omega)
   have hd1 : wo.cell? ⟨g2, j * 2, none⟩ = some (.int .u64 (pF g u j : Nat)) := (hbk.cell (p := ⟨g2, j * 2, none⟩) hg1).trans h1
   have hd2 : wo.cell? ⟨g2, j * 2 + 1, none⟩ = some (.int .u64 (pT g u j : Nat)) := (hbk.cell (p := ⟨g2, j * 2 + 1, none⟩) hg1).trans h2
   clear h1 h2
   have HBK := Lib.hid hbk
   clear hbk
   go_wp2_with (go_at_call 109; refine (yha f t _).mono ?_; rintro e w3 ⟨g3, hg30, hg31, rfl, hcell3, hb3⟩)
   have HC3 := Lib.hid hcell3
   have HB3 := Lib.hid hb3
   clear hcell3 hg30
   have hz3 : wo.heap.size + 1 ≤ w3.heap.size := by have := hb3.size; simpa using this
   have hb3' : Below wo.heap.size wo w3 := ((Below.refl _ _).alloc (Nat.le_refl _) _).trans (hb3.mono (by simp))
   have HB3' := Lib.hid hb3'
   have hq0 : w3.cell? ⟨wo.heap.size, 0, none⟩ = some (.int .u64 (pF g u j : Nat)) := ((ycx hb3).1 wo.heap.size 0 (by simp)).trans (by go_simp)
   have hq1 : w3.cell? ⟨wo.heap.size, 1, none⟩ = some (.int .u64 (pT g u j : Nat)) := ((ycx hb3).1 wo.heap.size 1 (by simp)).trans (by go_simp)
   clear hb3 hb3' hd1 hd2 ha0 ha1
   generalize hnn : pN f t = n at *
   have HN := Lib.hid hnn
   clear hnn
   obtain ⟨go, rfl⟩ : ∃ go, go = gk := ⟨_, rfl⟩
   go_loopg [21] 3 (fun z s21 wx => ∃ (k : Nat), k + z = 3 ∧ k ≤ n ∧ s21 = .int .i64 k ∧ Hid (yb5 f t g u j k = yb5 f t g u j 0) ∧ Below w3.heap.size w3 wx)
   case atStart => exact ⟨0, by omega, by omega, rfl, rfl, Below.refl _ _⟩
   case round =>
    obtain ⟨k, hkz, hkn, rfl, HS, hbk3⟩ := hrel
    have hbz3 := hbk3.size
    by_cases hk : k < n
    ·have b1 : decide (k < n) = true := by simp; omega
     obtain ⟨h1, h2⟩ := HC3.out k (by omega)
     have hp0 : wr.cell? ⟨g3, k * 2, none⟩ = some (.int .u64 (pF f t k : Nat)) := (hbk3.cell (p := ⟨g3, k * 2, none⟩) hg31).trans h1
     have hp1 : wr.cell? ⟨g3, k * 2 + 1, none⟩ = some (.int .u64 (pT f t k : Nat)) := (hbk3.cell (p := ⟨g3, k * 2 + 1, none⟩) hg31).trans h2
     have hr0 : wr.cell? ⟨wo.heap.size, 0, none⟩ = some (.int .u64 (pF g u j : Nat)) := (hbk3.cell (p := ⟨wo.heap.size, 0, none⟩) (by show wo.heap.size < _; omega)).trans hq0
     have hr1 : wr.cell? ⟨wo.heap.size, 1, none⟩ = some (.int .u64 (pT g u j : Nat)) := (hbk3.cell (p := ⟨wo.heap.size, 1, none⟩) (by show wo.heap.size < _; omega)).trans hq1
     clear h1 h2
     have HBK3 := Lib.hid hbk3
     clear hbk3
     have hzr : wo.heap.size < wr.heap.size := by omega
     by_cases hd : pF f t k ≤ pF g u j
     ·have d1 : decide (pF f t k ≤ pF g u j) = true := by simpa using hd
      go_wp2
      generalize hwb : wr.alloc (.cells #[.int .u64 (pF f t k : Nat), .int .u64 (pT f t k : Nat)] 25) = wb
      have hbb : Below wr.heap.size wr wb := by rw [← hwb]; exact (Below.refl _ _).alloc (Nat.le_refl _) _
      have hzb : wb.heap.size = wr.heap.size + 1 := by rw [← hwb]; simp
      have gp0 : wb.cell? ⟨wr.heap.size, 0, none⟩ = some (.int .u64 (pF f t k : Nat)) := by rw [← hwb]; exact ysh _ _ _ _
      have gp1 : wb.cell? ⟨wr.heap.size, 1, none⟩ = some (.int .u64 (pT f t k : Nat)) := by rw [← hwb]; exact ysi _ _ _ _
      have gr0 : wb.cell? ⟨wo.heap.size, 0, none⟩ = some (.int .u64 (pF g u j : Nat)) := (hbb.cell (p := ⟨wo.heap.size, 0, none⟩) hzr).trans hr0
      have gr1 : wb.cell? ⟨wo.heap.size, 1, none⟩ = some (.int .u64 (pT g u j : Nat)) := (hbb.cell (p := ⟨wo.heap.size, 1, none⟩) hzr).trans hr1
      have HSS : Hid (∀ w', Below wb.heap.size wb w' → Below wb.heap.size wb w' ∧ (w'.cell? ⟨wr.heap.size, 0, none⟩ = some (.int .u64 (pF f t k : Nat)) ∧ w'.cell? ⟨wr.heap.size, 1, none⟩ = some (.int .u64 (pT f t k : Nat)) ∧ w'.cell? ⟨wo.heap.size, 0, none⟩ = some (.int .u64 (pF g u j : Nat)) ∧ w'.cell? ⟨wo.heap.size, 1, none⟩ = some (.int .u64 (pT g u j : Nat)))) := fun w' h =>
       ⟨h, (h.cell (p := ⟨wr.heap.size, 0, none⟩) (by show wr.heap.size < _; omega)).trans gp0, (h.cell (p := ⟨wr.heap.size, 1, none⟩) (by show wr.heap.size < _; omega)).trans gp1, (h.cell (p := ⟨wo.heap.size, 0, none⟩) (by show wo.heap.size < _; omega)).trans gr0, (h.cell (p := ⟨wo.heap.size, 1, none⟩) (by show wo.heap.size < _; omega)).trans gr1⟩
      have HBB := Lib.hid hbb
      have HZB := Lib.hid hzb
      clear hbb hzb gp0 gp1 gr0 gr1 hp0 hp1 hr0 hr1 hwb
      have CFk := Lib.hid (CF.out k)
      have CGj := Lib.hid (CG.out j)
      have HY := Lib.hid (ysa (f := f) (t := t) (g := g) (u := u) (j := j) (k := k) (by rw [HN.out]; exact hk) hd)
      have HO := Lib.hid (ysc (f := f) (t := t) (g := g) (u := u) (j := j) (k := k) (by rw [HN.out]; exact hk))
      clear CF CG
      generalize ybx (pT f t k) = y1 at *
      generalize ybx (pT g u j) = y2 at *
      go_region_held3 (fun w' => Below wb.heap.size wb w' ∧ (w'.cell? ⟨wr.heap.size, 0, none⟩ = some (.int .u64 (pF f t k : Nat)) ∧ w'.cell? ⟨wr.heap.size, 1, none⟩ = some (.int .u64 (pT f t k : Nat)) ∧ w'.cell? ⟨wo.heap.size, 0, none⟩ = some (.int .u64 (pF g u j : Nat)) ∧ w'.cell? ⟨wo.heap.size, 1, none⟩ = some (.int .u64 (pT g u j : Nat)))) ((first | exact HSS.out _ ((Below.refl _ _).drew) | exact ysj HSS.out (by assumption) (by assumption)))
       (first | (go_at_call 110; (with_reducible refine (CFk.out _).mono ?_); rintro e w4 ⟨rfl, hb4⟩) | (go_at_call 110; (with_reducible refine (CGj.out _).mono ?_); rintro e w4 ⟨rfl, hb4⟩))
      have hh : ∃ A : Prop, Below wb.heap.size wb w4 ∧ A := ⟨_, by assumption⟩
      have H4 := Lib.hid ((HBB.out.mono (Nat.le_of_lt hzr)).trans (hh.choose_spec.1.mono (by rw [HZB.out]; omega)))
      have H5 := Lib.hid (HBK3.out.trans ((HBB.out.mono hbz3).trans (hh.choose_spec.1.mono (by rw [HZB.out]; omega))))
      clear hh
      by_cases he : y2 ≤ y1
      ·have d2 : decide (y2 ≤ y1) = true := by simpa using he
       have HSY := Lib.hid (HS.out.symm.trans (HY.out he))
       go_wp2
       go_roundg (go - 1)
       case measure => omega
       case rel => exact ⟨j + 1, by omega, by omega, by go_num, (ysf (by rw [HM.out]; exact hj) HSY.out).symm.trans HK.out, HBK.out.trans ((HB3'.out.mono hbz).trans (H5.out.mono (by omega)))⟩
      ·have d2 : decide (y2 ≤ y1) = false := by simpa using he
       have HSN := Lib.hid ((HO.out he).symm.trans HS.out)
       go_wp2
       go_roundg (gk - 1)
       case measure => omega
       case rel => exact ⟨k + 1, by omega, by omega, by go_num, HSN.out, H5.out⟩
     ·have d1 : decide (pF f t k ≤ pF g u j) = false := by simpa using hd
      have HSN := Lib.hid ((ysb (f := f) (t := t) (g := g) (u := u) (j := j) (k := k) (by rw [HN.out]; exact hk) hd).symm.trans HS.out)
      go_wp2
      go_quiet (fail)
      go_wp2
      go_roundg (gk - 1)
      case measure => omega
      case rel => exact ⟨k + 1, by omega, by omega, by go_num, HSN.out, (HBK3.out.alloc hbz3 _).trans ⟨rfl, rfl, rfl, Nat.le_refl _, fun _ _ => rfl⟩⟩
    ·obtain rfl : k = n := by omega
     have b1 : decide (k < k) = false := by simp
     have hs : yb5 f t g u j 0 = false := by
      rw [← HS.out, ← HN.out]
      exact ysd _ _ _ _ _
     have HR := Lib.hid (HK.out.symm.trans (ysg (by rw [HM.out]; exact hj) hs))
     have HE := Lib.hid (HB.out.trans ((HBK.out.trans ((HB3'.out.mono hbz).trans (hbk3.mono (by omega)))).mono (by omega)))
     clear hs hbk3
     go_wp2
     rw [Exit.noGoto_ret]
     go_ret
     exact ⟨by rw [HR.out]; rfl, HE.out⟩
  ·obtain rfl : j = m := by omega
   have b0 : decide (j < j) = false := by simp
   have hr : ans = true := by
    rw [← HK.out, ← HM.out]
    exact yse f t g u
   have HR := Lib.hid hr
   have HE := Lib.hid (HB.out.trans (hbk.mono (by omega)))
   clear hbk ha0 ha1 hr
   go_wp2
   rw [Exit.noGoto_ret]
   go_ret
   exact ⟨by rw [HR.out]; rfl, HE.out⟩
def keyJ (b : Bool) (p : AO) : Int := if b then 0 else p.e
def mayJ (b : Bool) (p q : AO) : Bool := b || p.e == q.e
def yap (p q : AO) : AO := ⟨p.f, q.t, p.n, max p.e q.e⟩
def okJ (b : Bool) (p q : AO) : Bool := ((p.t == q.f) && yat p.f p.t q.f q.t) && mayJ b p q
theorem yj0 {b : Bool} {p q : AO} : mayJ b p q = true ↔ keyJ b p = keyJ b q := by
 unfold mayJ keyJ
 cases b <;> simp
theorem ysn {b : Bool} {p q : AO} : mayJ b p q = false ↔ keyJ b p ≠ keyJ b q := by
 rw [← Bool.not_eq_true, yj0]
def mgJ (b : Bool) : List AO → List AO → List AO
 | M, [] => M
 | M, o :: K => match M.getLast? with
  | some p => if okJ b p o = true then mgJ b (M.dropLast ++ [yap p o]) K else mgJ b (M ++ [o]) K
  | none => mgJ b (M ++ [o]) K
def yec (b : Bool) (M : List AO) : List AO := match M with
 | [] => []
 | p :: A => match A.getLast? with
  | some q => if okJ b q p = true then A.dropLast ++ [yap q p] else p :: A
  | none => p :: A
def ydi : List AO → List AO
 | [p] => if p.f = p.t then [⟨0, 0, p.n, p.e⟩] else [p]
 | M => M
theorem yso (b : Bool) (p : AO) : yec b [p] = [p] := rfl
theorem yj1 (b : Bool) (p q : AO) (A : List AO) : yec b (p :: (A ++ [q])) = if okJ b q p = true then A ++ [yap q p] else p :: (A ++ [q]) := by
 unfold yec
 simp
theorem ygk (p : AO) : ydi [p] = if p.f = p.t then [⟨0, 0, p.n, p.e⟩] else [p] := rfl
def ya2 (b : Bool) (D : List AO) : List AO := ydi (yec b (mgJ b [] D))
def Ln (p q : AO) : Prop := p.f < p.t ∧ p.t ≤ q.f ∧ (q.f < q.t ∨ q.t ≤ p.f)
abbrev AO.lt (p : AO) : Prop := p.f < 18446744073709551616 ∧ p.t < 18446744073709551616
theorem ysp {p q : AO} (hp : p.lt) (hq : q.lt) (h : p.f < q.f) (ha : yat p.f p.t q.f q.t = true) : Ln p q := by
 rw [ydd, yay, yay] at ha
 have h1 := yaf hq.1 hp.1
 have h2 := yaf hp.2 hp.1
 have h3 := yaf hp.1 hq.1
 have h4 := yaf hq.2 hq.1
 obtain ⟨a, b⟩ := hp
 obtain ⟨c, d⟩ := hq
 unfold Ln
 omega
theorem yh7 {p q : AO} (hp : p.lt) (hq : q.lt) (h : Ln p q) : yat p.f p.t q.f q.t = true := by
 rw [ydd, yay, yay]
 have h1 := yaf hq.1 hp.1
 have h2 := yaf hp.2 hp.1
 have h3 := yaf hp.1 hq.1
 have h4 := yaf hq.2 hq.1
 obtain ⟨a, b⟩ := hp
 obtain ⟨c, d⟩ := hq
 unfold Ln at h
 omega
theorem ymi {p q : AO} (hp : p.lt) (hq : q.lt) (h : p.t = q.f) (ha : yat p.f p.t q.f q.t = true) {x : Nat} (hx : x < 18446744073709551616) : (yap p q).has x = (p.has x || q.has x) := by
 obtain ⟨pf, pt, pn, pe⟩ := p
 obtain ⟨qf, qt, qn, qe⟩ := q
 simp only at h
 subst h
 rw [ydd, yay, yay] at ha
 show inB pf qt x = (inB pf pt x || inB pt qt x)
 rw [Bool.eq_iff_iff, Bool.or_eq_true, yay, yay, yay]
 simp only [AO.lt] at hp hq ha
 have h1 := yaf hq.1 hp.1
 have h2 := yaf hp.1 hq.1
 have h3 := yaf hq.2 hq.1
 have h4 := yaf hq.2 hp.1
 have h5 := yaf hx hp.1
 have h6 := yaf hx hq.1
 have h7 := yaf hq.1 hq.1
 have h8 := yaf hp.1 hp.1
 omega
structure CovJ (b : Bool) (D M : List AO) : Prop where
 c1 : ∀ o ∈ D, ∃ p ∈ M, keyJ b p = keyJ b o ∧ o.e ≤ p.e ∧ ∀ x, x < 18446744073709551616 → o.has x = true → p.has x = true
 c2 : ∀ p ∈ M, ∀ x, x < 18446744073709551616 → p.has x = true → ∃ o ∈ D, o.has x = true ∧ keyJ b o = keyJ b p
 c3 : ∀ p ∈ M, ∃ o ∈ D, o.e = p.e ∧ ∀ x, x < 18446744073709551616 → o.has x = true → p.has x = true
 lt : (∀ o ∈ D, o.lt) → ∀ p ∈ M, p.lt
 nd : (∀ o ∈ D, o.n = 0) → ∀ p ∈ M, p.n = 0
 len : M.length ≤ D.length
theorem CovJ.refl (b : Bool) (D : List AO) : CovJ b D D := ⟨fun o h => ⟨o, h, rfl, Int.le_refl _, fun _ _ z => z⟩, fun p h _ _ z => ⟨p, h, z, rfl⟩, fun p h => ⟨p, h, rfl, fun _ _ z => z⟩, fun h => h, fun h => h, Nat.le_refl _⟩
theorem CovJ.trans {b : Bool} {D M N : List AO} (h : CovJ b D M) (k : CovJ b M N) : CovJ b D N where
 c1 o ho := by
  obtain ⟨p, hp, h1, h2, h3⟩ := h.c1 o ho
  obtain ⟨q, hq, k1, k2, k3⟩ := k.c1 p hp
  exact ⟨q, hq, k1.trans h1, by omega, fun x y z => k3 x y (h3 x y z)⟩
 c2 q hq x hx z := by
  obtain ⟨p, hp, k1, k2⟩ := k.c2 q hq x hx z
  obtain ⟨o, ho, h1, h2⟩ := h.c2 p hp x hx k1
  exact ⟨o, ho, h1, h2.trans k2⟩
 c3 q hq := by
  obtain ⟨p, hp, k1, k2⟩ := k.c3 q hq
  obtain ⟨o, ho, h1, h2⟩ := h.c3 p hp
  exact ⟨o, ho, h1.trans k1, fun x hx z => k2 x hx (h2 x hx z)⟩
 lt z := k.lt (h.lt z)
 nd z := k.nd (h.nd z)
 len := Nat.le_trans k.len h.len
theorem CovJ.both {b : Bool} {D M : List AO} {p q : AO} (hp : p ∈ D) (hq : q ∈ D) (ok : okJ b p q = true) (lp : p.lt) (lq : q.lt) (hl : M.length ≤ D.length) (h1 : ∀ o ∈ D, o = p ∨ o = q ∨ o ∈ M) (h2 : ∀ o ∈ M, o = yap p q ∨ o ∈ D) (h3 : yap p q ∈ M) : CovJ b D M := by
 unfold okJ at ok
 simp only [Bool.and_eq_true, beq_iff_eq] at ok
 obtain ⟨⟨e, ha⟩, hm⟩ := ok
 rw [yj0] at hm
 have hk : keyJ b (yap p q) = keyJ b p := by
  unfold keyJ at hm ⊢
  cases b
  ·simp only [Bool.false_eq_true, if_false] at hm ⊢
   show max p.e q.e = p.e
   omega
  ·rfl
 have hx : ∀ x, x < 18446744073709551616 → (yap p q).has x = (p.has x || q.has x) := fun x hx => ymi lp lq e ha hx
 refine ⟨fun o ho => ?_, fun r hr x hx' z => ?_, fun r hr => ?_, fun hD r hr => ?_, fun hD r hr => ?_, hl⟩
 ·rcases h1 o ho with rfl | rfl | z
  ·exact ⟨_, h3, hk, by show o.e ≤ max o.e q.e; omega, fun x y z => by rw [hx x y, z]; rfl⟩
  ·exact ⟨_, h3, hk.trans hm, by show o.e ≤ max p.e o.e; omega, fun x y z => by rw [hx x y, z]; simp⟩
  ·exact ⟨o, z, rfl, Int.le_refl _, fun _ _ y => y⟩
 ·rcases h2 r hr with rfl | y
  ·rw [hx x hx', Bool.or_eq_true] at z
   rcases z with z | z
   ·exact ⟨p, hp, z, hk.symm⟩
   ·exact ⟨q, hq, z, by rw [hk, hm]⟩
  ·exact ⟨r, y, z, rfl⟩
 ·rcases h2 r hr with rfl | y
  ·by_cases c : q.e ≤ p.e
   ·exact ⟨p, hp, by show p.e = max p.e q.e; omega, fun x y z => by rw [hx x y, z]; rfl⟩
   ·exact ⟨q, hq, by show q.e = max p.e q.e; omega, fun x y z => by rw [hx x y, z]; simp⟩
  ·exact ⟨r, y, rfl, fun _ _ z => z⟩
 ·rcases h2 r hr with rfl | y
  ·exact ⟨lp.1, lq.2⟩
  ·exact hD r y
 ·rcases h2 r hr with rfl | y
  ·exact hD p hp
  ·exact hD r y
def NJr (b : Bool) (p q : AO) : Prop := p.t = q.f → keyJ b p ≠ keyJ b q
abbrev NJ (b : Bool) (M : List AO) : Prop := M.Pairwise (NJr b)
theorem ymj {b : Bool} {p q : AO} (ok : okJ b p q = true) : p.t = q.f ∧ keyJ b p = keyJ b q ∧ keyJ b (yap p q) = keyJ b p := by
 unfold okJ at ok
 simp only [Bool.and_eq_true, beq_iff_eq] at ok
 obtain ⟨⟨e, ha⟩, hm⟩ := ok
 rw [yj0] at hm
 refine ⟨e, hm, ?_⟩
 unfold keyJ at hm ⊢
 cases b
 ·simp only [Bool.false_eq_true, if_false] at hm ⊢
  show max p.e q.e = p.e
  omega
 ·rfl
theorem ymk {b : Bool} {p q : AO} (ha : yat p.f p.t q.f q.t = true) (no : ¬ okJ b p q = true) (e : p.t = q.f) : keyJ b p ≠ keyJ b q := by
 rw [← ysn]
 unfold okJ at no
 rw [ha, e] at no
 simpa using no
theorem yml {R : AO → AO → Prop} {A K : List AO} {p : AO} (h : (A ++ [p] ++ K).Pairwise R) : (∀ a ∈ A, R a p) ∧ (∀ k ∈ K, R p k) ∧ (∀ a ∈ A, ∀ k ∈ K, R a k) ∧ A.Pairwise R ∧ K.Pairwise R := by
 rw [List.append_assoc, List.pairwise_append] at h
 obtain ⟨h1, h2, h3⟩ := h
 rw [List.singleton_append, List.pairwise_cons] at h2
 exact ⟨fun a ha => h3 a ha p (by simp), h2.1, fun a ha k hk => h3 a ha k (by simp [hk]), h1, h2.2⟩
theorem yj2 {R : AO → AO → Prop} {A K : List AO} {p : AO} (h1 : ∀ a ∈ A, R a p) (h2 : ∀ k ∈ K, R p k) (h3 : ∀ a ∈ A, ∀ k ∈ K, R a k) (h4 : A.Pairwise R) (h5 : K.Pairwise R) : (A ++ [p] ++ K).Pairwise R := by
 rw [List.append_assoc, List.pairwise_append, List.singleton_append]
 refine ⟨h4, List.pairwise_cons.2 ⟨h2, h5⟩, fun a ha x hx => ?_⟩
 rcases List.mem_cons.1 hx with rfl | z
 ·exact h1 a ha
 ·exact h3 a ha x z
theorem yh8 (b : Bool) : ∀ (K M : List AO), (M ++ K).Pairwise Ln → (∀ o ∈ M ++ K, o.lt) → NJ b M → (mgJ b M K).Pairwise Ln ∧ NJ b (mgJ b M K) ∧ CovJ b (M ++ K) (mgJ b M K)
 | [], M, h, hl, hn => by
  rw [List.append_nil] at h ⊢
  exact ⟨h, hn, CovJ.refl _ _⟩
 | o :: K, M, h, hl, hn => by
  rcases List.eq_nil_or_concat M with rfl | ⟨A, p, rfl⟩
  ·show (mgJ b ([] ++ [o]) K).Pairwise Ln ∧ NJ b (mgJ b ([] ++ [o]) K) ∧ CovJ b ([] ++ o :: K) (mgJ b ([] ++ [o]) K)
   exact yh8 b K ([] ++ [o]) h hl (by simp [NJ])
  ·rw [List.concat_eq_append] at h hl hn ⊢
   have hlp : p.lt := hl p (by simp)
   have hlo : o.lt := hl o (by simp)
   unfold mgJ
   rw [List.getLast?_append, List.getLast?_singleton]
   simp only [Option.some_or, List.dropLast_concat]
   obtain ⟨a1, a2, a3, a4, a5⟩ := yml h
   have hpo := a2 o (by simp)
   obtain ⟨b2, b5⟩ := List.pairwise_cons.1 a5
   obtain ⟨n1, _, _, n4, _⟩ := yml (K := []) ((List.append_nil (A ++ [p])).symm ▸ hn)
   by_cases ok : okJ b p o = true
   ·rw [if_pos ok]
    obtain ⟨e, k1, k2⟩ := ymj ok
    have hln : (A ++ [yap p o] ++ K).Pairwise Ln := yj2
     (fun a ha => by
      have z1 := a1 a ha
      have z2 := a3 a ha o (by simp)
      unfold Ln at hpo z1 z2 ⊢
      simp only [yap]
      omega)
     (fun k hk => by
      have z1 := a2 k (by simp [hk])
      have z2 := b2 k hk
      unfold Ln at hpo z1 z2 ⊢
      simp only [yap]
      omega) (fun a ha k hk => a3 a ha k (by simp [hk])) a4 b5
    obtain ⟨r1, r2, r3⟩ := yh8 b K (A ++ [yap p o]) hln
     (fun x hx => by
      simp only [List.mem_append, List.mem_singleton] at hx
      rcases hx with (hx | rfl) | hx
      ·exact hl x (by simp [hx])
      ·exact ⟨hlp.1, hlo.2⟩
      ·exact hl x (by simp [hx]))
     (by
      have := yj2 (K := []) (p := yap p o) (R := NJr b) (fun a ha z => by rw [k2]; exact n1 a ha z) (by simp) (by simp) n4 List.Pairwise.nil
      rwa [List.append_nil] at this)
    refine ⟨r1, r2, CovJ.trans ?_ r3⟩
    refine CovJ.both (p := p) (q := o) (by simp) (by simp) ok hlp hlo (by simp) (fun x hx => ?_) (fun x hx => ?_) (by simp)
    ·rcases List.mem_append.1 hx with hx | hx
     ·rcases List.mem_append.1 hx with hx | hx
      ·exact .inr (.inr (by simp [hx]))
      ·exact .inl (List.mem_singleton.1 hx)
     ·rcases List.mem_cons.1 hx with hx | hx
      ·exact .inr (.inl hx)
      ·exact .inr (.inr (by simp [hx]))
    ·rcases List.mem_append.1 hx with hx | hx
     ·rcases List.mem_append.1 hx with hx | hx
      ·exact .inr (by simp [hx])
      ·exact .inl (List.mem_singleton.1 hx)
     ·exact .inr (by simp [hx])
   ·rw [if_neg ok]
    have e : A ++ [p] ++ o :: K = A ++ [p] ++ [o] ++ K := by simp
    rw [e] at h hl ⊢
    refine yh8 b K (A ++ [p] ++ [o]) h hl ?_
    have := yj2 (K := []) (p := o) (A := A ++ [p]) (R := NJr b) (fun a ha z => by
     rcases List.mem_append.1 ha with ha | ha
     ·have z1 := a1 a ha
      unfold Ln at hpo z1
      omega
     ·rw [List.mem_singleton.1 ha] at z ⊢
      exact ymk (yh7 hlp hlo hpo) ok z) (by simp) (by simp) hn List.Pairwise.nil
    rwa [List.append_nil] at this
def FC (b : Bool) (r : List AO) : Prop := ∀ p ∈ r, ∀ q ∈ r, p.f ≠ p.t → p.t = q.f → keyJ b p ≠ keyJ b q
theorem yj3 {R : AO → AO → Prop} : ∀ {l : List AO}, l.Pairwise R → ∀ {a c : AO}, a ∈ l → c ∈ l → a = c ∨ R a c ∨ R c a
 | [], _, _, _, h, _ => by cases h
 | x :: l, h, a, c, ha, hc => by
  obtain ⟨h1, h2⟩ := List.pairwise_cons.1 h
  rcases List.mem_cons.1 ha with rfl | ha
  ·rcases List.mem_cons.1 hc with e | hc
   ·exact .inl e.symm
   ·exact .inr (.inl (h1 c hc))
  ·rcases List.mem_cons.1 hc with e | hc
   ·exact .inr (.inr (by rw [e]; exact h1 a ha))
   ·exact yj3 h2 ha hc
theorem yj4 {b : Bool} {r : List AO} (h : r.Pairwise Ln) (hn : NJ b r) (hw : ∀ p A q, r = p :: (A ++ [q]) → q.t = p.f → keyJ b q ≠ keyJ b p) : FC b r := by
 intro x hx y hy hne e
 have hh : r.Pairwise fun p q => Ln p q ∧ (p.t = q.f → keyJ b p ≠ keyJ b q) := List.pairwise_and_iff.2 ⟨h, hn⟩
 rcases yj3 hh hx hy with rfl | z | z
 ·exact absurd e.symm hne
 ·exact z.2 e
 ·have z := z.1
  cases r with
  | nil => cases hx
  | cons p B =>
   obtain ⟨h1, h2⟩ := List.pairwise_cons.1 h
   rcases List.eq_nil_or_concat B with rfl | ⟨A, q, rfl⟩
   ·simp only [List.mem_singleton] at hx hy
    subst hx hy
    exact absurd e.symm hne
   ·rw [List.concat_eq_append] at *
    have hyp : y = p := by
     rcases List.mem_cons.1 hy with w | w
     ·exact w
     ·have c1 := h1 y w
      rcases List.mem_cons.1 hx with w' | w'
      ·subst w'
       unfold Ln at c1 z
       omega
      ·have c2 := h1 x w'
       unfold Ln at c1 c2 z
       omega
    have hxq : x = q := by
     rcases List.mem_cons.1 hx with w | w
     ·subst w
      rw [hyp] at z
      unfold Ln at z
      omega
     ·rcases List.mem_append.1 w with w | w
      ·have c := (List.pairwise_append.1 h2).2.2 x w q (by simp)
       unfold Ln at c z
       omega
      ·exact List.mem_singleton.1 w
    subst hyp hxq
    exact hw _ _ _ rfl e
theorem ysq {b : Bool} {M : List AO} (h : M.Pairwise Ln) (hl : ∀ o ∈ M, o.lt) (hn : NJ b M) : (yec b M).Pairwise Ln ∧ FC b (yec b M) ∧ CovJ b M (yec b M) := by
 cases M with
 | nil => exact ⟨List.Pairwise.nil, (fun p hp => by cases hp), CovJ.refl _ _⟩
 | cons p B =>
  rcases List.eq_nil_or_concat B with rfl | ⟨A, q, rfl⟩
  ·rw [yso]
   refine ⟨h, yj4 h hn (fun p' A q e => ?_), CovJ.refl _ _⟩
   have := congrArg List.length e
   simp at this
  ·rw [List.concat_eq_append] at *
   rw [yj1]
   have hlp : p.lt := hl p (by simp)
   have hlq : q.lt := hl q (by simp)
   obtain ⟨h1, h2⟩ := List.pairwise_cons.1 h
   obtain ⟨h3, _, h4⟩ := List.pairwise_append.1 h2
   have hpq := h1 q (by simp)
   obtain ⟨n1, n2⟩ := List.pairwise_cons.1 hn
   obtain ⟨n3, _, n4⟩ := List.pairwise_append.1 n2
   by_cases ok : okJ b q p = true
   ·rw [if_pos ok]
    obtain ⟨e, k1, k2⟩ := ymj ok
    have hln : (A ++ [yap q p]).Pairwise Ln := by
     refine List.pairwise_append.2 ⟨h3, by simp, fun a ha x hx => ?_⟩
     rw [List.mem_singleton.1 hx]
     have z1 := h1 a (by simp [ha])
     have z2 := h4 a ha q (by simp)
     unfold Ln at hpq z1 z2 ⊢
     simp only [yap]
     omega
    have hnj : NJ b (A ++ [yap q p]) := by
     refine List.pairwise_append.2 ⟨n3, by simp, fun a ha x hx => ?_⟩
     rw [List.mem_singleton.1 hx]
     intro z
     rw [k2]
     exact n4 a ha q (by simp) z
    refine ⟨hln, yj4 hln hnj (fun p' A' q' e' w => ?_), ?_⟩
    ·cases A with
     | nil =>
      have := congrArg List.length e'
      simp at this
     | cons a A =>
      rw [List.cons_append] at e'
      obtain ⟨ea, e1⟩ := List.cons.inj e'
      have e2 := List.singleton_inj.1 (List.append_inj' e1 rfl).2
      rw [← e2, ← ea] at w
      rw [← e2, ← ea, k2, k1]
      exact n1 a (by simp) w
    ·refine CovJ.both (p := q) (q := p) (by simp) (by simp) ok hlq hlp (by simp) (fun x hx => ?_) (fun x hx => ?_) (by simp)
     ·rcases List.mem_cons.1 hx with hx | hx
      ·exact .inr (.inl hx)
      ·rcases List.mem_append.1 hx with hx | hx
       ·exact .inr (.inr (by simp [hx]))
       ·exact .inl (List.mem_singleton.1 hx)
     ·rcases List.mem_append.1 hx with hx | hx
      ·exact .inr (by simp [hx])
      ·exact .inl (List.mem_singleton.1 hx)
   ·rw [if_neg ok]
    refine ⟨h, yj4 h hn (fun p' A' q' e' w => ?_), CovJ.refl _ _⟩
    obtain ⟨ea, e1⟩ := List.cons.inj e'
    have e2 := List.singleton_inj.1 (List.append_inj' e1 rfl).2
    rw [← e2, ← ea] at w ⊢
    exact ymk (by rw [yf1]; exact yh7 hlp hlq hpq) ok w
theorem ysr {b : Bool} {M : List AO} (h : M.Pairwise Ln) (hf : FC b M) : (ydi M).Pairwise Ln ∧ FC b (ydi M) ∧ CovJ b M (ydi M) ∧ ∀ p ∈ ydi M, p.f = p.t → p.f = 0 := by
 match M with
 | [] => exact ⟨h, hf, CovJ.refl _ _, (fun p hp => by cases hp)⟩
 | [p] =>
  rw [ygk]
  by_cases e : p.f = p.t
  ·rw [if_pos e]
   have hx : ∀ x, p.has x = true := fun x => by show inB p.f p.t x = true; rw [e]; exact yf0 _ _
   have hk : keyJ b ⟨0, 0, p.n, p.e⟩ = keyJ b p := rfl
   refine ⟨by simp, fun x hx y hy => ?_, ⟨fun o ho => ⟨_, List.mem_singleton.2 rfl, ?_, ?_, fun x _ _ => yf0 _ _⟩, fun q hq x _ _ => ⟨p, by simp, hx x, ?_⟩, fun q hq => ⟨p, by simp, ?_, fun x _ _ => ?_⟩, fun _ q hq => ?_, fun z q hq => ?_, by simp⟩, fun q hq _ => ?_⟩
   ·rw [List.mem_singleton.1 hx]
    exact fun z => absurd rfl z
   ·rw [List.mem_singleton.1 ho, hk]
   ·rw [List.mem_singleton.1 ho]
    exact Int.le_refl _
   ·rw [List.mem_singleton.1 hq, hk]
   ·rw [List.mem_singleton.1 hq]
   ·rw [List.mem_singleton.1 hq]
    exact yf0 _ _
   ·rw [List.mem_singleton.1 hq]
    exact ⟨Nat.zero_lt_succ _, Nat.zero_lt_succ _⟩
   ·rw [List.mem_singleton.1 hq]
    exact z p (by simp)
   ·rw [List.mem_singleton.1 hq]
  ·rw [if_neg e]
   exact ⟨h, hf, CovJ.refl _ _, fun q hq z => by rw [List.mem_singleton.1 hq] at z; exact absurd z e⟩
 | p :: q :: A =>
  refine ⟨h, hf, CovJ.refl _ _, fun x hx z => ?_⟩
  exfalso
  have hpq := (List.pairwise_cons.1 h).1 q (by simp)
  rcases List.mem_cons.1 hx with rfl | hx
  ·unfold Ln at hpq
   omega
  ·have := (List.pairwise_cons.1 h).1 x hx
   unfold Ln at this
   omega
theorem yj5 {b : Bool} {D : List AO} (h : D.Pairwise Ln) (hl : ∀ o ∈ D, o.lt) : (ya2 b D).Pairwise Ln ∧ FC b (ya2 b D) ∧ CovJ b D (ya2 b D) ∧ ∀ p ∈ ya2 b D, p.f = p.t → p.f = 0 := by
 obtain ⟨a1, a2, a3⟩ := yh8 b D [] h hl List.Pairwise.nil
 rw [List.nil_append] at a3
 obtain ⟨b1, b2, b3⟩ := ysq a1 (a3.lt hl) a2
 obtain ⟨c1, c2, c3, c4⟩ := ysr b1 b2
 exact ⟨c1, c2, (a3.trans b3).trans c3, c4⟩
def Ow (own : Nat → Option Int) (l : List AO) : Prop := ∀ x, x < 18446744073709551616 → ∀ e, own x = some e ↔ ∃ o ∈ l, o.has x = true ∧ o.e = e
structure OwnL (l : List AO) (own : Nat → Option Int) : Prop where
 arcs : Arcs l
 nd : ∀ p ∈ l, p.n = 0
 ow : Ow own l
theorem OwnL.nil : OwnL [] (fun _ => none) := ⟨Arcs.nil, by simp, fun x _ e => by simp⟩
theorem OwnL.kn {l : List AO} {own : Nat → Option Int} (h : OwnL l own) {x : Nat} (hx : x < 18446744073709551616) : Go.Proofs.YtnjodhglbapnlaaGreat.kn l x = (own x).map fun e => (0, e) := by
 cases ho : own x with
 | none =>
  cases hk : Go.Proofs.YtnjodhglbapnlaaGreat.kn l x with
  | none => rfl
  | some v =>
   obtain ⟨p, hp, h1, h2⟩ := ylw hk
   have := (h.ow x hx p.e).2 ⟨p, hp, h1, rfl⟩
   rw [ho] at this
   cases this
 | some e =>
  obtain ⟨p, hp, h1, rfl⟩ := (h.ow x hx e).1 ho
  rw [h.arcs.known hp hx h1]
  show some (p.n, p.e) = _
  rw [h.nd p hp]
  rfl
theorem yj6 {D : List AO} (hl : ∀ o ∈ D, o.lt) (hs : D.Pairwise fun p q => p.f ≤ q.f) (ha : D.Pairwise fun p q => yat p.f p.t q.f q.t = true) : D.Pairwise Ln := by
 have hh := List.pairwise_and_iff.2 ⟨hs, ha⟩
 refine hh.imp_of_mem ?_
 intro p q hp hq ⟨h1, h2⟩
 refine ysp (hl p hp) (hl q hq) ?_ h2
 rcases Nat.lt_or_eq_of_le h1 with z | z
 ·exact z
 ·rw [ydd, z] at h2
  exact absurd (ydo _ _ (hl q hq).1 (hl q hq).2) h2.2
theorem ymm {D : List AO} (h : D.Pairwise Ln) : D.Pairwise fun p q => p.f < q.f := h.imp fun {p q} z => by unfold Ln at z; omega
section
variable {D : List AO} {own : Nat → Option Int}
theorem ymn (h : D.Pairwise Ln) (hl : ∀ o ∈ D, o.lt) (hn : ∀ o ∈ D, o.n = 0) (he : ∀ o ∈ D, 0 ≤ o.e ∧ o.e ≤ 9223372036854775807) (ho : Ow own D) : OwnL (ya2 false D) own ∧ (ya2 false D).length ≤ D.length := by
 obtain ⟨h1, h2, h3, h4⟩ := yj5 (b := false) h hl
 have l3 := h3.lt hl
 refine ⟨⟨⟨l3, fun p hp => ?_, ymm h1, h4, h1.imp_of_mem fun {p q} hp hq z => yh7 (l3 p hp) (l3 q hq) z, fun p hp q hq hne e => ?_⟩, h3.nd hn, fun x hx e => ?_⟩, h3.len⟩
 ·obtain ⟨o, ho', e, _⟩ := h3.c3 p hp
  rw [h3.nd hn p hp, ← e]
  have := he o ho'
  omega
 ·intro z
  exact h2 p hp q hq hne e (congrArg Prod.snd z)
 ·rw [ho x hx e]
  constructor
  ·rintro ⟨o, ho', a, rfl⟩
   obtain ⟨p, hp, b, _, c⟩ := h3.c1 o ho'
   exact ⟨p, hp, c x hx a, b⟩
  ·rintro ⟨p, hp, a, rfl⟩
   obtain ⟨o, ho', b, c⟩ := h3.c2 p hp x hx a
   exact ⟨o, ho', b, c⟩
abbrev AO.zero (p : AO) : AO := ⟨p.f, p.t, 0, 0⟩
theorem yss (h : D.Pairwise Ln) (hl : ∀ o ∈ D, o.lt) (hn : ∀ o ∈ D, o.n = 0) (ho : Ow own D) :
  Arcs ((ya2 true D).map AO.zero) ∧ (∀ x, x < 18446744073709551616 → kn ((ya2 true D).map AO.zero) x = (own x).map fun _ => (0, 0)) ∧ (∀ p ∈ ya2 true D, p.n = 0 ∧ (∀ x y, x < 18446744073709551616 → inB p.f p.t x = true → own x = some y → y ≤ p.e) ∧ ∃ x, x < 18446744073709551616 ∧ inB p.f p.t x = true ∧ own x = some p.e) ∧ (ya2 true D).length ≤ D.length := by
 obtain ⟨h1, h2, h3, h4⟩ := yj5 (b := true) h hl
 have l3 := h3.lt hl
 have hA : Arcs ((ya2 true D).map AO.zero) := by
  refine ⟨fun p hp => ?_, fun p hp => ?_, ?_, fun p hp => ?_, ?_, fun p hp q hq hne e => ?_⟩
  ·obtain ⟨q, hq, rfl⟩ := List.mem_map.1 hp
   exact l3 q hq
  ·obtain ⟨q, hq, rfl⟩ := List.mem_map.1 hp
   simp
  ·exact List.pairwise_map.2 (ymm h1)
  ·obtain ⟨q, hq, rfl⟩ := List.mem_map.1 hp
   exact h4 q hq
  ·exact List.pairwise_map.2 (h1.imp_of_mem fun {p q} hp hq z => yh7 (l3 p hp) (l3 q hq) z)
  ·obtain ⟨p', hp', rfl⟩ := List.mem_map.1 hp
   obtain ⟨q', hq', rfl⟩ := List.mem_map.1 hq
   exact fun _ => h2 p' hp' q' hq' hne e rfl
 refine ⟨hA, fun x hx => ?_, fun p hp => ⟨h3.nd hn p hp, fun x y hx hp1 hy => ?_, ?_⟩, h3.len⟩
 ·cases hx2 : own x with
  | none =>
   cases hk : kn ((ya2 true D).map AO.zero) x with
   | none => rfl
   | some v =>
    obtain ⟨p, hp, a, _⟩ := ylw hk
    obtain ⟨q, hq, rfl⟩ := List.mem_map.1 hp
    obtain ⟨o, ho', b, _⟩ := h3.c2 q hq x hx a
    have := (ho x hx o.e).2 ⟨o, ho', b, rfl⟩
    rw [hx2] at this
    cases this
  | some e =>
   obtain ⟨o, ho', a, rfl⟩ := (ho x hx e).1 hx2
   obtain ⟨p, hp, _, _, c⟩ := h3.c1 o ho'
   rw [hA.known (List.mem_map_of_mem hp) hx (c x hx a)]
   rfl
 ·obtain ⟨o, ho', a, rfl⟩ := (ho x hx y).1 hy
  obtain ⟨q, hq, _, b, c⟩ := h3.c1 o ho'
  have hz : p.zero = q.zero := hA.one (List.mem_map_of_mem hp) (List.mem_map_of_mem hq) hx hp1 (c x hx a)
  have hpq : p = q := by
   rcases yj3 h1 hp hq with z | z | z
   ·exact z
   ·exfalso
    have e : p.zero.f = q.zero.f := congrArg AO.f hz
    simp only at e
    unfold Ln at z
    omega
   ·exfalso
    have e : p.zero.f = q.zero.f := congrArg AO.f hz
    simp only at e
    unfold Ln at z
    omega
  rw [hpq]
  exact b
 ·obtain ⟨o, ho', a, c⟩ := h3.c3 p hp
  have hf := ydo o.f o.t (hl o ho').1 (hl o ho').2
  exact ⟨o.f, (hl o ho').1, c _ (hl o ho').1 hf, (ho _ (hl o ho').1 _).2 ⟨o, ho', hf, a⟩⟩
end
theorem yeu {l : List AO} {own : Nat → Option Int} (h : Ow own l) {x : Nat} (hx : x < 18446744073709551616) : own x = none ↔ ∀ o ∈ l, o.has x = false := by
 constructor
 ·intro hn o ho
  by_cases z : o.has x = true
  ·have := (h x hx o.e).2 ⟨o, ho, z, rfl⟩
   rw [hn] at this
   cases this
  ·exact ydc z
 ·intro hn
  cases ho : own x with
  | none => rfl
  | some e =>
   obtain ⟨o, h1, h2, _⟩ := (h x hx e).1 ho
   rw [hn o h1] at h2
   cases h2
theorem may_iff {l : List AO} {own : Nat → Option Int} (h : OwnL l own) {f t : Nat} (hf : f < 18446744073709551616) (ht : t < 18446744073709551616) : (∀ o ∈ l, yat o.f o.t f t = true) ↔ ∀ x, x < 18446744073709551616 → inB f t x = true → own x = none := by
 constructor
 ·intro ha x hx hi
  rw [yeu h.ow hx]
  intro o ho
  have hl := h.arcs.lt o ho
  have := ha o ho
  rw [yf1] at this
  exact yf2 hf ht hl.1 hl.2 hx this hi
 ·intro hn o ho
  have hl := h.arcs.lt o ho
  rw [ydd]
  refine ⟨fun z => ?_, fun z => ?_⟩
  ·have := (yeu h.ow hf).1 (hn f hf (ydo f t hf ht)) o ho
   rw [show o.has f = true from z] at this
   cases this
  ·have := (yeu h.ow hl.1).1 (hn o.f hl.1 z) o ho
   rw [h.arcs.first ho] at this
   cases this
theorem yj7 {D L : List AO} (h : D.Perm L) (ha : L.Pairwise fun p q => yat p.f p.t q.f q.t = true) : D.Pairwise fun p q => yat p.f p.t q.f q.t = true :=
 (List.Perm.pairwise_iff (R := fun p q : AO => yat p.f p.t q.f q.t = true) (fun {x y} z => by rw [yf1]; exact z) h).2 ha
theorem yst {l D : List AO} {own : Nat → Option Int} (h : OwnL l own) {f t : Nat} {ep : Int} (hf : f < 18446744073709551616) (ht : t < 18446744073709551616) (h0 : 0 ≤ ep) (h9 : ep ≤ 9223372036854775807) (hm : ∀ o ∈ l, yat o.f o.t f t = true)
  (hp : D.Perm (l ++ [⟨f, t, 0, ep⟩])) (hs : D.Pairwise fun p q => p.f ≤ q.f) : OwnL (ya2 false D) (fun x => if inB f t x = true then some ep else own x) ∧ (ya2 false D).length ≤ l.length + 1 := by
 have hm2 : ∀ o, o ∈ D ↔ o ∈ l ∨ o = ⟨f, t, 0, ep⟩ := fun o => by rw [hp.mem_iff]; simp
 have hl : ∀ o ∈ D, o.lt := fun o ho => by
  rcases (hm2 o).1 ho with z | rfl
  ·exact h.arcs.lt o z
  ·exact ⟨hf, ht⟩
 have hap : (l ++ [(⟨f, t, 0, ep⟩ : AO)]).Pairwise fun p q : AO => yat p.f p.t q.f q.t = true := by
  exact List.pairwise_append.2 ⟨h.arcs.apart, List.pairwise_singleton _ _, fun a ha b hb => by rw [List.mem_singleton.1 hb]; exact hm a ha⟩
 have hln := yj6 hl hs (yj7 hp hap)
 have hlen : D.length = l.length + 1 := by rw [hp.length_eq]; simp
 have hown := (may_iff h hf ht).1 hm
 rw [← hlen]
 refine ymn hln hl (fun o ho => ?_) (fun o ho => ?_) (fun x hx e => ?_)
 ·rcases (hm2 o).1 ho with z | rfl
  ·exact h.nd o z
  ·rfl
 ·rcases (hm2 o).1 ho with z | rfl
  ·exact (h.arcs.rng o z).2.2
  ·exact ⟨h0, h9⟩
 ·by_cases hi : inB f t x = true
  ·rw [if_pos hi]
   constructor
   ·intro z
    exact ⟨⟨f, t, 0, ep⟩, (hm2 _).2 (.inr rfl), hi, Option.some.inj z⟩
   ·rintro ⟨o, ho, a, rfl⟩
    rcases (hm2 o).1 ho with z | rfl
    ·have := (yeu h.ow hx).1 (hown x hx hi) o z
     rw [a] at this
     cases this
    ·rfl
  ·rw [if_neg hi, h.ow x hx e]
   constructor
   ·rintro ⟨o, ho, a, b⟩
    exact ⟨o, (hm2 o).2 (.inl ho), a, b⟩
   ·rintro ⟨o, ho, a, b⟩
    rcases (hm2 o).1 ho with z | rfl
    ·exact ⟨o, z, a, b⟩
    ·exact absurd a hi
def mayC (f t x : Nat) : Bool := !(x == f) && inB f t x
def yb9 (x : Nat) (o : AO) : List AO := if mayC o.f o.t x = true then [⟨o.f, x, o.n, o.e⟩, ⟨x, o.t, o.n, o.e⟩] else [o]
def yar (l : List AO) (x : Nat) : List AO := l.flatMap (yb9 x)
theorem yce {f t x : Nat} : mayC f t x = true ↔ x ≠ f ∧ inB f t x = true := by simp [mayC]
structure ysu (o : AO) (l : List AO) : Prop where
 lt : o.lt → ∀ p ∈ l, p.lt
 e : ∀ p ∈ l, p.e = o.e ∧ p.n = o.n
 sub : o.lt → ∀ p ∈ l, ∀ y, y < 18446744073709551616 → p.has y = true → o.has y = true
 all : o.lt → ∀ y, y < 18446744073709551616 → o.has y = true → ∃ p ∈ l, p.has y = true
 ap : o.lt → l.Pairwise fun p q => yat p.f p.t q.f q.t = true
theorem ybm (x : Nat) (o : AO) (hx : x < 18446744073709551616) : ysu o (yb9 x o) := by
 unfold yb9
 by_cases h : mayC o.f o.t x = true
 ·rw [if_pos h]
  obtain ⟨h1, h2⟩ := yce.1 h
  have hb : o.lt → ∀ y, y < 18446744073709551616 → o.has y = ((⟨o.f, x, o.n, o.e⟩ : AO).has y || (⟨x, o.t, o.n, o.e⟩ : AO).has y) := fun hl y hy =>
   ymi (p := ⟨o.f, x, o.n, o.e⟩) (q := ⟨x, o.t, o.n, o.e⟩) ⟨hl.1, hx⟩ ⟨hx, hl.2⟩ rfl (yiz hl.1 hl.2 hx h1 h2).1 hy
  refine ⟨fun hl p hp => ?_, fun p hp => ?_, fun hl p hp y hy z => ?_, fun hl y hy z => ?_, fun hl => ?_⟩
  ·simp only [List.mem_cons, List.not_mem_nil, or_false] at hp
   rcases hp with rfl | rfl
   ·exact ⟨hl.1, hx⟩
   ·exact ⟨hx, hl.2⟩
  ·simp only [List.mem_cons, List.not_mem_nil, or_false] at hp
   rcases hp with rfl | rfl <;> exact ⟨rfl, rfl⟩
  ·rw [hb hl y hy]
   simp only [List.mem_cons, List.not_mem_nil, or_false] at hp
   rcases hp with rfl | rfl
   ·rw [z]; rfl
   ·rw [z]; simp
  ·rw [hb hl y hy, Bool.or_eq_true] at z
   rcases z with z | z
   ·exact ⟨_, by simp, z⟩
   ·exact ⟨_, List.mem_cons_of_mem _ (by simp), z⟩
  ·refine List.pairwise_cons.2 ⟨fun q hq => ?_, by simp⟩
   rw [List.mem_singleton.1 hq]
   exact (yiz hl.1 hl.2 hx h1 h2).1
 ·rw [if_neg h]
  exact ⟨fun hl p hp => by rw [List.mem_singleton.1 hp]; exact hl, fun p hp => by rw [List.mem_singleton.1 hp]; exact ⟨rfl, rfl⟩, fun _ p hp y _ z => by rw [List.mem_singleton.1 hp] at z; exact z, fun _ y _ z => ⟨o, by simp, z⟩, fun _ => by simp⟩
theorem ymo {x : Nat} {o : AO} : ∀ p ∈ yb9 x o, mayC p.f p.t x = false := by
 unfold yb9
 by_cases h : mayC o.f o.t x = true
 ·rw [if_pos h]
  obtain ⟨h1, h2⟩ := yce.1 h
  intro p hp
  simp only [List.mem_cons, List.not_mem_nil, or_false] at hp
  apply ydc
  rw [yce]
  rintro ⟨a, b⟩
  rcases hp with rfl | rfl
  ·rw [show inB o.f x x = false from yk4 (Ne.symm h1)] at b
   cases b
  ·exact a rfl
 ·rw [if_neg h]
  intro p hp
  rw [List.mem_singleton.1 hp]
  exact ydc h
theorem ysv {x z : Nat} {o : AO} (hx : x < 18446744073709551616) (hz : z < 18446744073709551616) (hl : o.lt) (hc : mayC o.f o.t z = false) : ∀ p ∈ yb9 x o, mayC p.f p.t z = false := by
 intro p hp
 apply ydc
 rw [yce]
 rintro ⟨a, b⟩
 have hs := (ybm x o hx).sub hl p hp z hz b
 have ho : z = o.f := by
  by_cases e : z = o.f
  ·exact e
  ·have := yce.2 ⟨e, hs⟩
   rw [hc] at this
   cases this
 unfold yb9 at hp
 by_cases h : mayC o.f o.t x = true
 ·rw [if_pos h] at hp
  obtain ⟨h1, h2⟩ := yce.1 h
  simp only [List.mem_cons, List.not_mem_nil, or_false] at hp
  rcases hp with rfl | rfl
  ·exact a ho
  ·have ca := (yiz hl.1 hl.2 hx h1 h2).1
   rw [ydd] at ca
   rw [ho] at b
   exact ca.2 b
 ·rw [if_neg h] at hp
  rw [List.mem_singleton.1 hp] at a
  exact a ho
theorem ymp {o p : AO} {a b : AO} (ho : o.lt) (hp : p.lt) (ha : a.lt) (hb : b.lt) (h : yat o.f o.t p.f p.t = true) (h1 : ∀ y, y < 18446744073709551616 → a.has y = true → o.has y = true) (h2 : ∀ y, y < 18446744073709551616 → b.has y = true → p.has y = true) : yat a.f a.t b.f b.t = true := by
 have key : ∀ y, y < 18446744073709551616 → o.has y = true → p.has y = true → False := fun y hy z1 z2 => by
  have := yf2 ho.1 ho.2 hp.1 hp.2 hy h z1
  rw [show inB p.f p.t y = true from z2] at this
  cases this
 rw [ydd]
 exact ⟨fun z => key b.f hb.1 (h1 _ hb.1 z) (h2 _ hb.1 (ydo _ _ hb.1 hb.2)), fun z => key a.f ha.1 (h1 _ ha.1 (ydo _ _ ha.1 ha.2)) (h2 _ ha.1 z)⟩
structure RawL (l : List AO) (own : Nat → Option Int) : Prop where
 lt : ∀ p ∈ l, p.lt
 nd : ∀ p ∈ l, p.n = 0
 e : ∀ p ∈ l, 0 ≤ p.e ∧ p.e ≤ 9223372036854775807
 ap : l.Pairwise fun p q => yat p.f p.t q.f q.t = true
 ow : Ow own l
theorem OwnL.raw {l : List AO} {own : Nat → Option Int} (h : OwnL l own) : RawL l own := ⟨h.arcs.lt, h.nd, fun p hp => (h.arcs.rng p hp).2.2, h.arcs.apart, h.ow⟩
theorem ygl {x : Nat} (hx : x < 18446744073709551616) : ∀ {l : List AO}, (∀ p ∈ l, p.lt) → l.Pairwise (fun p q => yat p.f p.t q.f q.t = true) → (yar l x).length ≤ l.length + 1 ∧ ((∀ p ∈ l, p.has x = false) → (yar l x).length = l.length)
 | [], _, _ => ⟨by simp [yar], fun _ => rfl⟩
 | o :: l, hl, h => by
  obtain ⟨h1, h2⟩ := List.pairwise_cons.1 h
  obtain ⟨i1, i2⟩ := ygl hx (fun p hp => hl p (List.mem_cons_of_mem _ hp)) h2
  have e : yar (o :: l) x = yb9 x o ++ yar l x := rfl
  rw [e, List.length_append]
  have ho := hl o (by simp)
  constructor
  ·by_cases c : mayC o.f o.t x = true
   ·have hx2 := (yce.1 c).2
    rw [i2 (fun p hp => yf2 ho.1 ho.2 (hl p (by simp [hp])).1 (hl p (by simp [hp])).2 hx (h1 p hp) hx2)]
    rw [yb9, if_pos c, List.length_cons]
    simp only [List.length_cons, List.length_nil]
    omega
   ·rw [yb9, if_neg c]
    simp only [List.length_cons, List.length_nil]
    omega
  ·intro hn
   have c : ¬ mayC o.f o.t x = true := fun z => by
    have := hn o (by simp)
    rw [show o.has x = true from (yce.1 z).2] at this
    cases this
   rw [i2 (fun p hp => hn p (by simp [hp]))]
   rw [yb9, if_neg c]
   simp only [List.length_cons, List.length_nil]
   omega
theorem ymq {x : Nat} (hx : x < 18446744073709551616) {l : List AO} {own : Nat → Option Int} (h : RawL l own) : RawL (yar l x) own := by
 have hm : ∀ p, p ∈ yar l x ↔ ∃ o ∈ l, p ∈ yb9 x o := fun p => List.mem_flatMap
 refine ⟨fun p hp => ?_, fun p hp => ?_, fun p hp => ?_, ?_, fun y hy e => ?_⟩
 ·obtain ⟨o, ho, hp⟩ := (hm p).1 hp
  exact (ybm x o hx).lt (h.lt o ho) p hp
 ·obtain ⟨o, ho, hp⟩ := (hm p).1 hp
  rw [((ybm x o hx).e p hp).2]
  exact h.nd o ho
 ·obtain ⟨o, ho, hp⟩ := (hm p).1 hp
  rw [((ybm x o hx).e p hp).1]
  exact h.e o ho
 ·refine List.pairwise_flatMap.2 ⟨fun o ho => (ybm x o hx).ap (h.lt o ho), ?_⟩
  refine h.ap.imp_of_mem ?_
  intro o q ho hq z a ha b hb
  exact ymp (h.lt o ho) (h.lt q hq) ((ybm x o hx).lt (h.lt o ho) a ha) ((ybm x q hx).lt (h.lt q hq) b hb) z ((ybm x o hx).sub (h.lt o ho) a ha) ((ybm x q hx).sub (h.lt q hq) b hb)
 ·rw [h.ow y hy e]
  constructor
  ·rintro ⟨o, ho, a, rfl⟩
   obtain ⟨p, hp, b⟩ := (ybm x o hx).all (h.lt o ho) y hy a
   exact ⟨p, (hm p).2 ⟨o, ho, hp⟩, b, ((ybm x o hx).e p hp).1⟩
  ·rintro ⟨p, hp, a, rfl⟩
   obtain ⟨o, ho, hp⟩ := (hm p).1 hp
   exact ⟨o, ho, (ybm x o hx).sub (h.lt o ho) p hp y hy a, (((ybm x o hx).e p hp).1).symm⟩
def outL (l : List AO) (f t : Nat) : List AO := (yar (yar l f) t).filter fun p => !inB f t p.f
theorem ymr {p : AO} {f t y : Nat} (hp : p.lt) (hf : f < 18446744073709551616) (ht : t < 18446744073709551616) (hy : y < 18446744073709551616) (c1 : mayC p.f p.t f = false) (c2 : mayC p.f p.t t = false) (h : p.has y = true) : inB f t y = inB f t p.f := by
 have c1' : ¬ (f ≠ p.f ∧ inB p.f p.t f = true) := fun z => by have := yce.2 z; rw [c1] at this; cases this
 have c2' : ¬ (t ≠ p.f ∧ inB p.f p.t t = true) := fun z => by have := yce.2 z; rw [c2] at this; cases this
 have h' : inB p.f p.t y = true := h
 clear c1 c2 h
 rw [yay] at c1' c2' h'
 rw [Bool.eq_iff_iff, yay, yay]
 obtain ⟨a, b⟩ := hp
 have h1 := yaf hf a
 have h2 := yaf ht a
 have h3 := yaf b a
 have h4 := yaf hy a
 have h5 := yaf hy hf
 have h6 := yaf ht hf
 have h7 := yaf a hf
 omega
theorem ysw {l D : List AO} {own : Nat → Option Int} (h : OwnL l own) {f t : Nat} (hf : f < 18446744073709551616) (ht : t < 18446744073709551616) (hp : D.Perm (outL l f t)) (hs : D.Pairwise fun p q => p.f ≤ q.f) :
  OwnL (ya2 false D) (fun x => if inB f t x = true then none else own x) ∧ (ya2 false D).length ≤ l.length + 2 := by
 have r1 := ymq hf h.raw
 have r2 := ymq ht r1
 have hm : ∀ o, o ∈ D ↔ o ∈ yar (yar l f) t ∧ inB f t o.f = false := fun o => by rw [hp.mem_iff, outL, List.mem_filter]; simp
 have hcut : ∀ o ∈ yar (yar l f) t, mayC o.f o.t f = false ∧ mayC o.f o.t t = false := fun o ho => by
  obtain ⟨q, hq, ho⟩ := List.mem_flatMap.1 ho
  obtain ⟨r, hr, hq'⟩ := List.mem_flatMap.1 hq
  exact ⟨ysv ht hf (r1.lt q hq) (ymo q hq') o ho, ymo o ho⟩
 have hl : ∀ o ∈ D, o.lt := fun o ho => r2.lt o ((hm o).1 ho).1
 have hlen : D.length ≤ l.length + 2 := by
  rw [hp.length_eq]
  have a := (ygl hf h.arcs.lt h.arcs.apart).1
  have b := (ygl ht r1.lt r1.ap).1
  have c := List.length_filter_le (fun p : AO => !inB f t p.f) (yar (yar l f) t)
  show ((yar (yar l f) t).filter fun p => !inB f t p.f).length ≤ _
  omega
 have hln := yj6 hl hs (yj7 hp (r2.ap.filter _))
 refine ⟨?_, Nat.le_trans (yj5 (b := false) hln hl).2.2.1.len hlen⟩
 refine (ymn hln hl (fun o ho => r2.nd o ((hm o).1 ho).1) (fun o ho => r2.e o ((hm o).1 ho).1) (fun x hx e => ?_)).1
 by_cases hi : inB f t x = true
 ·rw [if_pos hi]
  constructor
  ·intro z
   cases z
  ·rintro ⟨o, ho, a, _⟩
   obtain ⟨k1, k2⟩ := (hm o).1 ho
   have := ymr (r2.lt o k1) hf ht hx (hcut o k1).1 (hcut o k1).2 a
   rw [hi, k2] at this
   cases this
 ·rw [if_neg hi, r2.ow x hx e]
  constructor
  ·rintro ⟨o, ho, a, b⟩
   refine ⟨o, (hm o).2 ⟨ho, ?_⟩, a, b⟩
   rw [← ymr (r2.lt o ho) hf ht hx (hcut o ho).1 (hcut o ho).2 a]
   exact ydc hi
  ·rintro ⟨o, ho, a, b⟩
   exact ⟨o, ((hm o).1 ho).1, a, b⟩
def szN (f t : Nat) : Nat := if f = t then 18446744073709551616 else yag t f
theorem yh9 {f t : Nat} (hf : f < 18446744073709551616) (ht : t < 18446744073709551616) : 0 < szN f t ∧ szN f t ≤ 18446744073709551616 := by
 unfold szN
 split
 ·omega
 ·have := yaf ht hf
  omega
abbrev ptN (f i : Nat) : Nat := yiw f i
theorem yc7 (f i : Nat) : ptN f i < 18446744073709551616 := Nat.mod_lt _ (by omega)
theorem yed {a b : Nat} (ha : a < 18446744073709551616) (hb : b < 18446744073709551616) : (a + b < 18446744073709551616 ∧ ptN a b = a + b) ∨ (18446744073709551616 ≤ a + b ∧ ptN a b = a + b - 18446744073709551616) := by
 unfold ptN yiw
 omega
theorem yms {f : Nat} (hf : f < 18446744073709551616) : ptN f 0 = f := by unfold ptN yiw; omega
structure Went (own : Nat → Option Int) (f c : Nat) (e : Int) : Prop where
 up : ∀ i, i < c → ∃ y, own (ptN f i) = some y ∧ y ≤ e
 at0 : c = 0 → e = 0
 is : 0 < c → ∃ i, i < c ∧ own (ptN f i) = some e
theorem Went.start (own : Nat → Option Int) (f : Nat) : Went own f 0 0 := ⟨fun _ hi => absurd hi (Nat.not_lt_zero _), fun _ => rfl, fun h => absurd h (Nat.lt_irrefl _)⟩
theorem Went.step {own : Nat → Option Int} {f c d : Nat} {e oe : Int} (h : Went own f c e) (h0 : 0 ≤ oe) (hd : c < d) (hp : ∀ i, c ≤ i → i < d → own (ptN f i) = some oe) : Went own f d (max e oe) := by
 refine ⟨fun i hi => ?_, fun z => by omega, fun _ => ?_⟩
 ·by_cases k : i < c
  ·obtain ⟨y, a, b⟩ := h.up i k
   exact ⟨y, a, by omega⟩
  ·exact ⟨oe, hp i (by omega) hi, by omega⟩
 ·by_cases k : oe ≤ e
  ·by_cases k0 : 0 < c
   ·obtain ⟨i, a, b⟩ := h.is k0
    exact ⟨i, by omega, by rw [b]; congr 1; omega⟩
   ·have := h.at0 (by omega)
    exact ⟨c, hd, by rw [hp c (Nat.le_refl _) hd]; congr 1; omega⟩
  ·exact ⟨c, hd, by rw [hp c (Nat.le_refl _) hd]; congr 1; omega⟩
theorem ysx {o : AO} {f t c i : Nat} (ho : o.lt) (hf : f < 18446744073709551616) (ht : t < 18446744073709551616) (hc : c < szN f t) (h : o.has (ptN f c) = true) (hm : mayC (ptN f c) t o.t = false) (h1 : c ≤ i) (h2 : i < szN f t) : o.has (ptN f i) = true := by
 have hm' : ¬ (o.t ≠ ptN f c ∧ inB (ptN f c) t o.t = true) := fun z => by have := yce.2 z; rw [hm] at this; cases this
 have h' : inB o.f o.t (ptN f c) = true := h
 show inB o.f o.t (ptN f i) = true
 clear h hm
 have hn := (yh9 hf ht).2
 have a1 := yed hf (show c < 18446744073709551616 by omega)
 have a2 := yed hf (show i < 18446744073709551616 by omega)
 have l1 := yc7 f c
 have l2 := yc7 f i
 generalize ptN f c = y at *
 generalize ptN f i = z at *
 unfold szN at hc h2 hn
 rw [yay] at h' hm' ⊢
 obtain ⟨b1, b2⟩ := ho
 have s1 := yaf l1 b1
 have s2 := yaf l2 b1
 have s3 := yaf b2 b1
 have s4 := yaf b2 l1
 have s5 := yaf ht l1
 have s6 := yaf ht hf
 split at hc <;> rename_i hft <;> simp only [hft, if_true, if_false] at h2 hn <;> omega
theorem ysy {o : AO} {f t c : Nat} (ho : o.lt) (hf : f < 18446744073709551616) (ht : t < 18446744073709551616) (hc : c < szN f t) (h : o.has (ptN f c) = true) (hm : mayC (ptN f c) t o.t = true) :
  ∃ d, c < d ∧ d < szN f t ∧ o.t = ptN f d ∧ ∀ i, c ≤ i → i < d → o.has (ptN f i) = true := by
 obtain ⟨m1, m2⟩ := yce.1 hm
 have h' : inB o.f o.t (ptN f c) = true := h
 clear h hm
 have hn := (yh9 hf ht).2
 have l1 := yc7 f c
 obtain ⟨b1, b2⟩ := ho
 have a1 := yed hf (show c < 18446744073709551616 by omega)
 have s4 := yaf b2 l1
 have s5 := yaf ht l1
 have s6 := yaf ht hf
 have s1 := yaf l1 b1
 have s3 := yaf b2 b1
 have hd : c + yag o.t (ptN f c) < szN f t := by
  generalize ptN f c = y at *
  rw [yay] at h' m2
  unfold szN at hc ⊢
  split at hc <;> rename_i hft <;> simp only [hft, if_true, if_false] <;> omega
 have a3 := yed hf (show c + yag o.t (ptN f c) < 18446744073709551616 by omega)
 refine ⟨c + yag o.t (ptN f c), by omega, hd, ?_, fun i h1 h2 => ?_⟩
 ·show o.t = ptN f (c + yag o.t (ptN f c))
  generalize ptN f c = y at *
  omega
 ·show inB o.f o.t (ptN f i) = true
  have a2 := yed hf (show i < 18446744073709551616 by omega)
  have l2 := yc7 f i
  have s2 := yaf l2 b1
  generalize ptN f c = y at *
  generalize ptN f i = z at *
  rw [yay] at h' m2 ⊢
  omega
def Followed (own : Nat → Option Int) (f t to_ : Nat) (e : Int) (all : Bool) : Prop :=
 (all = true ∧ to_ = t ∧ Went own f (szN f t) e) ∨ (all = false ∧ ∃ c, c < szN f t ∧ to_ = ptN f c ∧ own (ptN f c) = none ∧ Went own f c e)
theorem yia {f t x : Nat} (hf : f < 18446744073709551616) (ht : t < 18446744073709551616) (hx : x < 18446744073709551616) : inB f t x = true ↔ ∃ i, i < szN f t ∧ x = ptN f i := by
 rw [yay]
 unfold szN
 have s1 := yaf hx hf
 have s2 := yaf ht hf
 constructor
 ·intro h
  refine ⟨yag x f, ?_, ?_⟩
  ·split <;> omega
  ·have := yed hf (ydn x f)
   show x = ptN f (yag x f)
   omega
 ·rintro ⟨i, hi, he⟩
  have hi2 : i < 18446744073709551616 := by split at hi <;> omega
  have := yed hf hi2
  have he' : x = ptN f i := he
  split at hi <;> omega
theorem Followed.yes {own : Nat → Option Int} {f t to_ : Nat} {e : Int} (hf : f < 18446744073709551616) (ht : t < 18446744073709551616) (h : Followed own f t to_ e true) : (∀ x, x < 18446744073709551616 → inB f t x = true → own x ≠ none) ∧ ydf own (fun x => inB f t x = true) e := by
 rcases h with ⟨_, _, h⟩ | ⟨h, _⟩
 ·refine ⟨fun x hx hi => ?_, fun x y hx hi hy => ?_, ?_⟩
  ·obtain ⟨i, a, rfl⟩ := (yia hf ht hx).1 hi
   obtain ⟨y, b, _⟩ := h.up i a
   rw [b]
   simp
  ·obtain ⟨i, a, rfl⟩ := (yia hf ht hx).1 hi
   obtain ⟨y', b, c⟩ := h.up i a
   rw [hy] at b
   obtain rfl := Option.some.inj b
   exact c
  ·obtain ⟨i, a, b⟩ := h.is (yh9 hf ht).1
   exact ⟨ptN f i, yc7 _ _, (yia hf ht (yc7 _ _)).2 ⟨i, a, rfl⟩, b⟩
 ·cases h
theorem Followed.no {own : Nat → Option Int} {f t to_ : Nat} {e : Int} (hf : f < 18446744073709551616) (ht : t < 18446744073709551616) (h : Followed own f t to_ e false) : ∃ x, x < 18446744073709551616 ∧ inB f t x = true ∧ own x = none := by
 rcases h with ⟨h, _⟩ | ⟨_, c, a, _, b, _⟩
 ·cases h
 ·exact ⟨ptN f c, yc7 _ _, (yia hf ht (yc7 _ _)).2 ⟨c, a, rfl⟩, b⟩
end Go.Proofs.YtnjodhglbapnlaaGreat
