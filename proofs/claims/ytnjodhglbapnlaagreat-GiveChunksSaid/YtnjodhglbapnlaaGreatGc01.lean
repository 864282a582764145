import Derived.Test.YtnjodhglbapnlaaGreatRows
import Derived.WalkKit
import Derived.WalkSpells
import Derived.WalkLawsBesides
import Derived.Deep.LoopGhost
import Derived.Deep.QuietTactic
import Derived.BigQuiet
import Derived.Laws.IdiomStrings
import Derived.Laws.BitsAllLaws
import Derived.Lib.Strings
import Derived.Lib.Hide
set_option maxRecDepth 100000
set_option maxHeartbeats 16000000
namespace Go.Proofs.YtnjodhglbapnlaaGreat
open Go.RowKit
def yag (a b : Nat) : Nat := (a + 18446744073709551616 - b) % 18446744073709551616
def yin (a b : Nat) : Nat := (a + b) % 18446744073709551616
def inB (f t x : Nat) : Bool := (f == t) || decide (yag x f < yag t f)
def oneB (f t : Nat) : Bool := (t == 0) || decide (f < t)
def pF (f _ k : Nat) : Nat := if k = 0 then f else 0
def pT (f t k : Nat) : Nat := if k = 0 then (if oneB f t then t else 0) else t
def pN (f t : Nat) : Nat := if oneB f t then 1 else 2
def ybo (f t x : Nat) : Bool := decide (f ≤ x) && ((t == 0) || decide (x < t))
def yat (f t g u : Nat) : Bool := !inB f t g && !inB g u f
def yeg (f t g u : Nat) : Bool := (f == t) || (!(g == u) && (inB f t g && decide (yag u g ≤ yag t g)))
theorem ydj (a b : Nat) : yag a b < 18446744073709551616 := Nat.mod_lt _ (by omega)
theorem yaf {a b : Nat} (ha : a < 18446744073709551616) (hb : b < 18446744073709551616) : (b ≤ a ∧ yag a b = a - b) ∨ (a < b ∧ yag a b = a + 18446744073709551616 - b) := by
 unfold yag; omega
theorem ykr {a b : Nat} (ha : a < 18446744073709551616) (hb : b < 18446744073709551616) : IntKind.u64.wrap ((a : Int) - (b : Int)) = ((yag a b : Nat) : Int) := by
 rw [IntKind.wrap_u64]; unfold yag; omega
theorem yeh {W w1 : World} (hb : Below W.heap.size W w1) : (∀ b o, b < W.heap.size → w1.cell? ⟨b, o, none⟩ = W.cell? ⟨b, o, none⟩) ∧ (∀ b o, b < W.heap.size → w1.frozen? ⟨b, o, none⟩ = W.frozen? ⟨b, o, none⟩) :=
 ⟨fun b o h => hb.cell (p := ⟨b, o, none⟩) h, fun b o h => hb.frozen (p := ⟨b, o, none⟩) h⟩
theorem yg1 {a b c : Nat} (ha : a < 18446744073709551616) (hb : b < 18446744073709551616) (hc : c < 18446744073709551616) : yag (yag a c) (yag b c) = yag a b := by
 have h1 := yaf ha hc
 have h2 := yaf hb hc
 have h3 := yaf (ydj a c) (ydj b c)
 have h4 := yaf ha hb
 omega
theorem yio {a b c : Nat} (ha : a < 18446744073709551616) (hb : b < 18446744073709551616) (hc : c < 18446744073709551616) : (yag a c == yag b c) = (a == b) := by
 have h1 := yaf ha hc
 have h2 := yaf hb hc
 rw [Bool.eq_iff_iff, beq_iff_eq, beq_iff_eq]
 constructor
 ·intro h; omega
 ·intro h; omega
theorem yfc {f t x c : Nat} (hf : f < 18446744073709551616) (ht : t < 18446744073709551616) (hx : x < 18446744073709551616) (hc : c < 18446744073709551616) : inB (yag f c) (yag t c) (yag x c) = inB f t x := by
 unfold inB
 rw [yio hf ht hc, yg1 hx hf hc, yg1 ht hf hc]
theorem yks {f t g u c : Nat} (hf : f < 18446744073709551616) (ht : t < 18446744073709551616) (hg : g < 18446744073709551616) (hu : u < 18446744073709551616) (hc : c < 18446744073709551616) :
  yat (yag f c) (yag t c) (yag g c) (yag u c) = yat f t g u := by
 unfold yat
 rw [yfc hf ht hg hc, yfc hg hu hf hc]
theorem ykt {f t g u c : Nat} (hf : f < 18446744073709551616) (ht : t < 18446744073709551616) (hg : g < 18446744073709551616) (hu : u < 18446744073709551616) (hc : c < 18446744073709551616) :
  yeg (yag f c) (yag t c) (yag g c) (yag u c) = yeg f t g u := by
 unfold yeg
 rw [yfc hf ht hg hc, yio hf ht hc, yio hg hu hc, yg1 hu hg hc, yg1 ht hg hc]
theorem sub_self (a : Nat) (_ha : a < 18446744073709551616) : yag a a = 0 := by unfold yag; omega
theorem yg2 {a : Nat} (ha : a < 18446744073709551616) : yag a 0 = a := by unfold yag; omega
theorem ya3 {f t x : Nat} : inB f t x = true ↔ (f = t ∨ yag x f < yag t f) := by
 unfold inB; simp
theorem yfd {t x : Nat} (ht : t < 18446744073709551616) (hx : x < 18446744073709551616) : inB 0 t x = true ↔ (t = 0 ∨ x < t) := by
 rw [ya3, yg2 ht, yg2 hx]
 constructor <;> intro h <;> omega
theorem yds (f t : Nat) (hf : f < 18446744073709551616) (ht : t < 18446744073709551616) : inB f t f = true := by
 rw [ya3, sub_self f hf]
 have := yaf ht hf
 omega
theorem yfw (f x : Nat) : inB f f x = true := by rw [ya3]; exact .inl rfl
theorem ypu {f t : Nat} (_h : f ≠ t) : inB f t t = false := by
 rw [← Bool.not_eq_true, ya3]; omega
theorem yc8 {b : Bool} (h : ¬ b = true) : b = false := by simpa using h
theorem yc9 {f t g u : Nat} : yat f t g u = true ↔ ¬ inB f t g = true ∧ ¬ inB g u f = true := by
 unfold yat; simp
theorem within_iff {f t g u : Nat} : yeg f t g u = true ↔ (f = t ∨ (g ≠ u ∧ inB f t g = true ∧ yag u g ≤ yag t g)) := by
 unfold yeg; simp
theorem yfx (f t g u : Nat) : yat f t g u = yat g u f t := Bool.and_comm _ _
theorem yfy {f t g u x : Nat} (hf : f < 18446744073709551616) (ht : t < 18446744073709551616) (hg : g < 18446744073709551616) (hu : u < 18446744073709551616) (hx : x < 18446744073709551616)
  (h : yat f t g u = true) (h2 : inB f t x = true) : inB g u x = false := by
 apply yc8
 rw [← yfc hf ht hx hf, sub_self f hf] at h2
 rw [← yks hf ht hg hu hf, sub_self f hf] at h
 rw [← yfc hg hu hx hf]
 have a1 := ydj t f
 have a2 := ydj g f
 have a3 := ydj u f
 have a4 := ydj x f
 generalize yag t f = T at *
 generalize yag g f = G at *
 generalize yag u f = U at *
 generalize yag x f = X at *
 rw [yfd a1 a4] at h2
 rw [yc9, yfd a1 a2, ya3] at h
 rw [ya3]
 have c1 := yaf a3 a2
 have c2 := yaf (show 0 < 18446744073709551616 by omega) a2
 have c3 := yaf a4 a2
 omega
theorem yip {f t x : Nat} (hf : f < 18446744073709551616) (ht : t < 18446744073709551616) (hx : x < 18446744073709551616) (hn : x ≠ f) (h : inB f t x = true) :
  yat f x x t = true ∧ yeg f t f x = true ∧ yeg f t x t = true := by
 rw [← yks hf hx hx ht hf, ← ykt hf ht hf hx hf, ← ykt hf ht hx ht hf, sub_self f hf]
 rw [← yfc hf ht hx hf, sub_self f hf] at h
 have hn' : yag x f ≠ 0 := by have := yaf hx hf; omega
 have a1 := ydj t f
 have a4 := ydj x f
 generalize yag t f = T at *
 generalize yag x f = X at *
 rw [yfd a1 a4] at h
 rw [yc9, within_iff, within_iff, yfd a4 a4, ya3, yfd a1 a4, yfd a1 (by omega), yg2 a4, yg2 a1]
 have c1 := yaf a1 a4
 have c2 := yaf (show 0 < 18446744073709551616 by omega) a4
 refine ⟨⟨?_, ?_⟩, ?_, ?_⟩ <;> omega
theorem yg3 (a b : Nat) : ((a : Int) == (b : Int)) = (a == b) := by
 rw [Bool.eq_iff_iff, beq_iff_eq, beq_iff_eq]; omega
theorem yei (w : World) (o1 o2 : Obj) : Below w.heap.size w ((w.alloc o1).alloc o2) := ((Below.refl _ _).alloc (Nat.le_refl _) o1).alloc (by simp) o2
theorem yej (f t x : Nat) (w : World) (hf : f < 18446744073709551616) (ht : t < 18446744073709551616) (hx : x < 18446744073709551616) :
  Calls Tryz.prog 102 #[.agg #[.int .u64 f, .int .u64 t], .int .u64 x] w fun e w' => e = .returned (.bool (inB f t x)) ∧ Below w.heap.size w w' := by
 have e1 := ykr hx hf
 have e2 := ykr ht hf
 clear hf ht hx
 by_cases h : f = t
 ·have b1 : ((f : Int) == (t : Int)) = true := by rw [beq_iff_eq]; omega
  have e : inB f t x = true := by simp [inB, h]
  rw [e]
  clear h e e1 e2
  go_enter Tryz.func102, Tryz.ntmps102
  go_wp2
  go_ret
  exact ⟨rfl, (Below.refl _ _).alloc (Nat.le_refl _) _⟩
 ·have b1 : ((f : Int) == (t : Int)) = false := by rw [beq_eq_false_iff_ne]; omega
  have e : inB f t x = decide (yag x f < yag t f) := by simp [inB, h]
  rw [e]
  clear h e
  generalize yag x f = a at *
  generalize yag t f = b at *
  go_enter Tryz.func102, Tryz.ntmps102
  go_wp2
  go_ret
  exact ⟨rfl, (Below.refl _ _).alloc (Nat.le_refl _) _⟩
theorem yku (f t : Nat) (w : World) :
  Calls Tryz.prog 108 #[.agg #[.int .u64 f, .int .u64 t]] w fun e w' => e = .returned (.bool (f == t)) ∧ Below w.heap.size w w' := by
 have b1 := yg3 f t
 generalize (f == t) = b at *
 go_enter Tryz.func108, Tryz.ntmps108
 go_wp2
 go_ret
 exact ⟨rfl, (Below.refl _ _).alloc (Nat.le_refl _) _⟩
theorem ypv (f t g u : Nat) (w : World) (hf : f < 18446744073709551616) (ht : t < 18446744073709551616) (hg : g < 18446744073709551616) (hu : u < 18446744073709551616) :
  Calls Tryz.prog 176 #[.agg #[.int .u64 f, .int .u64 t], .agg #[.int .u64 g, .int .u64 u]] w fun e w' => e = .returned (.bool (yat f t g u)) ∧ Below w.heap.size w w' := by
 have C1 := Lib.hid fun W => yej f t g W hf ht hg
 have C2 := Lib.hid fun W => yej g u f W hg hu hf
 clear hf ht hg hu
 unfold yat
 generalize inB f t g = p at *
 generalize inB g u f = q at *
 go_enter Tryz.func176, Tryz.ntmps176
 cases p
 all_goals
  go_wp2_with (first
   | (go_at_call 102; ((with_reducible refine (C1.out _).mono ?_); rintro e w1 ⟨rfl, hb1⟩; obtain ⟨hc1, hf1⟩ := yeh hb1))
   | (go_at_call 102; ((with_reducible refine (C2.out _).mono ?_); rintro e w2 ⟨rfl, hb2⟩)))
 ·go_ret
  exact ⟨by simp, (yei w _ _).trans ((hb1.mono (by simp; omega)).trans (hb2.mono (by have := hb1.size; simp at this; omega)))⟩
 ·go_ret
  exact ⟨by simp, (yei w _ _).trans (hb1.mono (by simp; omega))⟩
def yiq (w w' : World) (f t : Nat) (e : Ending) : Prop :=
 ∃ g, w.heap.size ≤ g ∧ g < w'.heap.size ∧ e = .returned (.slice (some ⟨g, 0, none⟩) (pN f t) (pN f t)) ∧ (∀ k, k < pN f t → w'.cell? ⟨g, k * 2, none⟩ = some (.int .u64 (pF f t k : Nat)) ∧ w'.cell? ⟨g, k * 2 + 1, none⟩ = some (.int .u64 (pT f t k : Nat))) ∧ Below w.heap.size w w'
theorem ykv {w : World} {f t : Nat} {o : Obj} (h : oneB f t = true) :
  yiq w ((w.alloc o).alloc (.cells #[.int .u64 (f : Nat), .int .u64 (t : Nat)] 25)) f t (.returned (.slice (some ⟨w.heap.size + 1, 0, none⟩) 1 1)) := by
 have hn : pN f t = 1 := by simp [pN, h]
 refine ⟨w.heap.size + 1, by omega, by simp, by rw [hn], fun k hk => ?_, yei w _ _⟩
 obtain rfl : k = 0 := by omega
 have h1 : pF f t 0 = f := by simp [pF]
 have h2 : pT f t 0 = t := by simp [pT, h]
 rw [h1, h2]
 constructor <;> go_simp
theorem ypw {w : World} {f t : Nat} {o : Obj} (h : oneB f t = false) :
  yiq w ((w.alloc o).alloc (.cells #[.int .u64 (f : Nat), .int .u64 0, .int .u64 0, .int .u64 (t : Nat)] 25)) f t (.returned (.slice (some ⟨w.heap.size + 1, 0, none⟩) 2 2)) := by
 have hn : pN f t = 2 := by simp [pN, h]
 refine ⟨w.heap.size + 1, by omega, by simp, by rw [hn], fun k hk => ?_, yei w _ _⟩
 have h1 : pF f t 0 = f := by simp [pF]
 have h2 : pT f t 0 = 0 := by simp [pT, h]
 have h3 : pF f t 1 = 0 := by simp [pF]
 have h4 : pT f t 1 = t := by simp [pT]
 obtain rfl | rfl : k = 0 ∨ k = 1 := by omega
 ·rw [h1, h2]
  constructor <;> go_simp <;> rfl
 ·rw [h3, h4]
  constructor <;> go_simp <;> rfl
theorem ykw (f t : Nat) (w : World) :
  Calls Tryz.prog 109 #[.agg #[.int .u64 f, .int .u64 t]] w fun e w' => yiq w w' f t e := by
 by_cases h0 : t = 0
 ·have HO := Lib.hid (show oneB f t = true by simp [oneB, h0])
  have b1 : ((t : Int) == 0) = true := by rw [beq_iff_eq]; omega
  clear h0
  go_enter Tryz.func109, Tryz.ntmps109
  go_wp2
  go_ret
  exact ykv HO.out
 ·have b1 : ((t : Int) == 0) = false := by rw [beq_eq_false_iff_ne]; omega
  by_cases h1 : f < t
  ·have HO := Lib.hid (show oneB f t = true by simp [oneB, h1])
   have b2 : decide (f < t) = true := by simp; omega
   clear h0 h1
   go_enter Tryz.func109, Tryz.ntmps109
   go_wp2
   go_ret
   exact ykv HO.out
  ·have HO := Lib.hid (show oneB f t = false by simp [oneB, h1, h0])
   have b2 : decide (f < t) = false := by simp; omega
   clear h0 h1
   go_enter Tryz.func109, Tryz.ntmps109
   go_wp2
   go_ret
   exact ypw HO.out
def yda (f t x k : Nat) : Bool := (List.range (pN f t - k)).any fun i => ybo (pF f t (k + i)) (pT f t (k + i)) x
theorem yir (f t x : Nat) : yda f t x (pN f t) = false := by simp [yda]
theorem yfz (f t x k : Nat) (h : k < pN f t) : yda f t x k = (ybo (pF f t k) (pT f t k) x || yda f t x (k + 1)) := by
 unfold yda
 obtain ⟨m, hm⟩ : ∃ m, pN f t - k = m + 1 := ⟨pN f t - k - 1, by omega⟩
 rw [hm, show pN f t - (k + 1) = m by omega, List.range_succ_eq_map, List.any_cons, List.any_map]
 congr 2
 funext i
 simp only [Function.comp]
 rw [show k + (i + 1) = k + 1 + i by omega]
theorem ypx (f t x : Nat) (hf : f < 18446744073709551616) (ht : t < 18446744073709551616) (hx : x < 18446744073709551616) : yda f t x 0 = inB f t x := by
 by_cases h : oneB f t = true
 ·have hn : pN f t = 1 := by simp [pN, h]
  rw [yfz _ _ _ _ (by omega), show (0 + 1) = pN f t by omega, yir]
  simp only [pF, pT, h, if_true, Bool.or_false, ybo, inB]
  simp only [oneB, Bool.or_eq_true, beq_iff_eq, decide_eq_true_eq] at h
  rw [Bool.eq_iff_iff]
  simp only [Bool.and_eq_true, Bool.or_eq_true, beq_iff_eq, decide_eq_true_eq]
  have c1 := yaf hx hf
  have c2 := yaf ht hf
  generalize yag x f = p at *
  generalize yag t f = q at *
  constructor
  ·intro g; omega
  ·intro g; omega
 ·have h : oneB f t = false := by simpa using h
  have hn : pN f t = 2 := by simp [pN, h]
  rw [yfz _ _ _ _ (by omega), yfz _ _ _ _ (by omega), show (0 + 1 + 1) = pN f t by omega, yir]
  simp [pF, pT, h, ybo, inB]
  simp only [oneB, Bool.or_eq_false_iff, beq_eq_false_iff_ne, decide_eq_false_iff_not] at h
  rw [Bool.eq_iff_iff]
  simp only [Bool.or_eq_true, beq_iff_eq, decide_eq_true_eq]
  have c1 := yaf hx hf
  have c2 := yaf ht hf
  generalize yag x f = p at *
  generalize yag t f = q at *
  constructor
  ·intro g; omega
  ·intro g; omega
theorem ykx (f t : Nat) : pN f t ≤ 2 := by unfold pN; split <;> omega
theorem ypy {f t x k : Nat} (h : k < pN f t) (h2 : ybo (pF f t k) (pT f t k) x = true) : yda f t x k = true := by rw [yfz _ _ _ _ h, h2]; rfl
theorem ypz {f t x k : Nat} (h : k < pN f t) (h2 : ybo (pF f t k) (pT f t k) x = false) : yda f t x k = yda f t x (k + 1) := by rw [yfz _ _ _ _ h, h2]; rfl
theorem yp0 (F T x : Nat) : (decide (x < F) = true ∧ ybo F T x = false) ∨ (decide (x < F) = false ∧ ((T : Int) == 0) = true ∧ ybo F T x = true) ∨
  (decide (x < F) = false ∧ ((T : Int) == 0) = false ∧ decide (x < T) = true ∧ ybo F T x = true) ∨ (decide (x < F) = false ∧ ((T : Int) == 0) = false ∧ decide (x < T) = false ∧ ybo F T x = false) := by
 have e : ((T : Int) == 0) = (T == 0) := yg3 T 0
 rw [e]
 by_cases h1 : x < F
 ·exact .inl ⟨by simp [h1], by simp [ybo]; omega⟩
 ·by_cases h2 : T = 0
  ·exact .inr (.inl ⟨by simp; omega, by simp [h2], by simp [ybo, h2]; omega⟩)
  ·by_cases h3 : x < T
   ·exact .inr (.inr (.inl ⟨by simp; omega, by simp [h2], by simp [h3], by simp [ybo, h3]; omega⟩))
   ·exact .inr (.inr (.inr ⟨by simp; omega, by simp [h2], by simp; omega, by simp [ybo]; omega⟩))
theorem ydt (f t x : Nat) (w : World) (hf : f < 18446744073709551616) (ht : t < 18446744073709551616) (hx : x < 18446744073709551616) :
  Calls Tryz.prog 113 #[.agg #[.int .u64 f, .int .u64 t], .int .u64 x] w fun e w' => e = .returned (.bool (inB f t x)) ∧ Below w.heap.size w w' := by
 have HA := Lib.hid (ypx f t x hf ht hx)
 have hn := ykx f t
 generalize inB f t x = ans at *
 clear hf ht hx
 go_enter Tryz.func113, Tryz.ntmps113
 go_wp2
 go_step3
 go_wp2
 go_step3
 go_wp2_with (go_at_call 109; refine (ykw f t _).mono ?_; rintro e w1 ⟨g, hg0, hg1, rfl, hcell, hb1⟩)
 have HC := Lib.hid hcell
 have HB := Lib.hid hb1
 have HG := Lib.hid hg0
 clear hcell hb1 hg0
 generalize hnn : pN f t = n at *
 have HN := Lib.hid hnn
 clear hnn
 go_loopg [5, 11] 3 (fun z s5 s11 wx => ∃ (k : Nat), k + z = 3 ∧ k ≤ n ∧ s5 = .bool false ∧ s11 = .int .i64 k ∧ Hid (yda f t x k = ans) ∧ Below w1.heap.size w1 wx)
 case atStart => exact ⟨0, by omega, by omega, rfl, rfl, HA, Below.refl _ _⟩
 case round =>
  obtain ⟨k, hkz, hkn, rfl, rfl, HK, hbk⟩ := hrel
  have hbz := hbk.size
  by_cases hk : k < n
  ·have b0 : decide (k < n) = true := by simp; omega
   obtain ⟨h1, h2⟩ := HC.out k (by omega)
   have hc1 : wr.cell? ⟨g, k * 2, none⟩ = some (.int .u64 (pF f t k : Nat)) := (hbk.cell (p := ⟨g, k * 2, none⟩) hg1).trans h1
   have hc2 : wr.cell? ⟨g, k * 2 + 1, none⟩ = some (.int .u64 (pT f t k : Nat)) := (hbk.cell (p := ⟨g, k * 2 + 1, none⟩) hg1).trans h2
   clear h1 h2
   have hcase := yp0 (pF f t k) (pT f t k) x
   have HY := Lib.hid fun h => ypy (f := f) (t := t) (x := x) (k := k) (by have := HN.out; omega) h
   have HO := Lib.hid fun h => ypz (f := f) (t := t) (x := x) (k := k) (by have := HN.out; omega) h
   generalize pF f t k = F at *
   generalize pT f t k = T at *
   have HBK := Lib.hid hbk
   clear hbk
   have HE := Lib.hid (((((Below.refl w.heap.size w).alloc (Nat.le_refl _) (.cells #[.int .u64 (f : Nat), .int .u64 (t : Nat)] 25)).trans (HB.out.mono (by simp))).trans (HBK.out.mono (by have := HB.out.size; simp at this; omega))).alloc (by have := HB.out.size; simp at this; omega) (.cells #[.int .u64 (F : Nat), .int .u64 (T : Nat)] 25))
   rcases hcase with ⟨d1, hp⟩ | ⟨d1, d2, hp⟩ | ⟨d1, d2, d3, hp⟩ | ⟨d1, d2, d3, hp⟩
   all_goals
    have HP := Lib.hid hp
    clear hp
   ·
    go_wp2
    go_roundg (gk - 1)
    case measure => omega
    case rel => exact ⟨k + 1, by omega, by omega, rfl, by go_num, (HO.out HP.out).symm.trans HK.out, HBK.out.alloc (Nat.le_trans (Nat.le_refl _) hbz) _⟩
   ·
    have e : ans = true := by rw [← HK.out]; exact HY.out HP.out
    have HR := Lib.hid e
    clear e HP HY HO HK
    go_wp2
    rw [Exit.noGoto_ret]
    go_ret
    exact ⟨by rw [HR.out]; rfl, HE.out⟩
   ·
    have e : ans = true := by rw [← HK.out]; exact HY.out HP.out
    have HR := Lib.hid e
    clear e HP HY HO HK
    go_wp2
    rw [Exit.noGoto_ret]
    go_ret
    exact ⟨by rw [HR.out]; rfl, HE.out⟩
   ·
    go_wp2
    go_roundg (gk - 1)
    case measure => omega
    case rel => exact ⟨k + 1, by omega, by omega, rfl, by go_num, (HO.out HP.out).symm.trans HK.out, HBK.out.alloc (Nat.le_trans (Nat.le_refl _) hbz) _⟩
  ·obtain rfl : k = n := by omega
   have e : ans = false := by rw [← HK.out, ← HN.out]; exact yir _ _ _
   have HR := Lib.hid e
   have b0 : decide (k < k) = false := by simp
   have HE := Lib.hid ((((Below.refl w.heap.size w).alloc (Nat.le_refl _) (.cells #[.int .u64 (f : Nat), .int .u64 (t : Nat)] 25)).trans (HB.out.mono (by simp))).trans (hbk.mono (by have := HB.out.size; simp at this; omega)))
   clear e HK hbk
   go_wp2
   rw [Exit.noGoto_ret]
   go_ret
   exact ⟨by rw [HR.out]; rfl, HE.out⟩
structure GP where
 f : Nat
 t : Nat
 n : Int
 g : Nat
structure GS where
 shut : Bool
 f : Nat
 t : Nat
 l : List GP
 k : Nat
abbrev G0 : GS := ⟨false, 0, 0, [], 0⟩
def GS.freeze (s : GS) (f t : Nat) : GS := if s.shut then s else ⟨true, f, t, s.l, s.k⟩
def GS.thaw (s : GS) : GS := ⟨false, 0, 0, s.l, s.k⟩
def GS.point (s : GS) (f t : Nat) (n : Int) : GS := ⟨s.shut, s.f, s.t, s.l ++ [⟨f, t, n, 0⟩], s.k⟩
def GS.frozen (s : GS) (x : Nat) : Bool := s.shut && inB s.f s.t x
def yao (l : List GP) (x : Nat) : Option Int := (l.reverse.find? fun p => inB p.f p.t x).map (·.n)
def ydu (o : Option Int) : Value := .tuple #[.int .i64 (o.getD 0), .bool o.isSome]
theorem yp1 (l : List GP) (p : GP) (x : Nat) : yao (l ++ [p]) x = if inB p.f p.t x then some p.n else yao l x := by
 unfold yao
 rw [List.reverse_append, List.reverse_singleton, List.singleton_append, List.find?_cons]
 cases inB p.f p.t x <;> rfl
theorem yp2 (x : Nat) : yao [] x = none := rfl
def ycv (l : List UInt8) (k : Nat) : Nat := (l[k]?.getD 0).toNat
def accN (l : List UInt8) : Nat → Nat
 | 0 => 0
 | k + 1 => accN l k * 256 + ycv l k
def valN : Nat → List UInt8 → Nat
 | 0, _ => 0
 | _ + 1, [] => 0
 | n + 1, x :: xs => x.toNat * 256 ^ n + valN n xs
theorem yp3 (l : List UInt8) (k : Nat) : ycv l k < 256 := (l[k]?.getD 0).toNat_lt
theorem yky {l : List UInt8} {k : Nat} (h : k < l.length) : ycv l k = (l[k]).toNat := by
 simp [ycv, List.getElem?_eq_getElem h]
theorem ykz {l : List UInt8} {k : Nat} (h : l.length ≤ k) : ycv l k = 0 := by
 simp [ycv, List.getElem?_eq_none h]
theorem yf0 (l : List UInt8) : ∀ k, accN l k < 256 ^ k
 | 0 => by simp [accN]
 | k + 1 => by
  have h := yf0 l k
  have hb := yp3 l k
  rw [accN, Nat.pow_succ]
  omega
theorem yk0 {l : List UInt8} {k : Nat} (h : l.length ≤ k) : ∀ j, accN l (k + j) = accN l k * 256 ^ j
 | 0 => by simp
 | j + 1 => by
  rw [← Nat.add_assoc, accN, yk0 h j, ykz (by omega), Nat.pow_succ, Nat.mul_assoc, Nat.add_zero]
theorem yp4 {l : List UInt8} {k : Nat} (h : l.length ≤ k) (h8 : k ≤ 8) : accN l k * 256 ^ (8 - k) = accN l 8 := by
 rw [← yk0 h]
 congr 1
 omega
theorem yk1 : ∀ k, accN [] k = 0
 | 0 => rfl
 | k + 1 => by simp [accN, yk1 k, ycv]
theorem yk2 (x : UInt8) (xs : List UInt8) : ∀ k, accN (x :: xs) (k + 1) = x.toNat * 256 ^ k + accN xs k
 | 0 => by simp [accN, ycv]
 | k + 1 => by
  rw [accN, yk2 x xs k, accN]
  have e : ycv (x :: xs) (k + 1) = ycv xs k := by simp [ycv]
  rw [e, Nat.add_mul, Nat.pow_succ, Nat.mul_assoc, Nat.add_assoc]
theorem yg4 : ∀ (n : Nat) (l : List UInt8), accN l n = valN n l
 | 0, _ => by simp [accN, valN]
 | n + 1, [] => by rw [yk1]; rfl
 | n + 1, x :: xs => by rw [yk2, yg4 n xs, valN]
theorem yk3 (n : Nat) (l : List UInt8) : valN n l < 256 ^ n := by rw [← yg4]; exact yf0 l n
theorem yis (n : Nat) : valN n [] = 0 := by cases n <;> rfl
theorem yp5 {a b k : Nat} (hk : k < 8) (hb : b < 256) : a * 256 ^ (8 - k) ||| b * 2 ^ (8 * (7 - k)) = (a * 256 + b) * 256 ^ (7 - k) := by
 have e1 : 256 ^ (8 - k) = 2 ^ (8 * (8 - k)) := by rw [Nat.pow_mul]
 have e2 : 256 ^ (7 - k) = 2 ^ (8 * (7 - k)) := by rw [Nat.pow_mul]
 have e3 : 2 ^ (8 * (8 - k)) = 256 * 2 ^ (8 * (7 - k)) := by
  have : 8 * (8 - k) = 8 + 8 * (7 - k) := by omega
  rw [this, Nat.pow_add]
 have hlt : b * 2 ^ (8 * (7 - k)) < 2 ^ (8 * (8 - k)) := by
  rw [e3]
  exact Nat.mul_lt_mul_of_pos_right hb (Nat.two_pow_pos _)
 rw [e1, e2, Nat.mul_comm a, ← Nat.two_pow_add_eq_or_of_lt hlt, e3, Nat.add_mul]
 congr 1
 rw [Nat.mul_comm, ← Nat.mul_assoc]
theorem yfe (l : List UInt8) : Op.bytesLess l [] = false := by cases l <;> rfl
theorem yg5 (x y : UInt8) (xs ys : List UInt8) : Op.bytesLess (x :: xs) (y :: ys) = (decide (x < y) || (x == y && Op.bytesLess xs ys)) := rfl
theorem yff (x y : UInt8) (xs ys : List UInt8) : Op.bytesLess (x :: xs) (y :: ys) = true ↔ x.toNat < y.toNat ∨ (x = y ∧ Op.bytesLess xs ys = true) := by
 rw [yg5]
 simp [UInt8.lt_iff_toNat_lt]
theorem yk4 : ∀ l : List UInt8, Op.bytesLess l l = false
 | [] => rfl
 | x :: xs => by rw [yg5, yk4 xs]; simp
theorem yk5 : ∀ a b : List UInt8, Op.bytesLess a b = true → Op.bytesLess b a = false
 | _, [], h => by rw [yfe] at h; cases h
 | [], _ :: _, _ => rfl
 | x :: xs, y :: ys, h => by
  rw [yff] at h
  rcases h with h | ⟨rfl, h⟩
  ·rw [yg5]
   have h1 : ¬ y < x := by rw [UInt8.lt_iff_toNat_lt]; omega
   have h2 : y ≠ x := by rintro rfl; omega
   simp [h1, h2]
  ·rw [yg5, yk5 xs ys h]; simp
theorem yk6 : ∀ a b c : List UInt8, Op.bytesLess a b = true → Op.bytesLess b c = true → Op.bytesLess a c = true
 | _, [], _, h, _ => by rw [yfe] at h; cases h
 | _, _ :: _, [], _, h => by rw [yfe] at h; cases h
 | [], _ :: _, _ :: _, _, _ => rfl
 | x :: xs, y :: ys, z :: zs, h, k => by
  rw [yff] at h k ⊢
  rcases h with h | ⟨rfl, h⟩
  ·rcases k with k | ⟨rfl, k⟩
   ·exact .inl (by omega)
   ·exact .inl h
  ·rcases k with k | ⟨rfl, k⟩
   ·exact .inl k
   ·exact .inr ⟨rfl, yk6 xs ys zs h k⟩
theorem yit : ∀ a b : List UInt8, a ≠ b → Op.bytesLess a b = true ∨ Op.bytesLess b a = true
 | [], [], h => absurd rfl h
 | [], _ :: _, _ => .inl rfl
 | _ :: _, [], _ => .inr rfl
 | x :: xs, y :: ys, h => by
  rw [yff, yff]
  by_cases hxy : x = y
  ·subst hxy
   rcases yit xs ys (fun e => h (by rw [e])) with k | k
   ·exact .inl (.inr ⟨rfl, k⟩)
   ·exact .inr (.inr ⟨rfl, k⟩)
  ·have : x.toNat ≠ y.toNat := fun e => hxy (UInt8.toNat_inj.1 e)
   rcases Nat.lt_or_gt_of_ne this with k | k
   ·exact .inl (.inl k)
   ·exact .inr (.inl k)
theorem yk7 : ∀ (n : Nat) (a b : List UInt8), Op.bytesLess a b = true → valN n a ≤ valN n b
 | 0, _, _, _ => by simp [valN]
 | n + 1, _, [], h => by rw [yfe] at h; cases h
 | n + 1, [], _ :: _, _ => by simp [valN]
 | n + 1, x :: xs, y :: ys, h => by
  rw [yff] at h
  simp only [valN]
  rcases h with h | ⟨rfl, h⟩
  ·have h1 := yk3 n xs
   have h2 : (x.toNat + 1) * 256 ^ n ≤ y.toNat * 256 ^ n := Nat.mul_le_mul_right _ h
   rw [Nat.add_mul] at h2
   omega
  ·have := yk7 n xs ys h
   omega
theorem yiu (n : Nat) (a b : List UInt8) (h : valN n a < valN n b) : Op.bytesLess a b = true := by
 by_cases e : a = b
 ·subst e; omega
 ·rcases yit a b e with k | k
  ·exact k
  ·have := yk7 n b a k
   omega
def bare : List UInt8 → Bool
 | [] => true
 | [x] => x != 0
 | _ :: y :: ys => bare (y :: ys)
theorem yp6 {x : UInt8} {xs : List UInt8} (h : bare (x :: xs) = true) : bare xs = true := by
 cases xs with
 | nil => rfl
 | cons y ys => exact h
theorem yk8 : ∀ (n : Nat) (l : List UInt8), l.length ≤ n → l ≠ [] → bare l = true → 0 < valN n l
 | 0, [], _, h, _ => absurd rfl h
 | 0, _ :: _, h, _, _ => by simp at h
 | _ + 1, [], _, h, _ => absurd rfl h
 | n + 1, [x], _, _, hb => by
  have hx : x ≠ 0 := by simpa [bare] using hb
  have : 0 < x.toNat := Nat.pos_of_ne_zero fun e => hx (UInt8.toNat_inj.1 e)
  have h2 : 0 < 256 ^ n := Nat.pow_pos (by omega)
  have := Nat.mul_pos this h2
  simp only [valN]
  omega
 | n + 1, x :: y :: ys, hl, _, hb => by
  have := yk8 n (y :: ys) (by simpa using hl) (by simp) hb
  simp only [valN]
  omega
theorem yg6 : ∀ (n : Nat) (a f : List UInt8), f.length ≤ n → bare f = true → valN n f ≤ valN n a → Op.bytesLess a f = false
 | _, _, [], _, _, _ => yfe _
 | 0, _, _ :: _, h, _, _ => by simp at h
 | n + 1, [], y :: ys, hl, hb, hv => by
  have := yk8 (n + 1) (y :: ys) hl (by simp) hb
  rw [yis] at hv
  omega
 | n + 1, x :: xs, y :: ys, hl, hb, hv => by
  cases h : Op.bytesLess (x :: xs) (y :: ys) with
  | false => rfl
  | true =>
   exfalso
   rw [yff] at h
   simp only [valN] at hv
   rcases h with h | ⟨rfl, h⟩
   ·have h1 := yk3 n xs
    have h2 : (x.toNat + 1) * 256 ^ n ≤ y.toNat * 256 ^ n := Nat.mul_le_mul_right _ h
    rw [Nat.add_mul] at h2
    omega
   ·have := yg6 n xs ys (by simpa using hl) (yp6 hb) (by omega)
    rw [h] at this
    cases this
def ybi : Nat → Nat → List UInt8
 | 0, _ => []
 | n + 1, v => UInt8.ofNat (v / 256 ^ n) :: ybi n v
theorem yk9 : ∀ n v, (ybi n v).length = n
 | 0, _ => rfl
 | n + 1, v => by simp [ybi, yk9 n v]
theorem yiv : ∀ n v, valN n (ybi n v) = v % 256 ^ n
 | 0, v => by simp [valN, Nat.mod_one]
 | n + 1, v => by
  simp only [ybi, valN, yiv n v]
  have h : (UInt8.ofNat (v / 256 ^ n)).toNat = v / 256 ^ n % 256 := by simp
  rw [h, Nat.pow_succ, Nat.mod_mul]
  rw [Nat.mul_comm, Nat.add_comm]
def ybj : List UInt8 → List UInt8
 | [] => []
 | x :: xs => if ybj xs = [] ∧ x = 0 then [] else x :: ybj xs
theorem yla : ∀ l, (ybj l).length ≤ l.length
 | [] => by simp [ybj]
 | x :: xs => by
  have := yla xs
  simp only [ybj]
  split <;> simp
  omega
theorem ylb : ∀ l, bare (ybj l) = true
 | [] => rfl
 | x :: xs => by
  have ih := ylb xs
  simp only [ybj]
  split
  ·rfl
  ·rename_i h
   cases e : ybj xs with
   | nil =>
    have : x ≠ 0 := fun hx => h ⟨e, hx⟩
    simpa [bare] using this
   | cons y ys => rw [e] at ih; exact ih
theorem yiw : ∀ n l, valN n (ybj l) = valN n l
 | 0, _ => rfl
 | _ + 1, [] => rfl
 | n + 1, x :: xs => by
  have ih := yiw n xs
  simp only [ybj]
  split
  ·rename_i h
   obtain ⟨h1, rfl⟩ := h
   rw [h1, yis] at ih
   simp [valN, ← ih]
  ·simp [valN, ih]
def yay (x : Nat) : List UInt8 := ybj (ybi 8 x)
theorem yix (x : Nat) : (yay x).length ≤ 8 := by
 have := yla (ybi 8 x)
 rwa [yk9] at this
theorem ydv {x : Nat} (h : x < 256 ^ 8) : valN 8 (yay x) = x := by
 rw [yay, yiw, yiv, Nat.mod_eq_of_lt h]
theorem yiy (x : Nat) : bare (yay x) = true := ylb _
theorem ylc : ∀ n v, v % 256 ^ n = 0 → ybj (ybi n v) = []
 | 0, _, _ => rfl
 | n + 1, v, h => by
  have h1 : v % 256 ^ n = 0 := by
   rw [Nat.pow_succ] at h
   have := Nat.mod_mul_right_mod v (256 ^ n) 256
   rw [h] at this
   simpa using this.symm
  have h2 : v / 256 ^ n % 256 = 0 := by
   rw [Nat.pow_succ, Nat.mod_mul, h1] at h
   have hp : 0 < 256 ^ n := Nat.pow_pos (by omega)
   rcases Nat.mul_eq_zero.1 (Nat.eq_zero_of_add_eq_zero_left h) with h | h
   ·omega
   ·exact h
  simp only [ybi, ybj]
  rw [if_pos ⟨ylc n v h1, UInt8.toNat_inj.1 (by simp [h2])⟩]
theorem yp7 (n v : Nat) (h : v % 256 ^ (n + 1) ≠ 0) : ybj (ybi (n + 1) v) = UInt8.ofNat (v / 256 ^ n) :: ybj (ybi n v) := by
 simp only [ybi, ybj]
 rw [if_neg]
 rintro ⟨h1, h2⟩
 apply h
 have h3 : v % 256 ^ n = 0 := by
  have := yiw n (ybi n v)
  rw [h1, yis, yiv] at this
  exact this.symm
 have h4 : v / 256 ^ n % 256 = 0 := by
  have := congrArg UInt8.toNat h2
  simpa using this
 rw [Nat.pow_succ, Nat.mod_mul, h3, h4]
 simp
def yf1 (b : UInt8) : Value := .int .u8 (b.toNat : Int)
def txt (l : List UInt8) : ByteArray := ⟨l.toArray⟩
theorem yiz (l : List UInt8) : (txt l).toList = l := by rw [Lib.toList_data]; simp [txt]
theorem yld (l : List UInt8) : (txt l).size = l.length := by show l.toArray.size = _; simp
theorem yg7 (s : ByteArray) : txt s.data.toList = s := by cases s; simp [txt]
theorem yg8 (s : ByteArray) : s.data.toList.length = s.size := rfl
theorem yp8 {P : Program} {w : World} {base e : Nat} {A : Option Addr} {n c : Nat} {l : List UInt8} (src dst : TypeId)
  (hown : w.ownsRow base e 1 (.slice A n c) n (l.map yf1)) (hs : P.underlying src = some (.slice e)) (he : P.underlying e = some (.int .u8)) (hd : P.underlying dst = some .string) :
  (convert src dst (.slice A n c)).run P w = .ok (.string (txt l)) w := by
 have hn : l.length = n := by have := hown.1; simpa using this
 rcases A with _ | ad
 ·rcases hown.2 with ⟨h0, h1⟩ | ⟨g, cap, cur, h0, _⟩
  ·injection h0 with _ h2 h3
   subst h2 h3
   have : l = [] := List.eq_nil_of_length_eq_zero hn
   subst this
   rw [run_convert_bytes_string w src dst e none 0 0 hs he hd]
   rfl
  ·cases h0
 ·rcases hown.2 with ⟨h0, h1⟩ | ⟨g, cap, cur, h0, hg, hh, _⟩
  ·cases h0
  ·injection h0 with h1 h2 h3
   injection h1 with h1
   subst h1
   rw [← hn]
   refine run_convert_bytes_back w src dst e _ c l hs he hd (fun j hj => ?_)
   have hc := hown.cells (g := g) rfl j (yf1 l[j]) (by simp [List.getElem?_eq_getElem hj])
   exact hc
theorem yav {w : World} {base e size n : Nat} {v : Value} {xs : List Value} (h : w.ownsRow base e size v n xs) : ∃ A c, v = .slice A n c := by
 rcases h.2 with ⟨rfl, rfl⟩ | ⟨g, cap, cur, rfl, _⟩
 ·exact ⟨_, _, rfl⟩
 ·exact ⟨_, _, rfl⟩
theorem own_below {w w0 : World} {base e size n : Nat} {v : Value} {xs : List Value} (h : w.ownsRow base e size v n xs) (hb : Below base w0 w) (hs : base ≤ w.heap.size) {w' : World} (hg : w.grownBy w' v.ownBlock) : Below base w0 w' :=
 hb.grown hg hs fun k hk => (h.lt k hk).1
theorem yp9 : ∃ i, Tryz.prog.info? 5 = some i ∧ i.zero = some (.int .u8 0) ∧ i.size = 1 ∧ i.bytes = 1 := by
 have h : (Tryz.prog.info? 5).map (fun i => (i.zero, i.size, i.bytes)) = some (some (.int .u8 0), 1, 1) := by kernel_rfl
 obtain ⟨i, hi, hx⟩ := Option.map_eq_some_iff.1 h
 simp only [Prod.mk.injEq] at hx
 exact ⟨i, hi, hx⟩
def yai (s : ByteArray) : Int := if s.size = 0 ∨ 16 < s.size then 3 else 0
def yas (s : ByteArray) : Int := if 16 < s.size then 4 else 0
def yac (s : ByteArray) : Nat := accN s.data.toList 8
theorem yfg (s : ByteArray) : yac s < 18446744073709551616 := yf0 _ 8
theorem yle (s : ByteArray) (w : World) (hs : s.size ≤ maxLen) :
  Calls Tryz.prog 133 #[.string s] w fun e w' => e = .returned (.int .i64 (yai s)) ∧ w = w' := by
 unfold maxLen at hs
 by_cases h0 : s.size = 0
 ·have e : yai s = 3 := by simp [yai, h0]
  rw [e]
  have b1 : ((s.size : Int) == 0) = true := by simp [h0]
  go_enter Tryz.func133, Tryz.ntmps133
  go_wp2
  all_goals (go_ret; exact ⟨rfl, rfl⟩)
 ·have b1 : ((s.size : Int) == 0) = false := by rw [beq_eq_false_iff_ne]; omega
  by_cases h1 : 16 < s.size
  ·have e : yai s = 3 := by simp [yai, h1]
   rw [e]
   go_enter Tryz.func133, Tryz.ntmps133
   go_wp2
   all_goals (go_ret; exact ⟨rfl, rfl⟩)
  ·have e : yai s = 0 := by simp [yai, h1, h0]
   rw [e]
   go_enter Tryz.func133, Tryz.ntmps133
   go_wp2
   all_goals (go_ret; exact ⟨rfl, rfl⟩)
theorem ylf (s : ByteArray) (w : World) (hs : s.size ≤ maxLen) :
  Calls Tryz.prog 136 #[.string s] w fun e w' => e = .returned (.int .i64 (yas s)) ∧ w = w' := by
 unfold maxLen at hs
 by_cases h1 : 16 < s.size
 ·have e : yas s = 4 := by simp [yas, h1]
  rw [e]
  go_enter Tryz.func136, Tryz.ntmps136
  go_wp2
  all_goals (go_ret; exact ⟨rfl, rfl⟩)
 ·have e : yas s = 0 := by simp [yas, h1]
  rw [e]
  go_enter Tryz.func136, Tryz.ntmps136
  go_wp2
  all_goals (go_ret; exact ⟨rfl, rfl⟩)
theorem yi0 (s : ByteArray) (w : World) (hs : s.size ≤ maxLen) :
  Calls Tryz.prog 62 #[.string s] w fun e w' => e = .returned (.int .i64 (yai s)) ∧ w = w' := by
 unfold maxLen at hs
 by_cases h0 : s.size = 0
 ·have e : yai s = 3 := by simp [yai, h0]
  rw [e]
  have b1 : decide ((s.size : Int) < 1) = true := by simp [h0]
  go_enter Tryz.func62, Tryz.ntmps62
  go_wp2
  all_goals (go_ret; exact ⟨rfl, rfl⟩)
 ·have b1 : decide ((s.size : Int) < 1) = false := by simp; omega
  by_cases h1 : 16 < s.size
  ·have e : yai s = 3 := by simp [yai, h1]
   rw [e]
   go_enter Tryz.func62, Tryz.ntmps62
   go_wp2
   all_goals (go_ret; exact ⟨rfl, rfl⟩)
  ·have e : yai s = 0 := by simp [yai, h1, h0]
   rw [e]
   go_enter Tryz.func62, Tryz.ntmps62
   go_wp2
   all_goals (go_ret; exact ⟨rfl, rfl⟩)
theorem yi1 (s : ByteArray) (w : World) (hs : s.size ≤ maxLen) :
  Calls Tryz.prog 68 #[.string s] w fun e w' => e = .returned (.int .i64 (yas s)) ∧ w = w' := by
 unfold maxLen at hs
 by_cases h1 : 16 < s.size
 ·have e : yas s = 4 := by simp [yas, h1]
  rw [e]
  go_enter Tryz.func68, Tryz.ntmps68
  go_wp2
  all_goals (go_ret; exact ⟨rfl, rfl⟩)
 ·have e : yas s = 0 := by simp [yas, h1]
  rw [e]
  go_enter Tryz.func68, Tryz.ntmps68
  go_wp2
  all_goals (go_ret; exact ⟨rfl, rfl⟩)
theorem yfh (a b : ByteArray) (w : World) :
  Calls Tryz.prog 142 #[.string a, .string b] w fun e w' => e = .returned (.bool (Op.bytesLess a.toList b.toList)) ∧ w = w' := by
 go_enter Tryz.func142, Tryz.ntmps142
 go_wp2
 go_ret
 exact ⟨rfl, rfl⟩
def ydk (l : List UInt8) (k : Nat) : Nat := accN l k * 256 ^ (8 - k)
theorem yqa (l : List UInt8) {k : Nat} (h : k ≤ 8) : ydk l k < 18446744073709551616 := by
 have h1 := yf0 l k
 have h2 : 256 ^ k * 256 ^ (8 - k) = 18446744073709551616 := by rw [← Nat.pow_add, show k + (8 - k) = 8 by omega]
 rw [← h2]
 exact Nat.mul_lt_mul_of_pos_right h1 (Nat.pow_pos (by omega))
theorem yqb {l : List UInt8} {k : Nat} (hk : k < 8) (hl : k < l.length) :
  bits .or .u64 (ydk l k : Int) (IntKind.u64.wrap (IntKind.u64.wrap ((l[k]).toNat : Int) * 2 ^ (8 * (7 - k)))) = (ydk l (k + 1) : Int) := by
 have hb : (l[k]).toNat < 256 := (l[k]).toNat_lt
 have e1 : IntKind.u64.wrap ((l[k]).toNat : Int) = ((l[k]).toNat : Int) := by rw [IntKind.wrap_u64]; omega
 have hp : 2 ^ (8 * (7 - k)) ≤ 2 ^ 56 := Nat.pow_le_pow_right (by omega) (by omega)
 have hm : (l[k]).toNat * 2 ^ (8 * (7 - k)) < 18446744073709551616 := by
  have : (l[k]).toNat * 2 ^ (8 * (7 - k)) ≤ 255 * 2 ^ 56 := Nat.mul_le_mul (by omega) hp
  omega
 have e2 : ((l[k]).toNat : Int) * 2 ^ (8 * (7 - k)) = (((l[k]).toNat * 2 ^ (8 * (7 - k)) : Nat) : Int) := by simp
 rw [e1, e2]
 have e3 : IntKind.u64.wrap (((l[k]).toNat * 2 ^ (8 * (7 - k)) : Nat) : Int) = (((l[k]).toNat * 2 ^ (8 * (7 - k)) : Nat) : Int) := by rw [IntKind.wrap_u64]; omega
 rw [e3, u64_or_nat _ _ (yqa l (by omega)) hm]
 unfold ydk
 rw [yp5 hk hb, accN, yky hl, show 8 - (k + 1) = 7 - k by omega]
theorem ylg (s : ByteArray) (w : World) (hs : s.size ≤ maxLen) :
  Calls Tryz.prog 55 #[.string s] w fun e w' => e = .returned (.int .u64 (yac s : Nat)) ∧ w = w' := by
 unfold maxLen at hs
 go_enter Tryz.func55, Tryz.ntmps55
 go_wp2
 go_step3
 go_wp2
 go_step3
 go_wp2
 go_loopg [3, 4] 9 (fun g s3 s4 wx => ∃ (k : Nat), k + g = 9 ∧ k ≤ 8 ∧ k ≤ s.size ∧ s4 = .int .i64 k ∧ s3 = .int .u64 (ydk s.data.toList k : Nat) ∧ w = wx)
 case atStart => exact ⟨0, by omega, by omega, by omega, rfl, by simp [ydk, accN], rfl⟩
 case round =>
  obtain ⟨k, hkg, h8, hks, rfl, rfl, rfl⟩ := hrel
  by_cases h1 : k < s.size
  ·have b1 : ((k:Int) == (s.size : Int)) = false := by rw [beq_eq_false_iff_ne]; omega
   by_cases h2 : k < 8
   ·have b2 : ((k:Int) == 8) = false := by rw [beq_eq_false_iff_ne]; omega
    have HS := Lib.hid (yqb (l := s.data.toList) h2 (by rw [yg8]; exact h1))
    go_wp2
    go_roundg (gk - 1)
    case measure => omega
    case rel => exact ⟨k + 1, by omega, by omega, by omega, by go_num, congrArg (Value.int .u64) HS.out, rfl⟩
   ·have b2 : ((k:Int) == 8) = true := by rw [beq_iff_eq]; omega
    have e : ydk s.data.toList k = yac s := by
     obtain rfl : k = 8 := by omega
     simp [ydk, yac]
    rw [e]
    go_wp2
    rw [Exit.noGoto_ret]
    go_ret
    exact ⟨rfl, rfl⟩
  ·have b1 : ((k:Int) == (s.size : Int)) = true := by rw [beq_iff_eq]; omega
   have e : ydk s.data.toList k = yac s := yp4 (by rw [yg8]; omega) h8
   rw [e]
   go_wp2
   rw [Exit.noGoto_ret]
   go_ret
   exact ⟨rfl, rfl⟩
theorem acc {w W W1 : World} (hB : Below w.heap.size w W) (hb : Below W.heap.size W W1) : Below w.heap.size w W1 := hB.trans (hb.mono hB.size)
theorem ycw {W : World} {base e size n : Nat} {v : Value} {xs : List Value} (h : W.ownsRow base e size v n xs) : ∀ k, v.ownBlock = some k → base ≤ k := fun k hk => (h.lt k hk).1
theorem yg9 {W W1 : World} {base e size n : Nat} {v : Value} {xs : List Value} (h : W.ownsRow base e size v n xs) (hb : Below W.heap.size W W1) : W1.ownsRow base e size v n xs := by
 refine h.kept (row := none) ⟨hb.os, hb.tape, hb.output, hb.size, fun k hk _ => hb.block k hk⟩ ?_
 rcases v.ownBlock.eq_none_or_eq_some with e | ⟨q, e⟩
 ·exact .inl e
 ·exact .inr (by rw [e]; intro h2; cases h2)
abbrev Item := ByteArray × ByteArray
def yaa (l : List Item) : List Value := l.flatMap fun x => [Value.string x.1, Value.string x.2]
theorem yb3 (x : Item) (l : List Item) : yaa (x :: l) = Value.string x.1 :: Value.string x.2 :: yaa l := rfl
theorem ycx (a b : List Item) : yaa (a ++ b) = yaa a ++ yaa b := by simp [yaa]
theorem ybp : ∀ l : List Item, (yaa l).length = l.length * 2
 | [] => rfl
 | x :: l => by rw [yb3, List.length_cons, List.length_cons, ybp l, List.length_cons]; omega
theorem ybw : ∀ (l : List Item) (i : Nat) (h : i < l.length), (yaa l)[i * 2]? = some (.string (l[i]).1)
 | x :: l, 0, _ => rfl
 | x :: l, i + 1, h => by
  rw [show (i + 1) * 2 = i * 2 + 1 + 1 by omega, yb3, List.getElem?_cons_succ, List.getElem?_cons_succ, ybw l i (by simpa using h)]
  rfl
theorem yb4 : ∀ (l : List Item) (i : Nat) (h : i < l.length), (yaa l)[i * 2 + 1]? = some (.string (l[i]).2)
 | x :: l, 0, _ => rfl
 | x :: l, i + 1, h => by
  rw [show (i + 1) * 2 + 1 = i * 2 + 1 + 1 + 1 by omega, yb3, List.getElem?_cons_succ, List.getElem?_cons_succ, yb4 l i (by simpa using h)]
  rfl
theorem yha (l : List Item) (n : Nat) : (yaa l).take (n * 2) = yaa (l.take n) := by
 induction l generalizing n with
 | nil => simp [yaa]
 | cons x l ih =>
  cases n with
  | zero => rfl
  | succ n => rw [show (n + 1) * 2 = n * 2 + 1 + 1 by omega, yb3, List.take_succ_cons, List.take_succ_cons, ih, List.take_succ_cons, yb3]
theorem yhb (l : List Item) (n : Nat) : (yaa l).drop (n * 2) = yaa (l.drop n) := by
 induction l generalizing n with
 | nil => simp [yaa]
 | cons x l ih =>
  cases n with
  | zero => rfl
  | succ n => rw [show (n + 1) * 2 = n * 2 + 1 + 1 by omega, yb3, List.drop_succ_cons, List.drop_succ_cons, ih, List.drop_succ_cons]
def Row (W : World) (v : Value) (l : List Item) : Prop := W.ownsRow 0 96 2 v l.length (yaa l)
structure Touch (F : List Nat) (w w1 : World) : Prop where
 os : w1.os = w.os
 tape : w1.tape = w.tape
 output : w1.output = w.output
 size : w.heap.size ≤ w1.heap.size
 block : ∀ k, k < w.heap.size → k ∉ F → w1.heap[k]? = w.heap[k]?
theorem Touch.refl (F : List Nat) (w : World) : Touch F w w := ⟨rfl, rfl, rfl, Nat.le_refl _, fun _ _ _ => rfl⟩
theorem Touch.trans {F G : List Nat} {a b c : World} (h : Touch F a b) (k : Touch G b c) (hG : ∀ x, x ∈ G → x ∈ F ∨ a.heap.size ≤ x) : Touch F a c :=
 ⟨k.os.trans h.os, k.tape.trans h.tape, k.output.trans h.output, Nat.le_trans h.size k.size, fun i hi hn =>
  (k.block i (Nat.lt_of_lt_of_le hi h.size) (fun hx => by rcases hG i hx with h1 | h1; exact hn h1; omega)).trans (h.block i hi hn)⟩
theorem Touch.mono {F G : List Nat} {a b : World} (h : Touch F a b) (hG : ∀ x, x ∈ F → x ∈ G) : Touch G a b := ⟨h.os, h.tape, h.output, h.size, fun k hk hn => h.block k hk (fun hx => hn (hG k hx))⟩
theorem Touch.drew {F : List Nat} {a b : World} (h : Touch F a b) : Touch F a b.drew := ⟨h.os, h.tape, h.output, h.size, h.block⟩
theorem Touch.drewN {F : List Nat} {a b : World} (h : Touch F a b) (n : Nat) : Touch F a (b.drewN n) := ⟨h.os, h.tape, h.output, h.size, h.block⟩
theorem Touch.alloc {F : List Nat} {a b : World} (h : Touch F a b) (o : Obj) : Touch F a (b.alloc o) :=
 ⟨h.os, h.tape, h.output, by have := h.size; simp; omega, fun k hk hn => (Below.heap_alloc _ _ _ (Nat.lt_of_lt_of_le hk h.size)).trans (h.block k hk hn)⟩
theorem Touch.set {F : List Nat} {a b : World} (h : Touch F a b) {p : Addr} (hp : p.block ∈ F ∨ a.heap.size ≤ p.block) (u : Value) : Touch F a (b.setCell p u) :=
 ⟨h.os, h.tape, h.output, by have := h.size; simpa [World.setCell] using this, fun k hk hn =>
  (Below.heap_setCell _ _ _ _ (fun e => by rcases hp with h1 | h1; exact hn (e ▸ h1); omega)).trans (h.block k hk hn)⟩
theorem Touch.grown {F : List Nat} {row : Option Nat} {a b c : World} (h : Touch F a b) (hg : b.grownBy c row) (hr : ∀ k, row = some k → k ∈ F ∨ a.heap.size ≤ k) : Touch F a c :=
 ⟨hg.os.trans h.os, hg.tape.trans h.tape, hg.output.trans h.output, Nat.le_trans h.size hg.size, fun i hi hn =>
  (hg.block i (Nat.lt_of_lt_of_le hi h.size) (fun e => by rcases hr i e.symm with h1 | h1; exact hn h1; omega)).trans (h.block i hi hn)⟩
theorem Touch.below {F : List Nat} {a b : World} {B : Nat} (h : Touch F a b) (hB : B ≤ a.heap.size) (hF : ∀ x, x ∈ F → B ≤ x) : Below B a b :=
 ⟨h.os, h.tape, h.output, h.size, fun k hk => h.block k (by omega) (fun hx => by have := hF k hx; omega)⟩
theorem Touch.ofBelow {F : List Nat} {a b : World} (h : Below a.heap.size a b) : Touch F a b := ⟨h.os, h.tape, h.output, h.size, fun k hk _ => h.block k hk⟩
theorem Touch.acc {F : List Nat} {w a b : World} (hB : Below w.heap.size w a) (h : Touch F a b) (hF : ∀ x, x ∈ F → w.heap.size ≤ x) : Below w.heap.size w b := hB.trans (h.below hB.size hF)
theorem Touch.cell {F : List Nat} {a b : World} (h : Touch F a b) {p : Addr} (hp : p.block < a.heap.size) (hn : p.block ∉ F) : b.cell? p = a.cell? p := World.cell?_of_block (w := a) (h.block p.block hp hn)
theorem Touch.frozen {F : List Nat} {a b : World} (h : Touch F a b) {p : Addr} (hp : p.block < a.heap.size) (hn : p.block ∉ F) : b.frozen? p = a.frozen? p := World.frozen?_of_block (w := a) (h.block p.block hp hn)
theorem Touch.row {F : List Nat} {a b : World} {base e size n : Nat} {v : Value} {xs : List Value} (h : Touch F a b) (hr : a.ownsRow base e size v n xs) (hn : ∀ q, v.ownBlock = some q → q ∉ F) : b.ownsRow base e size v n xs := by
 refine ⟨hr.1, ?_⟩
 rcases hr.2 with h0 | ⟨g, cap, cur, hv, hb, hh, r⟩
 ·exact .inl h0
 ·have hlt : g < a.heap.size := by
   have := hr.lt g (by rw [hv]; rfl)
   exact this.2
  exact .inr ⟨g, cap, cur, hv, hb, by rw [h.block g hlt (hn g (by rw [hv]; rfl))]; exact hh, r⟩
def yad (a b : ByteArray) : Bool := Op.bytesLess a.toList b.toList
def yaj : List Item → ByteArray → Nat
 | [], _ => 0
 | x :: l, k => if yad x.1 k then yaj l k + 1 else 0
theorem ydw : ∀ (l : List Item) (k : ByteArray), yaj l k ≤ l.length
 | [], _ => Nat.le_refl _
 | x :: l, k => by
  rw [yaj]
  have := ydw l k
  split
  ·rw [List.length_cons]; omega
  ·exact Nat.zero_le _
theorem ylh : ∀ (l : List Item) (k : ByteArray) (i : Nat) (h : i < l.length), i ≤ yaj l k → (yad (l[i]).1 k = true ↔ i + 1 ≤ yaj l k)
 | x :: l, k, 0, _, _ => by
  rw [yaj]
  cases hx : yad x.1 k with
  | true =>
   refine ⟨fun _ => ?_, fun _ => hx⟩
   rw [if_pos rfl]; omega
  | false =>
   refine ⟨fun h => ?_, fun h => ?_⟩
   ·have h' : yad x.1 k = true := h
    rw [hx] at h'; cases h'
   ·simp at h
 | x :: l, k, i + 1, h, hi => by
  rw [yaj] at hi ⊢
  cases hx : yad x.1 k with
  | true =>
   rw [hx] at hi
   have := ylh l k i (by simpa using h) (by simpa using hi)
   simpa using this
  | false =>
   rw [hx] at hi
   simp at hi
def hasN (l : List Item) (k : ByteArray) : Bool := match l[yaj l k]? with
 | some x => x.1.toList == k.toList
 | none => false
def putN (l : List Item) (k v : ByteArray) : List Item := l.take (yaj l k) ++ (k, v) :: l.drop (if hasN l k then yaj l k + 1 else yaj l k)
def delN (l : List Item) (k : ByteArray) : List Item := if hasN l k then l.take (yaj l k) ++ l.drop (yaj l k + 1) else l
theorem yf2 {l : List Item} {k : ByteArray} (h : hasN l k = true) : yaj l k < l.length := by
 unfold hasN at h
 split at h
 ·rename_i x e
  exact (List.getElem?_eq_some_iff.1 e).1
 ·cases h
theorem ycy (a : ByteArray) : yad a a = false := yk4 _
theorem yhc {a b : ByteArray} (h : yad a b = true) : yad b a = false := yk5 _ _ h
theorem ydl {a b c : ByteArray} (h : yad a b = true) (k : yad b c = true) : yad a c = true := yk6 _ _ _ h k
theorem yhd {a b : ByteArray} (h : a.toList = b.toList) : a = b := ByteArray.ext (Array.ext' (by rw [← Lib.toList_data, ← Lib.toList_data]; exact h))
theorem yi2 {a b : ByteArray} (h : a ≠ b) : yad a b = true ∨ yad b a = true := yit _ _ (fun e => h (yhd e))
def yah (l : List Item) : Prop := l.Pairwise fun x y => yad x.1 y.1 = true
theorem yah.nil : yah [] := List.Pairwise.nil
theorem ycg {a b : List Item} : yah (a ++ b) ↔ yah a ∧ yah b ∧ ∀ x ∈ a, ∀ y ∈ b, yad x.1 y.1 = true := List.pairwise_append
theorem ycn {x : Item} {b : List Item} : yah (x :: b) ↔ (∀ y ∈ b, yad x.1 y.1 = true) ∧ yah b := List.pairwise_cons
def ya6 (a : List Item) (k : ByteArray) : Prop := ∀ x ∈ a, yad x.1 k = true
theorem yf3 : ∀ {a : List Item} {k : ByteArray} (_ : ya6 a k) (b : List Item), yaj (a ++ b) k = a.length + yaj b k
 | [], k, _, b => by simp
 | x :: a, k, h, b => by
  rw [List.cons_append, yaj, if_pos (h x (by simp)), yf3 (fun y hy => h y (by simp [hy])) b, List.length_cons]
  omega
theorem yi3 (a : List Item) {x : Item} {k : ByteArray} (h : yad x.1 k = false) (b : List Item) : yaj (a ++ x :: b) k = yaj a k := by
 induction a with
 | nil => simp [yaj, h]
 | cons y a ih => rw [List.cons_append, yaj, yaj, ih]
theorem yhe {a : List Item} {k : ByteArray} (h : ya6 a k) (b : List Item) : hasN (a ++ b) k = hasN b k := by
 unfold hasN
 rw [yf3 h, List.getElem?_append_right (by omega), show a.length + yaj b k - a.length = yaj b k by omega]
theorem yi4 (a : List Item) {x : Item} {k : ByteArray} (h : yad k x.1 = true) (b : List Item) : hasN (a ++ x :: b) k = hasN a k := by
 unfold hasN
 rw [yi3 a (yhc h)]
 by_cases hp : yaj a k < a.length
 ·rw [List.getElem?_append_left hp]
 ·have e : yaj a k = a.length := by have := ydw a k; omega
  rw [e, List.getElem?_append_right (Nat.le_refl _), Nat.sub_self, List.getElem?_eq_none (l := a) (Nat.le_refl _)]
  simp only [List.getElem?_cons_zero]
  rw [beq_eq_false_iff_ne]
  intro e2
  rw [yhd e2, ycy] at h
  cases h
theorem yi5 {a : List Item} {x : Item} (h : ya6 a x.1) (b : List Item) : hasN (a ++ x :: b) x.1 = true := by
 rw [yhe h]
 unfold hasN
 rw [yaj, ycy]
 simp
theorem yhf {a : List Item} {k v : ByteArray} (h : ya6 a k) (b : List Item) : putN (a ++ b) k v = a ++ putN b k v := by
 unfold putN
 rw [yhe h, yf3 h, List.take_length_add_append, List.append_assoc]
 congr 3
 split
 ·rw [show a.length + yaj b k + 1 = a.length + (yaj b k + 1) by omega, List.drop_length_add_append]
 ·rw [List.drop_length_add_append]
theorem yqc (a : List Item) {x : Item} {k v : ByteArray} (h : yad k x.1 = true) (b : List Item) : putN (a ++ x :: b) k v = putN a k v ++ x :: b := by
 have hp := ydw a k
 unfold putN
 rw [yi4 a h, yi3 a (yhc h), List.take_append_of_le_length hp, List.append_assoc, List.cons_append]
 congr 2
 split
 ·rename_i hh
  have := yf2 hh
  rw [List.drop_append_of_le_length (by omega)]
 ·rw [List.drop_append_of_le_length hp]
theorem yhg {a : List Item} {x : Item} {v : ByteArray} (h : ya6 a x.1) (b : List Item) : putN (a ++ x :: b) x.1 v = a ++ (x.1, v) :: b := by
 rw [yhf h]
 congr 1
 have e := yi5 (a := []) (x := x) (fun y hy => by cases hy) b
 rw [List.nil_append] at e
 unfold putN
 rw [e, if_pos rfl, yaj, ycy]
 simp
theorem yi6 {a : List Item} {k : ByteArray} (h : ya6 a k) (b : List Item) : delN (a ++ b) k = a ++ delN b k := by
 unfold delN
 rw [yhe h, yf3 h, List.take_length_add_append]
 split
 ·rw [show a.length + yaj b k + 1 = a.length + (yaj b k + 1) by omega, List.drop_length_add_append, List.append_assoc]
 ·rfl
theorem yqd (a : List Item) {x : Item} {k : ByteArray} (h : yad k x.1 = true) (b : List Item) : delN (a ++ x :: b) k = delN a k ++ x :: b := by
 have hp := ydw a k
 unfold delN
 rw [yi4 a h, yi3 a (yhc h), List.take_append_of_le_length hp]
 split
 ·rename_i hh
  have := yf2 hh
  rw [List.drop_append_of_le_length (by omega), List.append_assoc]
 ·rfl
theorem yf4 {a : List Item} {x : Item} (h : ya6 a x.1) (b : List Item) : delN (a ++ x :: b) x.1 = a ++ b := by
 rw [yi6 h]
 congr 1
 have e := yi5 (a := []) (x := x) (fun y hy => by cases hy) b
 rw [List.nil_append] at e
 unfold delN
 rw [e, if_pos rfl, yaj, ycy]
 simp
theorem yf5 (l : List Item) (k v : ByteArray) : (putN l k v).length = if hasN l k then l.length else l.length + 1 := by
 have hp := ydw l k
 unfold putN
 rw [List.length_append, List.length_cons, List.length_take, List.length_drop, Nat.min_eq_left hp]
 split
 ·rename_i hh
  have := yf2 hh
  omega
 ·omega
theorem yli (l : List Item) (k : ByteArray) : (delN l k).length = if hasN l k then l.length - 1 else l.length := by
 have hp := ydw l k
 unfold delN
 split
 ·rename_i hh
  have := yf2 hh
  rw [List.length_append, List.length_take, List.length_drop, Nat.min_eq_left hp]
  omega
 ·rfl
theorem ylj : ∀ {l : List Item} (_ : yah l) (k : ByteArray), ∃ a b, l = a ++ b ∧ ya6 a k ∧ ∀ y ∈ b, yad y.1 k = false
 | [], _, k => ⟨[], [], rfl, (fun x hx => by cases hx), (fun x hx => by cases hx)⟩
 | x :: l, h, k => by
  obtain ⟨h1, h2⟩ := ycn.1 h
  cases e : yad x.1 k with
  | true =>
   obtain ⟨a, b, rfl, ha, hb⟩ := ylj h2 k
   exact ⟨x :: a, b, rfl, (fun y hy => by rcases List.mem_cons.1 hy with rfl | hy; exact e; exact ha y hy), hb⟩
  | false =>
   refine ⟨[], x :: l, rfl, (fun y hy => by cases hy), (fun y hy => ?_)⟩
   rcases List.mem_cons.1 hy with rfl | hy
   ·exact e
   ·cases e2 : yad y.1 k with
    | false => rfl
    | true => rw [ydl (h1 y hy) e2] at e; cases e
theorem yhh {l : List Item} (h : yah l) (k : ByteArray) : (∃ a v b, l = a ++ (k, v) :: b ∧ ya6 a k ∧ (∀ y ∈ b, yad k y.1 = true)) ∨ (∃ a b, l = a ++ b ∧ ya6 a k ∧ (∀ y ∈ b, yad k y.1 = true)) := by
 obtain ⟨a, b, rfl, ha, hb⟩ := ylj h k
 cases b with
 | nil => exact .inr ⟨a, [], rfl, ha, (fun y hy => by cases hy)⟩
 | cons x b =>
  obtain ⟨_, h2, _⟩ := ycg.1 h
  have h3 := (ycn.1 h2).1
  by_cases e : x.1 = k
  ·left
   refine ⟨a, x.2, b, by rw [← e], ha, fun y hy => by rw [← e]; exact h3 y hy⟩
  ·right
   have z : yad k x.1 = true := by
    rcases yi2 e with z | z
    ·rw [hb x (by simp)] at z; cases z
    ·exact z
   refine ⟨a, x :: b, rfl, ha, fun y hy => ?_⟩
   rcases List.mem_cons.1 hy with rfl | hy
   ·exact z
   ·exact ydl z (h3 y hy)
theorem yf6 {b : List Item} {k : ByteArray} (h : ∀ y ∈ b, yad k y.1 = true) : hasN b k = false ∧ (∀ v, putN b k v = (k, v) :: b) ∧ delN b k = b := by
 cases b with
 | nil => exact ⟨rfl, fun _ => rfl, rfl⟩
 | cons x b =>
  have z := h x (by simp)
  have e1 := yi4 [] z b
  have e2 := fun v => yqc [] (v := v) z b
  have e3 := yqd [] z b
  exact ⟨e1, e2, e3⟩
theorem yah.put {l : List Item} (h : yah l) (k v : ByteArray) : yah (putN l k v) := by
 rcases yhh h k with ⟨a, u, b, rfl, ha, hb⟩ | ⟨a, b, rfl, ha, hb⟩
 ·obtain ⟨h1, h2, h3⟩ := ycg.1 h
  rw [show putN (a ++ (k, u) :: b) k v = a ++ (k, v) :: b from yhg (x := (k, u)) ha b]
  refine ycg.2 ⟨h1, ycn.2 ⟨hb, (ycn.1 h2).2⟩, fun x hx y hy => ?_⟩
  rcases List.mem_cons.1 hy with rfl | hy
  ·exact ha x hx
  ·exact h3 x hx y (by simp [hy])
 ·obtain ⟨h1, h2, h3⟩ := ycg.1 h
  rw [yhf ha, (yf6 hb).2.1]
  refine ycg.2 ⟨h1, ycn.2 ⟨hb, h2⟩, fun x hx y hy => ?_⟩
  rcases List.mem_cons.1 hy with rfl | hy
  ·exact ha x hx
  ·exact h3 x hx y hy
theorem yah.del {l : List Item} (h : yah l) (k : ByteArray) : yah (delN l k) := by
 rcases yhh h k with ⟨a, u, b, rfl, ha, hb⟩ | ⟨a, b, rfl, ha, hb⟩
 ·obtain ⟨h1, h2, h3⟩ := ycg.1 h
  rw [show delN (a ++ (k, u) :: b) k = a ++ b from yf4 (x := (k, u)) ha b]
  exact ycg.2 ⟨h1, (ycn.1 h2).2, fun x hx y hy => h3 x hx y (by simp [hy])⟩
 ·rw [yi6 ha, (yf6 hb).2.2]
  exact h
theorem yqe {l : List Item} (h : yah l) (k v : ByteArray) (x : Item) : x ∈ putN l k v ↔ x = (k, v) ∨ (x ∈ l ∧ x.1 ≠ k) := by
 have nu : ∀ {a : List Item}, ya6 a k → ∀ {x}, x ∈ a → x.1 ≠ k := fun ha x hx e => by
  have := ha x hx; rw [e, ycy] at this; cases this
 have no : ∀ {b : List Item}, (∀ y ∈ b, yad k y.1 = true) → ∀ {x}, x ∈ b → x.1 ≠ k := fun hb x hx e => by
  have := hb x hx; rw [e, ycy] at this; cases this
 rcases yhh h k with ⟨a, u, b, rfl, ha, hb⟩ | ⟨a, b, rfl, ha, hb⟩
 ·rw [show putN (a ++ (k, u) :: b) k v = a ++ (k, v) :: b from yhg (x := (k, u)) ha b]
  simp only [List.mem_append, List.mem_cons]
  constructor
  ·rintro (z | z | z)
   ·exact .inr ⟨.inl z, nu ha z⟩
   ·exact .inl z
   ·exact .inr ⟨.inr (.inr z), no hb z⟩
  ·rintro (z | ⟨z | z | z, hn⟩)
   ·exact .inr (.inl z)
   ·exact .inl z
   ·exact absurd (by rw [z]) hn
   ·exact .inr (.inr z)
 ·rw [yhf ha, (yf6 hb).2.1]
  simp only [List.mem_append, List.mem_cons]
  constructor
  ·rintro (z | z | z)
   ·exact .inr ⟨.inl z, nu ha z⟩
   ·exact .inl z
   ·exact .inr ⟨.inr z, no hb z⟩
  ·rintro (z | ⟨z | z, _⟩)
   ·exact .inr (.inl z)
   ·exact .inl z
   ·exact .inr (.inr z)
theorem ylk : ∀ {a b : List Item} (_ : yah a) (_ : yah b) (_ : ∀ x, x ∈ a ↔ x ∈ b), a = b
 | [], [], _, _, _ => rfl
 | [], y :: b, _, _, h => by have := (h y).2 (by simp); cases this
 | x :: a, [], _, _, h => by have := (h x).1 (by simp); cases this
 | x :: a, y :: b, ha, hb, h => by
  obtain ⟨a1, a2⟩ := ycn.1 ha
  obtain ⟨b1, b2⟩ := ycn.1 hb
  have e : x = y := by
   rcases List.mem_cons.1 ((h x).1 (by simp)) with z | z
   ·exact z
   ·rcases List.mem_cons.1 ((h y).2 (by simp)) with w | w
    ·exact w.symm
    ·have := yhc (b1 x z)
     rw [a1 y w] at this
     cases this
  subst e
  rw [ylk a2 b2 (fun z => ?_)]
  have hz := h z
  simp only [List.mem_cons] at hz
  constructor
  ·intro q
   rcases hz.1 (.inr q) with rfl | r
   ·have := a1 z q; rw [ycy] at this; cases this
   ·exact r
  ·intro q
   rcases hz.2 (.inr q) with rfl | r
   ·have := b1 z q; rw [ycy] at this; cases this
   ·exact r
def adr (x : Item) : Nat := yac x.1
theorem yf7 (x : Item) : adr x < 18446744073709551616 := yfg _
theorem yll (x : Item) : adr x = valN 8 x.1.toList := by rw [adr, yac, yg4, Lib.toList_data]
def yae (l : List Item) (f t : ByteArray) : List Item := l.filter fun x => !yad x.1 f && (t.size == 0 || yad x.1 t)
def inA (f t : Nat) (late : Bool) (x : Item) : Bool := inB f t (adr x) && (decide (f ≤ adr x) != late)
def arcL (l : List Item) (f t : Nat) : List Item := l.filter (inA f t false) ++ l.filter (inA f t true)
def dst (f : Nat) (x : Item) : Nat := yag (adr x) f
theorem yqf {l : List Item} {p : Item → Bool} (h : ∀ x ∈ l, p x = false) : l.filter p = [] := List.filter_eq_nil_iff.2 fun x hx => by rw [h x hx]; simp
def getI (l : List Item) (k : ByteArray) : ByteArray := match l[yaj l k]? with
 | some x => if x.1.toList == k.toList then x.2 else ByteArray.empty
 | none => ByteArray.empty
def yi7 (l : List Item) (f t : Nat) : List Item := l.filter fun x => !inB f t (adr x)
end Go.Proofs.YtnjodhglbapnlaaGreat
